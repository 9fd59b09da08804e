/-
  What Do and Mark of package crowd do, whatever comes in, each as one law of its call.
  What Mark of package crowd does, as one law of its call.
  What the document's own Win does, as one law of its call.
-/
import Derived.Test.YtlefhfmckimlaaiGreatDoorCrdDo
import Derived.OwnWalk
import Derived.Test.YtlefhfmckimlaaiGreatDoorJ46A
import Derived.BigQuiet
import Derived.Deep.QuietTactic
set_option linter.unusedVariables false
namespace Go.Proofs.YtlefhfmckimlaaiGreatDoor
open Go.RowKit
attribute [local go_sem ↓] Go.wp_at_zero Go.wp_at_succ

section
variable {base : Nat} {w : World} {F : Nat → Prop} {K n : Nat} {c : M.Cop} {R : List M.Rul} {a : Option Addr} {m cp : Nat} {la : Option Addr} {lm lc : Nat} {lie : List ByteArray}
/-- a block of another type is none of a crowd's -/
theorem CwIs.other (h : CwIs base w F K n c R) {b : Nat} {cs : Array Value} {T : TypeId} {fr : Nat × Nat} (hb : w.heap[b]? = some (.cells cs T fr)) (h1 : T ≠ 73) (h2 : T ≠ 111) (h3 : T ≠ 35) (h4 : T ≠ 65) (h5 : T ≠ 103) (h6 : T ≠ 25) : ¬ F b := by
  obtain ⟨v, Cs, Fs, rfl, rfl, hc⟩ := h.is
  intro hF
  rcases hF with rfl | hF | ⟨i, hi, hF⟩
  · rw [hc.heap] at hb; exact h5 (tag_eq hb).symm
  · obtain ⟨_, cc, fr', hh⟩ := ownsRow_tag hc.row hF
    rw [hh] at hb; exact h6 (tag_eq hb).symm
  · exact (hc.cps i hi).other hb h1 h2 h3 h4 hF
theorem CwIs.base_le (h : CwIs base w F K n c R) : base ≤ w.heap.size := by
  obtain ⟨v, Cs, Fs, _, _, hc⟩ := h.is
  exact hc.base_le

/-- Do, whatever comes in: the tuple and the lies stay while the crowd's blocks are written -/
theorem crDo (x : M.Ask) (h : CwIs base w F K n c R) (hv : ∀ wx, Tch F w wx → IsVals wx (.slice a m cp) x.t) (hl : ∀ wx, Tch F w wx → AtS wx la lie) (hll : lm = lie.length) (hlm : lm ≤ maxLen) (hn : c.n < 1000) (ht : TabFrom base w) :
    Calls Tryz.prog 18 #[.pointer (some ⟨K, 0, none⟩), aggA x.who x.seq x.deed a m cp, .slice la lm lc] w fun e w' => e = .returned (.tuple #[.string (M.crR R c n lie x).2.1, errV (M.crR R c n lie x).1]) ∧ ∃ F', CwIs base w' F' K n (M.crR R c n lie x).2.2 R ∧ Tch F w w' ∧ Grows w F F' := by
  obtain ⟨who, seq, deed, t⟩ := x
  simp only at hv ⊢
  by_cases h1 : n < lie.length
  · rw [M.crR_more h1]
    refine (crDo_more h (by omega) hlm).mono ?_
    rintro e w' ⟨rfl, hb⟩
    exact ⟨rfl, F, h.quiet hb, Tch.of_below hb, Grows.refl _ _⟩
  · by_cases h2 : (M.doR R c ⟨who, seq, deed, t⟩).1 = 0
    · rw [M.crR_ok h1 h2]
      exact crDo_ok h hv hl hll (by omega) hn ht h2
    · rw [M.crR_bad h1 h2]
      exact crDo_bad h hv (by omega) hn ht h2
end

end Go.Proofs.YtlefhfmckimlaaiGreatDoor

set_option linter.unusedVariables false
namespace Go.Proofs.YtlefhfmckimlaaiGreatDoor
open Go.RowKit
attribute [local go_sem ↓] Go.wp_at_zero Go.wp_at_succ

section
variable {base : Nat} {w : World} {F : Nat → Prop} {K n : Nat} {c : M.Cop} {R : List M.Rul}
theorem crMark_no (h : CwIs base w F K n c R) (i : Int) (hi : i < 0 ∨ (n : Int) ≤ i) :
    Calls Tryz.prog 19 #[.pointer (some ⟨K, 0, none⟩), .int .i64 i] w fun e w' => e = .returned (.tuple #[.int .i64 0, .int .i64 0, .iface 74 (.int .i64 1)]) ∧ Below w.heap.size w w' := by
  obtain ⟨v, Cs, Fs, hlen, _, hc⟩ := h.is
  obtain ⟨ao, cap, rfl⟩ := hc.shape
  obtain ⟨c0, _, cn, _⟩ := hc.cells
  rw [hlen] at c0
  have := h.seven
  clear hc h hlen
  by_cases h0 : i < 0
  · clear hi
    go_enter Tryz.func19, Tryz.ntmps19
    go_wp2_with fail
    go_ret3
    exact ⟨rfl, Below.refl _ _⟩
  · have h1 : (n : Int) ≤ i := by omega
    clear hi
    go_enter Tryz.func19, Tryz.ntmps19
    go_wp2_with fail
    go_ret3
    exact ⟨rfl, Below.refl _ _⟩
theorem crMark_ok (h : CwIs base w F K n c R) (i : Nat) (hi : i < n) (ht : TabFrom base w) :
    Calls Tryz.prog 19 #[.pointer (some ⟨K, 0, none⟩), .int .i64 i] w fun e w' => e = .returned (.tuple #[.int .i64 c.n, .int .i64 (M.mark c.l), .nilIface]) ∧ Below w.heap.size w w' := by
  obtain ⟨v, Cs, Fs, hlen, _, hc⟩ := h.is
  obtain ⟨ao, cap, rfl⟩ := hc.shape
  rw [hlen] at hc
  have hiC : i < Cs.length := by omega
  obtain ⟨g, rfl, _⟩ := hc.ptr hlen (by omega)
  obtain ⟨C, hC⟩ : ∃ C, Cs[i]? = some C := ⟨Cs[i], List.getElem?_eq_getElem hiC⟩
  have hp := ptr_at hc hlen hC
  have hg := World.block_lt_of_cell? w _ hp
  obtain ⟨c0, _, cn, _⟩ := hc.cells
  have HM := hide (mMark (hc.cp hC) ht)
  have i1 : ¬ (i : Int) < 0 := by omega
  have i2 : ¬ (n : Int) ≤ (i : Int) := by omega
  have i3 : (i : Int) < (n : Int) := by omega
  have i4 : (0 : Int) ≤ (i : Int) := by omega
  have := h.seven
  generalize M.mark c.l = Z at *
  generalize (c.n : Int) = N at *
  clear hc h hlen hC hiC ht
  go_enter Tryz.func19, Tryz.ntmps19
  go_wp2_with fail
  refine (unhide HM).mono ?_
  rintro e w1 ⟨rfl, hb1⟩
  have HB1 := hide hb1
  clear hb1
  go_wp2_with fail
  go_ret3
  exact ⟨rfl, HB1.out⟩
end

end Go.Proofs.YtlefhfmckimlaaiGreatDoor

set_option linter.unusedVariables false
namespace Go.Proofs.YtlefhfmckimlaaiGreatDoor
open Go.RowKit

theorem text_eq {x s : ByteArray} : (x.toList == s.toList) = true ↔ x = s := by
  rw [ByteArray.toList_eq, ByteArray.toList_eq]
  constructor
  · intro h; exact WideShapes.bytes_inj (by simpa using h)
  · intro h; subst h; simp
theorem cntV_more {l : List ByteArray} {k : Nat} {s x : ByteArray} (hk : k < l.length) (hx : l[k] = x) {b : Bool} (hb : (x.toList == s.toList) = b) : M.cntV (l.take (k + 1)) s = M.cntV (l.take k) s + if b = true then 1 else 0 := by
  rw [M.cntV_take hk, hx]
  by_cases e : x = s
  · rw [if_pos e, if_pos (hb.symm.trans (text_eq.2 e))]
  · rw [if_neg e, if_neg (fun h => e (text_eq.1 (hb.trans h)))]

set_option maxRecDepth 100000 in
set_option maxHeartbeats 2000000 in
theorem refWin (av : Option Addr) (n cap : Nat) (l : List ByteArray) (need : Int) (w : World) (hn : n = l.length) (h7 : n ≤ 7) (hl : AtS w av l) :
    Calls Tryz.prog 17 #[.slice av n cap, .int .i64 need] w fun e w' => ((∃ h : M.winI l need < l.length, e = .returned (.tuple #[.string l[M.winI l need], .bool true])) ∨ (¬ M.winI l need < l.length ∧ e = .returned (.tuple #[.string ⟨#[]⟩, .bool false]))) ∧ Below w.heap.size w w' := by
  have HL := hide hl
  have HN := hide hn
  clear hl hn
  go_enter Tryz.func17, Tryz.ntmps17
  go_wp2
  go_loopw [6] (fun si wr => ∃ i : Nat, i ≤ n ∧ si = .int .i64 i ∧ Hid (∀ j, j < i → M.hitB l need j = false) ∧ Hid (Below w.heap.size w wr)) (fun si _ => n - (intOf si).toNat)
  case atStart => exact ⟨0, Nat.zero_le _, rfl, hide (fun j hj => by omega), hide (Below.refl _ _)⟩
  case round =>
    obtain ⟨i, hi, rfl, hno, hbel⟩ := hrel
    by_cases hlt : i < n
    · have hil : i < l.length := HN.out ▸ hlt
      have ii0 : (0 : Int) ≤ (i : Int) := by omega
      have iin : (i : Int) < (n : Int) := by omega
      obtain ⟨b, off, rfl, hlie⟩ := HL.out (by omega)
      have HLI := hide hlie
      have HH := hide (M.hitB_at (need := need) hil)
      have HW : Hid (M.hitB l need i = true → M.winI l need = i) := hide fun h => M.winI_hit hil hno.out h
      obtain ⟨s, hs⟩ : ∃ s, s = l[i] := ⟨_, rfl⟩
      have HSI := hide hs
      rw [← hs] at HH
      clear hlie hs
      go_wp2_with fail
      go_loopw [7, 8] (fun sc sk wx => ∃ k : Nat, k ≤ i + 1 ∧ sc = .int .i64 (M.cntV (l.take k) s) ∧ sk = .int .i64 k ∧ Hid (Below w.heap.size w wx)) (fun _ sk _ => i + 1 - (intOf sk).toNat)
      case atStart => exact ⟨0, Nat.zero_le _, rfl, rfl, hbel⟩
      case round =>
        clear hbel
        obtain ⟨k, hk, rfl, rfl, hbel⟩ := hrel
        by_cases hki : k < i + 1
        · have hkl : k < l.length := by omega
          have ik0 : (0 : Int) ≤ (k : Int) := by omega
          have ikn : (k : Int) < (n : Int) := by omega
          have iki : (k : Int) ≤ (i : Int) := by omega
          obtain ⟨c1, _⟩ := (HLI.out.stays hbel.out (Nat.le_refl _)) k hkl
          obtain ⟨c2, _⟩ := (HLI.out.stays hbel.out (Nat.le_refl _)) i hil
          rw [← HSI.out] at c2
          have HQ : Hid (M.cntV (l.take k) s ≤ 7) := hide (Nat.le_trans (M.cntV_le _ _) (by rw [List.length_take]; omega))
          have hq := HQ.out
          have HX : Hid (∀ b, (l[k].toList == s.toList) = b → M.cntV (l.take (k + 1)) s = M.cntV (l.take k) s + if b = true then 1 else 0) := hide fun b hb => cntV_more hkl rfl hb
          generalize l[k] = x at *
          generalize M.cntV (l.take k) s = q at *
          cases hb : (x.toList == s.toList)
          · have HE : Hid (M.cntV (l.take (k + 1)) s = q) := hide (by rw [HX.out _ hb]; rfl)
            clear HX HQ
            go_wp2_with fail
            go_quiet (fail)
            go_wp2
            go_roundw
            case rel => exact ⟨k + 1, by omega, by rw [HE.out], by go_num, hide (Go.below_drewN hbel.out _)⟩
            case measure => simp [intOf]; omega
          · have HE : Hid (M.cntV (l.take (k + 1)) s = q + 1) := hide (by rw [HX.out _ hb]; rfl)
            clear HX HQ
            go_wp2_with fail
            go_quiet (fail)
            go_wp2
            go_roundw
            case rel => exact ⟨k + 1, by omega, by rw [HE.out]; simp, by go_num, hide (Go.below_drewN hbel.out _)⟩
            case measure => simp [intOf]; omega
        · have hkk : k = i + 1 := by omega
          subst hkk
          have iki : ¬ ((i : Int) + 1 ≤ (i : Int)) := by omega
          obtain ⟨c2, _⟩ := (HLI.out.stays hbel.out (Nat.le_refl _)) i hil
          rw [← HSI.out] at c2
          have HWB : Hid (M.winI l need = i → ∃ h : M.winI l need < l.length, l[M.winI l need] = s) := hide fun h => ⟨by omega, by rw [HSI.out]; simp only [h]⟩
          generalize M.cntV (l.take (i + 1)) s = q at *
          cases hb : ((q : Int) == need)
          · have HNX : Hid (∀ j, j < i + 1 → M.hitB l need j = false) := hide fun j hj => by
              rcases Nat.lt_succ_iff_lt_or_eq.1 hj with h | h
              · exact hno.out j h
              · subst h; rw [HH.out]; simpa using hb
            clear HH HW HWB
            go_wp2_with fail
            go_roundw
            case rel => exact ⟨i + 1, by omega, by go_num, HNX, hbel⟩
            case measure => simp [intOf]; omega
          · have E := hide (HWB.out (HW.out (by rw [HH.out]; simpa using hb)))
            clear HH HW HWB
            go_wp2_with fail
            go_ret2
            obtain ⟨e1, e2⟩ := E.out
            exact ⟨Or.inl ⟨e1, by rw [e2]; rfl⟩, hbel.out⟩
    · have hw : M.winI l need = l.length := M.winI_none (fun j hj => hno.out j (by have := HN.out; omega))
      have HW : Hid (¬ M.winI l need < l.length) := hide (by omega)
      clear hw
      go_wp2
      go_ret2
      exact ⟨Or.inr ⟨HW.out, rfl⟩, hbel.out⟩

end Go.Proofs.YtlefhfmckimlaaiGreatDoor
