/-
  What the document's own Win does, as one law of its call.
-/
import Derived.Test.YtlefhfmckimlaahDoorVoteWalks
import Derived.BigQuiet
import Derived.Deep.QuietTactic
set_option linter.unusedVariables false
namespace Go.Proofs.YtlefhfmckimlaahDoor
open Go.RowKit

theorem text_eq {x s : ByteArray} : (x.toList == s.toList) = true ↔ x = s := by
  rw [ByteArray.toList_eq, ByteArray.toList_eq]
  constructor
  · intro h; exact WideShapes.bytes_inj (by simpa using h)
  · intro h; subst h; simp
theorem cntV_more {l : List ByteArray} {k : Nat} {s x : ByteArray} (hk : k < l.length) (hx : l[k] = x) {b : Bool} (hb : (x.toList == s.toList) = b) : M.cntV (l.take (k + 1)) s = M.cntV (l.take k) s + if b = true then 1 else 0 := by
  rw [M.cntV_take hk, hx]
  by_cases e : x = s
  · rw [if_pos e, if_pos (hb.symm.trans (text_eq.2 e))]
  · rw [if_neg e, if_neg (fun h => e (text_eq.1 (hb.trans h)))]

set_option maxRecDepth 100000 in
set_option maxHeartbeats 2000000 in
theorem refWin (av : Option Addr) (n cap : Nat) (l : List ByteArray) (need : Int) (w : World) (hn : n = l.length) (h7 : n ≤ 7) (hl : AtS w av l) :
    Calls Tryd.prog 9 #[.slice av n cap, .int .i64 need] w fun e w' => ((∃ h : M.winI l need < l.length, e = .returned (.tuple #[.string l[M.winI l need], .bool true])) ∨ (¬ M.winI l need < l.length ∧ e = .returned (.tuple #[.string ⟨#[]⟩, .bool false]))) ∧ Below w.heap.size w w' := by
  have HL := hide hl
  have HN := hide hn
  clear hl hn
  go_enter Tryd.func9, Tryd.ntmps9
  go_wp2
  go_loopw [6] (fun si wr => ∃ i : Nat, i ≤ n ∧ si = .int .i64 i ∧ Hid (∀ j, j < i → M.hitB l need j = false) ∧ Hid (Below w.heap.size w wr)) (fun si _ => n - (intOf si).toNat)
  case atStart => exact ⟨0, Nat.zero_le _, rfl, hide (fun j hj => by omega), hide (Below.refl _ _)⟩
  case round =>
    obtain ⟨i, hi, rfl, hno, hbel⟩ := hrel
    by_cases hlt : i < n
    · have hil : i < l.length := HN.out ▸ hlt
      have ii0 : (0 : Int) ≤ (i : Int) := by omega
      have iin : (i : Int) < (n : Int) := by omega
      obtain ⟨b, off, rfl, hlie⟩ := HL.out (by omega)
      have HLI := hide hlie
      have HH := hide (M.hitB_at (need := need) hil)
      have HW : Hid (M.hitB l need i = true → M.winI l need = i) := hide fun h => M.winI_hit hil hno.out h
      obtain ⟨s, hs⟩ : ∃ s, s = l[i] := ⟨_, rfl⟩
      have HSI := hide hs
      rw [← hs] at HH
      clear hlie hs
      go_wp2_with fail
      go_loopw [7, 8] (fun sc sk wx => ∃ k : Nat, k ≤ i + 1 ∧ sc = .int .i64 (M.cntV (l.take k) s) ∧ sk = .int .i64 k ∧ Hid (Below w.heap.size w wx)) (fun _ sk _ => i + 1 - (intOf sk).toNat)
      case atStart => exact ⟨0, Nat.zero_le _, rfl, rfl, hbel⟩
      case round =>
        clear hbel
        obtain ⟨k, hk, rfl, rfl, hbel⟩ := hrel
        by_cases hki : k < i + 1
        · have hkl : k < l.length := by omega
          have ik0 : (0 : Int) ≤ (k : Int) := by omega
          have ikn : (k : Int) < (n : Int) := by omega
          have iki : (k : Int) ≤ (i : Int) := by omega
          obtain ⟨c1, _⟩ := (HLI.out.stays hbel.out (Nat.le_refl _)) k hkl
          obtain ⟨c2, _⟩ := (HLI.out.stays hbel.out (Nat.le_refl _)) i hil
          rw [← HSI.out] at c2
          have HQ : Hid (M.cntV (l.take k) s ≤ 7) := hide (Nat.le_trans (M.cntV_le _ _) (by rw [List.length_take]; omega))
          have hq := HQ.out
          have HX : Hid (∀ b, (l[k].toList == s.toList) = b → M.cntV (l.take (k + 1)) s = M.cntV (l.take k) s + if b = true then 1 else 0) := hide fun b hb => cntV_more hkl rfl hb
          generalize l[k] = x at *
          generalize M.cntV (l.take k) s = q at *
          cases hb : (x.toList == s.toList)
          · have HE : Hid (M.cntV (l.take (k + 1)) s = q) := hide (by rw [HX.out _ hb]; rfl)
            clear HX HQ
            go_wp2_with fail
            go_quiet (fail)
            go_wp2
            go_roundw
            case rel => exact ⟨k + 1, by omega, by rw [HE.out], by go_num, hide (Go.below_drewN hbel.out _)⟩
            case measure => simp [intOf]; omega
          · have HE : Hid (M.cntV (l.take (k + 1)) s = q + 1) := hide (by rw [HX.out _ hb]; rfl)
            clear HX HQ
            go_wp2_with fail
            go_quiet (fail)
            go_wp2
            go_roundw
            case rel => exact ⟨k + 1, by omega, by rw [HE.out]; simp, by go_num, hide (Go.below_drewN hbel.out _)⟩
            case measure => simp [intOf]; omega
        · have hkk : k = i + 1 := by omega
          subst hkk
          have iki : ¬ ((i : Int) + 1 ≤ (i : Int)) := by omega
          obtain ⟨c2, _⟩ := (HLI.out.stays hbel.out (Nat.le_refl _)) i hil
          rw [← HSI.out] at c2
          have HWB : Hid (M.winI l need = i → ∃ h : M.winI l need < l.length, l[M.winI l need] = s) := hide fun h => ⟨by omega, by rw [HSI.out]; simp only [h]⟩
          generalize M.cntV (l.take (i + 1)) s = q at *
          cases hb : ((q : Int) == need)
          · have HNX : Hid (∀ j, j < i + 1 → M.hitB l need j = false) := hide fun j hj => by
              rcases Nat.lt_succ_iff_lt_or_eq.1 hj with h | h
              · exact hno.out j h
              · subst h; rw [HH.out]; simpa using hb
            clear HH HW HWB
            go_wp2_with fail
            go_roundw
            case rel => exact ⟨i + 1, by omega, by go_num, HNX, hbel⟩
            case measure => simp [intOf]; omega
          · have E := hide (HWB.out (HW.out (by rw [HH.out]; simpa using hb)))
            clear HH HW HWB
            go_wp2_with fail
            go_ret2
            obtain ⟨e1, e2⟩ := E.out
            exact ⟨Or.inl ⟨e1, by rw [e2]; rfl⟩, hbel.out⟩
    · have hw : M.winI l need = l.length := M.winI_none (fun j hj => hno.out j (by have := HN.out; omega))
      have HW : Hid (¬ M.winI l need < l.length) := hide (by omega)
      clear hw
      go_wp2
      go_ret2
      exact ⟨Or.inr ⟨HW.out, rfl⟩, hbel.out⟩

end Go.Proofs.YtlefhfmckimlaahDoor
