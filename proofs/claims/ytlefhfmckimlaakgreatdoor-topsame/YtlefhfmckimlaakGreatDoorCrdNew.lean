/-
  What New and Need of package crowd do, each as one law of its call.
-/
import Derived.Test.YtlefhfmckimlaakGreatDoorCrdOwn
import Derived.Test.YtlefhfmckimlaakGreatDoorJVote
import Derived.Deep.AppendLies
set_option linter.unusedVariables false
namespace Go.Proofs.YtlefhfmckimlaakGreatDoor
open Go.RowKit
attribute [local go_sem ↓] Go.wp_at_zero Go.wp_at_succ

theorem infoPt : (Tryz.prog.info? 60).map (fun i => (i.zero, i.size, i.bytes)) = some (some (.pointer none), 1, 8) := by kernel_rfl

theorem crNew_range (n : Int) (av : Option Addr) (rn rc : Nat) (w : World) (h : n < 1 ∨ 7 < n) :
    Calls Tryz.prog 25 #[.int .i64 n, .slice av rn rc] w fun e w' => e = .returned (.tuple #[.pointer none, errV 1]) ∧ Below w.heap.size w w' := by
  have HF : Hid (Calls Tryz.prog 56 #[.int .i64 n] w fun e w' => e = .returned (.tuple #[.int .i64 0, .iface 87 (.int .i64 1)]) ∧ w' = w) := hide (by have := vFaults n w; rwa [M.fltR_bad h, M.fltE_bad h] at this)
  clear h
  go_enter Tryz.func25, Tryz.ntmps25
  go_wp2_with fail
  refine (unhide HF).mono ?_
  rintro e w1 ⟨rfl, hw1⟩
  obtain rfl := hw1.symm
  go_wp2_with fail
  go_ret2
  exact ⟨rfl, Below.refl _ _⟩

theorem faults_ok {n : Nat} (h1 : 1 ≤ n) (h7 : n ≤ 7) (w : World) : Calls Tryz.prog 56 #[.int .i64 n] w fun e w' => e = .returned (.tuple #[.int .i64 (M.need n - 1), .nilIface]) ∧ w' = w := by
  have := vFaults n w
  rw [M.fltE_ok (by omega), show M.fltR n = M.need n - 1 by rw [← M.need_flt h1 h7]; omega] at this
  exact this

theorem crNew_bad (n : Nat) (av : Option Addr) (rn rc : Nat) (R : List M.Rul) (w : World) (h1 : 1 ≤ n) (h7 : n ≤ 7) (hn : rn = R.length) (hm : rn ≤ maxLen) (hl : AtR w av R) (hE : M.rulE R ≠ 0) :
    Calls Tryz.prog 25 #[.int .i64 n, .slice av rn rc] w fun e w' => e = .returned (.tuple #[.pointer none, errV (M.rulE R)]) ∧ Below w.heap.size w w' := by
  have HF := hide (faults_ok h1 h7 w)
  have HN : Hid (∀ wx, Below w.heap.size w wx → Calls Tryz.prog 24 #[.slice av rn rc] wx fun e w' => e = .returned (.tuple #[.pointer none, .iface 87 (.int .i64 (M.rulE R))]) ∧ Below wx.heap.size wx w') := hide fun wx hb => by
    have := mNew_bad av rn rc R wx hn hm (hl.stays hb (Nat.le_refl _)) hE
    rwa [errV_bad hE] at this
  rw [errV_bad hE]
  have hr := M.need_range h1 h7
  have i0 : (0 : Int) < (n : Int) := by omega
  generalize M.rulE R = X at *
  generalize M.need n = nd at *
  clear hn hm hl hE
  go_enter Tryz.func25, Tryz.ntmps25
  go_wp2_with fail
  refine (unhide HF).mono ?_
  rintro e w1 ⟨rfl, hw1⟩
  obtain rfl := hw1.symm
  have HB1 : Hid (∀ o, Below w.heap.size w (w.alloc o)) := hide fun o => (Below.refl _ _).alloc (Nat.le_refl _) o
  go_wp2_with fail
  go_loopw [24] (fun i wr => i = .int .i64 0 ∧ Hid (Below w.heap.size w wr)) (fun _ _ => 0)
  case atStart => exact ⟨rfl, hide (HB1.out _)⟩
  case round =>
    obtain ⟨rfl, hb⟩ := hrel
    go_wp2_with fail
    refine (HN.out _ hb.out).mono ?_
    rintro e w2 ⟨rfl, hb2⟩
    have HB2 := hide (hb.out.trans (hb2.mono hb.out.size))
    clear hb2
    go_wp2_with fail
    go_ret2
    exact ⟨rfl, HB2.out⟩

set_option maxRecDepth 100000 in
set_option maxHeartbeats 1000000 in
theorem crNew_ok (base n : Nat) (av : Option Addr) (rn rc : Nat) (R : List M.Rul) (w : World) (hb : base ≤ w.heap.size) (h1 : 1 ≤ n) (h7 : n ≤ 7) (hn : rn = R.length) (hm : rn ≤ maxLen) (hl : AtR w av R) (hE : M.rulE R = 0) :
    Calls Tryz.prog 25 #[.int .i64 n, .slice av rn rc] w fun e w' => ∃ K F, e = .returned (.tuple #[.pointer (some ⟨K, 0, none⟩), .nilIface]) ∧ CwIs base w' F K n M.Cop.new R ∧ (∀ i, F i → w.heap.size ≤ i) ∧ Below w.heap.size w w' := by
  obtain ⟨i0, hi, hz0, hz1, hz2⟩ := info_parts infoPt
  have HI := hide (And.intro hi (And.intro hz0 (And.intro hz1 hz2)))
  have HF := hide (faults_ok h1 h7 w)
  have HN : Hid (∀ wx, Below w.heap.size w wx → Calls Tryz.prog 24 #[.slice av rn rc] wx fun e w' => ∃ C F, e = .returned (.tuple #[.pointer (some ⟨C, 0, none⟩), .nilIface]) ∧ CpIs base w' F C M.Cop.new R ∧ (∀ i, F i → wx.heap.size ≤ i) ∧ Below wx.heap.size wx w') := hide fun wx hw => mNew_ok base av rn rc R wx (Nat.le_trans hb hw.size) hn hm (hl.stays hw (Nat.le_refl _)) hE
  have hr := M.need_range h1 h7
  have HE := hide hE
  have HBASE := hide hb
  obtain ⟨nd, hnd⟩ : ∃ nd, nd = M.need n := ⟨_, rfl⟩
  rw [← hnd] at HF hr
  have HND := hide hnd
  clear hn hm hl hE hi hz0 hz1 hz2 hb hnd
  go_enter Tryz.func25, Tryz.ntmps25
  go_wp2_with fail
  refine (unhide HF).mono ?_
  rintro e w1 ⟨rfl, hw1⟩
  obtain rfl := hw1.symm
  have HC0 : Hid (Cw base (w.alloc (.cells #[.slice none 0 0, .int .i64 nd] 124)) w.heap.size (.slice none 0 0) nd [] (fun _ _ => False) (fun _ => M.Cop.new) R) := hide ⟨HBASE.out, heap_alloc_new w _, World.ownsRow_nil _ _ _ _, fun i h => absurd h (by simp), fun i j h => absurd h (by simp)⟩
  have HB0 : Hid (Below w.heap.size w (w.alloc (.cells #[.slice none 0 0, .int .i64 nd] 124))) := hide ((Below.refl _ _).alloc (Nat.le_refl _) _)
  have hnd2 : nd - 1 + 1 = nd := by omega
  go_wp2_with fail
  go_loopw [24] (fun i wr => ∃ (k : Nat) (ao : Option Addr) (cp : Nat) (Cs : List Nat) (Fs : Nat → Nat → Prop), k ≤ n ∧ i = .int .i64 k ∧ Hid (Cs.length = k) ∧ Hid (Cw base wr w.heap.size (.slice ao k cp) nd Cs Fs (fun _ => M.Cop.new) R) ∧ Hid (∀ b, cwF w.heap.size (.slice ao k cp) k Fs b → w.heap.size ≤ b) ∧ Hid (Below w.heap.size w wr)) (fun i _ => n - (intOf i).toNat)
  case atStart => exact ⟨0, none, 0, [], fun _ _ => False, Nat.zero_le _, rfl, hide rfl, by first | exact HC0 | (rw [hnd2]; exact HC0), hide (fun b hb => by
    rcases hb with rfl | hb | ⟨i, hi, _⟩
    · exact Nat.le_refl _
    · cases hb
    · omega), by first | exact HB0 | (rw [hnd2]; exact HB0)⟩
  case round =>
    obtain ⟨k, ao, cp, Cs, Fs, hk, rfl, hlen, hC, hlo, hbel⟩ := hrel
    by_cases hlt : k < n
    · have i1 : (k : Int) < (n : Int) := by omega
      go_wp2_with fail
      refine (HN.out _ hbel.out).mono ?_
      rintro e w2 ⟨C, F, rfl, hC2, hF2, hb2⟩
      have HW2 := hide (hC.out.quiet hb2)
      have HOF : Hid (∀ i, i < Cs.length → Off F (Fs i)) := hide fun i hi => Off.new (w := wr) (hC.out.cps i hi).highs hF2
      have HFL : Hid (∀ i, F i → w.heap.size ≤ i) := hide fun i hi => Nat.le_trans hbel.out.size (hF2 i hi)
      have HB2 := hide (hbel.out.trans (hb2.mono hbel.out.size))
      have HBA : Hid (Below w2.heap.size w2 (w2.alloc (.cells #[.pointer (some ⟨C, 0, none⟩)] 60))) := hide ((Below.refl _ _).alloc (Nat.le_refl _) _)
      have HWA := hide (HW2.out.quiet HBA.out)
      have HCA := hide (hC2.quiet HBA.out)
      clear hC2 hF2 hb2
      obtain ⟨c0, c1, cn, cf⟩ := HW2.out.cells
      have HRW : Hid ((w2.alloc (.cells #[.pointer (some ⟨C, 0, none⟩)] 60)).ownsRow base 60 1 (.slice ao k cp) k (ptrs Cs)) := hide (by have := HWA.out.row; rwa [hlen.out] at this)
      have HNW : Hid (∀ j u, [Value.pointer (some ⟨C, 0, none⟩)][j]? = some u → (w2.alloc (.cells #[.pointer (some ⟨C, 0, none⟩)] 60)).cell? ((⟨w2.heap.size, 0, none⟩ : Addr).add j) = some u) := hide (World.news_of_block (heap_alloc_new w2 _))
      have hneK : Hid ((Value.slice ao k cp).ownBlock ≠ some w.heap.size) := hide fun e => by
        obtain ⟨_, cc, fr, hh⟩ := ownsRow_tag HWA.out.row e
        rw [HWA.out.heap] at hh
        exact absurd (tag_eq hh) (by decide)
      go_wp2_with (at_builtin; refine wpList_append_lies _ rfl (.tmp 38) (.tmp 40) 122 rfl base 60 i0 (.pointer none) 1 8 Tryz.underlying122 HI.out.1 HI.out.2.1 HI.out.2.2.1 HI.out.2.2.2 rfl (by decide) (.slice ao k cp) k (ptrs Cs) rfl HRW.out ⟨w2.heap.size, 0, none⟩ 1 1 [.pointer (some ⟨C, 0, none⟩)] rfl rfl HNW.out (by intro u hu; simp at hu; subst hu; rfl) (by decide) (by unfold maxLen; omega) (by omega) HWA.out.base_le (w2.heap.size + 1) (by simp) ?_)
      intro g3 k3 w3 hown3 hgrow3 hat3 hlt3
      have c4 : w3.cell? ⟨w.heap.size, 0, none⟩ = some (.slice ao k cp) := hgrow3.cell HWA.out.cells.1 (fun e => hneK.out e.symm)
      have f4 : w3.frozen? ⟨w.heap.size, 0, none⟩ = false := (World.frozen?_of_block (hgrow3.block w.heap.size HWA.out.cells.2.2.1 (fun e => hneK.out e.symm))).trans (HWA.out.cells.2.2.2 0)
      have HO3 := hide hown3
      have HG3 := hide hgrow3
      have HAT := hide hat3
      clear hown3 hgrow3 hat3
      go_wp2_with fail
      go_roundw
      case rel =>
        have hnear := near_app (w := w2.alloc (.cells #[.pointer (some ⟨C, 0, none⟩)] 60)) (n := k + 1) (c := k3) HAT.out (by simp)
        obtain ⟨r1, r2⟩ := HWA.out.more HCA.out HOF.out HG3.out (by rw [hlen.out]; exact HO3.out) hnear
        have e : upd (fun _ => M.Cop.new) Cs.length M.Cop.new = fun _ => M.Cop.new := by funext j; unfold upd; split <;> rfl
        rw [e] at r1
        have hbw : Below w.heap.size (w2.alloc (.cells #[.pointer (some ⟨C, 0, none⟩)] 60)) (w3.setCell ⟨w.heap.size, 0, none⟩ (.slice (some ⟨g3, 0, none⟩) (k + 1) k3)) := by
          refine Below.setCell (p := ⟨w.heap.size, 0, none⟩) (Below.grown (Below.refl w.heap.size _) HG3.out ?_ ?_) (Nat.le_refl _) _
          · have := HB2.out.size; simp; omega
          · intro b hb
            exact hlo.out b (Or.inr (Or.inl hb))
        refine ⟨k + 1, some ⟨g3, 0, none⟩, k3, Cs ++ [C], upd Fs Cs.length F, by omega, by go_num, hide (by rw [List.length_append, hlen.out]; rfl), hide r1, hide (fun b hb => ?_), hide ((HB2.out.trans (HBA.out.mono HB2.out.size)).trans hbw)⟩
        rcases hb with rfl | hb | ⟨i, hi, hb⟩
        · exact Nat.le_refl _
        · rcases hnear.grows hb with q | q
          · exact hlo.out b (Or.inr (Or.inl q))
          · have := HB2.out.size; simp at q; omega
        · by_cases e : i = Cs.length
          · subst e
            rw [upd_same] at hb
            exact HFL.out b hb
          · rw [upd_other e] at hb
            exact hlo.out b (Or.inr (Or.inr ⟨i, by have := hlen.out; omega, hb⟩))
      case measure => simp [intOf]; omega
    · have hkn : k = n := by omega
      have i1 : ¬ (k : Int) < (n : Int) := by omega
      have HFIN : Hid (CwIs base wr (cwF w.heap.size (.slice ao k cp) n Fs) w.heap.size n M.Cop.new R) := hide ⟨M.Cop.new_ok, HE.out, h1, h7, .slice ao k cp, Cs, Fs, by rw [hlen.out, hkn], rfl, by have := hC.out; rwa [HND.out] at this⟩
      have HFL : Hid (∀ b, cwF w.heap.size (.slice ao k cp) n Fs b → w.heap.size ≤ b) := hide (by have := hlo.out; rwa [hkn] at this ⊢)
      clear hkn
      go_wp2_with fail
      go_ret2
      exact ⟨w.heap.size, rfl, cwF w.heap.size (.slice ao k cp) n Fs, HFIN.out, HFL.out, hbel.out⟩


end Go.Proofs.YtlefhfmckimlaakGreatDoor
