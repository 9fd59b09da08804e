/-
  What Again and Do of package mirror's copy do, each as one law of its call.
-/
import Derived.Test.YtlefhfmckimlaakGreatDoorCopDeed2
import Derived.Test.YtlefhfmckimlaakGreatDoorJSpace
import Derived.Test.YtlefhfmckimlaakGreatDoorShelf
import Derived.Deep.DeepCutAuto
import Derived.Deep.CutBlock
import Derived.Deep.RegionLaw
import Derived.Deep.Draws
import Derived.Deep.DrawnRows
import Derived.WalkSmall
set_option linter.unusedVariables false
namespace Go.Proofs.YtlefhfmckimlaakGreatDoor
open Go.RowKit Go.WideMaps Go.Maps
attribute [local go_sem ↓] Go.wp_at_zero Go.wp_at_succ

section
variable {base : Nat} {w w' : World} {C S B : Nat} {v v' rv : Value} {l l' : List (List M.Val)} {g g' : Int → Int × ByteArray} {m m' : Int} {k : Nat} {R : List M.Rul} {who seq deed : Int} {a : Option Addr} {n cp : Nat} {t : List M.Val}

theorem Cp.look (h : Cp base w C S B v rv l g m k R) (h1 : 0 ≤ who) (h2 : who ≤ 1000000) : (Instr.lookup 117 (.map (some B)) (.int .i64 who) true).run Tryz.prog w = .ok (.tuple #[aggD (g who).1 (g who).2, .bool (decide (0 < (g who).1))]) w := by
  obtain ⟨D, hD, hs⟩ := h.map
  exact hs.look hD (by omega) (by omega)

/-- .. without the word whether it is there -/
theorem Cp.look1 (h : Cp base w C S B v rv l g m k R) (h1 : 0 ≤ who) (h2 : who ≤ 1000000) : (Instr.lookup 117 (.map (some B)) (.int .i64 who) false).run Tryz.prog w = .ok (aggD (g who).1 (g who).2) w := by
  obtain ⟨D, hD, hs⟩ := h.map
  obtain ⟨v, ps, hr, hv⟩ := hD.lookup keyed_int Tryz.underlying117 (zero_done w) (zd := .held (aggD 0 M.sNo)) (zp := []) rfl (keyI_mk (k := who) (by omega) (by omega))
  rw [hs.2.1 who] at hv
  have e : v = aggD (g who).1 (g who).2 := by
    unfold heldR at hv
    simp only [Option.some.injEq, Prod.mk.injEq, DataW.held.injEq] at hv
    exact hv.1
  rw [e] at hr
  exact hr

theorem field_done (s : Int) (b : ByteArray) (w : World) : (Instr.field 128 (.agg #[.int .i64 s, .string b]) 1).run Tryz.prog w = .ok (.string b) w := by kernel_rfl

/-- a copy of a text -/
theorem cloneA (s : ByteArray) (w : World) (hs : s.size ≤ 281474976710656) : Calls Tryz.prog 61 #[.string s] w fun e w' => e = .returned (.string s) ∧ Below w.heap.size w w' := by
  go_enter Tryz.func61, Tryz.ntmps61
  go_wp2_with fail
  refine (Tryz.stringslite_Clone s _ hs).mono ?_
  rintro e w1 ⟨rfl, hb⟩
  go_wp2_with fail
  go_ret
  exact ⟨rfl, hb⟩

theorem cAgain_bad (h : Cp base w C S B v rv l g m k R) (hv : IsVals w (.slice a n cp) t) (hf : M.askF ⟨who, seq, deed, t⟩ ≠ 0) :
    Calls Tryz.prog 37 #[.pointer (some ⟨C, 0, none⟩), aggA who seq deed a n cp] w fun e w' => e = .returned (.tuple #[.bool false, errV (M.askF ⟨who, seq, deed, t⟩)]) ∧ Below w.heap.size w w' := by
  have HB : Hid (∀ o, Below w.heap.size w (w.alloc o)) := hide fun o => (Below.refl _ _).alloc (Nat.le_refl _) o
  have HC : Hid (∀ wx, Below w.heap.size w wx → Calls Tryz.prog 57 #[aggA who seq deed a n cp] wx fun e w' => e = .returned (.iface 87 (.int .i64 (M.askF ⟨who, seq, deed, t⟩))) ∧ Below wx.heap.size wx w') := hide fun wx hb => by
    have := qcheck who seq deed a n cp t wx (hv.stays hb (Nat.le_refl _))
    rwa [errV_bad hf] at this
  rw [errV_bad hf]
  clear hf hv h
  go_enter Tryz.func37, Tryz.ntmps37
  go_wp2_with fail
  refine (HC.out _ (HB.out _)).mono ?_
  rintro e w1 ⟨rfl, hb1⟩
  go_wp2_with fail
  go_ret2
  exact ⟨rfl, (HB.out _).trans (hb1.mono (by simp))⟩

set_option maxHeartbeats 1000000 in
theorem cAgain_again (h : Cp base w C S B v rv l g m k R) (hv : IsVals w (.slice a n cp) t) (hf : M.askF ⟨who, seq, deed, t⟩ = 0) (h1 : seq = (g who).1) (h2 : 0 < (g who).1) :
    Calls Tryz.prog 37 #[.pointer (some ⟨C, 0, none⟩), aggA who seq deed a n cp] w fun e w' => e = .returned (.tuple #[.bool true, .nilIface]) ∧ Below w.heap.size w w' := by
  have HB : Hid (∀ o, Below w.heap.size w (w.alloc o)) := hide fun o => (Below.refl _ _).alloc (Nat.le_refl _) o
  have HC : Hid (∀ wx, Below w.heap.size w wx → Calls Tryz.prog 57 #[aggA who seq deed a n cp] wx fun e w' => e = .returned .nilIface ∧ Below wx.heap.size wx w') := hide fun wx hb => by
    have := qcheck who seq deed a n cp t wx (hv.stays hb (Nat.le_refl _))
    rwa [hf] at this
  obtain ⟨hw0, _, _⟩ := M.askF_ok hf
  simp only at hw0
  have HP := hide h
  have HLK : Hid (∀ wx, Below w.heap.size w wx → (Instr.lookup 117 (.map (some B)) (.int .i64 who) true).run Tryz.prog wx = .ok (.tuple #[aggD (g who).1 (g who).2, .bool (decide (0 < (g who).1))]) wx) := hide fun wx hb => (h.quiet hb).look hw0.1 hw0.2
  obtain ⟨T, hT⟩ : ∃ T : Bool, T = decide (0 < (g who).1) := ⟨_, rfl⟩
  rw [← hT] at HLK
  rw [decide_eq_true h2] at hT
  subst hT
  clear h2
  generalize (g who).1 = G1 at *
  generalize (g who).2 = G2 at *
  subst h1
  clear hf hv h hw0
  go_enter Tryz.func37, Tryz.ntmps37
  go_wp2_with fail
  refine (HC.out _ (HB.out _)).mono ?_
  rintro e w1 ⟨rfl, hb1⟩
  have HX1 := hide (AskBox.new hb1)
  have HB1 := hide ((HB.out (.cells #[.int .i64 who, .int .i64 seq, .int .i64 deed, .slice a n cp] 38)).trans (hb1.mono (by simp)))
  clear hb1
  obtain ⟨b0, b1, b2, b3, bn⟩ := HX1.out.cells
  obtain ⟨c0, c1, c2, c3, cn, _⟩ := (HP.out.quiet HB1.out).cells
  have hl1 := HLK.out w1.drew HB1.out.drew
  have hl2 := HLK.out (w1.alloc (.cells #[.int .i64 0, .string ⟨#[]⟩] 128)).drew (HB1.out.alloc HB1.out.size _).drew
  go_upto_region 4 with fail
  go_cut [7, 8] from 14 to 23 (fun s th wx => ∃ W : World, W = wx ∧ s = .pointer (some ⟨w1.heap.size, 0, none⟩) ∧ th = .bool true ∧ Hid (Below w1.heap.size w1 W) ∧ W.cell? ⟨w1.heap.size, 0, none⟩ = some (.int .i64 seq) ∧ W.cell? ⟨w1.heap.size, 1, none⟩ = some (.string G2) ∧ w1.heap.size < W.heap.size)
  case first =>
    go_region
    all_goals
      go_wp2_with fail
      go_meet
      case rel => exact ⟨_, rfl, rfl, rfl, hide ((Below.refl _ _).alloc (Nat.le_refl _) _).drew, by simp [go_sem], by simp [go_sem], by simp⟩
  case rest =>
    obtain ⟨w2, rfl, rfl, rfl, hb2, y0, y1, yn⟩ := hcut
    have HX2 := hide (HX1.out.below hb2.out)
    have HB2 := hide (HB1.out.trans (hb2.out.mono HB1.out.size))
    clear hb2 hl1 hl2 b0 b1 b2 b3 bn c0 c1 c2 c3 cn
    obtain ⟨b0, b1, b2, b3, bn⟩ := HX2.out.cells
    obtain ⟨c0, c1, c2, c3, cn, cf⟩ := (HP.out.quiet HB2.out).cells
    go_wp2_with fail
    go_ret2
    exact ⟨rfl, HB2.out⟩

set_option maxHeartbeats 1000000 in
theorem cAgain_state (h : Cp base w C S B v rv l g m k R) (hv : IsVals w (.slice a n cp) t) (hf : M.askF ⟨who, seq, deed, t⟩ = 0) (g0 : 0 ≤ (g who).1) (g1 : (g who).1 ≤ 1000) (h1 : ¬ (seq = (g who).1 ∧ 0 < (g who).1)) (h2 : seq ≠ (g who).1 + 1) :
    Calls Tryz.prog 37 #[.pointer (some ⟨C, 0, none⟩), aggA who seq deed a n cp] w fun e w' => e = .returned (.tuple #[.bool false, errV 6]) ∧ Below w.heap.size w w' := by
  have HB : Hid (∀ o, Below w.heap.size w (w.alloc o)) := hide fun o => (Below.refl _ _).alloc (Nat.le_refl _) o
  have HC : Hid (∀ wx, Below w.heap.size w wx → Calls Tryz.prog 57 #[aggA who seq deed a n cp] wx fun e w' => e = .returned .nilIface ∧ Below wx.heap.size wx w') := hide fun wx hb => by
    have := qcheck who seq deed a n cp t wx (hv.stays hb (Nat.le_refl _))
    rwa [hf] at this
  obtain ⟨hw0, _, _⟩ := M.askF_ok hf
  simp only at hw0
  have HP := hide h
  have HLK : Hid (∀ wx, Below w.heap.size w wx → (Instr.lookup 117 (.map (some B)) (.int .i64 who) true).run Tryz.prog wx = .ok (.tuple #[aggD (g who).1 (g who).2, .bool (decide (0 < (g who).1))]) wx) := hide fun wx hb => (h.quiet hb).look hw0.1 hw0.2
  obtain ⟨T, hT⟩ : ∃ T : Bool, T = decide (0 < (g who).1) := ⟨_, rfl⟩
  rw [← hT] at HLK
  have HTH := hide hT
  clear hT
  generalize (g who).1 = G1 at *
  generalize (g who).2 = G2 at *
  have hz2 : (seq == G1 + 1) = false := by simpa using h2
  have HQ : Hid ((seq == G1) = false ∨ T = false) := hide (by
    by_cases e : seq = G1
    · exact Or.inr (HTH.out.trans (decide_eq_false (fun e2 => h1 ⟨e, e2⟩)))
    · exact Or.inl (by simpa using e))
  clear hf hv h hw0 h1 h2
  go_enter Tryz.func37, Tryz.ntmps37
  go_wp2_with fail
  refine (HC.out _ (HB.out _)).mono ?_
  rintro e w1 ⟨rfl, hb1⟩
  have HX1 := hide (AskBox.new hb1)
  have HB1 := hide ((HB.out (.cells #[.int .i64 who, .int .i64 seq, .int .i64 deed, .slice a n cp] 38)).trans (hb1.mono (by simp)))
  clear hb1
  obtain ⟨b0, b1, b2, b3, bn⟩ := HX1.out.cells
  obtain ⟨c0, c1, c2, c3, cn, _⟩ := (HP.out.quiet HB1.out).cells
  have hl1 := HLK.out w1.drew HB1.out.drew
  have hl2 := HLK.out (w1.alloc (.cells #[.int .i64 0, .string ⟨#[]⟩] 128)).drew (HB1.out.alloc HB1.out.size _).drew
  go_upto_region 4 with fail
  go_cut [7, 8] from 14 to 23 (fun s th wx => ∃ W : World, W = wx ∧ s = .pointer (some ⟨w1.heap.size, 0, none⟩) ∧ th = .bool T ∧ Hid (Below w1.heap.size w1 W) ∧ W.cell? ⟨w1.heap.size, 0, none⟩ = some (.int .i64 G1) ∧ W.cell? ⟨w1.heap.size, 1, none⟩ = some (.string G2) ∧ w1.heap.size < W.heap.size)
  case first =>
    go_region
    all_goals
      go_wp2_with fail
      go_meet
      case rel => exact ⟨_, rfl, rfl, rfl, hide ((Below.refl _ _).alloc (Nat.le_refl _) _).drew, by simp [go_sem], by simp [go_sem], by simp⟩
  case rest =>
    obtain ⟨w2, rfl, rfl, rfl, hb2, y0, y1, yn⟩ := hcut
    have HX2 := hide (HX1.out.below hb2.out)
    have HB2 := hide (HB1.out.trans (hb2.out.mono HB1.out.size))
    clear hb2 hl1 hl2 b0 b1 b2 b3 bn c0 c1 c2 c3 cn
    obtain ⟨b0, b1, b2, b3, bn⟩ := HX2.out.cells
    obtain ⟨c0, c1, c2, c3, cn, cf⟩ := (HP.out.quiet HB2.out).cells
    rcases HQ.out with hq | hq
    · cases T
      all_goals
        go_wp2_with fail
        go_ret2
        exact ⟨rfl, HB2.out⟩
    · subst hq
      go_wp2_with fail
      go_ret2
      exact ⟨rfl, HB2.out⟩

set_option maxHeartbeats 1000000 in
theorem cAgain_next (h : Cp base w C S B v rv l g m k R) (hv : IsVals w (.slice a n cp) t) (hf : M.askF ⟨who, seq, deed, t⟩ = 0) (g0 : 0 ≤ (g who).1) (g1 : (g who).1 ≤ 1000) (h1 : seq = (g who).1 + 1) (EV : Value) (hd : ∀ wx, Below w.heap.size w wx → Calls Tryz.prog 79 #[.pointer (some ⟨C, 0, none⟩), aggA who seq deed a n cp] wx fun e w' => e = .returned EV ∧ Below wx.heap.size wx w') :
    Calls Tryz.prog 37 #[.pointer (some ⟨C, 0, none⟩), aggA who seq deed a n cp] w fun e w' => e = .returned (.tuple #[.bool false, EV]) ∧ Below w.heap.size w w' := by
  have HB : Hid (∀ o, Below w.heap.size w (w.alloc o)) := hide fun o => (Below.refl _ _).alloc (Nat.le_refl _) o
  have HC : Hid (∀ wx, Below w.heap.size w wx → Calls Tryz.prog 57 #[aggA who seq deed a n cp] wx fun e w' => e = .returned .nilIface ∧ Below wx.heap.size wx w') := hide fun wx hb => by
    have := qcheck who seq deed a n cp t wx (hv.stays hb (Nat.le_refl _))
    rwa [hf] at this
  obtain ⟨hw0, _, _⟩ := M.askF_ok hf
  simp only at hw0
  have HP := hide h
  have HLK : Hid (∀ wx, Below w.heap.size w wx → (Instr.lookup 117 (.map (some B)) (.int .i64 who) true).run Tryz.prog wx = .ok (.tuple #[aggD (g who).1 (g who).2, .bool (decide (0 < (g who).1))]) wx) := hide fun wx hb => (h.quiet hb).look hw0.1 hw0.2
  have HD := hide hd
  obtain ⟨T, hT⟩ : ∃ T : Bool, T = decide (0 < (g who).1) := ⟨_, rfl⟩
  rw [← hT] at HLK
  have HTH := hide hT
  clear hT
  generalize (g who).1 = G1 at *
  generalize (g who).2 = G2 at *
  subst h1
  have hz2 : (G1 + 1 == G1) = false := by simp; omega
  clear hf hv h hw0 hd
  go_enter Tryz.func37, Tryz.ntmps37
  go_wp2_with fail
  refine (HC.out _ (HB.out _)).mono ?_
  rintro e w1 ⟨rfl, hb1⟩
  have HX1 := hide (AskBox.new hb1)
  have HB1 := hide ((HB.out (.cells #[.int .i64 who, .int .i64 (G1 + 1), .int .i64 deed, .slice a n cp] 38)).trans (hb1.mono (by simp)))
  clear hb1
  obtain ⟨b0, b1, b2, b3, bn⟩ := HX1.out.cells
  obtain ⟨c0, c1, c2, c3, cn, _⟩ := (HP.out.quiet HB1.out).cells
  have hl1 := HLK.out w1.drew HB1.out.drew
  have hl2 := HLK.out (w1.alloc (.cells #[.int .i64 0, .string ⟨#[]⟩] 128)).drew (HB1.out.alloc HB1.out.size _).drew
  go_upto_region 4 with fail
  go_cut [7, 8] from 14 to 23 (fun s th wx => ∃ W : World, W = wx ∧ s = .pointer (some ⟨w1.heap.size, 0, none⟩) ∧ th = .bool T ∧ Hid (Below w1.heap.size w1 W) ∧ W.cell? ⟨w1.heap.size, 0, none⟩ = some (.int .i64 G1) ∧ W.cell? ⟨w1.heap.size, 1, none⟩ = some (.string G2) ∧ w1.heap.size < W.heap.size)
  case first =>
    go_region
    all_goals
      go_wp2_with fail
      go_meet
      case rel => exact ⟨_, rfl, rfl, rfl, hide ((Below.refl _ _).alloc (Nat.le_refl _) _).drew, by simp [go_sem], by simp [go_sem], by simp⟩
  case rest =>
    obtain ⟨w2, rfl, rfl, rfl, hb2, y0, y1, yn⟩ := hcut
    have HX2 := hide (HX1.out.below hb2.out)
    have HB2 := hide (HB1.out.trans (hb2.out.mono HB1.out.size))
    clear hb2 hl1 hl2 b0 b1 b2 b3 bn c0 c1 c2 c3 cn
    obtain ⟨b0, b1, b2, b3, bn⟩ := HX2.out.cells
    obtain ⟨c0, c1, c2, c3, cn, cf⟩ := (HP.out.quiet HB2.out).cells
    cases T
    all_goals
      go_wp2_with fail
      refine (HD.out _ HB2.out).mono ?_
      rintro e w3 ⟨rfl, hb3⟩
      go_wp2_with fail
      go_ret2
      exact ⟨rfl, HB2.out.trans (hb3.mono HB2.out.size)⟩


/-- what Again tells -/
theorem cAgain (c : M.Cop) (hok : c.Ok) (h : Cp base w C S B v rv c.l c.g m k R) (hE : M.rulE R = 0) (hn : c.n ≤ 1000) (x : M.Ask) (hv : IsVals w (.slice a n cp) x.t) :
    Calls Tryz.prog 37 #[.pointer (some ⟨C, 0, none⟩), aggA x.who x.seq x.deed a n cp] w fun e w' => e = .returned (.tuple #[.bool (M.agB c x), errV (M.doR R c x).1]) ∧ Below w.heap.size w w' := by
  obtain ⟨who, seq, deed, t⟩ := x
  simp only at hv ⊢
  have g0 := hok.lo who
  have g1 : (c.g who).1 ≤ 1000 := by have := hok.hi who; omega
  rcases M.doR_ways R c ⟨who, seq, deed, t⟩ with h1 | ⟨h1, h2⟩ | ⟨h1, h2, h3⟩ | ⟨h1, h2, h3, h4⟩ | ⟨h1, h2, h3, h4⟩
  · rw [M.doR_bad h1, M.agB_bad h1]
    exact cAgain_bad h hv h1
  · rw [M.doR_again h1 h2, M.agB_ok h1, h2]
    obtain ⟨q1, q2⟩ := M.again_yes h2
    exact cAgain_again h hv h1 q1 q2
  · rw [M.doR_state h1 h2 h3, M.agB_ok h1, h2]
    exact cAgain_state h hv h1 g0 g1 (M.again_non h2) h3
  · rw [M.doR_did h1 h2 h3 h4, M.agB_ok h1, h2]
    exact cAgain_next h hv h1 g0 g1 h3 .nilIface (fun wx hwx => cAllow (h.quiet hwx) hok.fine hE ⟨who, seq, deed, t⟩ a n cp (hv.stays hwx (Nat.le_refl _)) h1 true h4)
  · rw [M.doR_denied h1 h2 h3 h4, M.agB_ok h1, h2]
    exact cAgain_next h hv h1 g0 g1 h3 (errV 8) (fun wx hwx => by
      rw [errV_bad (show (8 : Int) ≠ 0 by decide)]
      exact cAllow (h.quiet hwx) hok.fine hE ⟨who, seq, deed, t⟩ a n cp (hv.stays hwx (Nat.le_refl _)) h1 false h4)

theorem cDo_bad (E : Int) (hE : E ≠ 0) (bb : Bool) (HA : ∀ wx, Below w.heap.size w wx → Calls Tryz.prog 37 #[.pointer (some ⟨C, 0, none⟩), aggA who seq deed a n cp] wx fun e w' => e = .returned (.tuple #[.bool bb, errV E]) ∧ Below wx.heap.size wx w') :
    Calls Tryz.prog 28 #[.pointer (some ⟨C, 0, none⟩), aggA who seq deed a n cp] w fun e w' => e = .returned (.tuple #[.string M.sNo, errV E]) ∧ Below w.heap.size w w' := by
  have HB : Hid (∀ o, Below w.heap.size w (w.alloc o)) := hide fun o => (Below.refl _ _).alloc (Nat.le_refl _) o
  rw [errV_bad hE] at HA ⊢
  have HH := hide HA
  clear HA hE
  go_enter Tryz.func28, Tryz.ntmps28
  go_wp2_with fail
  refine (HH.out _ (HB.out _)).mono ?_
  rintro e w1 ⟨rfl, hb1⟩
  go_wp2_with fail
  go_ret2
  exact ⟨rfl, (HB.out _).trans (hb1.mono (by simp))⟩

set_option maxHeartbeats 1000000 in
theorem cDo_again (h : Cp base w C S B v rv l g m k R) (hw0 : 0 ≤ who ∧ who ≤ 1000000) (h3 : (g who).2.size ≤ 70) (HA : ∀ wx, Below w.heap.size w wx → Calls Tryz.prog 37 #[.pointer (some ⟨C, 0, none⟩), aggA who seq deed a n cp] wx fun e w' => e = .returned (.tuple #[.bool true, .nilIface]) ∧ Below wx.heap.size wx w') :
    Calls Tryz.prog 28 #[.pointer (some ⟨C, 0, none⟩), aggA who seq deed a n cp] w fun e w' => e = .returned (.tuple #[.string (g who).2, .nilIface]) ∧ Below w.heap.size w w' := by
  have HB : Hid (∀ o, Below w.heap.size w (w.alloc o)) := hide fun o => (Below.refl _ _).alloc (Nat.le_refl _) o
  have HH := hide HA
  have HP := hide h
  have HLK : Hid (∀ wx, Below w.heap.size w wx → (Instr.lookup 117 (.map (some B)) (.int .i64 who) false).run Tryz.prog wx = .ok (aggD (g who).1 (g who).2) wx) := hide fun wx hb => (h.quiet hb).look1 hw0.1 hw0.2
  have HCL : Hid (∀ wx, Calls Tryz.prog 61 #[.string (g who).2] wx fun e w' => e = .returned (.string (g who).2) ∧ Below wx.heap.size wx w') := hide fun wx => cloneA _ wx (by omega)
  clear h3 HA h hw0
  generalize (g who).1 = G1 at *
  generalize (g who).2 = G2 at *
  go_enter Tryz.func28, Tryz.ntmps28
  go_wp2_with fail
  refine (HH.out _ (HB.out _)).mono ?_
  rintro e w1 ⟨rfl, hb1⟩
  have HX1 := hide (AskBox.new hb1)
  have HB1 := hide ((HB.out (.cells #[.int .i64 who, .int .i64 seq, .int .i64 deed, .slice a n cp] 38)).trans (hb1.mono (by simp)))
  clear hb1
  obtain ⟨b0, b1, b2, b3, bn⟩ := HX1.out.cells
  obtain ⟨c0, c1, c2, c3, cn, _⟩ := (HP.out.quiet HB1.out).cells
  have hl1 := HLK.out w1.drew HB1.out.drew
  have hl2 := field_done G1 G2
  go_wp2_with fail
  go_region_held3 (fun w' => w'.cell? ⟨C, 2, none⟩ = some (.map (some B)) ∧ w'.cell? ⟨w.heap.size, 0, none⟩ = some (.int .i64 who)) (first | go_keep | assumption)
    (first
      | (go_at_call 61; refine (HCL.out _).mono ?_; rintro e w5 ⟨rfl, hb5⟩; have HB5 := hide (HB1.out.drew.trans (hb5.mono HB1.out.drew.size)); obtain ⟨t0, t1, t2, t3, tn⟩ := (AskBox.below (w := w1.drew) HX1.out hb5).cells; obtain ⟨r0, r1, r2, r3, rn, _⟩ := (HP.out.quiet HB5.out).cells; clear hb5))
  go_wp2_with fail
  go_ret2
  exact ⟨rfl, HB5.out⟩

set_option maxRecDepth 100000 in
set_option maxHeartbeats 2000000 in
theorem cDo_did (h : Cp base w C S B v rv l g m k R) (hw0 : 0 ≤ who ∧ who ≤ 1000000) (t : List M.Val) (s0 : ByteArray) (L' : List (List M.Val)) (hm0 : 0 ≤ m) (hm1 : m ≤ 1000) (hk : k ≤ 1000) (hsz : s0.size ≤ 70) (hsq : 0 < seq)
    (HA : ∀ wx, Below w.heap.size w wx → Calls Tryz.prog 37 #[.pointer (some ⟨C, 0, none⟩), aggA who seq deed a n cp] wx fun e w' => e = .returned (.tuple #[.bool false, .nilIface]) ∧ Below wx.heap.size wx w')
    (hd : ∀ wx, Below w.heap.size w wx → Calls Tryz.prog 60 #[.pointer (some ⟨C, 0, none⟩), aggA who seq deed a n cp] wx fun e w' => e = .returned (.string s0) ∧ ∃ v', Cp base w' C S B v' rv L' g m k R ∧ Tch (cpF C S B v rv) wx w' ∧ Grows wx (cpF C S B v rv) (cpF C S B v' rv)) :
    Calls Tryz.prog 28 #[.pointer (some ⟨C, 0, none⟩), aggA who seq deed a n cp] w fun e w' => e = .returned (.tuple #[.string s0, .nilIface]) ∧ ∃ v', Cp base w' C S B v' rv L' (M.upG g ⟨who, seq, deed, t⟩ s0) (m + 1) (k + 1) R ∧ Tch (cpF C S B v rv) w w' ∧ Grows w (cpF C S B v rv) (cpF C S B v' rv) := by
  have HB : Hid (∀ o, Below w.heap.size w (w.alloc o)) := hide fun o => (Below.refl _ _).alloc (Nat.le_refl _) o
  have HH := hide HA
  have HP := hide h
  have HD := hide hd
  have HW0 := hide hw0
  have HCL : Hid (∀ wx, Calls Tryz.prog 61 #[.string s0] wx fun e w' => e = .returned (.string s0) ∧ Below wx.heap.size wx w') := hide fun wx => cloneA _ wx (by omega)
  have HUP : Hid (∀ (wx : World) (v3 : Value), Cp base wx C S B v3 rv L' g m k R → ∃ w4, (Instr.mapUpdate 117 (.map (some B)) (.int .i64 who) (aggD seq s0)).run Tryz.prog wx = .ok () w4 ∧ Cp base w4 C S B v3 rv L' (M.upG g ⟨who, seq, deed, t⟩ s0) m (k + 1) R ∧ Tch (cpF C S B v3 rv) wx w4) := hide (by
    intro wx v3 hc
    obtain ⟨D, hD, hs⟩ := hc.map
    obtain ⟨w4, hr4, r1, r2⟩ := hD.update keyed_int Tryz.underlying117 (by unfold maxLen; omega) (keyI_mk (k := who) (by have := HW0.out.1; omega) (by have := HW0.out.2; omega)) (show heldR (aggD seq s0) = some (.held (aggD seq s0), []) from rfl)
    exact ⟨w4, hr4, hc.mapped r2 r1 (hs.up ⟨who, seq, deed, t⟩ s0 hsq)⟩)
  clear h HA hd hw0 hsq hsz
  go_enter Tryz.func28, Tryz.ntmps28
  go_wp2_with fail
  refine (HH.out _ (HB.out _)).mono ?_
  rintro e w1 ⟨rfl, hb1⟩
  have HX1 := hide (AskBox.new hb1)
  have HB1 := hide ((HB.out (.cells #[.int .i64 who, .int .i64 seq, .int .i64 deed, .slice a n cp] 38)).trans (hb1.mono (by simp)))
  clear hb1
  obtain ⟨b0, b1, b2, b3, bn⟩ := HX1.out.cells
  obtain ⟨c0, c1, c2, c3, cn, _⟩ := (HP.out.quiet HB1.out).cells
  go_wp2_with fail
  go_region_held3 (fun w' => w'.cell? ⟨C, 2, none⟩ = some (.map (some B)) ∧ w'.cell? ⟨w.heap.size, 0, none⟩ = some (.int .i64 who) ∧ w'.cell? ⟨w.heap.size, 1, none⟩ = some (.int .i64 seq) ∧ w'.cell? ⟨w.heap.size, 2, none⟩ = some (.int .i64 deed) ∧ w'.cell? ⟨w.heap.size, 3, none⟩ = some (.slice a n cp)) (first | go_keep | assumption)
    (first
      | (go_at_call 60; refine (HD.out _ HB1.out.drew).mono ?_; rintro e w3 ⟨rfl, v3, hc3, ht3, hg3⟩; have HC3 := hide hc3; have HT3 := hide (ht3.after HB1.out.drew); have HG3 : Hid (Grows w (cpF C S B v rv) (cpF C S B v3 rv)) := hide (fun i hi => (hg3 i hi).imp id (fun q => Nat.le_trans HB1.out.drew.size q)); have HX3 : Hid (AskBox w3 w.heap.size who seq deed a n cp) := hide ((ht3.block _ (heap_lt HX1.out) ((HP.out.quiet HB1.out.drew).other (w := w1.drew) HX1.out (by decide) (by decide) (by decide) (by decide))).trans HX1.out); obtain ⟨t0, t1, t2, t3, tn⟩ := HX3.out.cells; obtain ⟨r0, r1, r2, r3, rn, _⟩ := HC3.out.cells; obtain ⟨w4, hr4, hc4, ht4⟩ := HUP.out w3 v3 HC3.out; have HC4 := hide hc4; have HT4 := hide ht4; have d2 := hc4.cells.2.2.1; have HX4 : Hid (AskBox w4 w.heap.size who seq deed a n cp) := hide ((ht4.block _ (heap_lt HX3.out) (HC3.out.other HX3.out (by decide) (by decide) (by decide) (by decide))).trans HX3.out); obtain ⟨u0, u1, u2, u3, un⟩ := HX4.out.cells; clear hc3 ht3 hg3 hc4 ht4))
  all_goals
    clear b0 b1 b2 b3 bn c0 c1 c2 c3 cn t0 t1 t2 t3 tn r0 r1 r2 r3 rn d2 u0 u1 u2 u3 un
    obtain ⟨d0, d1, d2, d3, dn, df⟩ := HC4.out.cells
    have f3 := df 3
    have HM5 := hide (HC4.out.many (m' := m + 1))
    have HX5 : Hid (AskBox (w4.setCell ⟨C, 3, none⟩ (.int .i64 (m + 1))) w.heap.size who seq deed a n cp) := hide ((HM5.out.2.block _ (heap_lt HX4.out) (HC4.out.other HX4.out (by decide) (by decide) (by decide) (by decide))).trans HX4.out)
    clear df
    go_upto_region 7 with fail
    obtain ⟨w5, hw5⟩ : ∃ w5, w5 = w4.setCell ⟨C, 3, none⟩ (.int .i64 (m + 1)) := ⟨_, rfl⟩
    rw [← hw5]
    rw [← hw5] at HM5 HX5
    clear hw5 d0 d1 d2 d3 dn f3
    obtain ⟨b0, b1, b2, b3, bn⟩ := HX5.out.cells
    obtain ⟨c0, c1, c2, c3, cn, _⟩ := HM5.out.1.cells
    have hl1 := (HM5.out.1.quiet (w' := w5.drew) ((Below.refl _ _).drew)).look1 (who := who) HW0.out.1 HW0.out.2
    rw [M.upG_same (a := ⟨who, seq, deed, t⟩)] at hl1
    simp only at hl1
    have hl2 := field_done seq s0
    go_region_held3 (fun w' => w'.cell? ⟨C, 2, none⟩ = some (.map (some B)) ∧ w'.cell? ⟨w.heap.size, 0, none⟩ = some (.int .i64 who)) (first | go_keep | assumption)
      (first
        | (go_at_call 61; refine (HCL.out _).mono ?_; rintro e w6 ⟨rfl, hb6⟩; have HB6 := hide (((Below.refl w5.heap.size w5).drew).trans (show Below w5.heap.size w5.drew w6 from hb6)); obtain ⟨t0, t1, t2, t3, tn⟩ := (HX5.out.below HB6.out).cells; obtain ⟨r0, r1, r2, r3, rn, _⟩ := (HM5.out.1.quiet HB6.out).cells; clear hb6))
    go_wp2_with fail
    go_ret2
    exact ⟨rfl, v3, HM5.out.1.quiet HB6.out, (((HT3.out.trans HG3.out HT4.out).trans HG3.out HM5.out.2)).then HB6.out, HG3.out⟩
end

end Go.Proofs.YtlefhfmckimlaakGreatDoor
