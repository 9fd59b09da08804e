/-
  What answer of package mirror's copy does, with found: each as one law of its call.
-/
import Derived.Test.YtlefhfmckimlaakGreatDoorCopDeed
set_option linter.unusedVariables false
namespace Go.Proofs.YtlefhfmckimlaakGreatDoor
open Go.RowKit
attribute [local go_sem ↓] Go.wp_at_zero Go.wp_at_succ

theorem mayE_yes {L : List M.Rul} {who deed : Int} {t : List M.Val} (h : M.mayR L who deed t = true) : M.mayE L who deed t = 0 := by
  by_cases h0 : M.mayE L who deed t = 0
  · exact h0
  · rw [M.mayR_bad h0] at h; cases h

theorem cFound_none (ra : Option Addr) (rn rc : Nat) (E : Int) (w : World) : Calls Tryz.prog 101 #[.slice ra rn rc, .iface 87 (.int .i64 E)] w fun e w' => e = .returned (.string M.sNone) ∧ Below w.heap.size w w' := by
  go_enter Tryz.func101, Tryz.ntmps101
  go_wp2_with fail
  go_ret
  exact ⟨rfl, Below.refl _ _⟩
theorem cFound_some (ra : Option Addr) (rn rc : Nat) (x : List M.Val) (w : World) (hu : IsVals w (.slice ra rn rc) x) (hT : Tab w) (hx : M.likeF x = 0) : Calls Tryz.prog 101 #[.slice ra rn rc, .nilIface] w fun e w' => e = .returned (.string (M.line x)) ∧ Below w.heap.size w w' := by
  have HP := hide (cPrinted _ x w hu hT hx)
  generalize M.line x = y at *
  clear hu hT hx
  go_enter Tryz.func101, Tryz.ntmps101
  go_wp2_with fail
  refine (unhide HP).mono ?_
  rintro e w1 ⟨rfl, hb1⟩
  have HB1 := hide hb1
  clear hb1
  go_wp2_with fail
  go_ret
  exact ⟨rfl, HB1.out⟩

section
variable {base : Nat} {w : World} {C S B : Nat} {v rv : Value} {l : List (List M.Val)} {g : Int → Int × ByteArray} {m : Int} {k : Nat} {R : List M.Rul} {who seq deed : Int} {a : Option Addr} {n cp : Nat} {t : List M.Val}

/-- a Put: there is room, or there is none -/
theorem cAns_put (h : Cp base w C S B v rv l g m k R) (hL : M.Fine l) (hE : M.rulE R = 0) (hv : IsVals w (.slice a n cp) t) (hb : M.askB who 0 = true) (s0 : ByteArray) (hs : s0 = if M.putF l t = 0 then M.sOk else M.sFull) :
    Calls Tryz.prog 60 #[.pointer (some ⟨C, 0, none⟩), aggA who seq 0 a n cp] w fun e w' => e = .returned (.string s0) ∧ ∃ v', Cp base w' C S B v' rv (M.putL l t) g m k R ∧ Tch (cpF C S B v rv) w w' ∧ Grows w (cpF C S B v rv) (cpF C S B v' rv) := by
  have HB : Hid (∀ o, Below w.heap.size w (w.alloc o)) := hide fun o => (Below.refl _ _).alloc (Nat.le_refl _) o
  have HX : Hid (AskBox (w.alloc (.cells #[.int .i64 who, .int .i64 seq, .int .i64 0, .slice a n cp] 38)) w.heap.size who seq 0 a n cp) := hide (AskBox.new (Below.refl _ _))
  have HC := hide h
  have HP := hide ((h.act hL hE hv hb).put)
  have HS : Hid (s0 = if M.putF l t = 0 then M.sOk else M.sFull) := hide hs
  obtain ⟨b0, b1, b2, b3, bn⟩ := HX.out.cells
  obtain ⟨c0, c1, c2, c3, cn, _⟩ := (HC.out.quiet (HB.out (.cells #[.int .i64 who, .int .i64 seq, .int .i64 0, .slice a n cp] 38))).cells
  clear h hL hE hv hb hs
  by_cases hp : M.putF l t = 0
  · have HS2 : s0 = M.sOk := by rw [HS.out, if_pos hp]
    have HPP : Hid (∀ wx, Below w.heap.size w wx → Calls Tryz.prog 53 #[.pointer (some ⟨S, 0, none⟩), .slice a n cp] wx fun e w' => e = .returned .nilIface ∧ ∃ v', Space base w' S v' (M.putL l t) ∧ Touch S v wx w' ∧ Near wx v v') := hide fun wx hw => by
      have := HP.out wx hw
      rwa [hp] at this
    clear hp HP HS
    subst HS2
    go_enter Tryz.func60, Tryz.ntmps60
    go_wp2_with fail
    go_region_held3 (fun w' => w'.cell? ⟨C, 1, none⟩ = some (.pointer (some ⟨S, 0, none⟩)) ∧ w'.cell? ⟨w.heap.size, 3, none⟩ = some (.slice a n cp)) (first | go_keep | assumption)
      (first
        | (go_at_call 53; refine (HPP.out _ (HB.out _).drew).mono ?_; rintro e w3 ⟨rfl, v3, hs3, ht3, hn3⟩; have HN3 := hide ((HC.out.quiet (HB.out (.cells #[.int .i64 who, .int .i64 seq, .int .i64 0, .slice a n cp] 38)).drew).space hs3 ht3 hn3); have z1 := HN3.out.1.cells.2.1; have z3 : w3.cell? ⟨w.heap.size, 3, none⟩ = some (.slice a n cp) := (AskBox.cells (w := w3) ((ht3.block _ (heap_lt HX.out) ((HC.out.quiet (HB.out (.cells #[.int .i64 who, .int .i64 seq, .int .i64 0, .slice a n cp] 38)).drew).sp.other (w := (w.alloc (.cells #[.int .i64 who, .int .i64 seq, .int .i64 0, .slice a n cp] 38)).drew) HX.out (by decide) (by decide)).1 ((HC.out.quiet (HB.out (.cells #[.int .i64 who, .int .i64 seq, .int .i64 0, .slice a n cp] 38)).drew).sp.other (w := (w.alloc (.cells #[.int .i64 who, .int .i64 seq, .int .i64 0, .slice a n cp] 38)).drew) HX.out (by decide) (by decide)).2).trans HX.out)).2.2.2.1; clear hs3 ht3 hn3))
    go_wp2_with fail
    go_ret
    exact ⟨rfl, v3, HN3.out.1, HN3.out.2.1.after (HB.out _).drew, fun i hi => (HN3.out.2.2 i hi).imp id (fun q => Nat.le_trans (HB.out _).drew.size q)⟩
  · have HS2 : s0 = M.sFull := by rw [HS.out, if_neg hp]
    have HPP : Hid (∀ wx, Below w.heap.size w wx → Calls Tryz.prog 53 #[.pointer (some ⟨S, 0, none⟩), .slice a n cp] wx fun e w' => e = .returned (.iface 87 (.int .i64 (M.putF l t))) ∧ ∃ v', Space base w' S v' (M.putL l t) ∧ Touch S v wx w' ∧ Near wx v v') := hide fun wx hw => by
      have := HP.out wx hw
      rwa [errV_bad hp] at this
    generalize M.putF l t = E at *
    clear hp HP HS
    subst HS2
    go_enter Tryz.func60, Tryz.ntmps60
    go_wp2_with fail
    go_region_held3 (fun w' => w'.cell? ⟨C, 1, none⟩ = some (.pointer (some ⟨S, 0, none⟩)) ∧ w'.cell? ⟨w.heap.size, 3, none⟩ = some (.slice a n cp)) (first | go_keep | assumption)
      (first
        | (go_at_call 53; refine (HPP.out _ (HB.out _).drew).mono ?_; rintro e w3 ⟨rfl, v3, hs3, ht3, hn3⟩; have HN3 := hide ((HC.out.quiet (HB.out (.cells #[.int .i64 who, .int .i64 seq, .int .i64 0, .slice a n cp] 38)).drew).space hs3 ht3 hn3); have z1 := HN3.out.1.cells.2.1; have z3 : w3.cell? ⟨w.heap.size, 3, none⟩ = some (.slice a n cp) := (AskBox.cells (w := w3) ((ht3.block _ (heap_lt HX.out) ((HC.out.quiet (HB.out (.cells #[.int .i64 who, .int .i64 seq, .int .i64 0, .slice a n cp] 38)).drew).sp.other (w := (w.alloc (.cells #[.int .i64 who, .int .i64 seq, .int .i64 0, .slice a n cp] 38)).drew) HX.out (by decide) (by decide)).1 ((HC.out.quiet (HB.out (.cells #[.int .i64 who, .int .i64 seq, .int .i64 0, .slice a n cp] 38)).drew).sp.other (w := (w.alloc (.cells #[.int .i64 who, .int .i64 seq, .int .i64 0, .slice a n cp] 38)).drew) HX.out (by decide) (by decide)).2).trans HX.out)).2.2.2.1; clear hs3 ht3 hn3))
    go_wp2_with fail
    go_ret
    exact ⟨rfl, v3, HN3.out.1, HN3.out.2.1.after (HB.out _).drew, fun i hi => (HN3.out.2.2 i hi).imp id (fun q => Nat.le_trans (HB.out _).drew.size q)⟩

/-- a Read -/
theorem cAns_read (h : Cp base w C S B v rv l g m k R) (hL : M.Fine l) (hE : M.rulE R = 0) (hv : IsVals w (.slice a n cp) t) (hb : M.askB who 1 = true) (hT : TabFrom base w) (s0 : ByteArray) (hs : s0 = if M.getF t l = 0 then M.line (M.getV t l) else M.sNone) :
    Calls Tryz.prog 60 #[.pointer (some ⟨C, 0, none⟩), aggA who seq 1 a n cp] w fun e w' => e = .returned (.string s0) ∧ Below w.heap.size w w' := by
  have HB : Hid (∀ o, Below w.heap.size w (w.alloc o)) := hide fun o => (Below.refl _ _).alloc (Nat.le_refl _) o
  have HX : Hid (AskBox (w.alloc (.cells #[.int .i64 who, .int .i64 seq, .int .i64 1, .slice a n cp] 38)) w.heap.size who seq 1 a n cp) := hide (AskBox.new (Below.refl _ _))
  have HC := hide h
  have HTT := hide hT
  have HRD : Hid (∀ wx, Below w.heap.size w wx → Calls Tryz.prog 102 #[.pointer (some ⟨S, 0, none⟩), .slice a n cp] wx fun e w' => ∃ ra rn rc, e = .returned (.tuple #[.slice ra rn rc, errV (M.getF t l)]) ∧ IsVals w' (.slice ra rn rc) (M.getV t l) ∧ Below wx.heap.size wx w') := hide fun wx hw => by
    refine ((h.act hL hE hv hb).read wx hw).mono ?_
    rintro e w' ⟨r, rfl, q1, q2⟩
    obtain ⟨ra, rn, rc, rfl⟩ := q1.vals.isSlice
    exact ⟨ra, rn, rc, rfl, q1.vals, q2⟩
  have HFD : Hid (∀ wx ra rn rc, IsVals wx (.slice ra rn rc) (M.getV t l) → Tab wx → Calls Tryz.prog 101 #[.slice ra rn rc, errV (M.getF t l)] wx fun e w' => e = .returned (.string s0) ∧ Below wx.heap.size wx w') := hide fun wx ra rn rc hu ht => by
    by_cases hg : M.getF t l = 0
    · rw [hs, hg, if_pos rfl]
      exact cFound_some ra rn rc _ wx hu ht (M.tupF_like (M.getV_tup hL hg))
    · rw [hs, if_neg hg, errV_bad hg]
      exact cFound_none ra rn rc _ wx
  generalize errV (M.getF t l) = EV at *
  obtain ⟨b0, b1, b2, b3, bn⟩ := HX.out.cells
  obtain ⟨c0, c1, c2, c3, cn, _⟩ := (HC.out.quiet (HB.out (.cells #[.int .i64 who, .int .i64 seq, .int .i64 1, .slice a n cp] 38))).cells
  clear h hL hE hv hb hs hT
  go_enter Tryz.func60, Tryz.ntmps60
  go_wp2_with fail
  go_region_held3 (fun w' => w'.cell? ⟨C, 1, none⟩ = some (.pointer (some ⟨S, 0, none⟩)) ∧ w'.cell? ⟨w.heap.size, 3, none⟩ = some (.slice a n cp)) (first | go_keep | assumption)
    (first
      | (go_at_call 102; refine (HRD.out _ (HB.out _).drew).mono ?_; rintro e w1 ⟨ra, rn, rc, rfl, hr, hb1⟩; have HR := hide hr; have HB1 := hide ((HB.out (.cells #[.int .i64 who, .int .i64 seq, .int .i64 1, .slice a n cp] 38)).drew.trans (hb1.mono (HB.out _).drew.size)); have HX1 := hide (AskBox.below (w := (w.alloc (.cells #[.int .i64 who, .int .i64 seq, .int .i64 1, .slice a n cp] 38)).drew) HX.out hb1); obtain ⟨t0, t1, t2, t3, tn⟩ := HX1.out.cells; obtain ⟨r0, r1, r2, r3, rn3, _⟩ := (HC.out.quiet HB1.out).cells; clear hb1 hr)
      | (go_at_call 101; refine (HFD.out _ _ _ _ HR.out (HTT.out _ (HB1.out.mono HC.out.base_le))).mono ?_; rintro e w2 ⟨rfl, hb2⟩; have HB2 := hide (HB1.out.trans (hb2.mono HB1.out.size)); obtain ⟨y0, y1, y2, y3, yn⟩ := (HX1.out.below hb2).cells; obtain ⟨z0, z1, z2, z3, zn, _⟩ := (HC.out.quiet HB2.out).cells; clear hb2))
  go_wp2_with fail
  go_ret
  exact ⟨rfl, HB2.out⟩

/-- a Take -/
theorem cAns_take (h : Cp base w C S B v rv l g m k R) (hL : M.Fine l) (hE : M.rulE R = 0) (hv : IsVals w (.slice a n cp) t) (hb : M.askB who 2 = true) (hT : TabFrom base w) (s0 : ByteArray) (hs : s0 = if M.getF t l = 0 then M.line (M.getV t l) else M.sNone) :
    Calls Tryz.prog 60 #[.pointer (some ⟨C, 0, none⟩), aggA who seq 2 a n cp] w fun e w' => e = .returned (.string s0) ∧ ∃ v', Cp base w' C S B v' rv (M.lessL t l) g m k R ∧ Tch (cpF C S B v rv) w w' ∧ Grows w (cpF C S B v rv) (cpF C S B v' rv) := by
  have HB : Hid (∀ o, Below w.heap.size w (w.alloc o)) := hide fun o => (Below.refl _ _).alloc (Nat.le_refl _) o
  have HX : Hid (AskBox (w.alloc (.cells #[.int .i64 who, .int .i64 seq, .int .i64 2, .slice a n cp] 38)) w.heap.size who seq 2 a n cp) := hide (AskBox.new (Below.refl _ _))
  have HC := hide h
  have HTT := hide hT
  have HTK : Hid (∀ wx, Below w.heap.size w wx → Calls Tryz.prog 54 #[.pointer (some ⟨S, 0, none⟩), .slice a n cp] wx fun e w' => ∃ ra rn rc v', e = .returned (.tuple #[.slice ra rn rc, errV (M.getF t l)]) ∧ IsVals w' (.slice ra rn rc) (M.getV t l) ∧ Space base w' S v' (M.lessL t l) ∧ Touch S v wx w' ∧ Near wx v v') := hide fun wx hw => by
    refine ((h.act hL hE hv hb).take wx hw).mono ?_
    rintro e w' ⟨r, v', rfl, q1, q2⟩
    obtain ⟨ra, rn, rc, rfl⟩ := q1.isSlice
    exact ⟨ra, rn, rc, v', rfl, q1, q2⟩
  have HFD : Hid (∀ wx ra rn rc, IsVals wx (.slice ra rn rc) (M.getV t l) → Tab wx → Calls Tryz.prog 101 #[.slice ra rn rc, errV (M.getF t l)] wx fun e w' => e = .returned (.string s0) ∧ Below wx.heap.size wx w') := hide fun wx ra rn rc hu ht => by
    by_cases hg : M.getF t l = 0
    · rw [hs, hg, if_pos rfl]
      exact cFound_some ra rn rc _ wx hu ht (M.tupF_like (M.getV_tup hL hg))
    · rw [hs, if_neg hg, errV_bad hg]
      exact cFound_none ra rn rc _ wx
  have HTW : Hid (∀ w3, Tch (cpF C S B v rv) (w.alloc (.cells #[.int .i64 who, .int .i64 seq, .int .i64 2, .slice a n cp] 38)).drew w3 → Tab w3) := hide fun w3 h3 => by
    have hc0 := h.quiet (HB.out (.cells #[.int .i64 who, .int .i64 seq, .int .i64 2, .slice a n cp] 38)).drew
    exact hT _ (((HB.out (.cells #[.int .i64 who, .int .i64 seq, .int .i64 2, .slice a n cp] 38)).drew.mono h.base_le).trans (h3.below hc0.lows hc0.base_le))
  generalize errV (M.getF t l) = EV at *
  obtain ⟨b0, b1, b2, b3, bn⟩ := HX.out.cells
  obtain ⟨c0, c1, c2, c3, cn, _⟩ := (HC.out.quiet (HB.out (.cells #[.int .i64 who, .int .i64 seq, .int .i64 2, .slice a n cp] 38))).cells
  clear h hL hE hv hb hs hT
  go_enter Tryz.func60, Tryz.ntmps60
  go_wp2_with fail
  go_region_held3 (fun w' => w'.cell? ⟨C, 1, none⟩ = some (.pointer (some ⟨S, 0, none⟩)) ∧ w'.cell? ⟨w.heap.size, 3, none⟩ = some (.slice a n cp)) (first | go_keep | assumption)
    (first
      | (go_at_call 54; refine (HTK.out _ (HB.out _).drew).mono ?_; rintro e w3 ⟨ra, rn, rc, v3, rfl, hr3, hs3, ht3, hn3⟩; have HR3 := hide hr3; have HN3 := hide ((HC.out.quiet (HB.out (.cells #[.int .i64 who, .int .i64 seq, .int .i64 2, .slice a n cp] 38)).drew).space hs3 ht3 hn3); have z1 := HN3.out.1.cells.2.1; have HX3 : Hid (AskBox w3 w.heap.size who seq 2 a n cp) := hide ((ht3.block _ (heap_lt HX.out) ((HC.out.quiet (HB.out (.cells #[.int .i64 who, .int .i64 seq, .int .i64 2, .slice a n cp] 38)).drew).sp.other (w := (w.alloc (.cells #[.int .i64 who, .int .i64 seq, .int .i64 2, .slice a n cp] 38)).drew) HX.out (by decide) (by decide)).1 ((HC.out.quiet (HB.out (.cells #[.int .i64 who, .int .i64 seq, .int .i64 2, .slice a n cp] 38)).drew).sp.other (w := (w.alloc (.cells #[.int .i64 who, .int .i64 seq, .int .i64 2, .slice a n cp] 38)).drew) HX.out (by decide) (by decide)).2).trans HX.out); have z3 := HX3.out.cells.2.2.2.1; have HT3 : Hid (Tab w3) := hide (HTW.out w3 HN3.out.2.1); clear hs3 ht3 hn3 hr3)
      | (go_at_call 101; refine (HFD.out _ _ _ _ HR3.out HT3.out).mono ?_; rintro e w4 ⟨rfl, hb4⟩; have HB4 := hide hb4; have y3 := (HX3.out.below hb4).cells.2.2.2.1; have y1 := (HN3.out.1.quiet hb4).cells.2.1; clear hb4))
  go_wp2_with fail
  go_ret
  exact ⟨rfl, v3, HN3.out.1.quiet HB4.out, (HN3.out.2.1.after (HB.out _).drew).then HB4.out, fun i hi => (HN3.out.2.2 i hi).imp id (fun q => Nat.le_trans (HB.out _).drew.size q)⟩

/-- what is done -/
theorem cAns (h : Cp base w C S B v rv l g m k R) (hL : M.Fine l) (hE : M.rulE R = 0) (x : M.Ask) (hv : IsVals w (.slice a n cp) x.t) (hf : M.askF x = 0) (hT : TabFrom base w) :
    Calls Tryz.prog 60 #[.pointer (some ⟨C, 0, none⟩), aggA x.who x.seq x.deed a n cp] w fun e w' => e = .returned (.string (M.deedS l x)) ∧ ∃ v', Cp base w' C S B v' rv (M.deedL l x) g m k R ∧ Tch (cpF C S B v rv) w w' ∧ Grows w (cpF C S B v rv) (cpF C S B v' rv) := by
  obtain ⟨who, seq, deed, t⟩ := x
  obtain ⟨a1, a2, a3⟩ := M.askF_ok hf
  simp only at hv a1 a2 ⊢
  have hb : M.askB who deed = true := decide_eq_true ⟨a1.1, a1.2, a2.1, a2.2⟩
  unfold M.deedS M.deedL
  simp only
  by_cases h0 : deed = 0
  · subst h0
    rw [if_pos rfl, if_pos rfl]
    exact cAns_put h hL hE hv hb _ rfl
  · rw [if_neg h0, if_neg h0]
    by_cases h2 : deed = 2
    · subst h2
      rw [if_pos rfl]
      exact cAns_take h hL hE hv hb hT _ rfl
    · have h1 : deed = 1 := by omega
      subst h1
      rw [if_neg (show ¬ (1 : Int) = 2 by decide)]
      refine (cAns_read h hL hE hv hb hT _ rfl).mono ?_
      rintro e w' ⟨rfl, hbl⟩
      exact ⟨rfl, v, h.quiet hbl, Tch.of_below hbl, Grows.refl _ _⟩
end

end Go.Proofs.YtlefhfmckimlaakGreatDoor
