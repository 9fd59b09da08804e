/-
  What Do of the document's own copy does where it is the next one's turn, as one law of its call.
-/
import Derived.Test.YtlefhfmckimlaakGreatDoorJRc
set_option linter.unusedVariables false
namespace Go.Proofs.YtlefhfmckimlaakGreatDoor
open Go.RowKit
attribute [local go_sem ↓] Go.wp_at_zero Go.wp_at_succ

theorem infoDn : (Tryz.prog.info? 106).map (fun i => (i.zero, i.size, i.bytes)) = some (some (.agg #[.int .i64 0, .int .i64 0, .string ⟨#[]⟩]), 3, 32) := by kernel_rfl
theorem Rc.shape {w0 w : World} {C S : Nat} {u dv rv : Value} {K : List (List M.Val)} {D : List M.Dn} {n : Int} (h : Rc w0 w C S u dv rv K D n) : ∃ ao cap, dv = .slice ao D.length cap := by
  rcases h.row.2 with ⟨hv, hn⟩ | ⟨g, cap, cur, hv, _⟩
  · exact ⟨none, 0, by rw [hv, hn]⟩
  · exact ⟨_, cap, hv⟩

section
variable {w0 w : World} {C S : Nat} {u dv : Value} {ra : Option Addr} {rn rc : Nat} {c : M.Cop} {D : List M.Dn} {R : List M.Rul} {who seq deed : Int} {a : Option Addr} {n cp : Nat} {l : List M.Val}

/-- may it be done: the document's answer -/
theorem RcIs.may (h : RcIs w0 w C S u dv ra rn rc c D R) {t : Value} {x : List M.Val} {wx : World} (hx : M.tupF x = 0) (ht : IsVals w0 t x) (hb : Below w.heap.size w wx) (ha : M.askB who deed = true) :
    Calls Tryz.prog 47 #[.slice ra rn rc, .int .i64 who, .int .i64 deed, t] wx fun e w' => e = .returned (.bool (M.mayR R who deed x)) ∧ Below wx.heap.size wx w' := by
  have hbw := h.rc.bel.trans (hb.mono h.rc.bel.size)
  exact refMay ra rn rc R who deed t x wx h.many (h.rules.stays hbw (Nat.le_refl _)) (by rw [M.mayE_tup h.fine ha]; exact hx) (ht.stays hbw (Nat.le_refl _))
theorem askB_of {who seq deed : Int} {l : List M.Val} (hf : M.askF ⟨who, seq, deed, l⟩ = 0) : M.askB who deed = true := by
  obtain ⟨h1, h2, _⟩ := M.askF_ok hf
  exact decide_eq_true ⟨h1.1, h1.2, h2.1, h2.2⟩
theorem tup_of {who seq : Int} {l : List M.Val} (hf : M.askF ⟨who, seq, 0, l⟩ = 0) : M.tupF l = 0 := by
  rw [M.askF_put (a := ⟨who, seq, 0, l⟩) ?_ rfl] at hf
  · exact hf
  · intro e
    rw [M.askF_range (a := ⟨who, seq, 0, l⟩) e] at hf
    exact absurd hf (by decide)

theorem rDo_deniedPut (h : RcIs w0 w C S u dv ra rn rc c D R) (hv : IsVals w0 (.slice a n cp) l) (hf : M.askF ⟨who, (c.g who).1 + 1, 0, l⟩ = 0) (hn : c.n ≤ 1000) (hm : M.mayR R who 0 l = false) :
    Calls Tryz.prog 20 #[.pointer (some ⟨C, 0, none⟩), aggA who ((c.g who).1 + 1) 0 a n cp] w fun e w' => e = .returned (.tuple #[.string M.sNo, .int .i64 8]) ∧ Below w.heap.size w w' := by
  have HB : Hid (∀ o, Below w.heap.size w (w.alloc o)) := hide fun o => (Below.refl _ _).alloc (Nat.le_refl _) o
  have HP := hide (h.pre hv hf hn)
  have HM : Hid (∀ wx, Below w.heap.size w wx → Calls Tryz.prog 47 #[.slice ra rn rc, .int .i64 who, .int .i64 0, .slice a n cp] wx fun e w' => e = .returned (.bool false) ∧ Below wx.heap.size wx w') := hide fun wx hb => by
    have := h.may (who := who) (deed := 0) (tup_of hf) hv hb (askB_of hf)
    rwa [hm] at this
  have HRC := hide h.rc
  have g1 := h.ok.lo who
  have g3 : (c.g who).1 ≤ 1000 := by have := h.ok.hi who; omega
  generalize (c.g who).1 = G1 at *
  generalize (c.g who).2 = G2 at *
  have hz : (G1 + 1 == G1) = false := by simp; omega
  clear hf hv h hm
  go_enter Tryz.func20, Tryz.ntmps20
  go_wp2_with fail
  refine (HP.out.ask _ (HB.out _)).mono ?_
  rintro e w1 ⟨rfl, hb1⟩
  have HX1 := hide (AskBox.new hb1)
  have HB1 := hide ((HB.out (.cells #[.int .i64 who, .int .i64 (G1 + 1), .int .i64 0, .slice a n cp] 38)).trans (hb1.mono (by simp)))
  obtain ⟨b0, b1, b2, b3, bn⟩ := HX1.out.cells
  clear hb1
  go_wp2_with fail
  refine (HP.out.last _ HB1.out).mono ?_
  rintro e w2 ⟨rfl, hb2⟩
  have HX2 := hide (HX1.out.below hb2)
  obtain ⟨d0, d1, d2, d3, dn⟩ := HX2.out.cells
  have HB2 := hide (HB1.out.trans (hb2.mono HB1.out.size))
  obtain ⟨q0, q1, q2, q3, qn, _⟩ := (HRC.out.quiet HB2.out).cells
  clear hb2 b0 b1 b2 b3 bn
  go_wp2_with fail
  go_region_held3 (fun w' => w'.cell? ⟨C, 0, none⟩ = some (.slice ra rn rc) ∧ w'.cell? ⟨w.heap.size, 0, none⟩ = some (.int .i64 who) ∧ w'.cell? ⟨w.heap.size, 3, none⟩ = some (.slice a n cp)) (first | go_keep | assumption)
    (first
      | (go_at_call 47; refine (HM.out _ HB2.out.drew).mono ?_; rintro e w3 ⟨rfl, hb3⟩; have HX3 := hide (AskBox.below (w := w2.drew) HX2.out hb3); have HB3 := hide (HB2.out.drew.trans (hb3.mono HB2.out.drew.size)); obtain ⟨t0, t1, t2, t3, tn⟩ := HX3.out.cells; obtain ⟨r0, r1, r2, r3, rn3, _⟩ := (HRC.out.quiet HB3.out).cells; clear hb3))
  go_wp2_with fail
  go_ret2
  exact ⟨rfl, HB3.out⟩

theorem rDo_deniedGet (h : RcIs w0 w C S u dv ra rn rc c D R) (hv : IsVals w0 (.slice a n cp) l) (hf : M.askF ⟨who, (c.g who).1 + 1, deed, l⟩ = 0) (hn : c.n ≤ 1000) (hd : deed ≠ 0) (hg : M.getF l c.l = 0) (hm : M.mayR R who deed (M.getV l c.l) = false) :
    Calls Tryz.prog 20 #[.pointer (some ⟨C, 0, none⟩), aggA who ((c.g who).1 + 1) deed a n cp] w fun e w' => e = .returned (.tuple #[.string M.sNo, .int .i64 8]) ∧ Below w.heap.size w w' := by
  have HB : Hid (∀ o, Below w.heap.size w (w.alloc o)) := hide fun o => (Below.refl _ _).alloc (Nat.le_refl _) o
  have HP := hide (h.pre hv hf hn)
  have HM : Hid (∀ wx t, IsVals w0 t (M.getV l c.l) → Below w.heap.size w wx → Calls Tryz.prog 47 #[.slice ra rn rc, .int .i64 who, .int .i64 deed, t] wx fun e w' => e = .returned (.bool false) ∧ Below wx.heap.size wx w') := hide fun wx t ht hb => by
    have := h.may (who := who) (deed := deed) (M.getV_tup h.ok.fine hg) ht hb (askB_of hf)
    rwa [hm] at this
  have HG : Hid (∀ wx, Below w.heap.size w wx → Calls Tryz.prog 49 #[.pointer (some ⟨S, 0, none⟩), .slice a n cp, .bool false] wx fun e w' => ∃ r, e = .returned (.tuple #[r, .int .i64 0]) ∧ IsVals w0 r (M.getV l c.l) ∧ Below wx.heap.size wx w') := hide fun wx hb => by
    have := rget0 w0 S u (.slice a n cp) l c.l wx (h.rc.quiet hb).sp h.ok.fine (h.rc.quiet hb).bel hv
    rwa [hg] at this
  have HRC := hide h.rc
  have g1 := h.ok.lo who
  have g3 : (c.g who).1 ≤ 1000 := by have := h.ok.hi who; omega
  generalize (c.g who).1 = G1 at *
  generalize (c.g who).2 = G2 at *
  have hz : (G1 + 1 == G1) = false := by simp; omega
  have hd0 : (deed == 0) = false := by simpa using hd
  clear hf hv h hm hd hg
  go_enter Tryz.func20, Tryz.ntmps20
  go_wp2_with fail
  refine (HP.out.ask _ (HB.out _)).mono ?_
  rintro e w1 ⟨rfl, hb1⟩
  have HX1 := hide (AskBox.new hb1)
  have HB1 := hide ((HB.out (.cells #[.int .i64 who, .int .i64 (G1 + 1), .int .i64 deed, .slice a n cp] 38)).trans (hb1.mono (by simp)))
  obtain ⟨b0, b1, b2, b3, bn⟩ := HX1.out.cells
  clear hb1
  go_wp2_with fail
  refine (HP.out.last _ HB1.out).mono ?_
  rintro e w2 ⟨rfl, hb2⟩
  have HX2 := hide (HX1.out.below hb2)
  obtain ⟨d0, d1, d2, d3, dn⟩ := HX2.out.cells
  have HB2 := hide (HB1.out.trans (hb2.mono HB1.out.size))
  obtain ⟨q0, q1, q2, q3, qn, _⟩ := (HRC.out.quiet HB2.out).cells
  clear hb2 b0 b1 b2 b3 bn
  go_wp2_with fail
  go_region_held3 (fun w' => w'.cell? ⟨C, 1, none⟩ = some (.pointer (some ⟨S, 0, none⟩)) ∧ w'.cell? ⟨w.heap.size, 3, none⟩ = some (.slice a n cp)) (first | go_keep | assumption)
    (first
      | (go_at_call 49; refine (HG.out _ HB2.out.drew).mono ?_; rintro e w3 ⟨r, rfl, hr, hb3⟩; have HR := hide hr; have HX3 := hide (AskBox.below (w := w2.drew) HX2.out hb3); have HB3 := hide (HB2.out.drew.trans (hb3.mono HB2.out.drew.size)); obtain ⟨t0, t1, t2, t3, tn⟩ := HX3.out.cells; obtain ⟨r0, r1, r2, r3, rn3, _⟩ := (HRC.out.quiet HB3.out).cells; clear hb3 hr))
  clear q0 q1 q2 q3 d0 d1 d2 d3 dn qn
  go_wp2_with fail
  go_region_held3 (fun w' => w'.cell? ⟨C, 0, none⟩ = some (.slice ra rn rc) ∧ w'.cell? ⟨w.heap.size, 0, none⟩ = some (.int .i64 who) ∧ w'.cell? ⟨w.heap.size, 2, none⟩ = some (.int .i64 deed)) (first | go_keep | assumption)
    (first
      | (go_at_call 47; refine (HM.out _ _ HR.out HB3.out.drew).mono ?_; rintro e w4 ⟨rfl, hb4⟩; have HX4 := hide (AskBox.below (w := w3.drew) HX3.out hb4); have HB4 := hide (HB3.out.drew.trans (hb4.mono HB3.out.drew.size)); obtain ⟨d0, d1, d2, d3, dn⟩ := HX4.out.cells; obtain ⟨q0, q1, q2, q3, qn, _⟩ := (HRC.out.quiet HB4.out).cells; clear hb4))
  go_wp2_with fail
  go_ret2
  exact ⟨rfl, HB4.out⟩
end

end Go.Proofs.YtlefhfmckimlaakGreatDoor
