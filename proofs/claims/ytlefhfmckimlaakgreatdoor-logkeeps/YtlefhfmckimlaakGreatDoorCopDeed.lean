/-
  What Space and allow of package mirror's copy do, and how it prints a tuple: each as one law of its call.
-/
import Derived.Test.YtlefhfmckimlaakGreatDoorCopOwn
import Derived.Test.YtlefhfmckimlaakGreatDoorJQue
import Derived.Test.YtlefhfmckimlaakGreatDoorJSpace
import Derived.Test.YtlefhfmckimlaakGreatDoorJPrint
import Derived.Test.YtlefhfmckimlaakGreatDoorJRule
import Derived.Deep.RegionHeld3
set_option linter.unusedVariables false
namespace Go.Proofs.YtlefhfmckimlaakGreatDoor
open Go.RowKit
attribute [local go_sem ↓] Go.wp_at_zero Go.wp_at_succ

/-- the library's table is as it was laid, whatever is written from a block on -/
def TabFrom (base : Nat) (w : World) : Prop := ∀ wx, Below base w wx → Tab wx
theorem TabFrom.next {base : Nat} {w w' : World} (h : TabFrom base w) (hb : Below base w w') : TabFrom base w' := fun wx hx => h wx (hb.trans hx)

section
variable {base : Nat} {w w' : World} {C S B : Nat} {v v' rv : Value} {l l' : List (List M.Val)} {g g' : Int → Int × ByteArray} {m m' : Int} {k : Nat} {R : List M.Rul}


/-- the calls of the one deed -/
structure CpAct (base : Nat) (w : World) (C S : Nat) (who deed : Int) (a : Option Addr) (n cp : Nat) (t : List M.Val) (v rv : Value) (l : List (List M.Val)) (R : List M.Rul) : Prop where
  may : ∀ wx u x b, Below w.heap.size w wx → IsVals wx u x → M.tupF x = 0 → M.mayR R who deed x = b → Calls Tryz.prog 121 #[rv, .int .i64 who, .int .i64 deed, u] wx fun e w' => e = .returned (.tuple #[.bool b, .nilIface]) ∧ Below wx.heap.size wx w'
  put : ∀ wx, Below w.heap.size w wx → Calls Tryz.prog 53 #[.pointer (some ⟨S, 0, none⟩), .slice a n cp] wx fun e w' => e = .returned (errV (M.putF l t)) ∧ ∃ v', Space base w' S v' (M.putL l t) ∧ Touch S v wx w' ∧ Near wx v v'
  read : ∀ wx, Below w.heap.size w wx → Calls Tryz.prog 102 #[.pointer (some ⟨S, 0, none⟩), .slice a n cp] wx fun e w' => ∃ r, e = .returned (.tuple #[r, errV (M.getF t l)]) ∧ OwnT wx.heap.size w' r (M.getV t l) ∧ Below wx.heap.size wx w'
  take : ∀ wx, Below w.heap.size w wx → Calls Tryz.prog 54 #[.pointer (some ⟨S, 0, none⟩), .slice a n cp] wx fun e w' => ∃ r v', e = .returned (.tuple #[r, errV (M.getF t l)]) ∧ IsVals w' r (M.getV t l) ∧ Space base w' S v' (M.lessL t l) ∧ Touch S v wx w' ∧ Near wx v v'
theorem Cp.act {who deed : Int} {a : Option Addr} {n cp : Nat} {t : List M.Val} (h : Cp base w C S B v rv l g m k R) (hL : M.Fine l) (hE : M.rulE R = 0) (hv : IsVals w (.slice a n cp) t) (hb : M.askB who deed = true) : CpAct base w C S who deed a n cp t v rv l R := by
  refine ⟨fun wx u x b hw hu hx hm => ?_, fun wx hw => put base S v _ t l wx (h.quiet hw).sp (hv.stays hw (Nat.le_refl _)), fun wx hw => ?_, fun wx hw => ?_⟩
  · obtain ⟨ra, rc, rfl, hR⟩ := (h.quiet hw).rules.at
    have := rMay ra R.length rc R who deed u x wx rfl (by have := (M.rulE_ok hE).1; unfold maxLen; omega) hR hu
    rwa [M.mayE_tup hE hb, hx, hm] at this
  · refine (read base S v _ t l wx (h.quiet hw).sp hL (hv.stays hw (Nat.le_refl _))).mono ?_
    rintro e w' ⟨r, rfl, h1, h2⟩
    exact ⟨r, rfl, h1, h2⟩
  · refine (take base S v _ t l wx (h.quiet hw).sp hL (hv.stays hw (Nat.le_refl _))).mono ?_
    rintro e w' ⟨r, v', rfl, h0, h1, h2, h3⟩
    exact ⟨r, v', rfl, h0.vals, h1, h2, h3⟩

/-- a Put: the rules are asked of the tuple -/
theorem cAllow_put (h : Cp base w C S B v rv l g m k R) (hL : M.Fine l) (hE : M.rulE R = 0) (who seq : Int) (a : Option Addr) (n cp : Nat) (x : List M.Val) (hv : IsVals w (.slice a n cp) x) (hx : M.tupF x = 0) (hb : M.askB who 0 = true) (b : Bool) (hm : M.mayR R who 0 x = b) :
    Calls Tryz.prog 79 #[.pointer (some ⟨C, 0, none⟩), aggA who seq 0 a n cp] w fun e w' => e = .returned (if b then .nilIface else .iface 87 (.int .i64 8)) ∧ Below w.heap.size w w' := by
  have HB : Hid (∀ o, Below w.heap.size w (w.alloc o)) := hide fun o => (Below.refl _ _).alloc (Nat.le_refl _) o
  have HM : Hid (∀ wx, Below w.heap.size w wx → Calls Tryz.prog 121 #[rv, .int .i64 who, .int .i64 0, .slice a n cp] wx fun e w' => e = .returned (.tuple #[.bool b, .nilIface]) ∧ Below wx.heap.size wx w') := hide fun wx hw => (h.act hL hE hv hb).may wx _ x b hw (hv.stays hw (Nat.le_refl _)) hx hm
  have HC := hide h
  obtain ⟨ra, rc, hrv, hR⟩ := h.rules.at
  have HX : Hid (AskBox (w.alloc (.cells #[.int .i64 who, .int .i64 seq, .int .i64 0, .slice a n cp] 38)) w.heap.size who seq 0 a n cp) := hide (AskBox.new (Below.refl _ _))
  subst hrv
  generalize R.length = rn at *
  clear hv hx hE hb hR h hm hL
  obtain ⟨b0, b1, b2, b3, bn⟩ := HX.out.cells
  obtain ⟨c0, c1, c2, c3, cn, _⟩ := (HC.out.quiet (HB.out (.cells #[.int .i64 who, .int .i64 seq, .int .i64 0, .slice a n cp] 38))).cells
  cases b
  all_goals
    go_enter Tryz.func79, Tryz.ntmps79
    go_wp2_with fail
    go_region_held3 (fun w' => w'.cell? ⟨C, 0, none⟩ = some (.slice ra rn rc) ∧ w'.cell? ⟨w.heap.size, 0, none⟩ = some (.int .i64 who) ∧ w'.cell? ⟨w.heap.size, 2, none⟩ = some (.int .i64 0)) (first | go_keep | assumption)
      (first
        | (go_at_call 121; refine (HM.out _ (HB.out _).drew).mono ?_; rintro e w1 ⟨rfl, hb1⟩; have HB1 := hide ((HB.out (.cells #[.int .i64 who, .int .i64 seq, .int .i64 0, .slice a n cp] 38)).drew.trans (hb1.mono (HB.out _).drew.size)); obtain ⟨t0, t1, t2, t3, tn⟩ := (AskBox.below (w := (w.alloc (.cells #[.int .i64 who, .int .i64 seq, .int .i64 0, .slice a n cp] 38)).drew) HX.out hb1).cells; obtain ⟨r0, r1, r2, r3, rn3, _⟩ := (HC.out.quiet HB1.out).cells; clear hb1))
    go_wp2_with fail
    go_ret
    exact ⟨rfl, HB1.out⟩

/-- what is asked for is not there: nothing is denied -/
theorem cAllow_none (h : Cp base w C S B v rv l g m k R) (hL : M.Fine l) (hE : M.rulE R = 0) (who seq deed : Int) (a : Option Addr) (n cp : Nat) (t : List M.Val) (hv : IsVals w (.slice a n cp) t) (hb : M.askB who deed = true) (hd : deed ≠ 0) (hg : M.getF t l ≠ 0) :
    Calls Tryz.prog 79 #[.pointer (some ⟨C, 0, none⟩), aggA who seq deed a n cp] w fun e w' => e = .returned .nilIface ∧ Below w.heap.size w w' := by
  have HB : Hid (∀ o, Below w.heap.size w (w.alloc o)) := hide fun o => (Below.refl _ _).alloc (Nat.le_refl _) o
  have HRD : Hid (∀ wx, Below w.heap.size w wx → Calls Tryz.prog 102 #[.pointer (some ⟨S, 0, none⟩), .slice a n cp] wx fun e w' => ∃ r, e = .returned (.tuple #[r, .iface 87 (.int .i64 (M.getF t l))]) ∧ OwnT wx.heap.size w' r (M.getV t l) ∧ Below wx.heap.size wx w') := hide fun wx hw => by
    have := (h.act hL hE hv hb).read wx hw
    rwa [errV_bad hg] at this
  have HX : Hid (AskBox (w.alloc (.cells #[.int .i64 who, .int .i64 seq, .int .i64 deed, .slice a n cp] 38)) w.heap.size who seq deed a n cp) := hide (AskBox.new (Below.refl _ _))
  have HC := hide h
  have hd0 : (deed == 0) = false := by simpa using hd
  generalize M.getF t l = E at *
  clear h hL hE hv hb hg hd
  obtain ⟨b0, b1, b2, b3, bn⟩ := HX.out.cells
  obtain ⟨c0, c1, c2, c3, cn, _⟩ := (HC.out.quiet (HB.out (.cells #[.int .i64 who, .int .i64 seq, .int .i64 deed, .slice a n cp] 38))).cells
  go_enter Tryz.func79, Tryz.ntmps79
  go_wp2_with fail
  go_region_held3 (fun w' => w'.cell? ⟨C, 1, none⟩ = some (.pointer (some ⟨S, 0, none⟩)) ∧ w'.cell? ⟨w.heap.size, 3, none⟩ = some (.slice a n cp)) (first | go_keep | assumption)
    (first
      | (go_at_call 102; refine (HRD.out _ (HB.out _).drew).mono ?_; rintro e w1 ⟨r, rfl, hr, hb1⟩; have HR := hide hr; have HB1 := hide ((HB.out (.cells #[.int .i64 who, .int .i64 seq, .int .i64 deed, .slice a n cp] 38)).drew.trans (hb1.mono (HB.out _).drew.size)); have HX1 := hide (AskBox.below (w := (w.alloc (.cells #[.int .i64 who, .int .i64 seq, .int .i64 deed, .slice a n cp] 38)).drew) HX.out hb1); obtain ⟨t0, t1, t2, t3, tn⟩ := HX1.out.cells; obtain ⟨r0, r1, r2, r3, rn3, _⟩ := (HC.out.quiet HB1.out).cells; clear hb1 hr))
  go_wp2_with fail
  go_ret
  exact ⟨rfl, HB1.out⟩

/-- what is asked for is there: the rules are asked of what is found -/
theorem cAllow_get (h : Cp base w C S B v rv l g m k R) (hL : M.Fine l) (hE : M.rulE R = 0) (who seq deed : Int) (a : Option Addr) (n cp : Nat) (t : List M.Val) (hv : IsVals w (.slice a n cp) t) (hb : M.askB who deed = true) (hd : deed ≠ 0) (hg : M.getF t l = 0) (b : Bool) (hm : M.mayR R who deed (M.getV t l) = b) :
    Calls Tryz.prog 79 #[.pointer (some ⟨C, 0, none⟩), aggA who seq deed a n cp] w fun e w' => e = .returned (if b then .nilIface else .iface 87 (.int .i64 8)) ∧ Below w.heap.size w w' := by
  have HB : Hid (∀ o, Below w.heap.size w (w.alloc o)) := hide fun o => (Below.refl _ _).alloc (Nat.le_refl _) o
  have HM : Hid (∀ wx u, Below w.heap.size w wx → IsVals wx u (M.getV t l) → Calls Tryz.prog 121 #[rv, .int .i64 who, .int .i64 deed, u] wx fun e w' => e = .returned (.tuple #[.bool b, .nilIface]) ∧ Below wx.heap.size wx w') := hide fun wx u hw hu => (h.act hL hE hv hb).may wx u _ b hw hu (M.getV_tup hL hg) hm
  have HRD : Hid (∀ wx, Below w.heap.size w wx → Calls Tryz.prog 102 #[.pointer (some ⟨S, 0, none⟩), .slice a n cp] wx fun e w' => ∃ ra rn rc, e = .returned (.tuple #[.slice ra rn rc, .nilIface]) ∧ OwnT wx.heap.size w' (.slice ra rn rc) (M.getV t l) ∧ Below wx.heap.size wx w') := hide fun wx hw => by
    have := (h.act hL hE hv hb).read wx hw
    rw [hg] at this
    refine this.mono ?_
    rintro e w' ⟨r, rfl, q1, q2⟩
    obtain ⟨ra, rn, rc, rfl⟩ := q1.vals.isSlice
    exact ⟨ra, rn, rc, rfl, q1, q2⟩
  have HX : Hid (AskBox (w.alloc (.cells #[.int .i64 who, .int .i64 seq, .int .i64 deed, .slice a n cp] 38)) w.heap.size who seq deed a n cp) := hide (AskBox.new (Below.refl _ _))
  have HC := hide h
  obtain ⟨ua, uc, hrv, hR⟩ := h.rules.at
  subst hrv
  have hd0 : (deed == 0) = false := by simpa using hd
  generalize R.length = un at *
  clear h hL hE hv hb hg hd hm hR
  obtain ⟨b0, b1, b2, b3, bn⟩ := HX.out.cells
  obtain ⟨c0, c1, c2, c3, cn, _⟩ := (HC.out.quiet (HB.out (.cells #[.int .i64 who, .int .i64 seq, .int .i64 deed, .slice a n cp] 38))).cells
  cases b
  all_goals
    go_enter Tryz.func79, Tryz.ntmps79
    go_wp2_with fail
    go_region_held3 (fun w' => w'.cell? ⟨C, 1, none⟩ = some (.pointer (some ⟨S, 0, none⟩)) ∧ w'.cell? ⟨w.heap.size, 3, none⟩ = some (.slice a n cp)) (first | go_keep | assumption)
      (first
        | (go_at_call 102; refine (HRD.out _ (HB.out _).drew).mono ?_; rintro e w1 ⟨ra, rn, rc, rfl, hr, hb1⟩; have HR := hide hr; have HB1 := hide ((HB.out (.cells #[.int .i64 who, .int .i64 seq, .int .i64 deed, .slice a n cp] 38)).drew.trans (hb1.mono (HB.out _).drew.size)); have HX1 := hide (AskBox.below (w := (w.alloc (.cells #[.int .i64 who, .int .i64 seq, .int .i64 deed, .slice a n cp] 38)).drew) HX.out hb1); obtain ⟨t0, t1, t2, t3, tn⟩ := HX1.out.cells; obtain ⟨r0, r1, r2, r3, rn3, _⟩ := (HC.out.quiet HB1.out).cells; clear hb1 hr))
    clear b0 b1 b2 b3 bn c0 c1 c2 c3 cn
    go_wp2_with fail
    go_region_held3 (fun w' => w'.cell? ⟨C, 0, none⟩ = some (.slice ua un uc) ∧ w'.cell? ⟨w.heap.size, 0, none⟩ = some (.int .i64 who) ∧ w'.cell? ⟨w.heap.size, 2, none⟩ = some (.int .i64 deed)) (first | go_keep | assumption)
      (first
        | (go_at_call 121; refine (HM.out _ _ HB1.out.drew HR.out.vals).mono ?_; rintro e w2 ⟨rfl, hb2⟩; have HB2 := hide (HB1.out.drew.trans (hb2.mono HB1.out.drew.size)); obtain ⟨y0, y1, y2, y3, yn⟩ := (AskBox.below (w := w1.drew) HX1.out hb2).cells; obtain ⟨z0, z1, z2, z3, zn, _⟩ := (HC.out.quiet HB2.out).cells; clear hb2))
    go_wp2_with fail
    go_ret
    exact ⟨rfl, HB2.out⟩

/-- whether it may be done -/
theorem cAllow (h : Cp base w C S B v rv l g m k R) (hL : M.Fine l) (hE : M.rulE R = 0) (x : M.Ask) (a : Option Addr) (n cp : Nat) (hv : IsVals w (.slice a n cp) x.t) (hf : M.askF x = 0) (b : Bool) (hm : M.allowB R l x = b) :
    Calls Tryz.prog 79 #[.pointer (some ⟨C, 0, none⟩), aggA x.who x.seq x.deed a n cp] w fun e w' => e = .returned (if b then .nilIface else .iface 87 (.int .i64 8)) ∧ Below w.heap.size w w' := by
  obtain ⟨who, seq, deed, t⟩ := x
  obtain ⟨a1, a2, a3⟩ := M.askF_ok hf
  simp only at hv a1 a2 ⊢
  have hb : M.askB who deed = true := decide_eq_true ⟨a1.1, a1.2, a2.1, a2.2⟩
  unfold M.allowB at hm
  simp only at hm
  by_cases hd : deed = 0
  · subst hd
    rw [if_pos rfl] at hm
    rw [M.askF_put (a := ⟨who, seq, 0, t⟩) (by simp only; omega) rfl] at hf
    exact cAllow_put h hL hE who seq a n cp t hv hf hb b hm
  · rw [if_neg hd] at hm
    by_cases hg : M.getF t l = 0
    · rw [if_pos hg] at hm
      exact cAllow_get h hL hE who seq deed a n cp t hv hb hd hg b hm
    · rw [if_neg hg] at hm
      subst hm
      exact cAllow_none h hL hE who seq deed a n cp t hv hb hd hg
end

theorem cPrinted (u : Value) (x : List M.Val) (w : World) (hu : IsVals w u x) (hT : Tab w) (hx : M.likeF x = 0) :
    Calls Tryz.prog 65 #[u] w fun e w' => e = .returned (.string (M.line x)) ∧ Below w.heap.size w w' := by
  have HP : Hid (Calls Tryz.prog 81 #[u] w fun e w' => e = .returned (.tuple #[.string (M.line x), .nilIface]) ∧ Below w.heap.size w w') := hide (by
    have := tprint u _ w hu hT
    rwa [hx, if_pos rfl] at this)
  obtain ⟨ua, un, uc, rfl⟩ := hu.isSlice
  generalize M.line x = y at *
  clear hu hT hx
  go_enter Tryz.func65, Tryz.ntmps65
  go_wp2_with fail
  refine (unhide HP).mono ?_
  rintro e w1 ⟨rfl, hb1⟩
  have HB1 := hide hb1
  clear hb1
  go_wp2_with fail
  go_ret
  exact ⟨rfl, HB1.out⟩

end Go.Proofs.YtlefhfmckimlaakGreatDoor
