/-
  What Space and allow of package mirror's copy do, and how it prints a tuple: each as one law of its call.
  What answer of package mirror's copy does, with found: each as one law of its call.
-/
import Derived.Test.YtlefhfmckimlaajGreatDoorJ25A
import Derived.Test.YtlefhfmckimlaajGreatDoorJ27A
import Derived.Test.YtlefhfmckimlaajGreatDoorJ28A
import Derived.Test.YtlefhfmckimlaajGreatDoorJ16A
import Derived.Test.YtlefhfmckimlaajGreatDoorRuleFind
import Derived.Deep.RegionHeld3
set_option linter.unusedVariables false
namespace Go.Proofs.YtlefhfmckimlaajGreatDoor
open Go.RowKit
attribute [local go_sem ↓] Go.wp_at_zero Go.wp_at_succ

/-- the library's table is as it was laid, whatever is written from a block on -/
def TabFrom (base : Nat) (w : World) : Prop := ∀ wx, Below base w wx → Tab wx
theorem TabFrom.next {base : Nat} {w w' : World} (h : TabFrom base w) (hb : Below base w w') : TabFrom base w' := fun wx hx => h wx (hb.trans hx)

section
variable {base : Nat} {w w' : World} {C S B : Nat} {v v' rv : Value} {l l' : List (List M.Val)} {g g' : Int → Int × ByteArray} {m m' : Int} {k : Nat} {R : List M.Rul}


/-- the calls of the one deed -/
structure CpAct (base : Nat) (w : World) (C S : Nat) (who deed : Int) (a : Option Addr) (n cp : Nat) (t : List M.Val) (v rv : Value) (l : List (List M.Val)) (R : List M.Rul) : Prop where
  may : ∀ wx u x b, Below w.heap.size w wx → IsVals wx u x → M.tupF x = 0 → M.mayR R who deed x = b → Calls Tryz.prog 97 #[rv, .int .i64 who, .int .i64 deed, u] wx fun e w' => e = .returned (.tuple #[.bool b, .nilIface]) ∧ Below wx.heap.size wx w'
  put : ∀ wx, Below w.heap.size w wx → Calls Tryz.prog 21 #[.pointer (some ⟨S, 0, none⟩), .slice a n cp] wx fun e w' => e = .returned (errV (M.putF l t)) ∧ ∃ v', Space base w' S v' (M.putL l t) ∧ Touch S v wx w' ∧ Near wx v v'
  read : ∀ wx, Below w.heap.size w wx → Calls Tryz.prog 96 #[.pointer (some ⟨S, 0, none⟩), .slice a n cp] wx fun e w' => ∃ r, e = .returned (.tuple #[r, errV (M.getF t l)]) ∧ OwnT wx.heap.size w' r (M.getV t l) ∧ Below wx.heap.size wx w'
  take : ∀ wx, Below w.heap.size w wx → Calls Tryz.prog 22 #[.pointer (some ⟨S, 0, none⟩), .slice a n cp] wx fun e w' => ∃ r v', e = .returned (.tuple #[r, errV (M.getF t l)]) ∧ IsVals w' r (M.getV t l) ∧ Space base w' S v' (M.lessL t l) ∧ Touch S v wx w' ∧ Near wx v v'
theorem Cp.act {who deed : Int} {a : Option Addr} {n cp : Nat} {t : List M.Val} (h : Cp base w C S B v rv l g m k R) (hL : M.Fine l) (hE : M.rulE R = 0) (hv : IsVals w (.slice a n cp) t) (hb : M.askB who deed = true) : CpAct base w C S who deed a n cp t v rv l R := by
  refine ⟨fun wx u x b hw hu hx hm => ?_, fun wx hw => put base S v _ t l wx (h.quiet hw).sp (hv.stays hw (Nat.le_refl _)), fun wx hw => ?_, fun wx hw => ?_⟩
  · obtain ⟨ra, rc, rfl, hR⟩ := (h.quiet hw).rules.at
    have := rMay ra R.length rc R who deed u x wx rfl (by have := (M.rulE_ok hE).1; unfold maxLen; omega) hR hu
    rwa [M.mayE_tup hE hb, hx, hm] at this
  · refine (read base S v _ t l wx (h.quiet hw).sp hL (hv.stays hw (Nat.le_refl _))).mono ?_
    rintro e w' ⟨r, rfl, h1, h2⟩
    exact ⟨r, rfl, h1, h2⟩
  · refine (take base S v _ t l wx (h.quiet hw).sp hL (hv.stays hw (Nat.le_refl _))).mono ?_
    rintro e w' ⟨r, v', rfl, h0, h1, h2, h3⟩
    exact ⟨r, v', rfl, h0.vals, h1, h2, h3⟩

/-- a Put: the rules are asked of the tuple -/
theorem cAllow_put (h : Cp base w C S B v rv l g m k R) (hL : M.Fine l) (hE : M.rulE R = 0) (who seq : Int) (a : Option Addr) (n cp : Nat) (x : List M.Val) (hv : IsVals w (.slice a n cp) x) (hx : M.tupF x = 0) (hb : M.askB who 0 = true) (b : Bool) (hm : M.mayR R who 0 x = b) :
    Calls Tryz.prog 64 #[.pointer (some ⟨C, 0, none⟩), aggA who seq 0 a n cp] w fun e w' => e = .returned (if b then .nilIface else .iface 66 (.int .i64 8)) ∧ Below w.heap.size w w' := by
  have HB : Hid (∀ o, Below w.heap.size w (w.alloc o)) := hide fun o => (Below.refl _ _).alloc (Nat.le_refl _) o
  have HM : Hid (∀ wx, Below w.heap.size w wx → Calls Tryz.prog 97 #[rv, .int .i64 who, .int .i64 0, .slice a n cp] wx fun e w' => e = .returned (.tuple #[.bool b, .nilIface]) ∧ Below wx.heap.size wx w') := hide fun wx hw => (h.act hL hE hv hb).may wx _ x b hw (hv.stays hw (Nat.le_refl _)) hx hm
  have HC := hide h
  obtain ⟨ra, rc, hrv, hR⟩ := h.rules.at
  have HX : Hid (AskBox (w.alloc (.cells #[.int .i64 who, .int .i64 seq, .int .i64 0, .slice a n cp] 55)) w.heap.size who seq 0 a n cp) := hide (AskBox.new (Below.refl _ _))
  subst hrv
  generalize R.length = rn at *
  clear hv hx hE hb hR h hm hL
  obtain ⟨b0, b1, b2, b3, bn⟩ := HX.out.cells
  obtain ⟨c0, c1, c2, c3, cn, _⟩ := (HC.out.quiet (HB.out (.cells #[.int .i64 who, .int .i64 seq, .int .i64 0, .slice a n cp] 55))).cells
  cases b
  all_goals
    go_enter Tryz.func64, Tryz.ntmps64
    go_wp2_with fail
    go_region_held3 (fun w' => w'.cell? ⟨C, 0, none⟩ = some (.slice ra rn rc) ∧ w'.cell? ⟨w.heap.size, 0, none⟩ = some (.int .i64 who) ∧ w'.cell? ⟨w.heap.size, 2, none⟩ = some (.int .i64 0)) (first | go_keep | assumption)
      (first
        | (go_at_call 97; refine (HM.out _ (HB.out _).drew).mono ?_; rintro e w1 ⟨rfl, hb1⟩; have HB1 := hide ((HB.out (.cells #[.int .i64 who, .int .i64 seq, .int .i64 0, .slice a n cp] 55)).drew.trans (hb1.mono (HB.out _).drew.size)); obtain ⟨t0, t1, t2, t3, tn⟩ := (AskBox.below (w := (w.alloc (.cells #[.int .i64 who, .int .i64 seq, .int .i64 0, .slice a n cp] 55)).drew) HX.out hb1).cells; obtain ⟨r0, r1, r2, r3, rn3, _⟩ := (HC.out.quiet HB1.out).cells; clear hb1))
    go_wp2_with fail
    go_ret
    exact ⟨rfl, HB1.out⟩

/-- what is asked for is not there: nothing is denied -/
theorem cAllow_none (h : Cp base w C S B v rv l g m k R) (hL : M.Fine l) (hE : M.rulE R = 0) (who seq deed : Int) (a : Option Addr) (n cp : Nat) (t : List M.Val) (hv : IsVals w (.slice a n cp) t) (hb : M.askB who deed = true) (hd : deed ≠ 0) (hg : M.getF t l ≠ 0) :
    Calls Tryz.prog 64 #[.pointer (some ⟨C, 0, none⟩), aggA who seq deed a n cp] w fun e w' => e = .returned .nilIface ∧ Below w.heap.size w w' := by
  have HB : Hid (∀ o, Below w.heap.size w (w.alloc o)) := hide fun o => (Below.refl _ _).alloc (Nat.le_refl _) o
  have HRD : Hid (∀ wx, Below w.heap.size w wx → Calls Tryz.prog 96 #[.pointer (some ⟨S, 0, none⟩), .slice a n cp] wx fun e w' => ∃ r, e = .returned (.tuple #[r, .iface 66 (.int .i64 (M.getF t l))]) ∧ OwnT wx.heap.size w' r (M.getV t l) ∧ Below wx.heap.size wx w') := hide fun wx hw => by
    have := (h.act hL hE hv hb).read wx hw
    rwa [errV_bad hg] at this
  have HX : Hid (AskBox (w.alloc (.cells #[.int .i64 who, .int .i64 seq, .int .i64 deed, .slice a n cp] 55)) w.heap.size who seq deed a n cp) := hide (AskBox.new (Below.refl _ _))
  have HC := hide h
  have hd0 : (deed == 0) = false := by simpa using hd
  generalize M.getF t l = E at *
  clear h hL hE hv hb hg hd
  obtain ⟨b0, b1, b2, b3, bn⟩ := HX.out.cells
  obtain ⟨c0, c1, c2, c3, cn, _⟩ := (HC.out.quiet (HB.out (.cells #[.int .i64 who, .int .i64 seq, .int .i64 deed, .slice a n cp] 55))).cells
  go_enter Tryz.func64, Tryz.ntmps64
  go_wp2_with fail
  go_region_held3 (fun w' => w'.cell? ⟨C, 1, none⟩ = some (.pointer (some ⟨S, 0, none⟩)) ∧ w'.cell? ⟨w.heap.size, 3, none⟩ = some (.slice a n cp)) (first | go_keep | assumption)
    (first
      | (go_at_call 96; refine (HRD.out _ (HB.out _).drew).mono ?_; rintro e w1 ⟨r, rfl, hr, hb1⟩; have HR := hide hr; have HB1 := hide ((HB.out (.cells #[.int .i64 who, .int .i64 seq, .int .i64 deed, .slice a n cp] 55)).drew.trans (hb1.mono (HB.out _).drew.size)); have HX1 := hide (AskBox.below (w := (w.alloc (.cells #[.int .i64 who, .int .i64 seq, .int .i64 deed, .slice a n cp] 55)).drew) HX.out hb1); obtain ⟨t0, t1, t2, t3, tn⟩ := HX1.out.cells; obtain ⟨r0, r1, r2, r3, rn3, _⟩ := (HC.out.quiet HB1.out).cells; clear hb1 hr))
  go_wp2_with fail
  go_ret
  exact ⟨rfl, HB1.out⟩

/-- what is asked for is there: the rules are asked of what is found -/
theorem cAllow_get (h : Cp base w C S B v rv l g m k R) (hL : M.Fine l) (hE : M.rulE R = 0) (who seq deed : Int) (a : Option Addr) (n cp : Nat) (t : List M.Val) (hv : IsVals w (.slice a n cp) t) (hb : M.askB who deed = true) (hd : deed ≠ 0) (hg : M.getF t l = 0) (b : Bool) (hm : M.mayR R who deed (M.getV t l) = b) :
    Calls Tryz.prog 64 #[.pointer (some ⟨C, 0, none⟩), aggA who seq deed a n cp] w fun e w' => e = .returned (if b then .nilIface else .iface 66 (.int .i64 8)) ∧ Below w.heap.size w w' := by
  have HB : Hid (∀ o, Below w.heap.size w (w.alloc o)) := hide fun o => (Below.refl _ _).alloc (Nat.le_refl _) o
  have HM : Hid (∀ wx u, Below w.heap.size w wx → IsVals wx u (M.getV t l) → Calls Tryz.prog 97 #[rv, .int .i64 who, .int .i64 deed, u] wx fun e w' => e = .returned (.tuple #[.bool b, .nilIface]) ∧ Below wx.heap.size wx w') := hide fun wx u hw hu => (h.act hL hE hv hb).may wx u _ b hw hu (M.getV_tup hL hg) hm
  have HRD : Hid (∀ wx, Below w.heap.size w wx → Calls Tryz.prog 96 #[.pointer (some ⟨S, 0, none⟩), .slice a n cp] wx fun e w' => ∃ ra rn rc, e = .returned (.tuple #[.slice ra rn rc, .nilIface]) ∧ OwnT wx.heap.size w' (.slice ra rn rc) (M.getV t l) ∧ Below wx.heap.size wx w') := hide fun wx hw => by
    have := (h.act hL hE hv hb).read wx hw
    rw [hg] at this
    refine this.mono ?_
    rintro e w' ⟨r, rfl, q1, q2⟩
    obtain ⟨ra, rn, rc, rfl⟩ := q1.vals.isSlice
    exact ⟨ra, rn, rc, rfl, q1, q2⟩
  have HX : Hid (AskBox (w.alloc (.cells #[.int .i64 who, .int .i64 seq, .int .i64 deed, .slice a n cp] 55)) w.heap.size who seq deed a n cp) := hide (AskBox.new (Below.refl _ _))
  have HC := hide h
  obtain ⟨ua, uc, hrv, hR⟩ := h.rules.at
  subst hrv
  have hd0 : (deed == 0) = false := by simpa using hd
  generalize R.length = un at *
  clear h hL hE hv hb hg hd hm hR
  obtain ⟨b0, b1, b2, b3, bn⟩ := HX.out.cells
  obtain ⟨c0, c1, c2, c3, cn, _⟩ := (HC.out.quiet (HB.out (.cells #[.int .i64 who, .int .i64 seq, .int .i64 deed, .slice a n cp] 55))).cells
  cases b
  all_goals
    go_enter Tryz.func64, Tryz.ntmps64
    go_wp2_with fail
    go_region_held3 (fun w' => w'.cell? ⟨C, 1, none⟩ = some (.pointer (some ⟨S, 0, none⟩)) ∧ w'.cell? ⟨w.heap.size, 3, none⟩ = some (.slice a n cp)) (first | go_keep | assumption)
      (first
        | (go_at_call 96; refine (HRD.out _ (HB.out _).drew).mono ?_; rintro e w1 ⟨ra, rn, rc, rfl, hr, hb1⟩; have HR := hide hr; have HB1 := hide ((HB.out (.cells #[.int .i64 who, .int .i64 seq, .int .i64 deed, .slice a n cp] 55)).drew.trans (hb1.mono (HB.out _).drew.size)); have HX1 := hide (AskBox.below (w := (w.alloc (.cells #[.int .i64 who, .int .i64 seq, .int .i64 deed, .slice a n cp] 55)).drew) HX.out hb1); obtain ⟨t0, t1, t2, t3, tn⟩ := HX1.out.cells; obtain ⟨r0, r1, r2, r3, rn3, _⟩ := (HC.out.quiet HB1.out).cells; clear hb1 hr))
    clear b0 b1 b2 b3 bn c0 c1 c2 c3 cn
    go_wp2_with fail
    go_region_held3 (fun w' => w'.cell? ⟨C, 0, none⟩ = some (.slice ua un uc) ∧ w'.cell? ⟨w.heap.size, 0, none⟩ = some (.int .i64 who) ∧ w'.cell? ⟨w.heap.size, 2, none⟩ = some (.int .i64 deed)) (first | go_keep | assumption)
      (first
        | (go_at_call 97; refine (HM.out _ _ HB1.out.drew HR.out.vals).mono ?_; rintro e w2 ⟨rfl, hb2⟩; have HB2 := hide (HB1.out.drew.trans (hb2.mono HB1.out.drew.size)); obtain ⟨y0, y1, y2, y3, yn⟩ := (AskBox.below (w := w1.drew) HX1.out hb2).cells; obtain ⟨z0, z1, z2, z3, zn, _⟩ := (HC.out.quiet HB2.out).cells; clear hb2))
    go_wp2_with fail
    go_ret
    exact ⟨rfl, HB2.out⟩

/-- whether it may be done -/
theorem cAllow (h : Cp base w C S B v rv l g m k R) (hL : M.Fine l) (hE : M.rulE R = 0) (x : M.Ask) (a : Option Addr) (n cp : Nat) (hv : IsVals w (.slice a n cp) x.t) (hf : M.askF x = 0) (b : Bool) (hm : M.allowB R l x = b) :
    Calls Tryz.prog 64 #[.pointer (some ⟨C, 0, none⟩), aggA x.who x.seq x.deed a n cp] w fun e w' => e = .returned (if b then .nilIface else .iface 66 (.int .i64 8)) ∧ Below w.heap.size w w' := by
  obtain ⟨who, seq, deed, t⟩ := x
  obtain ⟨a1, a2, a3⟩ := M.askF_ok hf
  simp only at hv a1 a2 ⊢
  have hb : M.askB who deed = true := decide_eq_true ⟨a1.1, a1.2, a2.1, a2.2⟩
  unfold M.allowB at hm
  simp only at hm
  by_cases hd : deed = 0
  · subst hd
    rw [if_pos rfl] at hm
    rw [M.askF_put (a := ⟨who, seq, 0, t⟩) (by simp only; omega) rfl] at hf
    exact cAllow_put h hL hE who seq a n cp t hv hf hb b hm
  · rw [if_neg hd] at hm
    by_cases hg : M.getF t l = 0
    · rw [if_pos hg] at hm
      exact cAllow_get h hL hE who seq deed a n cp t hv hb hd hg b hm
    · rw [if_neg hg] at hm
      subst hm
      exact cAllow_none h hL hE who seq deed a n cp t hv hb hd hg
end

theorem cPrinted (u : Value) (x : List M.Val) (w : World) (hu : IsVals w u x) (hT : Tab w) (hx : M.likeF x = 0) :
    Calls Tryz.prog 73 #[u] w fun e w' => e = .returned (.string (M.line x)) ∧ Below w.heap.size w w' := by
  have HP : Hid (Calls Tryz.prog 23 #[u] w fun e w' => e = .returned (.tuple #[.string (M.line x), .nilIface]) ∧ Below w.heap.size w w') := hide (by
    have := tprint u _ w hu hT
    rwa [hx, if_pos rfl] at this)
  obtain ⟨ua, un, uc, rfl⟩ := hu.isSlice
  generalize M.line x = y at *
  clear hu hT hx
  go_enter Tryz.func73, Tryz.ntmps73
  go_wp2_with fail
  refine (unhide HP).mono ?_
  rintro e w1 ⟨rfl, hb1⟩
  have HB1 := hide hb1
  clear hb1
  go_wp2_with fail
  go_ret
  exact ⟨rfl, HB1.out⟩

end Go.Proofs.YtlefhfmckimlaajGreatDoor

set_option linter.unusedVariables false
namespace Go.Proofs.YtlefhfmckimlaajGreatDoor
open Go.RowKit
attribute [local go_sem ↓] Go.wp_at_zero Go.wp_at_succ

theorem mayE_yes {L : List M.Rul} {who deed : Int} {t : List M.Val} (h : M.mayR L who deed t = true) : M.mayE L who deed t = 0 := by
  by_cases h0 : M.mayE L who deed t = 0
  · exact h0
  · rw [M.mayR_bad h0] at h; cases h

theorem cFound_none (ra : Option Addr) (rn rc : Nat) (E : Int) (w : World) : Calls Tryz.prog 102 #[.slice ra rn rc, .iface 66 (.int .i64 E)] w fun e w' => e = .returned (.string M.sNone) ∧ Below w.heap.size w w' := by
  go_enter Tryz.func102, Tryz.ntmps102
  go_wp2_with fail
  go_ret
  exact ⟨rfl, Below.refl _ _⟩
theorem cFound_some (ra : Option Addr) (rn rc : Nat) (x : List M.Val) (w : World) (hu : IsVals w (.slice ra rn rc) x) (hT : Tab w) (hx : M.likeF x = 0) : Calls Tryz.prog 102 #[.slice ra rn rc, .nilIface] w fun e w' => e = .returned (.string (M.line x)) ∧ Below w.heap.size w w' := by
  have HP := hide (cPrinted _ x w hu hT hx)
  generalize M.line x = y at *
  clear hu hT hx
  go_enter Tryz.func102, Tryz.ntmps102
  go_wp2_with fail
  refine (unhide HP).mono ?_
  rintro e w1 ⟨rfl, hb1⟩
  have HB1 := hide hb1
  clear hb1
  go_wp2_with fail
  go_ret
  exact ⟨rfl, HB1.out⟩

section
variable {base : Nat} {w : World} {C S B : Nat} {v rv : Value} {l : List (List M.Val)} {g : Int → Int × ByteArray} {m : Int} {k : Nat} {R : List M.Rul} {who seq deed : Int} {a : Option Addr} {n cp : Nat} {t : List M.Val}

/-- a Put: there is room, or there is none -/
theorem cAns_put (h : Cp base w C S B v rv l g m k R) (hL : M.Fine l) (hE : M.rulE R = 0) (hv : IsVals w (.slice a n cp) t) (hb : M.askB who 0 = true) (s0 : ByteArray) (hs : s0 = if M.putF l t = 0 then M.sOk else M.sFull) :
    Calls Tryz.prog 67 #[.pointer (some ⟨C, 0, none⟩), aggA who seq 0 a n cp] w fun e w' => e = .returned (.string s0) ∧ ∃ v', Cp base w' C S B v' rv (M.putL l t) g m k R ∧ Tch (cpF C S B v rv) w w' ∧ Grows w (cpF C S B v rv) (cpF C S B v' rv) := by
  have HB : Hid (∀ o, Below w.heap.size w (w.alloc o)) := hide fun o => (Below.refl _ _).alloc (Nat.le_refl _) o
  have HX : Hid (AskBox (w.alloc (.cells #[.int .i64 who, .int .i64 seq, .int .i64 0, .slice a n cp] 55)) w.heap.size who seq 0 a n cp) := hide (AskBox.new (Below.refl _ _))
  have HC := hide h
  have HP := hide ((h.act hL hE hv hb).put)
  have HS : Hid (s0 = if M.putF l t = 0 then M.sOk else M.sFull) := hide hs
  obtain ⟨b0, b1, b2, b3, bn⟩ := HX.out.cells
  obtain ⟨c0, c1, c2, c3, cn, _⟩ := (HC.out.quiet (HB.out (.cells #[.int .i64 who, .int .i64 seq, .int .i64 0, .slice a n cp] 55))).cells
  clear h hL hE hv hb hs
  by_cases hp : M.putF l t = 0
  · have HS2 : s0 = M.sOk := by rw [HS.out, if_pos hp]
    have HPP : Hid (∀ wx, Below w.heap.size w wx → Calls Tryz.prog 21 #[.pointer (some ⟨S, 0, none⟩), .slice a n cp] wx fun e w' => e = .returned .nilIface ∧ ∃ v', Space base w' S v' (M.putL l t) ∧ Touch S v wx w' ∧ Near wx v v') := hide fun wx hw => by
      have := HP.out wx hw
      rwa [hp] at this
    clear hp HP HS
    subst HS2
    go_enter Tryz.func67, Tryz.ntmps67
    go_wp2_with fail
    go_region_held3 (fun w' => w'.cell? ⟨C, 1, none⟩ = some (.pointer (some ⟨S, 0, none⟩)) ∧ w'.cell? ⟨w.heap.size, 3, none⟩ = some (.slice a n cp)) (first | go_keep | assumption)
      (first
        | (go_at_call 21; refine (HPP.out _ (HB.out _).drew).mono ?_; rintro e w3 ⟨rfl, v3, hs3, ht3, hn3⟩; have HN3 := hide ((HC.out.quiet (HB.out (.cells #[.int .i64 who, .int .i64 seq, .int .i64 0, .slice a n cp] 55)).drew).space hs3 ht3 hn3); have z1 := HN3.out.1.cells.2.1; have z3 : w3.cell? ⟨w.heap.size, 3, none⟩ = some (.slice a n cp) := (AskBox.cells (w := w3) ((ht3.block _ (heap_lt HX.out) ((HC.out.quiet (HB.out (.cells #[.int .i64 who, .int .i64 seq, .int .i64 0, .slice a n cp] 55)).drew).sp.other (w := (w.alloc (.cells #[.int .i64 who, .int .i64 seq, .int .i64 0, .slice a n cp] 55)).drew) HX.out (by decide) (by decide)).1 ((HC.out.quiet (HB.out (.cells #[.int .i64 who, .int .i64 seq, .int .i64 0, .slice a n cp] 55)).drew).sp.other (w := (w.alloc (.cells #[.int .i64 who, .int .i64 seq, .int .i64 0, .slice a n cp] 55)).drew) HX.out (by decide) (by decide)).2).trans HX.out)).2.2.2.1; clear hs3 ht3 hn3))
    go_wp2_with fail
    go_ret
    exact ⟨rfl, v3, HN3.out.1, HN3.out.2.1.after (HB.out _).drew, fun i hi => (HN3.out.2.2 i hi).imp id (fun q => Nat.le_trans (HB.out _).drew.size q)⟩
  · have HS2 : s0 = M.sFull := by rw [HS.out, if_neg hp]
    have HPP : Hid (∀ wx, Below w.heap.size w wx → Calls Tryz.prog 21 #[.pointer (some ⟨S, 0, none⟩), .slice a n cp] wx fun e w' => e = .returned (.iface 66 (.int .i64 (M.putF l t))) ∧ ∃ v', Space base w' S v' (M.putL l t) ∧ Touch S v wx w' ∧ Near wx v v') := hide fun wx hw => by
      have := HP.out wx hw
      rwa [errV_bad hp] at this
    generalize M.putF l t = E at *
    clear hp HP HS
    subst HS2
    go_enter Tryz.func67, Tryz.ntmps67
    go_wp2_with fail
    go_region_held3 (fun w' => w'.cell? ⟨C, 1, none⟩ = some (.pointer (some ⟨S, 0, none⟩)) ∧ w'.cell? ⟨w.heap.size, 3, none⟩ = some (.slice a n cp)) (first | go_keep | assumption)
      (first
        | (go_at_call 21; refine (HPP.out _ (HB.out _).drew).mono ?_; rintro e w3 ⟨rfl, v3, hs3, ht3, hn3⟩; have HN3 := hide ((HC.out.quiet (HB.out (.cells #[.int .i64 who, .int .i64 seq, .int .i64 0, .slice a n cp] 55)).drew).space hs3 ht3 hn3); have z1 := HN3.out.1.cells.2.1; have z3 : w3.cell? ⟨w.heap.size, 3, none⟩ = some (.slice a n cp) := (AskBox.cells (w := w3) ((ht3.block _ (heap_lt HX.out) ((HC.out.quiet (HB.out (.cells #[.int .i64 who, .int .i64 seq, .int .i64 0, .slice a n cp] 55)).drew).sp.other (w := (w.alloc (.cells #[.int .i64 who, .int .i64 seq, .int .i64 0, .slice a n cp] 55)).drew) HX.out (by decide) (by decide)).1 ((HC.out.quiet (HB.out (.cells #[.int .i64 who, .int .i64 seq, .int .i64 0, .slice a n cp] 55)).drew).sp.other (w := (w.alloc (.cells #[.int .i64 who, .int .i64 seq, .int .i64 0, .slice a n cp] 55)).drew) HX.out (by decide) (by decide)).2).trans HX.out)).2.2.2.1; clear hs3 ht3 hn3))
    go_wp2_with fail
    go_ret
    exact ⟨rfl, v3, HN3.out.1, HN3.out.2.1.after (HB.out _).drew, fun i hi => (HN3.out.2.2 i hi).imp id (fun q => Nat.le_trans (HB.out _).drew.size q)⟩

/-- a Read -/
theorem cAns_read (h : Cp base w C S B v rv l g m k R) (hL : M.Fine l) (hE : M.rulE R = 0) (hv : IsVals w (.slice a n cp) t) (hb : M.askB who 1 = true) (hT : TabFrom base w) (s0 : ByteArray) (hs : s0 = if M.getF t l = 0 then M.line (M.getV t l) else M.sNone) :
    Calls Tryz.prog 67 #[.pointer (some ⟨C, 0, none⟩), aggA who seq 1 a n cp] w fun e w' => e = .returned (.string s0) ∧ Below w.heap.size w w' := by
  have HB : Hid (∀ o, Below w.heap.size w (w.alloc o)) := hide fun o => (Below.refl _ _).alloc (Nat.le_refl _) o
  have HX : Hid (AskBox (w.alloc (.cells #[.int .i64 who, .int .i64 seq, .int .i64 1, .slice a n cp] 55)) w.heap.size who seq 1 a n cp) := hide (AskBox.new (Below.refl _ _))
  have HC := hide h
  have HTT := hide hT
  have HRD : Hid (∀ wx, Below w.heap.size w wx → Calls Tryz.prog 96 #[.pointer (some ⟨S, 0, none⟩), .slice a n cp] wx fun e w' => ∃ ra rn rc, e = .returned (.tuple #[.slice ra rn rc, errV (M.getF t l)]) ∧ IsVals w' (.slice ra rn rc) (M.getV t l) ∧ Below wx.heap.size wx w') := hide fun wx hw => by
    refine ((h.act hL hE hv hb).read wx hw).mono ?_
    rintro e w' ⟨r, rfl, q1, q2⟩
    obtain ⟨ra, rn, rc, rfl⟩ := q1.vals.isSlice
    exact ⟨ra, rn, rc, rfl, q1.vals, q2⟩
  have HFD : Hid (∀ wx ra rn rc, IsVals wx (.slice ra rn rc) (M.getV t l) → Tab wx → Calls Tryz.prog 102 #[.slice ra rn rc, errV (M.getF t l)] wx fun e w' => e = .returned (.string s0) ∧ Below wx.heap.size wx w') := hide fun wx ra rn rc hu ht => by
    by_cases hg : M.getF t l = 0
    · rw [hs, hg, if_pos rfl]
      exact cFound_some ra rn rc _ wx hu ht (M.tupF_like (M.getV_tup hL hg))
    · rw [hs, if_neg hg, errV_bad hg]
      exact cFound_none ra rn rc _ wx
  generalize errV (M.getF t l) = EV at *
  obtain ⟨b0, b1, b2, b3, bn⟩ := HX.out.cells
  obtain ⟨c0, c1, c2, c3, cn, _⟩ := (HC.out.quiet (HB.out (.cells #[.int .i64 who, .int .i64 seq, .int .i64 1, .slice a n cp] 55))).cells
  clear h hL hE hv hb hs hT
  go_enter Tryz.func67, Tryz.ntmps67
  go_wp2_with fail
  go_region_held3 (fun w' => w'.cell? ⟨C, 1, none⟩ = some (.pointer (some ⟨S, 0, none⟩)) ∧ w'.cell? ⟨w.heap.size, 3, none⟩ = some (.slice a n cp)) (first | go_keep | assumption)
    (first
      | (go_at_call 96; refine (HRD.out _ (HB.out _).drew).mono ?_; rintro e w1 ⟨ra, rn, rc, rfl, hr, hb1⟩; have HR := hide hr; have HB1 := hide ((HB.out (.cells #[.int .i64 who, .int .i64 seq, .int .i64 1, .slice a n cp] 55)).drew.trans (hb1.mono (HB.out _).drew.size)); have HX1 := hide (AskBox.below (w := (w.alloc (.cells #[.int .i64 who, .int .i64 seq, .int .i64 1, .slice a n cp] 55)).drew) HX.out hb1); obtain ⟨t0, t1, t2, t3, tn⟩ := HX1.out.cells; obtain ⟨r0, r1, r2, r3, rn3, _⟩ := (HC.out.quiet HB1.out).cells; clear hb1 hr)
      | (go_at_call 102; refine (HFD.out _ _ _ _ HR.out (HTT.out _ (HB1.out.mono HC.out.base_le))).mono ?_; rintro e w2 ⟨rfl, hb2⟩; have HB2 := hide (HB1.out.trans (hb2.mono HB1.out.size)); obtain ⟨y0, y1, y2, y3, yn⟩ := (HX1.out.below hb2).cells; obtain ⟨z0, z1, z2, z3, zn, _⟩ := (HC.out.quiet HB2.out).cells; clear hb2))
  go_wp2_with fail
  go_ret
  exact ⟨rfl, HB2.out⟩

/-- a Take -/
theorem cAns_take (h : Cp base w C S B v rv l g m k R) (hL : M.Fine l) (hE : M.rulE R = 0) (hv : IsVals w (.slice a n cp) t) (hb : M.askB who 2 = true) (hT : TabFrom base w) (s0 : ByteArray) (hs : s0 = if M.getF t l = 0 then M.line (M.getV t l) else M.sNone) :
    Calls Tryz.prog 67 #[.pointer (some ⟨C, 0, none⟩), aggA who seq 2 a n cp] w fun e w' => e = .returned (.string s0) ∧ ∃ v', Cp base w' C S B v' rv (M.lessL t l) g m k R ∧ Tch (cpF C S B v rv) w w' ∧ Grows w (cpF C S B v rv) (cpF C S B v' rv) := by
  have HB : Hid (∀ o, Below w.heap.size w (w.alloc o)) := hide fun o => (Below.refl _ _).alloc (Nat.le_refl _) o
  have HX : Hid (AskBox (w.alloc (.cells #[.int .i64 who, .int .i64 seq, .int .i64 2, .slice a n cp] 55)) w.heap.size who seq 2 a n cp) := hide (AskBox.new (Below.refl _ _))
  have HC := hide h
  have HTT := hide hT
  have HTK : Hid (∀ wx, Below w.heap.size w wx → Calls Tryz.prog 22 #[.pointer (some ⟨S, 0, none⟩), .slice a n cp] wx fun e w' => ∃ ra rn rc v', e = .returned (.tuple #[.slice ra rn rc, errV (M.getF t l)]) ∧ IsVals w' (.slice ra rn rc) (M.getV t l) ∧ Space base w' S v' (M.lessL t l) ∧ Touch S v wx w' ∧ Near wx v v') := hide fun wx hw => by
    refine ((h.act hL hE hv hb).take wx hw).mono ?_
    rintro e w' ⟨r, v', rfl, q1, q2⟩
    obtain ⟨ra, rn, rc, rfl⟩ := q1.isSlice
    exact ⟨ra, rn, rc, v', rfl, q1, q2⟩
  have HFD : Hid (∀ wx ra rn rc, IsVals wx (.slice ra rn rc) (M.getV t l) → Tab wx → Calls Tryz.prog 102 #[.slice ra rn rc, errV (M.getF t l)] wx fun e w' => e = .returned (.string s0) ∧ Below wx.heap.size wx w') := hide fun wx ra rn rc hu ht => by
    by_cases hg : M.getF t l = 0
    · rw [hs, hg, if_pos rfl]
      exact cFound_some ra rn rc _ wx hu ht (M.tupF_like (M.getV_tup hL hg))
    · rw [hs, if_neg hg, errV_bad hg]
      exact cFound_none ra rn rc _ wx
  have HTW : Hid (∀ w3, Tch (cpF C S B v rv) (w.alloc (.cells #[.int .i64 who, .int .i64 seq, .int .i64 2, .slice a n cp] 55)).drew w3 → Tab w3) := hide fun w3 h3 => by
    have hc0 := h.quiet (HB.out (.cells #[.int .i64 who, .int .i64 seq, .int .i64 2, .slice a n cp] 55)).drew
    exact hT _ (((HB.out (.cells #[.int .i64 who, .int .i64 seq, .int .i64 2, .slice a n cp] 55)).drew.mono h.base_le).trans (h3.below hc0.lows hc0.base_le))
  generalize errV (M.getF t l) = EV at *
  obtain ⟨b0, b1, b2, b3, bn⟩ := HX.out.cells
  obtain ⟨c0, c1, c2, c3, cn, _⟩ := (HC.out.quiet (HB.out (.cells #[.int .i64 who, .int .i64 seq, .int .i64 2, .slice a n cp] 55))).cells
  clear h hL hE hv hb hs hT
  go_enter Tryz.func67, Tryz.ntmps67
  go_wp2_with fail
  go_region_held3 (fun w' => w'.cell? ⟨C, 1, none⟩ = some (.pointer (some ⟨S, 0, none⟩)) ∧ w'.cell? ⟨w.heap.size, 3, none⟩ = some (.slice a n cp)) (first | go_keep | assumption)
    (first
      | (go_at_call 22; refine (HTK.out _ (HB.out _).drew).mono ?_; rintro e w3 ⟨ra, rn, rc, v3, rfl, hr3, hs3, ht3, hn3⟩; have HR3 := hide hr3; have HN3 := hide ((HC.out.quiet (HB.out (.cells #[.int .i64 who, .int .i64 seq, .int .i64 2, .slice a n cp] 55)).drew).space hs3 ht3 hn3); have z1 := HN3.out.1.cells.2.1; have HX3 : Hid (AskBox w3 w.heap.size who seq 2 a n cp) := hide ((ht3.block _ (heap_lt HX.out) ((HC.out.quiet (HB.out (.cells #[.int .i64 who, .int .i64 seq, .int .i64 2, .slice a n cp] 55)).drew).sp.other (w := (w.alloc (.cells #[.int .i64 who, .int .i64 seq, .int .i64 2, .slice a n cp] 55)).drew) HX.out (by decide) (by decide)).1 ((HC.out.quiet (HB.out (.cells #[.int .i64 who, .int .i64 seq, .int .i64 2, .slice a n cp] 55)).drew).sp.other (w := (w.alloc (.cells #[.int .i64 who, .int .i64 seq, .int .i64 2, .slice a n cp] 55)).drew) HX.out (by decide) (by decide)).2).trans HX.out); have z3 := HX3.out.cells.2.2.2.1; have HT3 : Hid (Tab w3) := hide (HTW.out w3 HN3.out.2.1); clear hs3 ht3 hn3 hr3)
      | (go_at_call 102; refine (HFD.out _ _ _ _ HR3.out HT3.out).mono ?_; rintro e w4 ⟨rfl, hb4⟩; have HB4 := hide hb4; have y3 := (HX3.out.below hb4).cells.2.2.2.1; have y1 := (HN3.out.1.quiet hb4).cells.2.1; clear hb4))
  go_wp2_with fail
  go_ret
  exact ⟨rfl, v3, HN3.out.1.quiet HB4.out, (HN3.out.2.1.after (HB.out _).drew).then HB4.out, fun i hi => (HN3.out.2.2 i hi).imp id (fun q => Nat.le_trans (HB.out _).drew.size q)⟩

/-- what is done -/
theorem cAns (h : Cp base w C S B v rv l g m k R) (hL : M.Fine l) (hE : M.rulE R = 0) (x : M.Ask) (hv : IsVals w (.slice a n cp) x.t) (hf : M.askF x = 0) (hT : TabFrom base w) :
    Calls Tryz.prog 67 #[.pointer (some ⟨C, 0, none⟩), aggA x.who x.seq x.deed a n cp] w fun e w' => e = .returned (.string (M.deedS l x)) ∧ ∃ v', Cp base w' C S B v' rv (M.deedL l x) g m k R ∧ Tch (cpF C S B v rv) w w' ∧ Grows w (cpF C S B v rv) (cpF C S B v' rv) := by
  obtain ⟨who, seq, deed, t⟩ := x
  obtain ⟨a1, a2, a3⟩ := M.askF_ok hf
  simp only at hv a1 a2 ⊢
  have hb : M.askB who deed = true := decide_eq_true ⟨a1.1, a1.2, a2.1, a2.2⟩
  unfold M.deedS M.deedL
  simp only
  by_cases h0 : deed = 0
  · subst h0
    rw [if_pos rfl, if_pos rfl]
    exact cAns_put h hL hE hv hb _ rfl
  · rw [if_neg h0, if_neg h0]
    by_cases h2 : deed = 2
    · subst h2
      rw [if_pos rfl]
      exact cAns_take h hL hE hv hb hT _ rfl
    · have h1 : deed = 1 := by omega
      subst h1
      rw [if_neg (show ¬ (1 : Int) = 2 by decide)]
      refine (cAns_read h hL hE hv hb hT _ rfl).mono ?_
      rintro e w' ⟨rfl, hbl⟩
      exact ⟨rfl, v, h.quiet hbl, Tch.of_below hbl, Grows.refl _ _⟩
end

end Go.Proofs.YtlefhfmckimlaajGreatDoor
