/-
  What put, find and answer of package mirror's copy do, each as one law of its call.
-/
import Derived.Test.YtbkdpbiflljmfaiGreatDoorCopDeed
set_option linter.unusedVariables false
namespace Go.Proofs.YtbkdpbiflljmfaiGreatDoor
open Go.RowKit
attribute [local go_sem ↓] Go.wp_at_zero Go.wp_at_succ

theorem mayE_yes {L : List M.Rul} {who deed : Int} {t : List M.Val} (h : M.mayR L who deed t = true) : M.mayE L who deed t = 0 := by
  by_cases h0 : M.mayE L who deed t = 0
  · exact h0
  · rw [M.mayR_bad h0] at h; cases h

section
variable {base : Nat} {w : World} {C S B : Nat} {v rv : Value} {l : List (List M.Val)} {g : Int → Int × ByteArray} {m : Int} {k : Nat} {R : List M.Rul} {who seq deed : Int} {a : Option Addr} {n cp : Nat} {t : List M.Val}

/-- the calls of the one deed -/
structure CpAct (base : Nat) (w : World) (C S : Nat) (who seq deed : Int) (a : Option Addr) (n cp : Nat) (t : List M.Val) (v : Value) (l : List (List M.Val)) (R : List M.Rul) : Prop where
  may : ∀ wx u x b, Below w.heap.size w wx → IsVals wx u x → M.tupF x = 0 → M.mayR R who deed x = b → Calls Tryz.prog 72 #[.pointer (some ⟨C, 0, none⟩), aggA who seq deed a n cp, u] wx fun e w' => e = .returned (if b then .nilIface else .iface 74 (.int .i64 8)) ∧ Below wx.heap.size wx w'
  put : ∀ wx, Below w.heap.size w wx → Calls Tryz.prog 73 #[.pointer (some ⟨S, 0, none⟩), .slice a n cp] wx fun e w' => e = .returned (errV (M.putF l t)) ∧ ∃ v', Space base w' S v' (M.putL l t) ∧ Touch S v wx w' ∧ Near wx v v'
  read : ∀ wx, Below w.heap.size w wx → Calls Tryz.prog 74 #[.pointer (some ⟨S, 0, none⟩), .slice a n cp] wx fun e w' => ∃ r, e = .returned (.tuple #[r, errV (M.getF t l)]) ∧ OwnT wx.heap.size w' r (M.getV t l) ∧ Below wx.heap.size wx w'
  take : ∀ wx, Below w.heap.size w wx → Calls Tryz.prog 75 #[.pointer (some ⟨S, 0, none⟩), .slice a n cp] wx fun e w' => ∃ r v', e = .returned (.tuple #[r, errV (M.getF t l)]) ∧ IsVals w' r (M.getV t l) ∧ Space base w' S v' (M.lessL t l) ∧ Touch S v wx w' ∧ Near wx v v'
theorem Cp.act (h : Cp base w C S B v rv l g m k R) (hL : M.Fine l) (hE : M.rulE R = 0) (hv : IsVals w (.slice a n cp) t) (hb : M.askB who deed = true) : CpAct base w C S who seq deed a n cp t v l R := by
  refine ⟨fun wx u x b hw hu hx hm => cAllow (h.quiet hw) hE who seq deed a n cp u x hu hx hb b hm, fun wx hw => put base S v _ t l wx (h.quiet hw).sp (hv.stays hw (Nat.le_refl _)), fun wx hw => ?_, fun wx hw => ?_⟩
  · refine (read base S v _ t l wx (h.quiet hw).sp hL (hv.stays hw (Nat.le_refl _))).mono ?_
    rintro e w' ⟨r, rfl, h1, h2⟩
    exact ⟨r, rfl, h1, h2⟩
  · refine (take base S v _ t l wx (h.quiet hw).sp hL (hv.stays hw (Nat.le_refl _))).mono ?_
    rintro e w' ⟨r, v', rfl, h0, h1, h2, h3⟩
    exact ⟨r, v', rfl, h0.vals, h1, h2, h3⟩

/-- answer hands a Put on -/
theorem cAns_put (s E : Value) (Q : World → World → Prop) (H : ∀ wx, Below w.heap.size w wx → Calls Tryz.prog 57 #[.pointer (some ⟨C, 0, none⟩), aggA who seq 0 a n cp] wx fun e w' => e = .returned (.tuple #[s, E]) ∧ Q wx w') :
    Calls Tryz.prog 33 #[.pointer (some ⟨C, 0, none⟩), aggA who seq 0 a n cp] w fun e w' => e = .returned (.tuple #[s, E]) ∧ ∃ wx, Below w.heap.size w wx ∧ Q wx w' := by
  have HB : Hid (∀ o, Below w.heap.size w (w.alloc o)) := hide fun o => (Below.refl _ _).alloc (Nat.le_refl _) o
  have HH := hide H
  clear H
  go_enter Tryz.func33, Tryz.ntmps33
  go_wp2_with fail
  refine (HH.out _ (HB.out _)).mono ?_
  rintro e w1 ⟨rfl, hq⟩
  have HQ := hide hq
  clear hq
  go_wp2_with fail
  go_ret2
  exact ⟨rfl, _, HB.out _, HQ.out⟩
/-- answer hands a Read or a Take on -/
theorem cAns_find (hd : deed ≠ 0) (s E : Value) (Q : World → World → Prop) (H : ∀ wx, Below w.heap.size w wx → Calls Tryz.prog 58 #[.pointer (some ⟨C, 0, none⟩), aggA who seq deed a n cp] wx fun e w' => e = .returned (.tuple #[s, E]) ∧ Q wx w') :
    Calls Tryz.prog 33 #[.pointer (some ⟨C, 0, none⟩), aggA who seq deed a n cp] w fun e w' => e = .returned (.tuple #[s, E]) ∧ ∃ wx, Below w.heap.size w wx ∧ Q wx w' := by
  have HB : Hid (∀ o, Below w.heap.size w (w.alloc o)) := hide fun o => (Below.refl _ _).alloc (Nat.le_refl _) o
  have HH := hide H
  have hd0 : (deed == 0) = false := by simpa using hd
  clear H hd
  go_enter Tryz.func33, Tryz.ntmps33
  go_wp2_with fail
  refine (HH.out _ (HB.out _)).mono ?_
  rintro e w1 ⟨rfl, hq⟩
  have HQ := hide hq
  clear hq
  go_wp2_with fail
  go_ret2
  exact ⟨rfl, _, HB.out _, HQ.out⟩

theorem cput_denied (h : Cp base w C S B v rv l g m k R) (hL : M.Fine l) (hE : M.rulE R = 0) (hv : IsVals w (.slice a n cp) t) (hb : M.askB who 0 = true) (hx : M.tupF t = 0) (hm : M.mayR R who 0 t = false) :
    Calls Tryz.prog 57 #[.pointer (some ⟨C, 0, none⟩), aggA who seq 0 a n cp] w fun e w' => e = .returned (.tuple #[.string M.sNo, errV 8]) ∧ Below w.heap.size w w' := by
  have HB : Hid (∀ o, Below w.heap.size w (w.alloc o)) := hide fun o => (Below.refl _ _).alloc (Nat.le_refl _) o
  have HM : Hid (∀ wx, Below w.heap.size w wx → Calls Tryz.prog 72 #[.pointer (some ⟨C, 0, none⟩), aggA who seq 0 a n cp, .slice a n cp] wx fun e w' => e = .returned (.iface 74 (.int .i64 8)) ∧ Below wx.heap.size wx w') := hide fun wx hw => (h.act (seq := seq) hL hE hv hb).may wx _ _ false hw (hv.stays hw (Nat.le_refl _)) hx hm
  rw [errV_bad (show (8 : Int) ≠ 0 by decide)]
  clear h hL hE hv hb hx hm
  go_enter Tryz.func57, Tryz.ntmps57
  go_wp2_with fail
  refine (HM.out _ (HB.out _)).mono ?_
  rintro e w1 ⟨rfl, hb1⟩
  go_wp2_with fail
  go_ret2
  exact ⟨rfl, (HB.out _).trans (hb1.mono (by simp))⟩

theorem cfind_denied (h : Cp base w C S B v rv l g m k R) (hL : M.Fine l) (hE : M.rulE R = 0) (hv : IsVals w (.slice a n cp) t) (hb : M.askB who deed = true) (hg : M.getF t l = 0) (hm : M.mayR R who deed (M.getV t l) = false) :
    Calls Tryz.prog 58 #[.pointer (some ⟨C, 0, none⟩), aggA who seq deed a n cp] w fun e w' => e = .returned (.tuple #[.string M.sNo, errV 8]) ∧ Below w.heap.size w w' := by
  have HB : Hid (∀ o, Below w.heap.size w (w.alloc o)) := hide fun o => (Below.refl _ _).alloc (Nat.le_refl _) o
  have HA := hide (h.act (seq := seq) hL hE hv hb)
  have HM : Hid (∀ wx u, Below w.heap.size w wx → IsVals wx u (M.getV t l) → Calls Tryz.prog 72 #[.pointer (some ⟨C, 0, none⟩), aggA who seq deed a n cp, u] wx fun e w' => e = .returned (.iface 74 (.int .i64 8)) ∧ Below wx.heap.size wx w') := hide fun wx u hw hu => HA.out.may wx u _ false hw hu (M.getV_tup hL hg) hm
  have HRD : Hid (∀ wx, Below w.heap.size w wx → Calls Tryz.prog 74 #[.pointer (some ⟨S, 0, none⟩), .slice a n cp] wx fun e w' => ∃ r, e = .returned (.tuple #[r, .nilIface]) ∧ OwnT wx.heap.size w' r (M.getV t l) ∧ Below wx.heap.size wx w') := hide fun wx hw => by
    have := HA.out.read wx hw
    rwa [hg] at this
  have HX : Hid (AskBox (w.alloc (.cells #[.int .i64 who, .int .i64 seq, .int .i64 deed, .slice a n cp] 37)) w.heap.size who seq deed a n cp) := hide (AskBox.new (Below.refl _ _))
  have HC := hide h
  rw [errV_bad (show (8 : Int) ≠ 0 by decide)]
  clear h hL hE hv hb hg hm HA
  obtain ⟨b0, b1, b2, b3, bn⟩ := HX.out.cells
  obtain ⟨c0, c1, c2, c3, cn, _⟩ := (HC.out.quiet (HB.out (.cells #[.int .i64 who, .int .i64 seq, .int .i64 deed, .slice a n cp] 37))).cells
  go_enter Tryz.func58, Tryz.ntmps58
  go_wp2_with fail
  go_region_held3 (fun w' => w'.cell? ⟨C, 1, none⟩ = some (.pointer (some ⟨S, 0, none⟩)) ∧ w'.cell? ⟨w.heap.size, 3, none⟩ = some (.slice a n cp)) (first | go_keep | assumption)
    (first
      | (go_at_call 74; refine (HRD.out _ (HB.out _).drew).mono ?_; rintro e w1 ⟨r, rfl, hr, hb1⟩; have HR := hide hr; have HB1 := hide ((HB.out (.cells #[.int .i64 who, .int .i64 seq, .int .i64 deed, .slice a n cp] 37)).drew.trans (hb1.mono (HB.out _).drew.size)); have HX1 := hide (AskBox.below (w := (w.alloc (.cells #[.int .i64 who, .int .i64 seq, .int .i64 deed, .slice a n cp] 37)).drew) HX.out hb1); obtain ⟨t0, t1, t2, t3, tn⟩ := HX1.out.cells; obtain ⟨r0, r1, r2, r3, rn3, _⟩ := (HC.out.quiet HB1.out).cells; clear hb1 hr))
  go_wp2_with fail
  refine (HM.out _ _ HB1.out HR.out.vals).mono ?_
  rintro e w2 ⟨rfl, hb2⟩
  go_wp2_with fail
  go_ret2
  exact ⟨rfl, HB1.out.trans (hb2.mono HB1.out.size)⟩

/-- a Put that may be done: there is room, or there is none -/
theorem cput_did (h : Cp base w C S B v rv l g m k R) (hL : M.Fine l) (hE : M.rulE R = 0) (hv : IsVals w (.slice a n cp) t) (hb : M.askB who 0 = true) (hx : M.tupF t = 0) (hm : M.mayR R who 0 t = true) (s0 : ByteArray) (hs : s0 = if M.putF l t = 0 then M.sOk else M.sFull) :
    Calls Tryz.prog 57 #[.pointer (some ⟨C, 0, none⟩), aggA who seq 0 a n cp] w fun e w' => e = .returned (.tuple #[.string s0, .nilIface]) ∧ ∃ v', Cp base w' C S B v' rv (M.putL l t) g m k R ∧ Tch (cpF C S B v rv) w w' ∧ Grows w (cpF C S B v rv) (cpF C S B v' rv) := by
  have HB : Hid (∀ o, Below w.heap.size w (w.alloc o)) := hide fun o => (Below.refl _ _).alloc (Nat.le_refl _) o
  have HA := hide (h.act (seq := seq) hL hE hv hb)
  have HX : Hid (AskBox (w.alloc (.cells #[.int .i64 who, .int .i64 seq, .int .i64 0, .slice a n cp] 37)) w.heap.size who seq 0 a n cp) := hide (AskBox.new (Below.refl _ _))
  have HC := hide h
  have HM : Hid (∀ wx, Below w.heap.size w wx → Calls Tryz.prog 72 #[.pointer (some ⟨C, 0, none⟩), aggA who seq 0 a n cp, .slice a n cp] wx fun e w' => e = .returned .nilIface ∧ Below wx.heap.size wx w') := hide fun wx hw => HA.out.may wx _ _ true hw (hv.stays hw (Nat.le_refl _)) hx hm
  obtain ⟨b0, b1, b2, b3, bn⟩ := HX.out.cells
  obtain ⟨c0, c1, c2, c3, cn, _⟩ := (HC.out.quiet (HB.out (.cells #[.int .i64 who, .int .i64 seq, .int .i64 0, .slice a n cp] 37))).cells
  by_cases hp : M.putF l t = 0
  · rw [if_pos hp] at hs
    subst hs
    have HP : Hid (∀ wx, Below w.heap.size w wx → Calls Tryz.prog 73 #[.pointer (some ⟨S, 0, none⟩), .slice a n cp] wx fun e w' => e = .returned .nilIface ∧ ∃ v', Space base w' S v' (M.putL l t) ∧ Touch S v wx w' ∧ Near wx v v') := hide fun wx hw => by
      have := HA.out.put wx hw
      rwa [hp] at this
    clear h hL hE hv hb hx hm hp HA
    go_enter Tryz.func57, Tryz.ntmps57
    go_wp2_with fail
    refine (HM.out _ (HB.out _)).mono ?_
    rintro e w1 ⟨rfl, hb1⟩
    have HB1 := hide ((HB.out (.cells #[.int .i64 who, .int .i64 seq, .int .i64 0, .slice a n cp] 37)).trans (hb1.mono (by simp)))
    have HX1 := hide (HX.out.below hb1)
    clear hb1 b0 b1 b2 b3 bn c0 c1 c2 c3 cn
    obtain ⟨b0, b1, b2, b3, bn⟩ := HX1.out.cells
    obtain ⟨c0, c1, c2, c3, cn, _⟩ := (HC.out.quiet HB1.out).cells
    go_wp2_with fail
    go_region_held3 (fun w' => w'.cell? ⟨C, 1, none⟩ = some (.pointer (some ⟨S, 0, none⟩)) ∧ w'.cell? ⟨w.heap.size, 3, none⟩ = some (.slice a n cp)) (first | go_keep | assumption)
      (first
        | (go_at_call 73; refine (HP.out _ HB1.out.drew).mono ?_; rintro e w2 ⟨rfl, v2, hs2, ht2, hn2⟩; have HN2 := hide ((HC.out.quiet HB1.out.drew).space hs2 ht2 hn2); have r1 := HN2.out.1.cells.2.1; have t3 : w2.cell? ⟨w.heap.size, 3, none⟩ = some (.slice a n cp) := (AskBox.cells (w := w2) ((ht2.block _ (heap_lt HX1.out) ((HC.out.quiet HB1.out.drew).sp.other (w := w1.drew) HX1.out (by decide) (by decide)).1 ((HC.out.quiet HB1.out.drew).sp.other (w := w1.drew) HX1.out (by decide) (by decide)).2).trans HX1.out)).2.2.2.1; clear hs2 ht2 hn2))
    go_wp2_with fail
    go_ret2
    exact ⟨rfl, v2, HN2.out.1, HN2.out.2.1.after HB1.out.drew, fun i hi => (HN2.out.2.2 i hi).imp id (fun q => Nat.le_trans HB1.out.size q)⟩
  · rw [if_neg hp] at hs
    subst hs
    have HP : Hid (∀ wx, Below w.heap.size w wx → Calls Tryz.prog 73 #[.pointer (some ⟨S, 0, none⟩), .slice a n cp] wx fun e w' => e = .returned (.iface 74 (.int .i64 (M.putF l t))) ∧ ∃ v', Space base w' S v' (M.putL l t) ∧ Touch S v wx w' ∧ Near wx v v') := hide fun wx hw => by
      have := HA.out.put wx hw
      rwa [errV_bad hp] at this
    generalize M.putF l t = E at *
    clear h hL hE hv hb hx hm hp HA
    go_enter Tryz.func57, Tryz.ntmps57
    go_wp2_with fail
    refine (HM.out _ (HB.out _)).mono ?_
    rintro e w1 ⟨rfl, hb1⟩
    have HB1 := hide ((HB.out (.cells #[.int .i64 who, .int .i64 seq, .int .i64 0, .slice a n cp] 37)).trans (hb1.mono (by simp)))
    have HX1 := hide (HX.out.below hb1)
    clear hb1 b0 b1 b2 b3 bn c0 c1 c2 c3 cn
    obtain ⟨b0, b1, b2, b3, bn⟩ := HX1.out.cells
    obtain ⟨c0, c1, c2, c3, cn, _⟩ := (HC.out.quiet HB1.out).cells
    go_wp2_with fail
    go_region_held3 (fun w' => w'.cell? ⟨C, 1, none⟩ = some (.pointer (some ⟨S, 0, none⟩)) ∧ w'.cell? ⟨w.heap.size, 3, none⟩ = some (.slice a n cp)) (first | go_keep | assumption)
      (first
        | (go_at_call 73; refine (HP.out _ HB1.out.drew).mono ?_; rintro e w2 ⟨rfl, v2, hs2, ht2, hn2⟩; have HN2 := hide ((HC.out.quiet HB1.out.drew).space hs2 ht2 hn2); have r1 := HN2.out.1.cells.2.1; have t3 : w2.cell? ⟨w.heap.size, 3, none⟩ = some (.slice a n cp) := (AskBox.cells (w := w2) ((ht2.block _ (heap_lt HX1.out) ((HC.out.quiet HB1.out.drew).sp.other (w := w1.drew) HX1.out (by decide) (by decide)).1 ((HC.out.quiet HB1.out.drew).sp.other (w := w1.drew) HX1.out (by decide) (by decide)).2).trans HX1.out)).2.2.2.1; clear hs2 ht2 hn2))
    go_wp2_with fail
    go_ret2
    exact ⟨rfl, v2, HN2.out.1, HN2.out.2.1.after HB1.out.drew, fun i hi => (HN2.out.2.2 i hi).imp id (fun q => Nat.le_trans HB1.out.size q)⟩

theorem cfind_none (h : Cp base w C S B v rv l g m k R) (hL : M.Fine l) (hE : M.rulE R = 0) (hv : IsVals w (.slice a n cp) t) (hb : M.askB who deed = true) (hp : M.getF t l ≠ 0) :
    Calls Tryz.prog 58 #[.pointer (some ⟨C, 0, none⟩), aggA who seq deed a n cp] w fun e w' => e = .returned (.tuple #[.string M.sNone, .nilIface]) ∧ ∃ v', Cp base w' C S B v' rv l g m k R ∧ Tch (cpF C S B v rv) w w' ∧ Grows w (cpF C S B v rv) (cpF C S B v' rv) := by
  have HB : Hid (∀ o, Below w.heap.size w (w.alloc o)) := hide fun o => (Below.refl _ _).alloc (Nat.le_refl _) o
  have HA := hide (h.act (seq := seq) hL hE hv hb)
  have HX : Hid (AskBox (w.alloc (.cells #[.int .i64 who, .int .i64 seq, .int .i64 deed, .slice a n cp] 37)) w.heap.size who seq deed a n cp) := hide (AskBox.new (Below.refl _ _))
  have HC := hide h
  have HRD : Hid (∀ wx, Below w.heap.size w wx → Calls Tryz.prog 74 #[.pointer (some ⟨S, 0, none⟩), .slice a n cp] wx fun e w' => ∃ r, e = .returned (.tuple #[r, .iface 74 (.int .i64 (M.getF t l))]) ∧ OwnT wx.heap.size w' r (M.getV t l) ∧ Below wx.heap.size wx w') := hide fun wx hw => by
    have := HA.out.read wx hw
    rwa [errV_bad hp] at this
  generalize M.getF t l = E at *
  clear h hL hE hv hb hp HA
  obtain ⟨b0, b1, b2, b3, bn⟩ := HX.out.cells
  obtain ⟨c0, c1, c2, c3, cn, _⟩ := (HC.out.quiet (HB.out (.cells #[.int .i64 who, .int .i64 seq, .int .i64 deed, .slice a n cp] 37))).cells
  go_enter Tryz.func58, Tryz.ntmps58
  go_wp2_with fail
  go_region_held3 (fun w' => w'.cell? ⟨C, 1, none⟩ = some (.pointer (some ⟨S, 0, none⟩)) ∧ w'.cell? ⟨w.heap.size, 3, none⟩ = some (.slice a n cp)) (first | go_keep | assumption)
    (first
      | (go_at_call 74; refine (HRD.out _ (HB.out _).drew).mono ?_; rintro e w1 ⟨r, rfl, hr, hb1⟩; have HR := hide hr; have HB1 := hide ((HB.out (.cells #[.int .i64 who, .int .i64 seq, .int .i64 deed, .slice a n cp] 37)).drew.trans (hb1.mono (HB.out _).drew.size)); have HX1 := hide (AskBox.below (w := (w.alloc (.cells #[.int .i64 who, .int .i64 seq, .int .i64 deed, .slice a n cp] 37)).drew) HX.out hb1); obtain ⟨t0, t1, t2, t3, tn⟩ := HX1.out.cells; obtain ⟨r0, r1, r2, r3, rn3, _⟩ := (HC.out.quiet HB1.out).cells; clear hb1 hr))
  go_wp2_with fail
  go_ret2
  exact ⟨rfl, v, HC.out.quiet HB1.out, Tch.of_below HB1.out, Grows.refl _ _⟩

theorem cfind_read (h : Cp base w C S B v rv l g m k R) (hL : M.Fine l) (hE : M.rulE R = 0) (hv : IsVals w (.slice a n cp) t) (hb : M.askB who deed = true) (hT : TabFrom base w) (hd : deed ≠ 2) (hp : M.getF t l = 0) (hm : M.mayR R who deed (M.getV t l) = true) :
    Calls Tryz.prog 58 #[.pointer (some ⟨C, 0, none⟩), aggA who seq deed a n cp] w fun e w' => e = .returned (.tuple #[.string (M.line (M.getV t l)), .nilIface]) ∧ ∃ v', Cp base w' C S B v' rv l g m k R ∧ Tch (cpF C S B v rv) w w' ∧ Grows w (cpF C S B v rv) (cpF C S B v' rv) := by
  have HB : Hid (∀ o, Below w.heap.size w (w.alloc o)) := hide fun o => (Below.refl _ _).alloc (Nat.le_refl _) o
  have HA := hide (h.act (seq := seq) hL hE hv hb)
  have HX : Hid (AskBox (w.alloc (.cells #[.int .i64 who, .int .i64 seq, .int .i64 deed, .slice a n cp] 37)) w.heap.size who seq deed a n cp) := hide (AskBox.new (Below.refl _ _))
  have HC := hide h
  have HTT := hide hT
  have HM : Hid (∀ wx u, Below w.heap.size w wx → IsVals wx u (M.getV t l) → Calls Tryz.prog 72 #[.pointer (some ⟨C, 0, none⟩), aggA who seq deed a n cp, u] wx fun e w' => e = .returned .nilIface ∧ Below wx.heap.size wx w') := hide fun wx u hw hu => HA.out.may wx u _ true hw hu (M.getV_tup hL hp) hm
  have HRD : Hid (∀ wx, Below w.heap.size w wx → Calls Tryz.prog 74 #[.pointer (some ⟨S, 0, none⟩), .slice a n cp] wx fun e w' => ∃ r, e = .returned (.tuple #[r, .nilIface]) ∧ OwnT wx.heap.size w' r (M.getV t l) ∧ Below wx.heap.size wx w') := hide fun wx hw => by
    have := HA.out.read wx hw
    rwa [hp] at this
  have HPR : Hid (∀ wx u, IsVals wx u (M.getV t l) → Tab wx → Calls Tryz.prog 36 #[u] wx fun e w' => e = .returned (.string (M.line (M.getV t l))) ∧ Below wx.heap.size wx w') := hide fun wx u hu hT => cPrinted u _ wx hu hT (M.tupF_like (M.getV_tup hL hp))
  obtain ⟨b0, b1, b2, b3, bn⟩ := HX.out.cells
  obtain ⟨c0, c1, c2, c3, cn, _⟩ := (HC.out.quiet (HB.out (.cells #[.int .i64 who, .int .i64 seq, .int .i64 deed, .slice a n cp] 37))).cells
  have hd2 : (deed == 2) = false := by simpa using hd
  clear h hL hE hv hb hT hd hp hm HA
  go_enter Tryz.func58, Tryz.ntmps58
  go_wp2_with fail
  go_region_held3 (fun w' => w'.cell? ⟨C, 1, none⟩ = some (.pointer (some ⟨S, 0, none⟩)) ∧ w'.cell? ⟨w.heap.size, 3, none⟩ = some (.slice a n cp)) (first | go_keep | assumption)
    (first
      | (go_at_call 74; refine (HRD.out _ (HB.out _).drew).mono ?_; rintro e w1 ⟨r, rfl, hr, hb1⟩; have HR := hide hr; have HB1 := hide ((HB.out (.cells #[.int .i64 who, .int .i64 seq, .int .i64 deed, .slice a n cp] 37)).drew.trans (hb1.mono (HB.out _).drew.size)); have HX1 := hide (AskBox.below (w := (w.alloc (.cells #[.int .i64 who, .int .i64 seq, .int .i64 deed, .slice a n cp] 37)).drew) HX.out hb1); obtain ⟨t0, t1, t2, t3, tn⟩ := HX1.out.cells; obtain ⟨r0, r1, r2, r3, rn3, _⟩ := (HC.out.quiet HB1.out).cells; clear hb1 hr))
  clear b0 b1 b2 b3 bn c0 c1 c2 c3 cn
  go_wp2_with fail
  refine (HM.out _ _ HB1.out HR.out.vals).mono ?_
  rintro e w2 ⟨rfl, hb2⟩
  have HR2 := hide (HR.out.solid (Solid.below hb2))
  have HB2 := hide (HB1.out.trans (hb2.mono HB1.out.size))
  have HX2 := hide (HX1.out.below hb2)
  clear hb2 t0 t1 t2 t3 tn r0 r1 r2 r3 rn3
  obtain ⟨b0, b1, b2, b3, bn⟩ := HX2.out.cells
  obtain ⟨c0, c1, c2, c3, cn, _⟩ := (HC.out.quiet HB2.out).cells
  go_wp2_with fail
  refine (HPR.out _ _ HR2.out.vals (HTT.out _ (HB2.out.mono HC.out.base_le))).mono ?_
  rintro e w3 ⟨rfl, hb3⟩
  have HB3 := hide (HB2.out.trans (hb3.mono HB2.out.size))
  clear hb3
  go_wp2_with fail
  go_ret2
  exact ⟨rfl, v, HC.out.quiet HB3.out, Tch.of_below HB3.out, Grows.refl _ _⟩

theorem cfind_take (h : Cp base w C S B v rv l g m k R) (hL : M.Fine l) (hE : M.rulE R = 0) (hv : IsVals w (.slice a n cp) t) (hb : M.askB who deed = true) (hT : TabFrom base w) (hd : deed = 2) (hp : M.getF t l = 0) (hm : M.mayR R who deed (M.getV t l) = true) :
    Calls Tryz.prog 58 #[.pointer (some ⟨C, 0, none⟩), aggA who seq deed a n cp] w fun e w' => e = .returned (.tuple #[.string (M.line (M.getV t l)), .nilIface]) ∧ ∃ v', Cp base w' C S B v' rv (M.lessL t l) g m k R ∧ Tch (cpF C S B v rv) w w' ∧ Grows w (cpF C S B v rv) (cpF C S B v' rv) := by
  have HB : Hid (∀ o, Below w.heap.size w (w.alloc o)) := hide fun o => (Below.refl _ _).alloc (Nat.le_refl _) o
  have HA := hide (h.act (seq := seq) hL hE hv hb)
  have HX : Hid (AskBox (w.alloc (.cells #[.int .i64 who, .int .i64 seq, .int .i64 deed, .slice a n cp] 37)) w.heap.size who seq deed a n cp) := hide (AskBox.new (Below.refl _ _))
  have HC := hide h
  have HTT := hide hT
  have HM : Hid (∀ wx u, Below w.heap.size w wx → IsVals wx u (M.getV t l) → Calls Tryz.prog 72 #[.pointer (some ⟨C, 0, none⟩), aggA who seq deed a n cp, u] wx fun e w' => e = .returned .nilIface ∧ Below wx.heap.size wx w') := hide fun wx u hw hu => HA.out.may wx u _ true hw hu (M.getV_tup hL hp) hm
  have HRD : Hid (∀ wx, Below w.heap.size w wx → Calls Tryz.prog 74 #[.pointer (some ⟨S, 0, none⟩), .slice a n cp] wx fun e w' => ∃ r, e = .returned (.tuple #[r, .nilIface]) ∧ OwnT wx.heap.size w' r (M.getV t l) ∧ Below wx.heap.size wx w') := hide fun wx hw => by
    have := HA.out.read wx hw
    rwa [hp] at this
  have HPR : Hid (∀ wx u, IsVals wx u (M.getV t l) → Tab wx → Calls Tryz.prog 36 #[u] wx fun e w' => e = .returned (.string (M.line (M.getV t l))) ∧ Below wx.heap.size wx w') := hide fun wx u hu hT => cPrinted u _ wx hu hT (M.tupF_like (M.getV_tup hL hp))
  obtain ⟨b0, b1, b2, b3, bn⟩ := HX.out.cells
  obtain ⟨c0, c1, c2, c3, cn, _⟩ := (HC.out.quiet (HB.out (.cells #[.int .i64 who, .int .i64 seq, .int .i64 deed, .slice a n cp] 37))).cells
  have hd2 : (deed == 2) = true := by simpa using hd
  have HTK : Hid (∀ wx, Below w.heap.size w wx → Calls Tryz.prog 75 #[.pointer (some ⟨S, 0, none⟩), .slice a n cp] wx fun e w' => ∃ r v', e = .returned (.tuple #[r, .nilIface]) ∧ IsVals w' r (M.getV t l) ∧ Space base w' S v' (M.lessL t l) ∧ Touch S v wx w' ∧ Near wx v v') := hide fun wx hw => by
    have := HA.out.take wx hw
    rwa [hp] at this
  clear h hL hE hv hb hT hd hp hm HA
  go_enter Tryz.func58, Tryz.ntmps58
  go_wp2_with fail
  go_region_held3 (fun w' => w'.cell? ⟨C, 1, none⟩ = some (.pointer (some ⟨S, 0, none⟩)) ∧ w'.cell? ⟨w.heap.size, 3, none⟩ = some (.slice a n cp)) (first | go_keep | assumption)
    (first
      | (go_at_call 74; refine (HRD.out _ (HB.out _).drew).mono ?_; rintro e w1 ⟨r, rfl, hr, hb1⟩; have HR := hide hr; have HB1 := hide ((HB.out (.cells #[.int .i64 who, .int .i64 seq, .int .i64 deed, .slice a n cp] 37)).drew.trans (hb1.mono (HB.out _).drew.size)); have HX1 := hide (AskBox.below (w := (w.alloc (.cells #[.int .i64 who, .int .i64 seq, .int .i64 deed, .slice a n cp] 37)).drew) HX.out hb1); obtain ⟨t0, t1, t2, t3, tn⟩ := HX1.out.cells; obtain ⟨r0, r1, r2, r3, rn3, _⟩ := (HC.out.quiet HB1.out).cells; clear hb1 hr))
  clear b0 b1 b2 b3 bn c0 c1 c2 c3 cn
  go_wp2_with fail
  refine (HM.out _ _ HB1.out HR.out.vals).mono ?_
  rintro e w2 ⟨rfl, hb2⟩
  have HR2 := hide (HR.out.solid (Solid.below hb2))
  have HB2 := hide (HB1.out.trans (hb2.mono HB1.out.size))
  have HX2 := hide (HX1.out.below hb2)
  clear hb2 t0 t1 t2 t3 tn r0 r1 r2 r3 rn3
  obtain ⟨b0, b1, b2, b3, bn⟩ := HX2.out.cells
  obtain ⟨c0, c1, c2, c3, cn, _⟩ := (HC.out.quiet HB2.out).cells
  go_wp2_with fail
  go_region_held3 (fun w' => w'.cell? ⟨C, 1, none⟩ = some (.pointer (some ⟨S, 0, none⟩)) ∧ w'.cell? ⟨w.heap.size, 3, none⟩ = some (.slice a n cp)) (first | go_keep | assumption)
    (first
      | (go_at_call 75; refine (HTK.out _ HB2.out.drew).mono ?_; rintro e w3 ⟨r3, v3, rfl, hr3, hs3, ht3, hn3⟩; have HSL3 := hide (Sp.solid (HC.out.quiet HB2.out.drew).sp (by decide) ht3); have HN3 := hide ((HC.out.quiet HB2.out.drew).space hs3 ht3 hn3); have z1 := HN3.out.1.cells.2.1; have z3 : w3.cell? ⟨w.heap.size, 3, none⟩ = some (.slice a n cp) := (AskBox.cells (w := w3) ((ht3.block _ (heap_lt HX2.out) ((HC.out.quiet HB2.out.drew).sp.other (w := w2.drew) HX2.out (by decide) (by decide)).1 ((HC.out.quiet HB2.out.drew).sp.other (w := w2.drew) HX2.out (by decide) (by decide)).2).trans HX2.out)).2.2.2.1; clear hs3 ht3 hn3 hr3))
  have HT3 : Hid (Tab w3) := hide (HTT.out _ ((HB2.out.drew.mono HC.out.base_le).trans (HN3.out.2.1.below (HC.out.quiet HB2.out.drew).lows (HC.out.quiet HB2.out.drew).base_le)))
  have HR3 : Hid (IsVals w3 r (M.getV t l)) := hide ((HR2.out.solid HSL3.out).vals)
  go_wp2_with fail
  refine (HPR.out _ _ HR3.out HT3.out).mono ?_
  rintro e w4 ⟨rfl, hb4⟩
  have HB4 := hide hb4
  clear hb4
  go_wp2_with fail
  go_ret2
  exact ⟨rfl, v3, HN3.out.1.quiet HB4.out, (HN3.out.2.1.after HB2.out.drew).then HB4.out, fun i hi => (HN3.out.2.2 i hi).imp id (fun q => Nat.le_trans HB2.out.size q)⟩

/-- what is denied -/
theorem cans_deniedPut (h : Cp base w C S B v rv l g m k R) (hL : M.Fine l) (hE : M.rulE R = 0) (hv : IsVals w (.slice a n cp) t) (hb : M.askB who 0 = true) (hx : M.tupF t = 0) (hm : M.mayR R who 0 t = false) :
    Calls Tryz.prog 33 #[.pointer (some ⟨C, 0, none⟩), aggA who seq 0 a n cp] w fun e w' => e = .returned (.tuple #[.string M.sNo, errV 8]) ∧ Below w.heap.size w w' := by
  refine (cAns_put (.string M.sNo) (errV 8) (fun wx w' => Below wx.heap.size wx w') fun wx hw => cput_denied (h.quiet hw) hL hE (hv.stays hw (Nat.le_refl _)) hb hx hm).mono ?_
  rintro e w' ⟨rfl, wx, h1, h2⟩
  exact ⟨rfl, h1.trans (h2.mono h1.size)⟩
theorem cans_deniedGet (h : Cp base w C S B v rv l g m k R) (hL : M.Fine l) (hE : M.rulE R = 0) (hv : IsVals w (.slice a n cp) t) (hb : M.askB who deed = true) (hd : deed ≠ 0) (hg : M.getF t l = 0) (hm : M.mayR R who deed (M.getV t l) = false) :
    Calls Tryz.prog 33 #[.pointer (some ⟨C, 0, none⟩), aggA who seq deed a n cp] w fun e w' => e = .returned (.tuple #[.string M.sNo, errV 8]) ∧ Below w.heap.size w w' := by
  refine (cAns_find hd (.string M.sNo) (errV 8) (fun wx w' => Below wx.heap.size wx w') fun wx hw => cfind_denied (h.quiet hw) hL hE (hv.stays hw (Nat.le_refl _)) hb hg hm).mono ?_
  rintro e w' ⟨rfl, wx, h1, h2⟩
  exact ⟨rfl, h1.trans (h2.mono h1.size)⟩
/-- what is done -/
theorem cans_did (s0 : ByteArray) (L' : List (List M.Val)) (h : Cp base w C S B v rv l g m k R) (hL : M.Fine l) (hE : M.rulE R = 0) (hv : IsVals w (.slice a n cp) t) (hb : M.askB who deed = true) (hf : deed = 0 → M.tupF t = 0) (hT : TabFrom base w) (hw : M.Way R l who deed t s0 L') :
    Calls Tryz.prog 33 #[.pointer (some ⟨C, 0, none⟩), aggA who seq deed a n cp] w fun e w' => e = .returned (.tuple #[.string s0, .nilIface]) ∧ ∃ v', Cp base w' C S B v' rv L' g m k R ∧ Tch (cpF C S B v rv) w w' ∧ Grows w (cpF C S B v rv) (cpF C S B v' rv) := by
  have fin : ∀ {e : Ending} {w' : World}, (e = .returned (.tuple #[.string s0, .nilIface]) ∧ ∃ wx, Below w.heap.size w wx ∧ ∃ v', Cp base w' C S B v' rv L' g m k R ∧ Tch (cpF C S B v rv) wx w' ∧ Grows wx (cpF C S B v rv) (cpF C S B v' rv)) → e = .returned (.tuple #[.string s0, .nilIface]) ∧ ∃ v', Cp base w' C S B v' rv L' g m k R ∧ Tch (cpF C S B v rv) w w' ∧ Grows w (cpF C S B v rv) (cpF C S B v' rv) := by
    rintro e w' ⟨rfl, wx, h1, v', r1, r2, r3⟩
    exact ⟨rfl, v', r1, r2.after h1, fun i hi => (r3 i hi).imp id (fun q => Nat.le_trans h1.size q)⟩
  rcases hw with ⟨h0, hm, hp, hs, hL'⟩ | ⟨h0, hm, hp, hs, hL'⟩ | ⟨h0, hp, hs, hL'⟩ | ⟨h0, hp, hm, hs, hL'⟩ | ⟨h0, hp, hm, hs, hL'⟩
  · subst h0 hL'
    exact (cAns_put (.string s0) .nilIface _ fun wx hx => cput_did (h.quiet hx) hL hE (hv.stays hx (Nat.le_refl _)) hb (hf rfl) hm s0 (by rw [if_pos hp]; exact hs)).mono fun _ _ he => fin he
  · subst h0 hL'
    exact (cAns_put (.string s0) .nilIface _ fun wx hx => cput_did (h.quiet hx) hL hE (hv.stays hx (Nat.le_refl _)) hb (hf rfl) hm s0 (by rw [if_neg hp]; exact hs)).mono fun _ _ he => fin he
  · subst hs hL'
    exact (cAns_find h0 (.string _) .nilIface _ fun wx hx => cfind_none (h.quiet hx) hL hE (hv.stays hx (Nat.le_refl _)) hb hp).mono fun _ _ he => fin he
  · subst hs hL'
    exact (cAns_find (by omega) (.string _) .nilIface _ fun wx hx => cfind_read (h.quiet hx) hL hE (hv.stays hx (Nat.le_refl _)) hb (hT.next (hx.mono h.base_le)) (by omega) hp (by rw [h0]; exact hm)).mono fun _ _ he => fin he
  · subst hs hL'
    exact (cAns_find (by omega) (.string _) .nilIface _ fun wx hx => cfind_take (h.quiet hx) hL hE (hv.stays hx (Nat.le_refl _)) hb (hT.next (hx.mono h.base_le)) h0 hp (by rw [h0]; exact hm)).mono fun _ _ he => fin he
end

end Go.Proofs.YtbkdpbiflljmfaiGreatDoor
