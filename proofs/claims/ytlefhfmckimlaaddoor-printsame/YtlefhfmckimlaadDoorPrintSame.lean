/-
  The walk of the Go function PrintSame: it returns true, whatever the two values, if the library's table of powers of ten reads as its text lays it.
-/
import Derived.Test.YtlefhfmckimlaadDoorPrintSameA
set_option linter.unusedVariables false
namespace Go.Proofs.YtlefhfmckimlaadDoor.printSame
open Go.RowKit
attribute [local go_sem ↓] sameEq sameNe

/-- what the law asks of the program, wherever memory has only grown: of two values that are right, whose numbers are x and y -/
structure Asks (k1 n1 k2 n2 : Int) (s1 s2 : ByteArray) (w : World) (x y : Int) : Prop where
  all : ∀ W, Below (W2 k1 n1 k2 n2 s1 s2 w).heap.size (W2 k1 n1 k2 n2 s1 s2 w) W → Below w.heap.size w W
  five : ∀ W, Below (W2 k1 n1 k2 n2 s1 s2 w).heap.size (W2 k1 n1 k2 n2 s1 s2 w) W → Calls Tryd.prog 7 #[.agg #[.int .i64 0, .int .i64 5, .string ⟨#[]⟩]] W fun e w' => e = .returned (.tuple #[.int .i64 270, .nilIface]) ∧ Below W.heap.size W w'
  one : ∀ W, Below (W2 k1 n1 k2 n2 s1 s2 w).heap.size (W2 k1 n1 k2 n2 s1 s2 w) W → Calls Tryd.prog 7 #[.agg #[.int .i64 k1, .int .i64 n1, .string s1]] W fun e w' => e = .returned (.tuple #[.int .i64 x, .nilIface]) ∧ Below W.heap.size W w'
  row : ∀ W, Below (W2 k1 n1 k2 n2 s1 s2 w).heap.size (W2 k1 n1 k2 n2 s1 s2 w) W → Calls Tryd.prog 9 #[.slice (some ⟨W.heap.size, 0, none⟩) 1 1] (W.alloc (.cells #[.int .i64 k1, .int .i64 n1, .string s1] 23)) fun e w' => e = .returned (.tuple #[.int .i64 x, .nilIface]) ∧ Below W.heap.size W w'
  two : ∀ W, M.fault k2 n2 s2 = 0 → Below (W2 k1 n1 k2 n2 s1 s2 w).heap.size (W2 k1 n1 k2 n2 s1 s2 w) W → Calls Tryd.prog 7 #[.agg #[.int .i64 k2, .int .i64 n2, .string s2]] W fun e w' => e = .returned (.tuple #[.int .i64 y, .nilIface]) ∧ Below W.heap.size W w'
  bad : ∀ W, M.fault k2 n2 s2 ≠ 0 → Below (W2 k1 n1 k2 n2 s1 s2 w).heap.size (W2 k1 n1 k2 n2 s1 s2 w) W → Calls Tryd.prog 7 #[.agg #[.int .i64 k2, .int .i64 n2, .string s2]] W fun e w' => e = .returned (.tuple #[.int .i64 0, .iface 52 (.int .i64 (M.fault k2 n2 s2))]) ∧ Below W.heap.size W w'

theorem asks (k1 n1 k2 n2 : Int) (s1 s2 : ByteArray) (w : World) (hs1 : s1.size ≤ maxLen) (hs2 : s2.size ≤ maxLen) (ht : Tab w) (f1 : M.fault k1 n1 s1 = 0) : Asks k1 n1 k2 n2 s1 s2 w (M.hash (M.word k1 n1 s1)) (M.hash (M.word k2 n2 s2)) := by
  have all : ∀ W, Below (W2 k1 n1 k2 n2 s1 s2 w).heap.size (W2 k1 n1 k2 n2 s1 s2 w) W → Below w.heap.size w W := fun W b => (W2_below k1 n1 k2 n2 s1 s2 w).trans (b.mono (W2_below k1 n1 k2 n2 s1 s2 w).size)
  exact
  { all := all
    five := fun W b => five W (ht.stays (all W b) (Nat.le_refl _))
    one := fun W b => dvalOk k1 n1 s1 W hs1 f1 (ht.stays (all W b) (Nat.le_refl _))
    row := fun W b => alone k1 n1 s1 W hs1 f1 (ht.stays (all W b) (Nat.le_refl _))
    two := fun W e b => dvalOk k2 n2 s2 W hs2 e (ht.stays (all W b) (Nat.le_refl _))
    bad := fun W e _ => dvalBad k2 n2 s2 W hs2 e }

set_option maxRecDepth 100000 in
set_option maxHeartbeats 4000000 in
theorem way_two (k1 n1 k2 n2 : Int) (s1 s2 : ByteArray) (w : World) (x y : Int) (h : Asks k1 n1 k2 n2 s1 s2 w x y) (x0 : 0 ≤ x) (x1 : x ≤ 10006) (f2 : M.fault k2 n2 s2 ≠ 0) :
    Calls Tryd.prog 3 #[.agg #[.int .i64 k1, .int .i64 n1, .string s1], .agg #[.int .i64 k2, .int .i64 n2, .string s2]] w fun e w' => e = .returned (.bool true) ∧ Below w.heap.size w w' := by
  have HA := hide h
  have F2 := hide f2
  clear h f2
  have B0 : Below (W2 k1 n1 k2 n2 s1 s2 w).heap.size (W2 k1 n1 k2 n2 s1 s2 w) (W2 k1 n1 k2 n2 s1 s2 w) := Below.refl _ _
  obtain ⟨hc, hf⟩ := bcell B0
  go_enter Tryd.func3, Tryd.ntmps3
  go_wp2_with fail
  refine (HA.out.five _ B0).mono ?_
  rintro e w1 ⟨rfl, hb⟩
  have B1 := B0.trans (hb.mono B0.size)
  clear hc hf hb B0
  obtain ⟨hc, hf⟩ := bcell B1
  go_wp2_with fail
  refine (HA.out.one _ B1).mono ?_
  rintro e w2 ⟨rfl, hb⟩
  have B2 := B1.trans (hb.mono B1.size)
  clear hc hf hb B1
  obtain ⟨hc, hf⟩ := bcell B2
  go_wp2_with fail
  refine (HA.out.row _ B2).mono ?_
  rintro e w3 ⟨rfl, hb⟩
  have B3 := B2.trans (hb.mono B2.size)
  clear hc hf hb B2
  obtain ⟨hc, hf⟩ := bcell B3
  go_wp2_with fail
  refine (HA.out.bad _ F2.out B3).mono ?_
  rintro e w4 ⟨rfl, hb⟩
  have B4 := B3.trans (hb.mono B3.size)
  clear hc hf hb B3
  obtain ⟨hc, hf⟩ := bcell B4
  go_wp2_with fail
  go_ret
  exact ⟨rfl, HA.out.all _ B4⟩

set_option maxRecDepth 100000 in
set_option maxHeartbeats 4000000 in
theorem way_same (k1 n1 k2 n2 : Int) (s1 s2 : ByteArray) (w : World) (x y : Int) (h : Asks k1 n1 k2 n2 s1 s2 w x y) (x0 : 0 ≤ x) (x1 : x ≤ 10006) (f2 : M.fault k2 n2 s2 = 0) (hy : y = x) (hq : M.same k1 n1 s1 k2 n2 s2 = true) :
    Calls Tryd.prog 3 #[.agg #[.int .i64 k1, .int .i64 n1, .string s1], .agg #[.int .i64 k2, .int .i64 n2, .string s2]] w fun e w' => e = .returned (.bool true) ∧ Below w.heap.size w w' := by
  have HA := hide h
  have F2 := hide f2
  clear h f2
  subst hy
  have B0 : Below (W2 k1 n1 k2 n2 s1 s2 w).heap.size (W2 k1 n1 k2 n2 s1 s2 w) (W2 k1 n1 k2 n2 s1 s2 w) := Below.refl _ _
  obtain ⟨hc, hf⟩ := bcell B0
  go_enter Tryd.func3, Tryd.ntmps3
  go_wp2_with fail
  refine (HA.out.five _ B0).mono ?_
  rintro e w1 ⟨rfl, hb⟩
  have B1 := B0.trans (hb.mono B0.size)
  clear hc hf hb B0
  obtain ⟨hc, hf⟩ := bcell B1
  go_wp2_with fail
  refine (HA.out.one _ B1).mono ?_
  rintro e w2 ⟨rfl, hb⟩
  have B2 := B1.trans (hb.mono B1.size)
  clear hc hf hb B1
  obtain ⟨hc, hf⟩ := bcell B2
  go_wp2_with fail
  refine (HA.out.row _ B2).mono ?_
  rintro e w3 ⟨rfl, hb⟩
  have B3 := B2.trans (hb.mono B2.size)
  clear hc hf hb B2
  obtain ⟨hc, hf⟩ := bcell B3
  go_wp2_with fail
  refine (HA.out.two _ F2.out B3).mono ?_
  rintro e w4 ⟨rfl, hb⟩
  have B4 := B3.trans (hb.mono B3.size)
  clear hc hf hb B3
  obtain ⟨hc, hf⟩ := bcell B4
  go_wp2_with fail
  go_ret
  exact ⟨rfl, HA.out.all _ B4⟩

set_option maxRecDepth 100000 in
set_option maxHeartbeats 4000000 in
theorem way_kind1 (k1 n1 k2 n2 : Int) (s1 s2 : ByteArray) (w : World) (x y : Int) (h : Asks k1 n1 k2 n2 s1 s2 w x y) (x0 : 0 ≤ x) (x1 : x ≤ 10006) (f2 : M.fault k2 n2 s2 = 0) (hq : M.same k1 n1 s1 k2 n2 s2 = false) (hk : (k1 != 1) = true) :
    Calls Tryd.prog 3 #[.agg #[.int .i64 k1, .int .i64 n1, .string s1], .agg #[.int .i64 k2, .int .i64 n2, .string s2]] w fun e w' => e = .returned (.bool true) ∧ Below w.heap.size w w' := by
  have HA := hide h
  have F2 := hide f2
  clear h f2
  have B0 : Below (W2 k1 n1 k2 n2 s1 s2 w).heap.size (W2 k1 n1 k2 n2 s1 s2 w) (W2 k1 n1 k2 n2 s1 s2 w) := Below.refl _ _
  obtain ⟨hc, hf⟩ := bcell B0
  go_enter Tryd.func3, Tryd.ntmps3
  go_wp2_with fail
  refine (HA.out.five _ B0).mono ?_
  rintro e w1 ⟨rfl, hb⟩
  have B1 := B0.trans (hb.mono B0.size)
  clear hc hf hb B0
  obtain ⟨hc, hf⟩ := bcell B1
  go_wp2_with fail
  refine (HA.out.one _ B1).mono ?_
  rintro e w2 ⟨rfl, hb⟩
  have B2 := B1.trans (hb.mono B1.size)
  clear hc hf hb B1
  obtain ⟨hc, hf⟩ := bcell B2
  go_wp2_with fail
  refine (HA.out.row _ B2).mono ?_
  rintro e w3 ⟨rfl, hb⟩
  have B3 := B2.trans (hb.mono B2.size)
  clear hc hf hb B2
  obtain ⟨hc, hf⟩ := bcell B3
  go_wp2_with fail
  refine (HA.out.two _ F2.out B3).mono ?_
  rintro e w4 ⟨rfl, hb⟩
  have B4 := B3.trans (hb.mono B3.size)
  clear hc hf hb B3
  obtain ⟨hc, hf⟩ := bcell B4
  go_wp2_with fail
  go_quiet (fail)
  go_wp2
  go_ret
  exact ⟨rfl, Go.below_drewN (HA.out.all _ B4) _⟩

set_option maxRecDepth 100000 in
set_option maxHeartbeats 4000000 in
theorem way_kind2 (k1 n1 k2 n2 : Int) (s1 s2 : ByteArray) (w : World) (x y : Int) (h : Asks k1 n1 k2 n2 s1 s2 w x y) (x0 : 0 ≤ x) (x1 : x ≤ 10006) (f2 : M.fault k2 n2 s2 = 0) (hq : M.same k1 n1 s1 k2 n2 s2 = false) (hk1 : (k1 != 1) = false) (hk : (k2 != 1) = true) :
    Calls Tryd.prog 3 #[.agg #[.int .i64 k1, .int .i64 n1, .string s1], .agg #[.int .i64 k2, .int .i64 n2, .string s2]] w fun e w' => e = .returned (.bool true) ∧ Below w.heap.size w w' := by
  have HA := hide h
  have F2 := hide f2
  clear h f2
  have B0 : Below (W2 k1 n1 k2 n2 s1 s2 w).heap.size (W2 k1 n1 k2 n2 s1 s2 w) (W2 k1 n1 k2 n2 s1 s2 w) := Below.refl _ _
  obtain ⟨hc, hf⟩ := bcell B0
  go_enter Tryd.func3, Tryd.ntmps3
  go_wp2_with fail
  refine (HA.out.five _ B0).mono ?_
  rintro e w1 ⟨rfl, hb⟩
  have B1 := B0.trans (hb.mono B0.size)
  clear hc hf hb B0
  obtain ⟨hc, hf⟩ := bcell B1
  go_wp2_with fail
  refine (HA.out.one _ B1).mono ?_
  rintro e w2 ⟨rfl, hb⟩
  have B2 := B1.trans (hb.mono B1.size)
  clear hc hf hb B1
  obtain ⟨hc, hf⟩ := bcell B2
  go_wp2_with fail
  refine (HA.out.row _ B2).mono ?_
  rintro e w3 ⟨rfl, hb⟩
  have B3 := B2.trans (hb.mono B2.size)
  clear hc hf hb B2
  obtain ⟨hc, hf⟩ := bcell B3
  go_wp2_with fail
  refine (HA.out.two _ F2.out B3).mono ?_
  rintro e w4 ⟨rfl, hb⟩
  have B4 := B3.trans (hb.mono B3.size)
  clear hc hf hb B3
  obtain ⟨hc, hf⟩ := bcell B4
  go_wp2_with fail
  go_quiet (fail)
  go_wp2
  go_ret
  exact ⟨rfl, Go.below_drewN (HA.out.all _ B4) _⟩

set_option maxRecDepth 100000 in
set_option maxHeartbeats 4000000 in
theorem way_len (k1 n1 k2 n2 : Int) (s1 s2 : ByteArray) (w : World) (x y : Int) (h : Asks k1 n1 k2 n2 s1 s2 w x y) (x0 : 0 ≤ x) (x1 : x ≤ 10006) (f2 : M.fault k2 n2 s2 = 0) (hq : M.same k1 n1 s1 k2 n2 s2 = false) (hk1 : (k1 != 1) = false) (hk2 : (k2 != 1) = false) (hl : ((s1.size : Int) != (s2.size : Int)) = true) :
    Calls Tryd.prog 3 #[.agg #[.int .i64 k1, .int .i64 n1, .string s1], .agg #[.int .i64 k2, .int .i64 n2, .string s2]] w fun e w' => e = .returned (.bool true) ∧ Below w.heap.size w w' := by
  have HA := hide h
  have F2 := hide f2
  clear h f2
  have B0 : Below (W2 k1 n1 k2 n2 s1 s2 w).heap.size (W2 k1 n1 k2 n2 s1 s2 w) (W2 k1 n1 k2 n2 s1 s2 w) := Below.refl _ _
  obtain ⟨hc, hf⟩ := bcell B0
  go_enter Tryd.func3, Tryd.ntmps3
  go_wp2_with fail
  refine (HA.out.five _ B0).mono ?_
  rintro e w1 ⟨rfl, hb⟩
  have B1 := B0.trans (hb.mono B0.size)
  clear hc hf hb B0
  obtain ⟨hc, hf⟩ := bcell B1
  go_wp2_with fail
  refine (HA.out.one _ B1).mono ?_
  rintro e w2 ⟨rfl, hb⟩
  have B2 := B1.trans (hb.mono B1.size)
  clear hc hf hb B1
  obtain ⟨hc, hf⟩ := bcell B2
  go_wp2_with fail
  refine (HA.out.row _ B2).mono ?_
  rintro e w3 ⟨rfl, hb⟩
  have B3 := B2.trans (hb.mono B2.size)
  clear hc hf hb B2
  obtain ⟨hc, hf⟩ := bcell B3
  go_wp2_with fail
  refine (HA.out.two _ F2.out B3).mono ?_
  rintro e w4 ⟨rfl, hb⟩
  have B4 := B3.trans (hb.mono B3.size)
  clear hc hf hb B3
  obtain ⟨hc, hf⟩ := bcell B4
  go_wp2_with fail
  go_quiet (fail)
  go_wp2
  go_ret
  exact ⟨rfl, Go.below_drewN (HA.out.all _ B4) _⟩

set_option maxRecDepth 100000 in
set_option maxHeartbeats 4000000 in
theorem way_none (k1 n1 k2 n2 : Int) (s1 s2 : ByteArray) (w : World) (x y : Int) (h : Asks k1 n1 k2 n2 s1 s2 w x y) (x0 : 0 ≤ x) (x1 : x ≤ 10006) (f2 : M.fault k2 n2 s2 = 0) (hq : M.same k1 n1 s1 k2 n2 s2 = false) (hk1 : (k1 != 1) = false) (hk2 : (k2 != 1) = false) (hl : ((s1.size : Int) != (s2.size : Int)) = false) (hz : ((s1.size : Int) == 0) = true) :
    Calls Tryd.prog 3 #[.agg #[.int .i64 k1, .int .i64 n1, .string s1], .agg #[.int .i64 k2, .int .i64 n2, .string s2]] w fun e w' => e = .returned (.bool true) ∧ Below w.heap.size w w' := by
  have HA := hide h
  have F2 := hide f2
  clear h f2
  have B0 : Below (W2 k1 n1 k2 n2 s1 s2 w).heap.size (W2 k1 n1 k2 n2 s1 s2 w) (W2 k1 n1 k2 n2 s1 s2 w) := Below.refl _ _
  obtain ⟨hc, hf⟩ := bcell B0
  go_enter Tryd.func3, Tryd.ntmps3
  go_wp2_with fail
  refine (HA.out.five _ B0).mono ?_
  rintro e w1 ⟨rfl, hb⟩
  have B1 := B0.trans (hb.mono B0.size)
  clear hc hf hb B0
  obtain ⟨hc, hf⟩ := bcell B1
  go_wp2_with fail
  refine (HA.out.one _ B1).mono ?_
  rintro e w2 ⟨rfl, hb⟩
  have B2 := B1.trans (hb.mono B1.size)
  clear hc hf hb B1
  obtain ⟨hc, hf⟩ := bcell B2
  go_wp2_with fail
  refine (HA.out.row _ B2).mono ?_
  rintro e w3 ⟨rfl, hb⟩
  have B3 := B2.trans (hb.mono B2.size)
  clear hc hf hb B2
  obtain ⟨hc, hf⟩ := bcell B3
  go_wp2_with fail
  refine (HA.out.two _ F2.out B3).mono ?_
  rintro e w4 ⟨rfl, hb⟩
  have B4 := B3.trans (hb.mono B3.size)
  clear hc hf hb B3
  obtain ⟨hc, hf⟩ := bcell B4
  go_wp2_with fail
  go_quiet (fail)
  go_wp2
  go_ret
  exact ⟨rfl, Go.below_drewN (HA.out.all _ B4) _⟩

set_option maxRecDepth 100000 in
set_option maxHeartbeats 4000000 in
theorem way_head (k1 n1 k2 n2 : Int) (s1 s2 : ByteArray) (w : World) (x y : Int) (h : Asks k1 n1 k2 n2 s1 s2 w x y) (x0 : 0 ≤ x) (x1 : x ≤ 10006) (f2 : M.fault k2 n2 s2 = 0) (m : Nat) (hq : M.same k1 n1 s1 k2 n2 s2 = false) (hk1 : (k1 != 1) = false) (hk2 : (k2 != 1) = false) (hl : ((s1.size : Int) != (s2.size : Int)) = false) (hz : ((s1.size : Int) == 0) = false) (hw : IntKind.i64.wrap ((s1.size : Int) - 1) = (m : Int)) (hm0 : (0 : Int) ≤ (m : Int)) (hm1 : (m : Int) ≤ (s1.size : Int)) (hm2 : (m : Int) ≤ (s2.size : Int)) (hp : ((s1.extract 0 m).toList == (s2.extract 0 m).toList) = false) :
    Calls Tryd.prog 3 #[.agg #[.int .i64 k1, .int .i64 n1, .string s1], .agg #[.int .i64 k2, .int .i64 n2, .string s2]] w fun e w' => e = .returned (.bool true) ∧ Below w.heap.size w w' := by
  have HA := hide h
  have F2 := hide f2
  clear h f2
  have B0 : Below (W2 k1 n1 k2 n2 s1 s2 w).heap.size (W2 k1 n1 k2 n2 s1 s2 w) (W2 k1 n1 k2 n2 s1 s2 w) := Below.refl _ _
  obtain ⟨hc, hf⟩ := bcell B0
  go_enter Tryd.func3, Tryd.ntmps3
  go_wp2_with fail
  refine (HA.out.five _ B0).mono ?_
  rintro e w1 ⟨rfl, hb⟩
  have B1 := B0.trans (hb.mono B0.size)
  clear hc hf hb B0
  obtain ⟨hc, hf⟩ := bcell B1
  go_wp2_with fail
  refine (HA.out.one _ B1).mono ?_
  rintro e w2 ⟨rfl, hb⟩
  have B2 := B1.trans (hb.mono B1.size)
  clear hc hf hb B1
  obtain ⟨hc, hf⟩ := bcell B2
  go_wp2_with fail
  refine (HA.out.row _ B2).mono ?_
  rintro e w3 ⟨rfl, hb⟩
  have B3 := B2.trans (hb.mono B2.size)
  clear hc hf hb B2
  obtain ⟨hc, hf⟩ := bcell B3
  go_wp2_with fail
  refine (HA.out.two _ F2.out B3).mono ?_
  rintro e w4 ⟨rfl, hb⟩
  have B4 := B3.trans (hb.mono B3.size)
  clear hc hf hb B3
  obtain ⟨hc, hf⟩ := bcell B4
  go_wp2_with fail
  go_quiet (fail)
  go_wp2
  go_ret
  exact ⟨rfl, Go.below_drewN (HA.out.all _ B4) _⟩

set_option maxRecDepth 100000 in
set_option maxHeartbeats 4000000 in
theorem way_last (k1 n1 k2 n2 : Int) (s1 s2 : ByteArray) (w : World) (x y : Int) (h : Asks k1 n1 k2 n2 s1 s2 w x y) (x0 : 0 ≤ x) (x1 : x ≤ 10006) (f2 : M.fault k2 n2 s2 = 0) (m : Nat) (hq : M.same k1 n1 s1 k2 n2 s2 = false) (hk1 : (k1 != 1) = false) (hk2 : (k2 != 1) = false) (hl : ((s1.size : Int) != (s2.size : Int)) = false) (hz : ((s1.size : Int) == 0) = false) (hw : IntKind.i64.wrap ((s1.size : Int) - 1) = (m : Int)) (hm0 : (0 : Int) ≤ (m : Int)) (hm1 : (m : Int) ≤ (s1.size : Int)) (hm2 : (m : Int) ≤ (s2.size : Int)) (hp : ((s1.extract 0 m).toList == (s2.extract 0 m).toList) = true) (hxy : (y != x) = true) :
    Calls Tryd.prog 3 #[.agg #[.int .i64 k1, .int .i64 n1, .string s1], .agg #[.int .i64 k2, .int .i64 n2, .string s2]] w fun e w' => e = .returned (.bool true) ∧ Below w.heap.size w w' := by
  have HA := hide h
  have F2 := hide f2
  clear h f2
  have B0 : Below (W2 k1 n1 k2 n2 s1 s2 w).heap.size (W2 k1 n1 k2 n2 s1 s2 w) (W2 k1 n1 k2 n2 s1 s2 w) := Below.refl _ _
  obtain ⟨hc, hf⟩ := bcell B0
  go_enter Tryd.func3, Tryd.ntmps3
  go_wp2_with fail
  refine (HA.out.five _ B0).mono ?_
  rintro e w1 ⟨rfl, hb⟩
  have B1 := B0.trans (hb.mono B0.size)
  clear hc hf hb B0
  obtain ⟨hc, hf⟩ := bcell B1
  go_wp2_with fail
  refine (HA.out.one _ B1).mono ?_
  rintro e w2 ⟨rfl, hb⟩
  have B2 := B1.trans (hb.mono B1.size)
  clear hc hf hb B1
  obtain ⟨hc, hf⟩ := bcell B2
  go_wp2_with fail
  refine (HA.out.row _ B2).mono ?_
  rintro e w3 ⟨rfl, hb⟩
  have B3 := B2.trans (hb.mono B2.size)
  clear hc hf hb B2
  obtain ⟨hc, hf⟩ := bcell B3
  go_wp2_with fail
  refine (HA.out.two _ F2.out B3).mono ?_
  rintro e w4 ⟨rfl, hb⟩
  have B4 := B3.trans (hb.mono B3.size)
  clear hc hf hb B3
  obtain ⟨hc, hf⟩ := bcell B4
  go_wp2_with fail
  go_quiet (fail)
  go_wp2
  go_ret
  exact ⟨rfl, Go.below_drewN (HA.out.all _ B4) _⟩

theorem same_of {k1 n1 k2 n2 : Int} {s1 s2 : ByteArray} (h : M.same k1 n1 s1 k2 n2 s2 = true) : k1 = k2 ∧ n1 = n2 ∧ s1 = s2 := by
  simp only [M.same, Bool.and_eq_true, beq_iff_eq] at h
  obtain ⟨⟨h1, h2⟩, h3⟩ := h
  rw [ByteArray.toList_eq, ByteArray.toList_eq] at h3
  exact ⟨h1, h2, WideShapes.bytes_inj h3⟩

theorem extract_take (s : ByteArray) (m : Nat) : (s.extract 0 m).toList = s.data.toList.take m := by
  rw [ByteArray.toList_eq, ByteArray.data_extract, Array.toList_extract]
  simp [List.extract]

theorem hash_text (n : Int) (s : ByteArray) : M.hash (M.word 1 n s) = M.hashL (58 :: s.data.toList) := by
  have hd : (M.word 1 n s).data.toList = 58 :: s.data.toList := by
    show ((⟨#[58]⟩ : ByteArray) ++ s).data.toList = _
    simp [ByteArray.data_append]
  show M.hashL _ = _
  rw [hd]

/-- texts that are alike but for the last letter, and have one number, are the same -/
theorem last_own {n1 n2 : Int} {s1 s2 : ByteArray} {m : Nat} (h1 : s1.size = m + 1) (h2 : s2.size = m + 1) (hp : s1.data.toList.take m = s2.data.toList.take m) (he : M.hash (M.word 1 n2 s2) = M.hash (M.word 1 n1 s1)) : s1 = s2 := by
  have t1 := take_snoc s1 m (by omega)
  have t2 := take_snoc s2 m (by omega)
  rw [List.take_of_length_le (by simp; omega)] at t1 t2
  rw [hash_text, hash_text, t1, t2, ← List.cons_append, ← List.cons_append, M.hashL_snoc, M.hashL_snoc, hp] at he
  have hc := M.hashC_own he
  apply WideShapes.bytes_inj
  rw [t1, t2, hp, hc]

theorem walk (k1 n1 k2 n2 : Int) (s1 s2 : ByteArray) (w : World) (hs1 : s1.size ≤ maxLen) (hs2 : s2.size ≤ maxLen) (ht : Tab w) :
    Calls Tryd.prog 3 #[.agg #[.int .i64 k1, .int .i64 n1, .string s1], .agg #[.int .i64 k2, .int .i64 n2, .string s2]] w fun e w' => e = .returned (.bool true) ∧ Below w.heap.size w w' := by
  by_cases f1 : M.fault k1 n1 s1 = 0
  · have A := asks k1 n1 k2 n2 s1 s2 w hs1 hs2 ht f1
    obtain ⟨x0, x1⟩ := M.hash_range (M.word k1 n1 s1)
    by_cases f2 : M.fault k2 n2 s2 = 0
    · cases hq : M.same k1 n1 s1 k2 n2 s2
      · cases hk1 : (k1 != 1)
        · cases hk2 : (k2 != 1)
          · cases hl : ((s1.size : Int) != (s2.size : Int))
            · cases hz : ((s1.size : Int) == 0)
              · have e1 : k1 = 1 := by simpa using hk1
                have e2 : k2 = 1 := by simpa using hk2
                have el : s1.size = s2.size := by have : (s1.size : Int) = (s2.size : Int) := by simpa using hl
                                                  omega
                have ez : ¬ (s1.size : Int) = 0 := by simpa using hz
                have z1 : s1.size ≤ 12 := by subst e1; exact (fault_text f1).2.1
                have hw : IntKind.i64.wrap ((s1.size : Int) - 1) = ((s1.size - 1 : Nat) : Int) := by
                  rw [show ((s1.size : Int) - 1) = ((s1.size - 1 : Nat) : Int) by omega]
                  exact IntWalk.i64_in _ (by omega)
                cases hp : ((s1.extract 0 (s1.size - 1)).toList == (s2.extract 0 (s1.size - 1)).toList)
                · exact way_head k1 n1 k2 n2 s1 s2 w _ _ A x0 x1 f2 (s1.size - 1) hq hk1 hk2 hl hz hw (by omega) (by omega) (by omega) hp
                · refine way_last k1 n1 k2 n2 s1 s2 w _ _ A x0 x1 f2 (s1.size - 1) hq hk1 hk2 hl hz hw (by omega) (by omega) (by omega) hp ?_
                  subst e1 e2
                  rw [bne_iff_ne]
                  intro he
                  have hp' : s1.data.toList.take (s1.size - 1) = s2.data.toList.take (s1.size - 1) := by
                    rw [← extract_take, ← extract_take]; exact beq_iff_eq.1 hp
                  have hs := last_own (by omega) (by omega) hp' he
                  obtain ⟨rfl, _, _⟩ := fault_text f1
                  obtain ⟨rfl, _, _⟩ := fault_text f2
                  subst hs
                  rw [same_self] at hq
                  cases hq
              · exact way_none k1 n1 k2 n2 s1 s2 w _ _ A x0 x1 f2 hq hk1 hk2 hl hz
            · exact way_len k1 n1 k2 n2 s1 s2 w _ _ A x0 x1 f2 hq hk1 hk2 hl
          · exact way_kind2 k1 n1 k2 n2 s1 s2 w _ _ A x0 x1 f2 hq hk1 hk2
        · exact way_kind1 k1 n1 k2 n2 s1 s2 w _ _ A x0 x1 f2 hq hk1
      · refine way_same k1 n1 k2 n2 s1 s2 w _ _ A x0 x1 f2 ?_ hq
        obtain ⟨rfl, rfl, rfl⟩ := same_of hq
        rfl
    · exact way_two k1 n1 k2 n2 s1 s2 w _ _ A x0 x1 f2
  · exact way_bad k1 n1 k2 n2 s1 s2 w hs1 ht f1

end Go.Proofs.YtlefhfmckimlaadDoor.printSame
