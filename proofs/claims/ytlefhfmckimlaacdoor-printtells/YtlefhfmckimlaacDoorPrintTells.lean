/-
  The walk of the Go function PrintTells: it returns true, whatever the value and the tuple, if the library's variables read as its text lays them.
-/
import Derived.Test.YtlefhfmckimlaacDoorDigestT
import Derived.Test.YtlefhfmckimlaacDoorRefTup
import Derived.Test.YtlefhfmckimlaacDoorErrTold
set_option linter.unusedVariables false
namespace Go.Proofs.YtlefhfmckimlaacDoor.printTells
open Go.RowKit

abbrev W1 (k n : Int) (s : ByteArray) (w : World) : World := w.alloc (.cells #[.int .i64 k, .int .i64 n, .string s] 50)
theorem W1_below (k n : Int) (s : ByteArray) (w : World) : Below w.heap.size w (W1 k n s w) := (Below.refl _ _).alloc (Nat.le_refl _) _

theorem same0 (w : World) (hg : Hand w) : Calls Tryd.prog 13 #[.nilIface, .int .i64 0] w fun e w' => e = .returned (.bool true) ∧ Below w.heap.size w w' := sameErr 0 0 w hg
theorem sameB (n : Int) (h : n ≠ 0) (w : World) (hg : Hand w) : Calls Tryd.prog 13 #[.iface 69 (.int .i64 n), .int .i64 n] w fun e w' => e = .returned (.bool true) ∧ Below w.heap.size w w' := by
  have h1 := sameErr n n w hg
  have e : (n == n) = true := by simp
  rwa [e, errV_bad h] at h1

/-- what the law asks of the document's functions and the program's, wherever memory has only grown -/
structure Asks (k n : Int) (s : ByteArray) (v : Value) (l : List M.Val) (w : World) : Prop where
  all : ∀ w1, Below (W1 k n s w).heap.size (W1 k n s w) w1 → Below w.heap.size w w1
  rv : ∀ w1, Below (W1 k n s w).heap.size (W1 k n s w) w1 → Calls Tryd.prog 28 #[.agg #[.int .i64 k, .int .i64 n, .string s]] w1 fun e w' => e = .returned (.int .i64 (M.fault k n s)) ∧ Below w1.heap.size w1 w'
  rw : ∀ w1, M.fault k n s = 0 → Below (W1 k n s w).heap.size (W1 k n s w) w1 → Calls Tryd.prog 30 #[.agg #[.int .i64 k, .int .i64 n, .string s]] w1 fun e w' => e = .returned (.string (M.word k n s)) ∧ Below w1.heap.size w1 w'
  rh : ∀ w1, M.fault k n s = 0 → Below (W1 k n s w).heap.size (W1 k n s w) w1 → Calls Tryd.prog 29 #[.string (M.word k n s)] w1 fun e w' => e = .returned (.int .i64 (M.hash (M.word k n s))) ∧ Below w1.heap.size w1 w'
  dv : ∀ w1, M.fault k n s = 0 → Below (W1 k n s w).heap.size (W1 k n s w) w1 → Calls Tryd.prog 31 #[.agg #[.int .i64 k, .int .i64 n, .string s]] w1 fun e w' => e = .returned (.tuple #[.int .i64 (M.hash (M.word k n s)), .nilIface]) ∧ Below w1.heap.size w1 w'
  db : ∀ w1, M.fault k n s ≠ 0 → Below (W1 k n s w).heap.size (W1 k n s w) w1 → Calls Tryd.prog 31 #[.agg #[.int .i64 k, .int .i64 n, .string s]] w1 fun e w' => e = .returned (.tuple #[.int .i64 0, .iface 69 (.int .i64 (M.fault k n s))]) ∧ Below w1.heap.size w1 w'
  s0 : ∀ w1, Below (W1 k n s w).heap.size (W1 k n s w) w1 → Calls Tryd.prog 13 #[.nilIface, .int .i64 0] w1 fun e w' => e = .returned (.bool true) ∧ Below w1.heap.size w1 w'
  sb : ∀ w1 m, m ≠ 0 → Below (W1 k n s w).heap.size (W1 k n s w) w1 → Calls Tryd.prog 13 #[.iface 69 (.int .i64 m), .int .i64 m] w1 fun e w' => e = .returned (.bool true) ∧ Below w1.heap.size w1 w'
  rl : ∀ w1, Below (W1 k n s w).heap.size (W1 k n s w) w1 → Calls Tryd.prog 8 #[v] w1 fun e w' => e = .returned (.int .i64 (M.likeF l)) ∧ Below w1.heap.size w1 w'
  ln : ∀ w1, M.likeF l = 0 → Below (W1 k n s w).heap.size (W1 k n s w) w1 → Calls Tryd.prog 32 #[v] w1 fun e w' => e = .returned (.string (M.line l)) ∧ Below w1.heap.size w1 w'
  lh : ∀ w1, M.likeF l = 0 → Below (W1 k n s w).heap.size (W1 k n s w) w1 → Calls Tryd.prog 29 #[.string (M.line l)] w1 fun e w' => e = .returned (.int .i64 (M.hash (M.line l))) ∧ Below w1.heap.size w1 w'
  dt : ∀ w1, M.likeF l = 0 → Below (W1 k n s w).heap.size (W1 k n s w) w1 → Calls Tryd.prog 33 #[v] w1 fun e w' => e = .returned (.tuple #[.int .i64 (M.hash (M.line l)), .nilIface]) ∧ Below w1.heap.size w1 w'
  du : ∀ w1, M.likeF l ≠ 0 → Below (W1 k n s w).heap.size (W1 k n s w) w1 → Calls Tryd.prog 33 #[v] w1 fun e w' => e = .returned (.tuple #[.int .i64 0, .iface 69 (.int .i64 (M.likeF l))]) ∧ Below w1.heap.size w1 w'

theorem quietly {f : Nat} {a : Array Value} {w : World} {r : Value} (h : Calls Tryd.prog f a w fun e w' => e = .returned r ∧ w' = w) : Calls Tryd.prog f a w fun e w' => e = .returned r ∧ Below w.heap.size w w' :=
  h.mono fun _ _ ⟨he, hw⟩ => ⟨he, hw ▸ Below.refl _ _⟩

theorem asks (k n : Int) (s : ByteArray) (v : Value) (l : List M.Val) (w : World) (hs : s.size ≤ maxLen) (h : IsVals w v l) (ht : Tab w) (hg : Hand w) : Asks k n s v l w := by
  have all : ∀ w1, Below (W1 k n s w).heap.size (W1 k n s w) w1 → Below w.heap.size w w1 := fun w1 b => (W1_below k n s w).trans (b.mono (W1_below k n s w).size)
  exact
  { all := all
    rv := fun w1 _ => refValue k n s w1 hs
    rw := fun w1 e _ => refWord k n s w1 e
    rh := fun w1 e _ => quietly (refHash _ w1 (Nat.le_trans (word_le e) (by unfold maxLen; decide)))
    dv := fun w1 e b => dvalOk k n s w1 hs e (ht.stays (all w1 b) (Nat.le_refl _))
    db := fun w1 e _ => dvalBad k n s w1 hs e
    s0 := fun w1 b => same0 w1 (hg.stays (all w1 b) (Nat.le_refl _))
    sb := fun w1 m e b => sameB m e w1 (hg.stays (all w1 b) (Nat.le_refl _))
    rl := fun w1 b => rlike v l w1 (h.stays (all w1 b) (Nat.le_refl _))
    ln := fun w1 e b => rline v l w1 (h.stays (all w1 b) (Nat.le_refl _)) e
    lh := fun w1 e _ => quietly (refHash _ w1 (Nat.le_trans (line_le e) (by unfold maxLen; decide)))
    dt := fun w1 e b => dtupOk v l w1 (h.stays (all w1 b) (Nat.le_refl _)) e (ht.stays (all w1 b) (Nat.le_refl _))
    du := fun w1 e b => dtupBad v l w1 (h.stays (all w1 b) (Nat.le_refl _)) e }

set_option maxRecDepth 100000 in
set_option maxHeartbeats 4000000 in
theorem way11 (k n : Int) (s : ByteArray) (v : Value) (l : List M.Val) (w : World) (h : Asks k n s v l w) (e1 : M.fault k n s = 0) (e2 : M.likeF l = 0) :
    Calls Tryd.prog 6 #[.agg #[.int .i64 k, .int .i64 n, .string s], v] w fun e w' => e = .returned (.bool true) ∧ Below w.heap.size w w' := by
  have H1 : Hid (∀ w1, Below (W1 k n s w).heap.size (W1 k n s w) w1 → Calls Tryd.prog 28 #[.agg #[.int .i64 k, .int .i64 n, .string s]] w1 fun e w' => e = .returned (.int .i64 0) ∧ Below w1.heap.size w1 w') := hide fun w1 b => by have := h.rv w1 b; rwa [e1] at this
  have H6 : Hid (∀ w1, Below (W1 k n s w).heap.size (W1 k n s w) w1 → Calls Tryd.prog 8 #[v] w1 fun e w' => e = .returned (.int .i64 0) ∧ Below w1.heap.size w1 w') := hide fun w1 b => by have := h.rl w1 b; rwa [e2] at this
  have E1 := hide e1
  have E2 := hide e2
  have HA := hide h
  clear h e1 e2
  have B0 : Below (W1 k n s w).heap.size (W1 k n s w) (W1 k n s w) := Below.refl _ _
  obtain ⟨hc, hf⟩ := bcell B0
  go_enter Tryd.func6, Tryd.ntmps6
  go_wp2_with fail
  refine (H1.out _ B0).mono ?_
  rintro e w1 ⟨rfl, hb⟩
  have B1 := B0.trans (hb.mono B0.size)
  clear hc hf hb B0
  obtain ⟨hc, hf⟩ := bcell B1
  go_wp2_with fail
  refine (HA.out.rw _ E1.out B1).mono ?_
  rintro e w2 ⟨rfl, hb⟩
  have B2 := B1.trans (hb.mono B1.size)
  clear hc hf hb B1
  obtain ⟨hc, hf⟩ := bcell B2
  go_wp2_with fail
  refine (HA.out.rh _ E1.out B2).mono ?_
  rintro e w3 ⟨rfl, hb⟩
  have B3 := B2.trans (hb.mono B2.size)
  clear hc hf hb B2
  obtain ⟨hc, hf⟩ := bcell B3
  go_wp2_with fail
  refine (HA.out.dv _ E1.out B3).mono ?_
  rintro e w4 ⟨rfl, hb⟩
  have B4 := B3.trans (hb.mono B3.size)
  clear hc hf hb B3
  obtain ⟨hc, hf⟩ := bcell B4
  go_wp2_with fail
  refine (HA.out.s0 _ B4).mono ?_
  rintro e w5 ⟨rfl, hb⟩
  have B5 := B4.trans (hb.mono B4.size)
  clear hc hf hb B4
  obtain ⟨hc, hf⟩ := bcell B5
  go_wp2_with fail
  refine (H6.out _ B5).mono ?_
  rintro e w6 ⟨rfl, hb⟩
  have B6 := B5.trans (hb.mono B5.size)
  clear hc hf hb B5
  obtain ⟨hc, hf⟩ := bcell B6
  go_wp2_with fail
  refine (HA.out.ln _ E2.out B6).mono ?_
  rintro e w7 ⟨rfl, hb⟩
  have B7 := B6.trans (hb.mono B6.size)
  clear hc hf hb B6
  obtain ⟨hc, hf⟩ := bcell B7
  go_wp2_with fail
  refine (HA.out.lh _ E2.out B7).mono ?_
  rintro e w8 ⟨rfl, hb⟩
  have B8 := B7.trans (hb.mono B7.size)
  clear hc hf hb B7
  obtain ⟨hc, hf⟩ := bcell B8
  go_wp2_with fail
  refine (HA.out.dt _ E2.out B8).mono ?_
  rintro e w9 ⟨rfl, hb⟩
  have B9 := B8.trans (hb.mono B8.size)
  clear hc hf hb B8
  obtain ⟨hc, hf⟩ := bcell B9
  go_wp2_with fail
  refine (HA.out.s0 _ B9).mono ?_
  rintro e w10 ⟨rfl, hb⟩
  have B10 := B9.trans (hb.mono B9.size)
  clear hc hf hb B9
  obtain ⟨hc, hf⟩ := bcell B10
  go_wp2_with fail
  go_ret
  exact ⟨rfl, HA.out.all _ B10⟩

set_option maxRecDepth 100000 in
set_option maxHeartbeats 4000000 in
theorem way10 (k n : Int) (s : ByteArray) (v : Value) (l : List M.Val) (w : World) (h : Asks k n s v l w) (e1 : M.fault k n s = 0) (e2 : M.likeF l ≠ 0) :
    Calls Tryd.prog 6 #[.agg #[.int .i64 k, .int .i64 n, .string s], v] w fun e w' => e = .returned (.bool true) ∧ Below w.heap.size w w' := by
  have H1 : Hid (∀ w1, Below (W1 k n s w).heap.size (W1 k n s w) w1 → Calls Tryd.prog 28 #[.agg #[.int .i64 k, .int .i64 n, .string s]] w1 fun e w' => e = .returned (.int .i64 0) ∧ Below w1.heap.size w1 w') := hide fun w1 b => by have := h.rv w1 b; rwa [e1] at this
  have H6 := hide h.rl
  have e2b : (M.likeF l == 0) = false := by simpa using e2
  have E1 := hide e1
  have E2 := hide e2
  have HA := hide h
  clear h e1 e2
  have B0 : Below (W1 k n s w).heap.size (W1 k n s w) (W1 k n s w) := Below.refl _ _
  obtain ⟨hc, hf⟩ := bcell B0
  go_enter Tryd.func6, Tryd.ntmps6
  go_wp2_with fail
  refine (H1.out _ B0).mono ?_
  rintro e w1 ⟨rfl, hb⟩
  have B1 := B0.trans (hb.mono B0.size)
  clear hc hf hb B0
  obtain ⟨hc, hf⟩ := bcell B1
  go_wp2_with fail
  refine (HA.out.rw _ E1.out B1).mono ?_
  rintro e w2 ⟨rfl, hb⟩
  have B2 := B1.trans (hb.mono B1.size)
  clear hc hf hb B1
  obtain ⟨hc, hf⟩ := bcell B2
  go_wp2_with fail
  refine (HA.out.rh _ E1.out B2).mono ?_
  rintro e w3 ⟨rfl, hb⟩
  have B3 := B2.trans (hb.mono B2.size)
  clear hc hf hb B2
  obtain ⟨hc, hf⟩ := bcell B3
  go_wp2_with fail
  refine (HA.out.dv _ E1.out B3).mono ?_
  rintro e w4 ⟨rfl, hb⟩
  have B4 := B3.trans (hb.mono B3.size)
  clear hc hf hb B3
  obtain ⟨hc, hf⟩ := bcell B4
  go_wp2_with fail
  refine (HA.out.s0 _ B4).mono ?_
  rintro e w5 ⟨rfl, hb⟩
  have B5 := B4.trans (hb.mono B4.size)
  clear hc hf hb B4
  obtain ⟨hc, hf⟩ := bcell B5
  go_wp2_with fail
  refine (H6.out _ B5).mono ?_
  rintro e w6 ⟨rfl, hb⟩
  have B6 := B5.trans (hb.mono B5.size)
  clear hc hf hb B5
  obtain ⟨hc, hf⟩ := bcell B6
  go_wp2_with fail
  refine (HA.out.du _ E2.out B6).mono ?_
  rintro e w7 ⟨rfl, hb⟩
  have B7 := B6.trans (hb.mono B6.size)
  clear hc hf hb B6
  obtain ⟨hc, hf⟩ := bcell B7
  go_wp2_with fail
  refine (HA.out.sb _ _ E2.out B7).mono ?_
  rintro e w8 ⟨rfl, hb⟩
  have B8 := B7.trans (hb.mono B7.size)
  clear hc hf hb B7
  obtain ⟨hc, hf⟩ := bcell B8
  go_wp2_with fail
  go_ret
  exact ⟨rfl, HA.out.all _ B8⟩

set_option maxRecDepth 100000 in
set_option maxHeartbeats 4000000 in
theorem way01 (k n : Int) (s : ByteArray) (v : Value) (l : List M.Val) (w : World) (h : Asks k n s v l w) (e1 : M.fault k n s ≠ 0) (e2 : M.likeF l = 0) :
    Calls Tryd.prog 6 #[.agg #[.int .i64 k, .int .i64 n, .string s], v] w fun e w' => e = .returned (.bool true) ∧ Below w.heap.size w w' := by
  have H1 := hide h.rv
  have e1b : (M.fault k n s == 0) = false := by simpa using e1
  have H6 : Hid (∀ w1, Below (W1 k n s w).heap.size (W1 k n s w) w1 → Calls Tryd.prog 8 #[v] w1 fun e w' => e = .returned (.int .i64 0) ∧ Below w1.heap.size w1 w') := hide fun w1 b => by have := h.rl w1 b; rwa [e2] at this
  have E1 := hide e1
  have E2 := hide e2
  have HA := hide h
  clear h e1 e2
  have B0 : Below (W1 k n s w).heap.size (W1 k n s w) (W1 k n s w) := Below.refl _ _
  obtain ⟨hc, hf⟩ := bcell B0
  go_enter Tryd.func6, Tryd.ntmps6
  go_wp2_with fail
  refine (H1.out _ B0).mono ?_
  rintro e w1 ⟨rfl, hb⟩
  have B1 := B0.trans (hb.mono B0.size)
  clear hc hf hb B0
  obtain ⟨hc, hf⟩ := bcell B1
  go_wp2_with fail
  refine (HA.out.db _ E1.out B1).mono ?_
  rintro e w2 ⟨rfl, hb⟩
  have B2 := B1.trans (hb.mono B1.size)
  clear hc hf hb B1
  obtain ⟨hc, hf⟩ := bcell B2
  go_wp2_with fail
  refine (HA.out.sb _ _ E1.out B2).mono ?_
  rintro e w3 ⟨rfl, hb⟩
  have B3 := B2.trans (hb.mono B2.size)
  clear hc hf hb B2
  obtain ⟨hc, hf⟩ := bcell B3
  go_wp2_with fail
  refine (H6.out _ B3).mono ?_
  rintro e w4 ⟨rfl, hb⟩
  have B4 := B3.trans (hb.mono B3.size)
  clear hc hf hb B3
  obtain ⟨hc, hf⟩ := bcell B4
  go_wp2_with fail
  refine (HA.out.ln _ E2.out B4).mono ?_
  rintro e w5 ⟨rfl, hb⟩
  have B5 := B4.trans (hb.mono B4.size)
  clear hc hf hb B4
  obtain ⟨hc, hf⟩ := bcell B5
  go_wp2_with fail
  refine (HA.out.lh _ E2.out B5).mono ?_
  rintro e w6 ⟨rfl, hb⟩
  have B6 := B5.trans (hb.mono B5.size)
  clear hc hf hb B5
  obtain ⟨hc, hf⟩ := bcell B6
  go_wp2_with fail
  refine (HA.out.dt _ E2.out B6).mono ?_
  rintro e w7 ⟨rfl, hb⟩
  have B7 := B6.trans (hb.mono B6.size)
  clear hc hf hb B6
  obtain ⟨hc, hf⟩ := bcell B7
  go_wp2_with fail
  refine (HA.out.s0 _ B7).mono ?_
  rintro e w8 ⟨rfl, hb⟩
  have B8 := B7.trans (hb.mono B7.size)
  clear hc hf hb B7
  obtain ⟨hc, hf⟩ := bcell B8
  go_wp2_with fail
  go_ret
  exact ⟨rfl, HA.out.all _ B8⟩

set_option maxRecDepth 100000 in
set_option maxHeartbeats 4000000 in
theorem way00 (k n : Int) (s : ByteArray) (v : Value) (l : List M.Val) (w : World) (h : Asks k n s v l w) (e1 : M.fault k n s ≠ 0) (e2 : M.likeF l ≠ 0) :
    Calls Tryd.prog 6 #[.agg #[.int .i64 k, .int .i64 n, .string s], v] w fun e w' => e = .returned (.bool true) ∧ Below w.heap.size w w' := by
  have H1 := hide h.rv
  have e1b : (M.fault k n s == 0) = false := by simpa using e1
  have H6 := hide h.rl
  have e2b : (M.likeF l == 0) = false := by simpa using e2
  have E1 := hide e1
  have E2 := hide e2
  have HA := hide h
  clear h e1 e2
  have B0 : Below (W1 k n s w).heap.size (W1 k n s w) (W1 k n s w) := Below.refl _ _
  obtain ⟨hc, hf⟩ := bcell B0
  go_enter Tryd.func6, Tryd.ntmps6
  go_wp2_with fail
  refine (H1.out _ B0).mono ?_
  rintro e w1 ⟨rfl, hb⟩
  have B1 := B0.trans (hb.mono B0.size)
  clear hc hf hb B0
  obtain ⟨hc, hf⟩ := bcell B1
  go_wp2_with fail
  refine (HA.out.db _ E1.out B1).mono ?_
  rintro e w2 ⟨rfl, hb⟩
  have B2 := B1.trans (hb.mono B1.size)
  clear hc hf hb B1
  obtain ⟨hc, hf⟩ := bcell B2
  go_wp2_with fail
  refine (HA.out.sb _ _ E1.out B2).mono ?_
  rintro e w3 ⟨rfl, hb⟩
  have B3 := B2.trans (hb.mono B2.size)
  clear hc hf hb B2
  obtain ⟨hc, hf⟩ := bcell B3
  go_wp2_with fail
  refine (H6.out _ B3).mono ?_
  rintro e w4 ⟨rfl, hb⟩
  have B4 := B3.trans (hb.mono B3.size)
  clear hc hf hb B3
  obtain ⟨hc, hf⟩ := bcell B4
  go_wp2_with fail
  refine (HA.out.du _ E2.out B4).mono ?_
  rintro e w5 ⟨rfl, hb⟩
  have B5 := B4.trans (hb.mono B4.size)
  clear hc hf hb B4
  obtain ⟨hc, hf⟩ := bcell B5
  go_wp2_with fail
  refine (HA.out.sb _ _ E2.out B5).mono ?_
  rintro e w6 ⟨rfl, hb⟩
  have B6 := B5.trans (hb.mono B5.size)
  clear hc hf hb B5
  obtain ⟨hc, hf⟩ := bcell B6
  go_wp2_with fail
  go_ret
  exact ⟨rfl, HA.out.all _ B6⟩

theorem walk (k n : Int) (s : ByteArray) (v : Value) (l : List M.Val) (w : World) (hs : s.size ≤ maxLen) (h : IsVals w v l) (ht : Tab w) (hg : Hand w) :
    Calls Tryd.prog 6 #[.agg #[.int .i64 k, .int .i64 n, .string s], v] w fun e w' => e = .returned (.bool true) ∧ Below w.heap.size w w' := by
  have A := asks k n s v l w hs h ht hg
  by_cases e1 : M.fault k n s = 0
  · by_cases e2 : M.likeF l = 0
    · exact way11 k n s v l w A e1 e2
    · exact way10 k n s v l w A e1 e2
  · by_cases e2 : M.likeF l = 0
    · exact way01 k n s v l w A e1 e2
    · exact way00 k n s v l w A e1 e2

end Go.Proofs.YtlefhfmckimlaacDoor.printTells
