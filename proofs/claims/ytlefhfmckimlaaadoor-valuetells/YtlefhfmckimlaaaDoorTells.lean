/-
  The walk of the Go function ValueTells: it returns true, whatever the two values and the text, if the library's variables read as its text lays them.
-/
import Derived.Test.YtlefhfmckimlaaaDoorRefRead3
import Derived.Test.YtlefhfmckimlaaaDoorRefOrder2
import Derived.Test.YtlefhfmckimlaaaDoorRefWord
import Derived.Test.YtlefhfmckimlaaaDoorErrTold
import Derived.Test.YtlefhfmckimlaaaDoorSame
import Derived.Test.YtlefhfmckimlaaaDoorBack
set_option linter.unusedSimpArgs false
set_option linter.unusedVariables false
namespace Go.Proofs.YtlefhfmckimlaaaDoor
open Go.RowKit
attribute [local go_sem] same_self
attribute [local go_sem ↓] sameEq sameNe

abbrev W2 (k1 n1 k2 n2 : Int) (s1 s2 : ByteArray) (w : World) : World := (w.alloc (.cells #[.int .i64 k1, .int .i64 n1, .string s1] 23)).alloc (.cells #[.int .i64 k2, .int .i64 n2, .string s2] 23)
theorem W2_below (k1 n1 k2 n2 : Int) (s1 s2 : ByteArray) (w : World) : Below w.heap.size w (W2 k1 n1 k2 n2 s1 s2 w) := ((Below.refl _ _).alloc (Nat.le_refl _) _).alloc (by simp) _
/-- what a later world keeps: the two values, the library's variables -/
structure Keeps (k1 n1 k2 n2 : Int) (s1 s2 : ByteArray) (w W : World) : Prop where
  below : Below (W2 k1 n1 k2 n2 s1 s2 w).heap.size (W2 k1 n1 k2 n2 s1 s2 w) W
  tab : Tab W
  hand : Hand W
  all : Below w.heap.size w W
theorem keeps {k1 n1 k2 n2 : Int} {s1 s2 : ByteArray} {w W : World} (ht : Tab w) (hh : Hand w) (h : Below (W2 k1 n1 k2 n2 s1 s2 w).heap.size (W2 k1 n1 k2 n2 s1 s2 w) W) : Keeps k1 n1 k2 n2 s1 s2 w W := by
  have hb := (W2_below k1 n1 k2 n2 s1 s2 w).trans (h.mono (W2_below k1 n1 k2 n2 s1 s2 w).size)
  exact ⟨h, ht.stays hb (Nat.le_refl _), hh.stays hb (Nat.le_refl _), hb⟩

theorem errSame (n : Int) (w : World) (hg : Hand w) : Calls Tryd.prog 7 #[errV n, .int .i64 n] w fun e w' => e = .returned (.bool true) ∧ Below w.heap.size w w' := by
  have := sameErr n n w hg; simpa using this
theorem errSame0 (w : World) (hg : Hand w) : Calls Tryd.prog 7 #[.nilIface, .int .i64 0] w fun e w' => e = .returned (.bool true) ∧ Below w.heap.size w w' := errSame 0 w hg
theorem errSame3 (w : World) (hg : Hand w) : Calls Tryd.prog 7 #[.iface 50 (.int .i64 3), .int .i64 3] w fun e w' => e = .returned (.bool true) ∧ Below w.heap.size w w' := errSame 3 w hg
theorem errSameB (n : Int) (h : n ≠ 0) (w : World) (hg : Hand w) : Calls Tryd.prog 7 #[.iface 50 (.int .i64 n), .int .i64 n] w fun e w' => e = .returned (.bool true) ∧ Below w.heap.size w w' := by
  have := errSame n w hg; rwa [errV_bad h] at this
theorem refValue0 (k n : Int) (s : ByteArray) (w : World) (hs : s.size ≤ maxLen) (h : M.fault k n s = 0) : Calls Tryd.prog 6 #[.agg #[.int .i64 k, .int .i64 n, .string s]] w fun e w' => e = .returned (.int .i64 0) ∧ Below w.heap.size w w' := by
  have := refValue k n s w hs; rwa [h] at this

set_option maxHeartbeats 1000000 in
set_option maxRecDepth 100000 in
theorem tellsA (k1 n1 k2 n2 : Int) (s1 s2 s : ByteArray) (w : World) (hs1 : s1.size ≤ maxLen) (hs2 : s2.size ≤ maxLen) (hs : s.size ≤ maxLen) (ht : Tab w) (hh : Hand w) (fa : M.fault k1 n1 s1 ≠ 0) :
    Calls Tryd.prog 3 #[.agg #[.int .i64 k1, .int .i64 n1, .string s1], .agg #[.int .i64 k2, .int .i64 n2, .string s2], .string s] w fun e w' => e = .returned (.bool true) ∧ Below w.heap.size w w' := by
  have HK : Hid (∀ W, Below (W2 k1 n1 k2 n2 s1 s2 w).heap.size (W2 k1 n1 k2 n2 s1 s2 w) W → Keeps k1 n1 k2 n2 s1 s2 w W) := fun W h => keeps ht hh h
  clear ht hh
  have FA := hide fa
  have fab : (M.fault k1 n1 s1 == 0) = false := by simpa using fa
  have HBo : Hid (M.both (M.fault k1 n1 s1) (M.fault k2 n2 s2) = M.fault k1 n1 s1) := hide (by unfold M.both; rw [if_neg fa])
  have HO : Hid (∀ w, Calls Tryd.prog 12 #[.agg #[.int .i64 k1, .int .i64 n1, .string s1], .agg #[.int .i64 k2, .int .i64 n2, .string s2]] w fun e w' => e = .returned (.tuple #[.int .i64 0, .iface 50 (.int .i64 (M.fault k1 n1 s1))]) ∧ Below w.heap.size w w') := fun w => by
    have := orderBad k1 n1 s1 k2 n2 s2 w hs1 hs2 (by rw [HBo.out]; exact fa); rwa [HBo.out] at this
  have HFi : Hid (∀ w, Calls Tryd.prog 13 #[.agg #[.int .i64 k1, .int .i64 n1, .string s1], .agg #[.int .i64 k2, .int .i64 n2, .string s2]] w fun e w' => e = .returned (.tuple #[.bool false, .iface 50 (.int .i64 (M.fault k1 n1 s1))]) ∧ Below w.heap.size w w') := fun w => by
    have := fitsBad k1 n1 s1 k2 n2 s2 w hs1 hs2 (by rw [HBo.out]; exact fa); rwa [HBo.out] at this
  clear fa
  have B0 : Below (W2 k1 n1 k2 n2 s1 s2 w).heap.size (W2 k1 n1 k2 n2 s1 s2 w) (W2 k1 n1 k2 n2 s1 s2 w) := Below.refl _ _
  obtain ⟨hc, hf⟩ := bcell B0
  go_enter Tryd.func3, Tryd.ntmps3
  go_wp2_with fail
  refine (refValue k1 n1 s1 _ hs1).mono ?_
  rintro e w1 ⟨rfl, hb1⟩
  have B1 := B0.trans (hb1.mono B0.size)
  clear hc hf hb1 B0
  obtain ⟨hc, hf⟩ := bcell B1
  go_wp2_with fail
  refine (checkBad k1 n1 s1 _ hs1 FA.out).mono ?_
  rintro e w2 ⟨rfl, hb2⟩
  have B2 := B1.trans (hb2.mono B1.size)
  clear hc hf hb2 B1
  obtain ⟨hc, hf⟩ := bcell B2
  go_wp2_with fail
  refine (errSameB _ FA.out _ (HK.out _ B2).hand).mono ?_
  rintro e w3 ⟨rfl, hb3⟩
  have B3 := B2.trans (hb3.mono B2.size)
  clear hc hf hb3 B2
  obtain ⟨hc, hf⟩ := bcell B3
  go_wp2_with fail
  refine (printBad k1 n1 s1 _ hs1 FA.out).mono ?_
  rintro e w4 ⟨rfl, hb4⟩
  have B4 := B3.trans (hb4.mono B3.size)
  clear hc hf hb4 B3
  obtain ⟨hc, hf⟩ := bcell B4
  go_wp2_with fail
  refine (errSameB _ FA.out _ (HK.out _ B4).hand).mono ?_
  rintro e w5 ⟨rfl, hb5⟩
  have B5 := B4.trans (hb5.mono B4.size)
  clear hc hf hb5 B4
  obtain ⟨hc, hf⟩ := bcell B5
  go_wp2_with fail
  refine (unhide HO _).mono ?_
  rintro e w6 ⟨rfl, hb6⟩
  have B6 := B5.trans (hb6.mono B5.size)
  clear hc hf hb6 B5
  obtain ⟨hc, hf⟩ := bcell B6
  go_wp2_with fail
  refine (errSameB _ FA.out _ (HK.out _ B6).hand).mono ?_
  rintro e w7 ⟨rfl, hb7⟩
  have B7 := B6.trans (hb7.mono B6.size)
  clear hc hf hb7 B6
  obtain ⟨hc, hf⟩ := bcell B7
  go_wp2_with fail
  refine (unhide HFi _).mono ?_
  rintro e w8 ⟨rfl, hb8⟩
  have B8 := B7.trans (hb8.mono B7.size)
  clear hc hf hb8 B7
  obtain ⟨hc, hf⟩ := bcell B8
  go_wp2_with fail
  refine (errSameB _ FA.out _ (HK.out _ B8).hand).mono ?_
  rintro e w9 ⟨rfl, hb9⟩
  have B9 := B8.trans (hb9.mono B8.size)
  clear hc hf hb9 B8
  obtain ⟨hc, hf⟩ := bcell B9
  go_wp2_with fail
  refine (refRead s _ hs).mono ?_
  rintro e w10 ⟨rfl, hb10⟩
  have B10 := B9.trans (hb10.mono B9.size)
  clear hc hf hb10 B9
  obtain ⟨hc, hf⟩ := bcell B10
  go_wp2_with fail
  refine (parse s _ hs).mono ?_
  rintro e w11 ⟨rfl, hb11⟩
  have B11 := (B10.alloc B10.size _).trans (hb11.mono (by have := B10.size; simp at this ⊢; omega))
  obtain ⟨hc11, hf11⟩ := bcell hb11
  have hz1 : w10.heap.size < w11.heap.size := by have := hb11.size; simp at this; omega
  have hz2 : w10.heap.size < w11.heap.size + 1 := by omega
  clear hc hf hb11
  go_wp2_with fail
  refine (errSame (M.pErr s) _ (HK.out _ (B11.alloc B11.size _)).hand).mono ?_
  rintro e w12 ⟨rfl, hb12⟩
  have B12 := (B11.alloc B11.size _).trans (hb12.mono (by have := B11.size; simp at this ⊢; omega))
  obtain ⟨hc12, hf12⟩ := bcell hb12
  go_wp2_with fail
  go_ret
  exact ⟨rfl, (HK.out _ B12).all⟩

set_option maxHeartbeats 1000000 in
set_option maxRecDepth 100000 in
theorem tellsB (k1 n1 k2 n2 : Int) (s1 s2 s : ByteArray) (w : World) (hs1 : s1.size ≤ maxLen) (hs2 : s2.size ≤ maxLen) (hs : s.size ≤ maxLen) (ht : Tab w) (hh : Hand w) (fa : M.fault k1 n1 s1 = 0) (fb : M.fault k2 n2 s2 ≠ 0) :
    Calls Tryd.prog 3 #[.agg #[.int .i64 k1, .int .i64 n1, .string s1], .agg #[.int .i64 k2, .int .i64 n2, .string s2], .string s] w fun e w' => e = .returned (.bool true) ∧ Below w.heap.size w w' := by
  have HK : Hid (∀ W, Below (W2 k1 n1 k2 n2 s1 s2 w).heap.size (W2 k1 n1 k2 n2 s1 s2 w) W → Keeps k1 n1 k2 n2 s1 s2 w W) := fun W h => keeps ht hh h
  clear ht hh
  have FA := hide fa
  have HBo : Hid (M.both (M.fault k1 n1 s1) (M.fault k2 n2 s2) = M.fault k2 n2 s2) := hide (by unfold M.both; rw [if_pos fa])
  have FB := hide fb
  have fbb : (M.fault k2 n2 s2 == 0) = false := by simpa using fb
  have HO : Hid (∀ w, Calls Tryd.prog 12 #[.agg #[.int .i64 k1, .int .i64 n1, .string s1], .agg #[.int .i64 k2, .int .i64 n2, .string s2]] w fun e w' => e = .returned (.tuple #[.int .i64 0, .iface 50 (.int .i64 (M.fault k2 n2 s2))]) ∧ Below w.heap.size w w') := fun w => by
    have := orderBad k1 n1 s1 k2 n2 s2 w hs1 hs2 (by rw [HBo.out]; exact fb); rwa [HBo.out] at this
  have HFi : Hid (∀ w, Calls Tryd.prog 13 #[.agg #[.int .i64 k1, .int .i64 n1, .string s1], .agg #[.int .i64 k2, .int .i64 n2, .string s2]] w fun e w' => e = .returned (.tuple #[.bool false, .iface 50 (.int .i64 (M.fault k2 n2 s2))]) ∧ Below w.heap.size w w') := fun w => by
    have := fitsBad k1 n1 s1 k2 n2 s2 w hs1 hs2 (by rw [HBo.out]; exact fb); rwa [HBo.out] at this
  clear fa fb
  have B0 : Below (W2 k1 n1 k2 n2 s1 s2 w).heap.size (W2 k1 n1 k2 n2 s1 s2 w) (W2 k1 n1 k2 n2 s1 s2 w) := Below.refl _ _
  obtain ⟨hc, hf⟩ := bcell B0
  go_enter Tryd.func3, Tryd.ntmps3
  go_wp2_with fail
  refine (refValue0 k1 n1 s1 _ hs1 FA.out).mono ?_
  rintro e w1 ⟨rfl, hb1⟩
  have B1 := B0.trans (hb1.mono B0.size)
  clear hc hf hb1 B0
  obtain ⟨hc, hf⟩ := bcell B1
  go_wp2_with fail
  refine (checkOk k1 n1 s1 _ hs1 FA.out).mono ?_
  rintro e w2 ⟨rfl, hb2⟩
  have B2 := B1.trans (hb2.mono B1.size)
  clear hc hf hb2 B1
  obtain ⟨hc, hf⟩ := bcell B2
  go_wp2_with fail
  refine (errSame0 _ (HK.out _ B2).hand).mono ?_
  rintro e w3 ⟨rfl, hb3⟩
  have B3 := B2.trans (hb3.mono B2.size)
  clear hc hf hb3 B2
  obtain ⟨hc, hf⟩ := bcell B3
  go_wp2_with fail
  refine (refWord k1 n1 s1 _ FA.out).mono ?_
  rintro e w4 ⟨rfl, hb4⟩
  have B4 := B3.trans (hb4.mono B3.size)
  clear hc hf hb4 B3
  obtain ⟨hc, hf⟩ := bcell B4
  go_wp2_with fail
  refine (printOk k1 n1 s1 _ hs1 FA.out (HK.out _ B4).tab).mono ?_
  rintro e w5 ⟨rfl, hb5⟩
  have B5 := B4.trans (hb5.mono B4.size)
  clear hc hf hb5 B4
  obtain ⟨hc, hf⟩ := bcell B5
  go_wp2_with fail
  refine (errSame0 _ (HK.out _ B5).hand).mono ?_
  rintro e w6 ⟨rfl, hb6⟩
  have B6 := B5.trans (hb6.mono B5.size)
  clear hc hf hb6 B5
  obtain ⟨hc, hf⟩ := bcell B6
  go_wp2_with fail
  refine (refValue k2 n2 s2 _ hs2).mono ?_
  rintro e w7 ⟨rfl, hb7⟩
  have B7 := B6.trans (hb7.mono B6.size)
  clear hc hf hb7 B6
  obtain ⟨hc, hf⟩ := bcell B7
  go_wp2_with fail
  refine (unhide HO _).mono ?_
  rintro e w8 ⟨rfl, hb8⟩
  have B8 := B7.trans (hb8.mono B7.size)
  clear hc hf hb8 B7
  obtain ⟨hc, hf⟩ := bcell B8
  go_wp2_with fail
  refine (errSameB _ FB.out _ (HK.out _ B8).hand).mono ?_
  rintro e w9 ⟨rfl, hb9⟩
  have B9 := B8.trans (hb9.mono B8.size)
  clear hc hf hb9 B8
  obtain ⟨hc, hf⟩ := bcell B9
  go_wp2_with fail
  refine (unhide HFi _).mono ?_
  rintro e w10 ⟨rfl, hb10⟩
  have B10 := B9.trans (hb10.mono B9.size)
  clear hc hf hb10 B9
  obtain ⟨hc, hf⟩ := bcell B10
  go_wp2_with fail
  refine (errSameB _ FB.out _ (HK.out _ B10).hand).mono ?_
  rintro e w11 ⟨rfl, hb11⟩
  have B11 := B10.trans (hb11.mono B10.size)
  clear hc hf hb11 B10
  obtain ⟨hc, hf⟩ := bcell B11
  go_wp2_with fail
  refine (refRead s _ hs).mono ?_
  rintro e w12 ⟨rfl, hb12⟩
  have B12 := B11.trans (hb12.mono B11.size)
  clear hc hf hb12 B11
  obtain ⟨hc, hf⟩ := bcell B12
  go_wp2_with fail
  refine (parse s _ hs).mono ?_
  rintro e w13 ⟨rfl, hb13⟩
  have B13 := (B12.alloc B12.size _).trans (hb13.mono (by have := B12.size; simp at this ⊢; omega))
  obtain ⟨hc13, hf13⟩ := bcell hb13
  have hz1 : w12.heap.size < w13.heap.size := by have := hb13.size; simp at this; omega
  have hz2 : w12.heap.size < w13.heap.size + 1 := by omega
  clear hc hf hb13
  go_wp2_with fail
  refine (errSame (M.pErr s) _ (HK.out _ (B13.alloc B13.size _)).hand).mono ?_
  rintro e w14 ⟨rfl, hb14⟩
  have B14 := (B13.alloc B13.size _).trans (hb14.mono (by have := B13.size; simp at this ⊢; omega))
  obtain ⟨hc14, hf14⟩ := bcell hb14
  go_wp2_with fail
  go_ret
  exact ⟨rfl, (HK.out _ B14).all⟩

set_option maxHeartbeats 1000000 in
set_option maxRecDepth 100000 in
theorem tellsC (k1 n1 n2 : Int) (s1 s2 s : ByteArray) (w : World) (hs1 : s1.size ≤ maxLen) (hs2 : s2.size ≤ maxLen) (hs : s.size ≤ maxLen) (ht : Tab w) (hh : Hand w) (fa : M.fault k1 n1 s1 = 0) (fb : M.fault 2 n2 s2 = 0) :
    Calls Tryd.prog 3 #[.agg #[.int .i64 k1, .int .i64 n1, .string s1], .agg #[.int .i64 2, .int .i64 n2, .string s2], .string s] w fun e w' => e = .returned (.bool true) ∧ Below w.heap.size w w' := by
  have HK : Hid (∀ W, Below (W2 k1 n1 2 n2 s1 s2 w).heap.size (W2 k1 n1 2 n2 s1 s2 w) W → Keeps k1 n1 2 n2 s1 s2 w W) := fun W h => keeps ht hh h
  clear ht hh
  have FA := hide fa
  have HBo : Hid (M.both (M.fault k1 n1 s1) (M.fault 2 n2 s2) = M.fault 2 n2 s2) := hide (by unfold M.both; rw [if_pos fa])
  have FB := hide fb
  have HB2 : Hid (M.both (M.fault k1 n1 s1) (M.fault 2 n2 s2) = 0) := hide (HBo.out.trans fb)
  clear fa fb
  have B0 : Below (W2 k1 n1 2 n2 s1 s2 w).heap.size (W2 k1 n1 2 n2 s1 s2 w) (W2 k1 n1 2 n2 s1 s2 w) := Below.refl _ _
  obtain ⟨hc, hf⟩ := bcell B0
  go_enter Tryd.func3, Tryd.ntmps3
  go_wp2_with fail
  refine (refValue0 k1 n1 s1 _ hs1 FA.out).mono ?_
  rintro e w1 ⟨rfl, hb1⟩
  have B1 := B0.trans (hb1.mono B0.size)
  clear hc hf hb1 B0
  obtain ⟨hc, hf⟩ := bcell B1
  go_wp2_with fail
  refine (checkOk k1 n1 s1 _ hs1 FA.out).mono ?_
  rintro e w2 ⟨rfl, hb2⟩
  have B2 := B1.trans (hb2.mono B1.size)
  clear hc hf hb2 B1
  obtain ⟨hc, hf⟩ := bcell B2
  go_wp2_with fail
  refine (errSame0 _ (HK.out _ B2).hand).mono ?_
  rintro e w3 ⟨rfl, hb3⟩
  have B3 := B2.trans (hb3.mono B2.size)
  clear hc hf hb3 B2
  obtain ⟨hc, hf⟩ := bcell B3
  go_wp2_with fail
  refine (refWord k1 n1 s1 _ FA.out).mono ?_
  rintro e w4 ⟨rfl, hb4⟩
  have B4 := B3.trans (hb4.mono B3.size)
  clear hc hf hb4 B3
  obtain ⟨hc, hf⟩ := bcell B4
  go_wp2_with fail
  refine (printOk k1 n1 s1 _ hs1 FA.out (HK.out _ B4).tab).mono ?_
  rintro e w5 ⟨rfl, hb5⟩
  have B5 := B4.trans (hb5.mono B4.size)
  clear hc hf hb5 B4
  obtain ⟨hc, hf⟩ := bcell B5
  go_wp2_with fail
  refine (errSame0 _ (HK.out _ B5).hand).mono ?_
  rintro e w6 ⟨rfl, hb6⟩
  have B6 := B5.trans (hb6.mono B5.size)
  clear hc hf hb6 B5
  obtain ⟨hc, hf⟩ := bcell B6
  go_wp2_with fail
  refine (refValue0 2 n2 s2 _ hs2 FB.out).mono ?_
  rintro e w7 ⟨rfl, hb7⟩
  have B7 := B6.trans (hb7.mono B6.size)
  clear hc hf hb7 B6
  obtain ⟨hc, hf⟩ := bcell B7
  go_wp2_with fail
  refine (refOrder k1 n1 s1 2 n2 s2 _ hs1 hs2).mono ?_
  rintro e w8 ⟨rfl, hb8⟩
  have B8 := B7.trans (hb8.mono B7.size)
  clear hc hf hb8 B7
  obtain ⟨hc, hf⟩ := bcell B8
  go_wp2_with fail
  refine (orderOk k1 n1 s1 2 n2 s2 _ hs1 hs2 HB2.out).mono ?_
  rintro e w9 ⟨rfl, hb9⟩
  have B9 := B8.trans (hb9.mono B8.size)
  clear hc hf hb9 B8
  obtain ⟨hc, hf⟩ := bcell B9
  go_wp2_with fail
  refine (errSame0 _ (HK.out _ B9).hand).mono ?_
  rintro e w10 ⟨rfl, hb10⟩
  have B10 := B9.trans (hb10.mono B9.size)
  clear hc hf hb10 B9
  obtain ⟨hc, hf⟩ := bcell B10
  go_wp2_with fail
  refine (fitsAny k1 n1 s1 n2 s2 _ hs1 hs2 HB2.out).mono ?_
  rintro e w11 ⟨rfl, hb11⟩
  have B11 := B10.trans (hb11.mono B10.size)
  clear hc hf hb11 B10
  obtain ⟨hc, hf⟩ := bcell B11
  go_wp2_with fail
  refine (errSame3 _ (HK.out _ B11).hand).mono ?_
  rintro e w12 ⟨rfl, hb12⟩
  have B12 := B11.trans (hb12.mono B11.size)
  clear hc hf hb12 B11
  obtain ⟨hc, hf⟩ := bcell B12
  go_wp2_with fail
  refine (refRead s _ hs).mono ?_
  rintro e w13 ⟨rfl, hb13⟩
  have B13 := B12.trans (hb13.mono B12.size)
  clear hc hf hb13 B12
  obtain ⟨hc, hf⟩ := bcell B13
  go_wp2_with fail
  refine (parse s _ hs).mono ?_
  rintro e w14 ⟨rfl, hb14⟩
  have B14 := (B13.alloc B13.size _).trans (hb14.mono (by have := B13.size; simp at this ⊢; omega))
  obtain ⟨hc14, hf14⟩ := bcell hb14
  have hz1 : w13.heap.size < w14.heap.size := by have := hb14.size; simp at this; omega
  have hz2 : w13.heap.size < w14.heap.size + 1 := by omega
  clear hc hf hb14
  go_wp2_with fail
  refine (errSame (M.pErr s) _ (HK.out _ (B14.alloc B14.size _)).hand).mono ?_
  rintro e w15 ⟨rfl, hb15⟩
  have B15 := (B14.alloc B14.size _).trans (hb15.mono (by have := B14.size; simp at this ⊢; omega))
  obtain ⟨hc15, hf15⟩ := bcell hb15
  go_wp2_with fail
  go_ret
  exact ⟨rfl, (HK.out _ B15).all⟩

set_option maxHeartbeats 1000000 in
set_option maxRecDepth 100000 in
theorem tellsD (n1 k2 n2 : Int) (s1 s2 s : ByteArray) (w : World) (hs1 : s1.size ≤ maxLen) (hs2 : s2.size ≤ maxLen) (hs : s.size ≤ maxLen) (ht : Tab w) (hh : Hand w) (fa : M.fault 2 n1 s1 = 0) (fb : M.fault k2 n2 s2 = 0) (hk : k2 ≠ 2) :
    Calls Tryd.prog 3 #[.agg #[.int .i64 2, .int .i64 n1, .string s1], .agg #[.int .i64 k2, .int .i64 n2, .string s2], .string s] w fun e w' => e = .returned (.bool true) ∧ Below w.heap.size w w' := by
  have HK : Hid (∀ W, Below (W2 2 n1 k2 n2 s1 s2 w).heap.size (W2 2 n1 k2 n2 s1 s2 w) W → Keeps 2 n1 k2 n2 s1 s2 w W) := fun W h => keeps ht hh h
  clear ht hh
  have FA := hide fa
  have HBo : Hid (M.both (M.fault 2 n1 s1) (M.fault k2 n2 s2) = M.fault k2 n2 s2) := hide (by unfold M.both; rw [if_pos fa])
  have FB := hide fb
  have HB2 : Hid (M.both (M.fault 2 n1 s1) (M.fault k2 n2 s2) = 0) := hide (HBo.out.trans fb)
  have HKb := hide hk
  have hkb : (k2 == 2) = false := by simpa using hk
  clear fa fb hk
  have B0 : Below (W2 2 n1 k2 n2 s1 s2 w).heap.size (W2 2 n1 k2 n2 s1 s2 w) (W2 2 n1 k2 n2 s1 s2 w) := Below.refl _ _
  obtain ⟨hc, hf⟩ := bcell B0
  go_enter Tryd.func3, Tryd.ntmps3
  go_wp2_with fail
  refine (refValue0 2 n1 s1 _ hs1 FA.out).mono ?_
  rintro e w1 ⟨rfl, hb1⟩
  have B1 := B0.trans (hb1.mono B0.size)
  clear hc hf hb1 B0
  obtain ⟨hc, hf⟩ := bcell B1
  go_wp2_with fail
  refine (checkOk 2 n1 s1 _ hs1 FA.out).mono ?_
  rintro e w2 ⟨rfl, hb2⟩
  have B2 := B1.trans (hb2.mono B1.size)
  clear hc hf hb2 B1
  obtain ⟨hc, hf⟩ := bcell B2
  go_wp2_with fail
  refine (errSame0 _ (HK.out _ B2).hand).mono ?_
  rintro e w3 ⟨rfl, hb3⟩
  have B3 := B2.trans (hb3.mono B2.size)
  clear hc hf hb3 B2
  obtain ⟨hc, hf⟩ := bcell B3
  go_wp2_with fail
  refine (refWord 2 n1 s1 _ FA.out).mono ?_
  rintro e w4 ⟨rfl, hb4⟩
  have B4 := B3.trans (hb4.mono B3.size)
  clear hc hf hb4 B3
  obtain ⟨hc, hf⟩ := bcell B4
  go_wp2_with fail
  refine (printOk 2 n1 s1 _ hs1 FA.out (HK.out _ B4).tab).mono ?_
  rintro e w5 ⟨rfl, hb5⟩
  have B5 := B4.trans (hb5.mono B4.size)
  clear hc hf hb5 B4
  obtain ⟨hc, hf⟩ := bcell B5
  go_wp2_with fail
  refine (errSame0 _ (HK.out _ B5).hand).mono ?_
  rintro e w6 ⟨rfl, hb6⟩
  have B6 := B5.trans (hb6.mono B5.size)
  clear hc hf hb6 B5
  obtain ⟨hc, hf⟩ := bcell B6
  go_wp2_with fail
  refine (refValue0 k2 n2 s2 _ hs2 FB.out).mono ?_
  rintro e w7 ⟨rfl, hb7⟩
  have B7 := B6.trans (hb7.mono B6.size)
  clear hc hf hb7 B6
  obtain ⟨hc, hf⟩ := bcell B7
  go_wp2_with fail
  refine (refOrder 2 n1 s1 k2 n2 s2 _ hs1 hs2).mono ?_
  rintro e w8 ⟨rfl, hb8⟩
  have B8 := B7.trans (hb8.mono B7.size)
  clear hc hf hb8 B7
  obtain ⟨hc, hf⟩ := bcell B8
  go_wp2_with fail
  refine (orderOk 2 n1 s1 k2 n2 s2 _ hs1 hs2 HB2.out).mono ?_
  rintro e w9 ⟨rfl, hb9⟩
  have B9 := B8.trans (hb9.mono B8.size)
  clear hc hf hb9 B8
  obtain ⟨hc, hf⟩ := bcell B9
  go_wp2_with fail
  refine (errSame0 _ (HK.out _ B9).hand).mono ?_
  rintro e w10 ⟨rfl, hb10⟩
  have B10 := B9.trans (hb10.mono B9.size)
  clear hc hf hb10 B9
  obtain ⟨hc, hf⟩ := bcell B10
  go_wp2_with fail
  refine (fitsAll n1 s1 k2 n2 s2 _ hs1 hs2 HB2.out HKb.out).mono ?_
  rintro e w11 ⟨rfl, hb11⟩
  have B11 := B10.trans (hb11.mono B10.size)
  clear hc hf hb11 B10
  obtain ⟨hc, hf⟩ := bcell B11
  go_wp2_with fail
  refine (errSame0 _ (HK.out _ B11).hand).mono ?_
  rintro e w12 ⟨rfl, hb12⟩
  have B12 := B11.trans (hb12.mono B11.size)
  clear hc hf hb12 B11
  obtain ⟨hc, hf⟩ := bcell B12
  go_wp2_with fail
  refine (refRead s _ hs).mono ?_
  rintro e w13 ⟨rfl, hb13⟩
  have B13 := B12.trans (hb13.mono B12.size)
  clear hc hf hb13 B12
  obtain ⟨hc, hf⟩ := bcell B13
  go_wp2_with fail
  refine (parse s _ hs).mono ?_
  rintro e w14 ⟨rfl, hb14⟩
  have B14 := (B13.alloc B13.size _).trans (hb14.mono (by have := B13.size; simp at this ⊢; omega))
  obtain ⟨hc14, hf14⟩ := bcell hb14
  have hz1 : w13.heap.size < w14.heap.size := by have := hb14.size; simp at this; omega
  have hz2 : w13.heap.size < w14.heap.size + 1 := by omega
  clear hc hf hb14
  go_wp2_with fail
  refine (errSame (M.pErr s) _ (HK.out _ (B14.alloc B14.size _)).hand).mono ?_
  rintro e w15 ⟨rfl, hb15⟩
  have B15 := (B14.alloc B14.size _).trans (hb15.mono (by have := B14.size; simp at this ⊢; omega))
  obtain ⟨hc15, hf15⟩ := bcell hb15
  go_wp2_with fail
  go_ret
  exact ⟨rfl, (HK.out _ B15).all⟩

set_option maxHeartbeats 1000000 in
set_option maxRecDepth 100000 in
theorem tellsE (k1 n1 k2 n2 : Int) (s1 s2 s : ByteArray) (w : World) (hs1 : s1.size ≤ maxLen) (hs2 : s2.size ≤ maxLen) (hs : s.size ≤ maxLen) (ht : Tab w) (hh : Hand w) (fa : M.fault k1 n1 s1 = 0) (fb : M.fault k2 n2 s2 = 0) (hk1 : k1 ≠ 2) (hk : k2 ≠ 2) :
    Calls Tryd.prog 3 #[.agg #[.int .i64 k1, .int .i64 n1, .string s1], .agg #[.int .i64 k2, .int .i64 n2, .string s2], .string s] w fun e w' => e = .returned (.bool true) ∧ Below w.heap.size w w' := by
  have HK : Hid (∀ W, Below (W2 k1 n1 k2 n2 s1 s2 w).heap.size (W2 k1 n1 k2 n2 s1 s2 w) W → Keeps k1 n1 k2 n2 s1 s2 w W) := fun W h => keeps ht hh h
  clear ht hh
  have FA := hide fa
  have HBo : Hid (M.both (M.fault k1 n1 s1) (M.fault k2 n2 s2) = M.fault k2 n2 s2) := hide (by unfold M.both; rw [if_pos fa])
  have FB := hide fb
  have HB2 : Hid (M.both (M.fault k1 n1 s1) (M.fault k2 n2 s2) = 0) := hide (HBo.out.trans fb)
  have HKa := hide hk1
  have HKb := hide hk
  have hka : (k1 == 2) = false := by simpa using hk1
  have hkb : (k2 == 2) = false := by simpa using hk
  clear fa fb hk hk1
  have B0 : Below (W2 k1 n1 k2 n2 s1 s2 w).heap.size (W2 k1 n1 k2 n2 s1 s2 w) (W2 k1 n1 k2 n2 s1 s2 w) := Below.refl _ _
  obtain ⟨hc, hf⟩ := bcell B0
  go_enter Tryd.func3, Tryd.ntmps3
  go_wp2_with fail
  refine (refValue0 k1 n1 s1 _ hs1 FA.out).mono ?_
  rintro e w1 ⟨rfl, hb1⟩
  have B1 := B0.trans (hb1.mono B0.size)
  clear hc hf hb1 B0
  obtain ⟨hc, hf⟩ := bcell B1
  go_wp2_with fail
  refine (checkOk k1 n1 s1 _ hs1 FA.out).mono ?_
  rintro e w2 ⟨rfl, hb2⟩
  have B2 := B1.trans (hb2.mono B1.size)
  clear hc hf hb2 B1
  obtain ⟨hc, hf⟩ := bcell B2
  go_wp2_with fail
  refine (errSame0 _ (HK.out _ B2).hand).mono ?_
  rintro e w3 ⟨rfl, hb3⟩
  have B3 := B2.trans (hb3.mono B2.size)
  clear hc hf hb3 B2
  obtain ⟨hc, hf⟩ := bcell B3
  go_wp2_with fail
  refine (refWord k1 n1 s1 _ FA.out).mono ?_
  rintro e w4 ⟨rfl, hb4⟩
  have B4 := B3.trans (hb4.mono B3.size)
  clear hc hf hb4 B3
  obtain ⟨hc, hf⟩ := bcell B4
  go_wp2_with fail
  refine (printOk k1 n1 s1 _ hs1 FA.out (HK.out _ B4).tab).mono ?_
  rintro e w5 ⟨rfl, hb5⟩
  have B5 := B4.trans (hb5.mono B4.size)
  clear hc hf hb5 B4
  obtain ⟨hc, hf⟩ := bcell B5
  go_wp2_with fail
  refine (errSame0 _ (HK.out _ B5).hand).mono ?_
  rintro e w6 ⟨rfl, hb6⟩
  have B6 := B5.trans (hb6.mono B5.size)
  clear hc hf hb6 B5
  obtain ⟨hc, hf⟩ := bcell B6
  go_wp2_with fail
  refine (refValue0 k2 n2 s2 _ hs2 FB.out).mono ?_
  rintro e w7 ⟨rfl, hb7⟩
  have B7 := B6.trans (hb7.mono B6.size)
  clear hc hf hb7 B6
  obtain ⟨hc, hf⟩ := bcell B7
  go_wp2_with fail
  refine (refOrder k1 n1 s1 k2 n2 s2 _ hs1 hs2).mono ?_
  rintro e w8 ⟨rfl, hb8⟩
  have B8 := B7.trans (hb8.mono B7.size)
  clear hc hf hb8 B7
  obtain ⟨hc, hf⟩ := bcell B8
  go_wp2_with fail
  refine (orderOk k1 n1 s1 k2 n2 s2 _ hs1 hs2 HB2.out).mono ?_
  rintro e w9 ⟨rfl, hb9⟩
  have B9 := B8.trans (hb9.mono B8.size)
  clear hc hf hb9 B8
  obtain ⟨hc, hf⟩ := bcell B9
  go_wp2_with fail
  refine (errSame0 _ (HK.out _ B9).hand).mono ?_
  rintro e w10 ⟨rfl, hb10⟩
  have B10 := B9.trans (hb10.mono B9.size)
  clear hc hf hb10 B9
  obtain ⟨hc, hf⟩ := bcell B10
  go_wp2_with fail
  refine (fitsSame k1 n1 s1 k2 n2 s2 _ hs1 hs2 HB2.out HKa.out HKb.out).mono ?_
  rintro e w11 ⟨rfl, hb11⟩
  have B11 := B10.trans (hb11.mono B10.size)
  clear hc hf hb11 B10
  obtain ⟨hc, hf⟩ := bcell B11
  go_wp2_with fail
  refine (errSame0 _ (HK.out _ B11).hand).mono ?_
  rintro e w12 ⟨rfl, hb12⟩
  have B12 := B11.trans (hb12.mono B11.size)
  clear hc hf hb12 B11
  obtain ⟨hc, hf⟩ := bcell B12
  go_wp2_with fail
  refine (refRead s _ hs).mono ?_
  rintro e w13 ⟨rfl, hb13⟩
  have B13 := B12.trans (hb13.mono B12.size)
  clear hc hf hb13 B12
  obtain ⟨hc, hf⟩ := bcell B13
  go_wp2_with fail
  refine (parse s _ hs).mono ?_
  rintro e w14 ⟨rfl, hb14⟩
  have B14 := (B13.alloc B13.size _).trans (hb14.mono (by have := B13.size; simp at this ⊢; omega))
  obtain ⟨hc14, hf14⟩ := bcell hb14
  have hz1 : w13.heap.size < w14.heap.size := by have := hb14.size; simp at this; omega
  have hz2 : w13.heap.size < w14.heap.size + 1 := by omega
  clear hc hf hb14
  go_wp2_with fail
  refine (errSame (M.pErr s) _ (HK.out _ (B14.alloc B14.size _)).hand).mono ?_
  rintro e w15 ⟨rfl, hb15⟩
  have B15 := (B14.alloc B14.size _).trans (hb15.mono (by have := B14.size; simp at this ⊢; omega))
  obtain ⟨hc15, hf15⟩ := bcell hb15
  go_wp2_with fail
  go_ret
  exact ⟨rfl, (HK.out _ B15).all⟩

theorem walkT (k1 n1 k2 n2 : Int) (s1 s2 s : ByteArray) (w : World) (hs1 : s1.size ≤ maxLen) (hs2 : s2.size ≤ maxLen) (hs : s.size ≤ maxLen) (ht : Tab w) (hh : Hand w) :
    Calls Tryd.prog 3 #[.agg #[.int .i64 k1, .int .i64 n1, .string s1], .agg #[.int .i64 k2, .int .i64 n2, .string s2], .string s] w fun e w' => e = .returned (.bool true) ∧ Below w.heap.size w w' := by
  by_cases fa : M.fault k1 n1 s1 = 0
  · by_cases fb : M.fault k2 n2 s2 = 0
    · by_cases h2 : k2 = 2
      · subst h2; exact tellsC k1 n1 n2 s1 s2 s w hs1 hs2 hs ht hh fa fb
      · by_cases h1 : k1 = 2
        · subst h1; exact tellsD n1 k2 n2 s1 s2 s w hs1 hs2 hs ht hh fa fb h2
        · exact tellsE k1 n1 k2 n2 s1 s2 s w hs1 hs2 hs ht hh fa fb h1 h2
    · exact tellsB k1 n1 k2 n2 s1 s2 s w hs1 hs2 hs ht hh fa fb
  · exact tellsA k1 n1 k2 n2 s1 s2 s w hs1 hs2 hs ht hh fa

end Go.Proofs.YtlefhfmckimlaaaDoor
