/-
  What the law TupleTells does: it returns true, for every two tuples and every text that is not too long.
-/
import Derived.Test.YtlefhfmckimlaaaGreatDoorRefTup
import Derived.Test.YtlefhfmckimlaaaGreatDoorRefTup3
import Derived.Test.YtlefhfmckimlaaaGreatDoorErrTold
namespace Go.Proofs.YtlefhfmckimlaaaGreatDoor.tupleTells
open Go.RowKit

theorem err_same (n : Int) (w : World) (hg : Hand w) : Calls Tryz.prog 5 #[errV n, .int .i64 n] w fun e w' => e = .returned (.bool true) ∧ Below w.heap.size w w' := by
  have h := sameErr n n w hg
  have e : (n == n) = true := by simp
  rwa [e] at h

/-- what the law asks of the document's functions and the program's, wherever memory has only grown -/
structure Asks (v1 v2 : Value) (l1 l2 : List M.Val) (s : ByteArray) (w : World) : Prop where
  rl : ∀ w1, Below w.heap.size w w1 → Calls Tryz.prog 4 #[v1] w1 fun e w' => e = .returned (.int .i64 (M.likeF l1)) ∧ Below w1.heap.size w1 w'
  tl : ∀ w1, Below w.heap.size w w1 → Calls Tryz.prog 6 #[v1] w1 fun e w' => e = .returned (errV (M.likeF l1)) ∧ Below w1.heap.size w1 w'
  se : ∀ w1 n, Below w.heap.size w w1 → Calls Tryz.prog 5 #[errV n, .int .i64 n] w1 fun e w' => e = .returned (.bool true) ∧ Below w1.heap.size w1 w'
  rt : ∀ w1, Below w.heap.size w w1 → Calls Tryz.prog 7 #[v2] w1 fun e w' => e = .returned (.int .i64 (M.tupF l2)) ∧ Below w1.heap.size w1 w'
  tc : ∀ w1, Below w.heap.size w w1 → Calls Tryz.prog 8 #[v2] w1 fun e w' => e = .returned (errV (M.tupF l2)) ∧ Below w1.heap.size w1 w'
  ln : ∀ w1, M.likeF l1 = 0 → Below w.heap.size w w1 → Calls Tryz.prog 9 #[v1] w1 fun e w' => e = .returned (.string (M.line l1)) ∧ Below w1.heap.size w1 w'
  pr : ∀ w1, Below w.heap.size w w1 → Calls Tryz.prog 10 #[v1] w1 fun e w' => e = .returned (.tuple #[.string (if M.likeF l1 = 0 then M.line l1 else ⟨#[]⟩), errV (M.likeF l1)]) ∧ Below w1.heap.size w1 w'
  rf : ∀ w1, M.likeF l1 = 0 → M.tupF l2 = 0 → Below w.heap.size w w1 → Calls Tryz.prog 11 #[v1, v2] w1 fun e w' => e = .returned (.bool (M.fitAll l1 l2)) ∧ Below w1.heap.size w1 w'
  tf : ∀ w1, Below w.heap.size w w1 → Calls Tryz.prog 12 #[v1, v2] w1 fun e w' => e = .returned (.tuple #[.bool (M.fitsB l1 l2), errV (M.both (M.likeF l1) (M.tupF l2))]) ∧ Below w1.heap.size w1 w'
  rr : ∀ w1, Below w.heap.size w w1 → Calls Tryz.prog 13 #[.string s] w1 fun e w' => (∃ v, e = .returned (.tuple #[v, .int .i64 (M.readE s.data.toList)]) ∧ IsVals w' v (M.readV s.data.toList)) ∧ Below w1.heap.size w1 w'
  tp : ∀ w1, Below w.heap.size w w1 → Calls Tryz.prog 14 #[.string s] w1 fun e w' => (∃ v, e = .returned (.tuple #[v, errV (M.readE s.data.toList)]) ∧ IsVals w' v (M.readV s.data.toList)) ∧ Below w1.heap.size w1 w'
  st : ∀ w1 x y, Below w.heap.size w w1 → IsVals w1 x (M.readV s.data.toList) → IsVals w1 y (M.readV s.data.toList) → Calls Tryz.prog 15 #[x, y] w1 fun e w' => e = .returned (.bool true) ∧ Below w1.heap.size w1 w'

theorem asks (v1 v2 : Value) (l1 l2 : List M.Val) (s : ByteArray) (w : World) (h1 : IsVals w v1 l1) (h2 : IsVals w v2 l2) (hs : s.size ≤ 1048576) (ht : Tab w) (hg : Hand w) : Asks v1 v2 l1 l2 s w where
  rl := fun w1 b => rlike v1 l1 w1 (h1.stays b (Nat.le_refl _))
  tl := fun w1 b => like v1 l1 w1 (h1.stays b (Nat.le_refl _))
  se := fun w1 n b => err_same n w1 (hg.stays b (Nat.le_refl _))
  rt := fun w1 b => rtuple v2 l2 w1 (h2.stays b (Nat.le_refl _))
  tc := fun w1 b => tcheck v2 l2 w1 (h2.stays b (Nat.le_refl _))
  ln := fun w1 h b => rline v1 l1 w1 (h1.stays b (Nat.le_refl _)) h
  pr := fun w1 b => tprint v1 l1 w1 (h1.stays b (Nat.le_refl _)) (ht.stays b (Nat.le_refl _))
  rf := fun w1 e1 _ b => rfits v1 v2 l1 l2 w1 (h1.stays b (Nat.le_refl _)) (h2.stays b (Nat.le_refl _)) e1
  tf := fun w1 b => tfits v1 v2 l1 l2 w1 (h1.stays b (Nat.le_refl _)) (h2.stays b (Nat.le_refl _))
  rr := fun w1 _ => rread s w1 hs
  tp := fun w1 _ => tparse s w1 (by unfold maxLen; omega)
  st := fun w1 x y _ hx hy => by have h := tsame x y _ _ w1 hx hy; rwa [sameAll_self] at h

set_option maxRecDepth 100000 in
set_option maxHeartbeats 4000000 in
theorem walk_like (v1 v2 : Value) (l1 l2 : List M.Val) (s : ByteArray) (w : World) (h : Asks v1 v2 l1 l2 s w) (he : M.likeF l1 ≠ 0) :
    Calls Tryz.prog 3 #[v1, v2, .string s] w fun e w' => e = .returned (.bool true) ∧ Below w.heap.size w w' := by
  have HS := hide h.se
  have H10 := hide h.rr
  have H11 := hide h.tp
  have H12 := hide h.st
  have he' : (M.likeF l1 == 0) = false := by simpa using he
  have H1 := hide h.rl
  have H2 := hide h.tl
  have H4 := hide h.rt
  have H5 := hide h.tc
  have H7 : Hid (∀ w1, Below w.heap.size w w1 → Calls Tryz.prog 10 #[v1] w1 fun e w' => e = .returned (.tuple #[.string ⟨#[]⟩, errV (M.likeF l1)]) ∧ Below w1.heap.size w1 w') := hide fun w1 b => by have := h.pr w1 b; rwa [if_neg he] at this
  have H9 : Hid (∀ w1, Below w.heap.size w w1 → Calls Tryz.prog 12 #[v1, v2] w1 fun e w' => e = .returned (.tuple #[.bool false, errV (M.likeF l1)]) ∧ Below w1.heap.size w1 w') := hide fun w1 b => by
    have h9 := h.tf w1 b
    have e1 : M.both (M.likeF l1) (M.tupF l2) = M.likeF l1 := by unfold M.both; rw [if_neg he]
    have e2 : M.fitsB l1 l2 = false := by unfold M.fitsB; rw [e1]; simp [he]
    rwa [e1, e2] at h9
  clear h he
  have B0 : Hid (Below w.heap.size w w) := hide (Below.refl _ _)
  go_enter Tryz.func3, Tryz.ntmps3
  go_wp2_with fail
  refine (H1.out _ B0.out).mono ?_
  rintro e w1 ⟨rfl, b⟩
  have B1 := hide (B0.out.trans (b.mono B0.out.size))
  clear b B0
  go_wp2_with fail
  refine (H2.out _ B1.out).mono ?_
  rintro e w2 ⟨rfl, b⟩
  have B2 := hide (B1.out.trans (b.mono B1.out.size))
  clear b B1
  go_wp2_with fail
  refine (HS.out _ _ B2.out).mono ?_
  rintro e w3 ⟨rfl, b⟩
  have B3 := hide (B2.out.trans (b.mono B2.out.size))
  clear b B2
  go_wp2_with fail
  refine (H4.out _ B3.out).mono ?_
  rintro e w4 ⟨rfl, b⟩
  have B4 := hide (B3.out.trans (b.mono B3.out.size))
  clear b B3
  go_wp2_with fail
  refine (H5.out _ B4.out).mono ?_
  rintro e w5 ⟨rfl, b⟩
  have B5 := hide (B4.out.trans (b.mono B4.out.size))
  clear b B4
  go_wp2_with fail
  refine (HS.out _ _ B5.out).mono ?_
  rintro e w6 ⟨rfl, b⟩
  have B6 := hide (B5.out.trans (b.mono B5.out.size))
  clear b B5
  go_wp2_with fail
  refine (H7.out _ B6.out).mono ?_
  rintro e w7 ⟨rfl, b⟩
  have B7 := hide (B6.out.trans (b.mono B6.out.size))
  clear b B6
  go_wp2_with fail
  refine (HS.out _ _ B7.out).mono ?_
  rintro e w8 ⟨rfl, b⟩
  have B8 := hide (B7.out.trans (b.mono B7.out.size))
  clear b B7
  go_wp2_with fail
  refine (H9.out _ B8.out).mono ?_
  rintro e w9 ⟨rfl, b⟩
  have B9 := hide (B8.out.trans (b.mono B8.out.size))
  clear b B8
  go_wp2_with fail
  refine (HS.out _ _ B9.out).mono ?_
  rintro e w10 ⟨rfl, b⟩
  have B10 := hide (B9.out.trans (b.mono B9.out.size))
  clear b B9
  go_wp2_with fail
  refine (H10.out _ B10.out).mono ?_
  rintro e w11 ⟨⟨x, rfl, hx⟩, b⟩
  have B11 := hide (B10.out.trans (b.mono B10.out.size))
  clear b B10
  have HX := hide hx
  clear hx
  go_wp2_with fail
  refine (H11.out _ B11.out).mono ?_
  rintro e w12 ⟨⟨y, rfl, hy⟩, b⟩
  have HX2 := hide (HX.out.stays b (Nat.le_refl _))
  have HY := hide hy
  have B12 := hide (B11.out.trans (b.mono B11.out.size))
  clear b B11 hy HX
  go_wp2_with fail
  refine (HS.out _ _ B12.out).mono ?_
  rintro e w13 ⟨rfl, b⟩
  have HX3 := hide (HX2.out.stays b (Nat.le_refl _))
  have HY3 := hide (HY.out.stays b (Nat.le_refl _))
  have B13 := hide (B12.out.trans (b.mono B12.out.size))
  clear b B12 HX2 HY
  go_wp2_with fail
  refine (H12.out _ _ _ B13.out HY3.out HX3.out).mono ?_
  rintro e w14 ⟨rfl, b⟩
  have B14 := hide (B13.out.trans (b.mono B13.out.size))
  clear b B13
  go_wp2_with fail
  go_ret
  exact ⟨rfl, B14.out⟩

set_option maxRecDepth 100000 in
set_option maxHeartbeats 4000000 in
theorem walk_fits (v1 v2 : Value) (l1 l2 : List M.Val) (s : ByteArray) (w : World) (h : Asks v1 v2 l1 l2 s w) (he : M.likeF l1 = 0) (hf : M.tupF l2 = 0) :
    Calls Tryz.prog 3 #[v1, v2, .string s] w fun e w' => e = .returned (.bool true) ∧ Below w.heap.size w w' := by
  have HS := hide h.se
  have H10 := hide h.rr
  have H11 := hide h.tp
  have H12 := hide h.st
  have H1 : Hid (∀ w1, Below w.heap.size w w1 → Calls Tryz.prog 4 #[v1] w1 fun e w' => e = .returned (.int .i64 0) ∧ Below w1.heap.size w1 w') := hide fun w1 b => by have := h.rl w1 b; rwa [he] at this
  have H2 : Hid (∀ w1, Below w.heap.size w w1 → Calls Tryz.prog 6 #[v1] w1 fun e w' => e = .returned (errV 0) ∧ Below w1.heap.size w1 w') := hide fun w1 b => by have := h.tl w1 b; rwa [he] at this
  have H6 := hide fun w1 b => h.ln w1 he b
  have H7 : Hid (∀ w1, Below w.heap.size w w1 → Calls Tryz.prog 10 #[v1] w1 fun e w' => e = .returned (.tuple #[.string (M.line l1), errV 0]) ∧ Below w1.heap.size w1 w') := hide fun w1 b => by have := h.pr w1 b; rwa [if_pos he, he] at this
  have H4 : Hid (∀ w1, Below w.heap.size w w1 → Calls Tryz.prog 7 #[v2] w1 fun e w' => e = .returned (.int .i64 0) ∧ Below w1.heap.size w1 w') := hide fun w1 b => by have := h.rt w1 b; rwa [hf] at this
  have H5 : Hid (∀ w1, Below w.heap.size w w1 → Calls Tryz.prog 8 #[v2] w1 fun e w' => e = .returned (errV 0) ∧ Below w1.heap.size w1 w') := hide fun w1 b => by have := h.tc w1 b; rwa [hf] at this
  have H8 := hide fun w1 b => h.rf w1 he hf b
  have H9 : Hid (∀ w1, Below w.heap.size w w1 → Calls Tryz.prog 12 #[v1, v2] w1 fun e w' => e = .returned (.tuple #[.bool (M.fitAll l1 l2), errV 0]) ∧ Below w1.heap.size w1 w') := hide fun w1 b => by
    have h9 := h.tf w1 b
    have e1 : M.both (M.likeF l1) (M.tupF l2) = 0 := by rw [he, hf]; rfl
    have e2 : M.fitsB l1 l2 = M.fitAll l1 l2 := by unfold M.fitsB; rw [e1]; rfl
    rwa [e1, e2] at h9
  clear h he hf
  have B0 : Hid (Below w.heap.size w w) := hide (Below.refl _ _)
  go_enter Tryz.func3, Tryz.ntmps3
  go_wp2_with fail
  refine (H1.out _ B0.out).mono ?_
  rintro e w1 ⟨rfl, b⟩
  have B1 := hide (B0.out.trans (b.mono B0.out.size))
  clear b B0
  go_wp2_with fail
  refine (H2.out _ B1.out).mono ?_
  rintro e w2 ⟨rfl, b⟩
  have B2 := hide (B1.out.trans (b.mono B1.out.size))
  clear b B1
  go_wp2_with fail
  refine (HS.out _ _ B2.out).mono ?_
  rintro e w3 ⟨rfl, b⟩
  have B3 := hide (B2.out.trans (b.mono B2.out.size))
  clear b B2
  go_wp2_with fail
  refine (H4.out _ B3.out).mono ?_
  rintro e w4 ⟨rfl, b⟩
  have B4 := hide (B3.out.trans (b.mono B3.out.size))
  clear b B3
  go_wp2_with fail
  refine (H5.out _ B4.out).mono ?_
  rintro e w5 ⟨rfl, b⟩
  have B5 := hide (B4.out.trans (b.mono B4.out.size))
  clear b B4
  go_wp2_with fail
  refine (HS.out _ _ B5.out).mono ?_
  rintro e w6 ⟨rfl, b⟩
  have B6 := hide (B5.out.trans (b.mono B5.out.size))
  clear b B5
  go_wp2_with fail
  refine (H6.out _ B6.out).mono ?_
  rintro e w7 ⟨rfl, b⟩
  have B7 := hide (B6.out.trans (b.mono B6.out.size))
  clear b B6
  go_wp2_with fail
  refine (H7.out _ B7.out).mono ?_
  rintro e w8 ⟨rfl, b⟩
  have B8 := hide (B7.out.trans (b.mono B7.out.size))
  clear b B7
  go_wp2_with fail
  refine (HS.out _ _ B8.out).mono ?_
  rintro e w9 ⟨rfl, b⟩
  have B9 := hide (B8.out.trans (b.mono B8.out.size))
  clear b B8
  go_wp2_with fail
  refine (H8.out _ B9.out).mono ?_
  rintro e w10 ⟨rfl, b⟩
  have B10 := hide (B9.out.trans (b.mono B9.out.size))
  clear b B9
  go_wp2_with fail
  refine (H9.out _ B10.out).mono ?_
  rintro e w11 ⟨rfl, b⟩
  have B11 := hide (B10.out.trans (b.mono B10.out.size))
  clear b B10
  go_wp2_with fail
  refine (HS.out _ _ B11.out).mono ?_
  rintro e w12 ⟨rfl, b⟩
  have B12 := hide (B11.out.trans (b.mono B11.out.size))
  clear b B11
  go_wp2_with fail
  refine (H10.out _ B12.out).mono ?_
  rintro e w13 ⟨⟨x, rfl, hx⟩, b⟩
  have B13 := hide (B12.out.trans (b.mono B12.out.size))
  clear b B12
  have HX := hide hx
  clear hx
  go_wp2_with fail
  refine (H11.out _ B13.out).mono ?_
  rintro e w14 ⟨⟨y, rfl, hy⟩, b⟩
  have HX2 := hide (HX.out.stays b (Nat.le_refl _))
  have HY := hide hy
  have B14 := hide (B13.out.trans (b.mono B13.out.size))
  clear b B13 hy HX
  go_wp2_with fail
  refine (HS.out _ _ B14.out).mono ?_
  rintro e w15 ⟨rfl, b⟩
  have HX3 := hide (HX2.out.stays b (Nat.le_refl _))
  have HY3 := hide (HY.out.stays b (Nat.le_refl _))
  have B15 := hide (B14.out.trans (b.mono B14.out.size))
  clear b B14 HX2 HY
  go_wp2_with fail
  refine (H12.out _ _ _ B15.out HY3.out HX3.out).mono ?_
  rintro e w16 ⟨rfl, b⟩
  have B16 := hide (B15.out.trans (b.mono B15.out.size))
  clear b B15
  go_wp2_with fail
  go_ret
  exact ⟨rfl, B16.out⟩

set_option maxRecDepth 100000 in
set_option maxHeartbeats 4000000 in
theorem walk_tup (v1 v2 : Value) (l1 l2 : List M.Val) (s : ByteArray) (w : World) (h : Asks v1 v2 l1 l2 s w) (he : M.likeF l1 = 0) (hf : M.tupF l2 ≠ 0) :
    Calls Tryz.prog 3 #[v1, v2, .string s] w fun e w' => e = .returned (.bool true) ∧ Below w.heap.size w w' := by
  have HS := hide h.se
  have H10 := hide h.rr
  have H11 := hide h.tp
  have H12 := hide h.st
  have H1 : Hid (∀ w1, Below w.heap.size w w1 → Calls Tryz.prog 4 #[v1] w1 fun e w' => e = .returned (.int .i64 0) ∧ Below w1.heap.size w1 w') := hide fun w1 b => by have := h.rl w1 b; rwa [he] at this
  have H2 : Hid (∀ w1, Below w.heap.size w w1 → Calls Tryz.prog 6 #[v1] w1 fun e w' => e = .returned (errV 0) ∧ Below w1.heap.size w1 w') := hide fun w1 b => by have := h.tl w1 b; rwa [he] at this
  have H6 := hide fun w1 b => h.ln w1 he b
  have H7 : Hid (∀ w1, Below w.heap.size w w1 → Calls Tryz.prog 10 #[v1] w1 fun e w' => e = .returned (.tuple #[.string (M.line l1), errV 0]) ∧ Below w1.heap.size w1 w') := hide fun w1 b => by have := h.pr w1 b; rwa [if_pos he, he] at this
  have hf' : (M.tupF l2 == 0) = false := by simpa using hf
  have H4 := hide h.rt
  have H5 := hide h.tc
  have H9 : Hid (∀ w1, Below w.heap.size w w1 → Calls Tryz.prog 12 #[v1, v2] w1 fun e w' => e = .returned (.tuple #[.bool false, errV (M.tupF l2)]) ∧ Below w1.heap.size w1 w') := hide fun w1 b => by
    have h9 := h.tf w1 b
    have e1 : M.both (M.likeF l1) (M.tupF l2) = M.tupF l2 := by rw [he]; rfl
    have e2 : M.fitsB l1 l2 = false := by unfold M.fitsB; rw [e1]; simp [hf]
    rwa [e1, e2] at h9
  clear h he hf
  have B0 : Hid (Below w.heap.size w w) := hide (Below.refl _ _)
  go_enter Tryz.func3, Tryz.ntmps3
  go_wp2_with fail
  refine (H1.out _ B0.out).mono ?_
  rintro e w1 ⟨rfl, b⟩
  have B1 := hide (B0.out.trans (b.mono B0.out.size))
  clear b B0
  go_wp2_with fail
  refine (H2.out _ B1.out).mono ?_
  rintro e w2 ⟨rfl, b⟩
  have B2 := hide (B1.out.trans (b.mono B1.out.size))
  clear b B1
  go_wp2_with fail
  refine (HS.out _ _ B2.out).mono ?_
  rintro e w3 ⟨rfl, b⟩
  have B3 := hide (B2.out.trans (b.mono B2.out.size))
  clear b B2
  go_wp2_with fail
  refine (H4.out _ B3.out).mono ?_
  rintro e w4 ⟨rfl, b⟩
  have B4 := hide (B3.out.trans (b.mono B3.out.size))
  clear b B3
  go_wp2_with fail
  refine (H5.out _ B4.out).mono ?_
  rintro e w5 ⟨rfl, b⟩
  have B5 := hide (B4.out.trans (b.mono B4.out.size))
  clear b B4
  go_wp2_with fail
  refine (HS.out _ _ B5.out).mono ?_
  rintro e w6 ⟨rfl, b⟩
  have B6 := hide (B5.out.trans (b.mono B5.out.size))
  clear b B5
  go_wp2_with fail
  refine (H6.out _ B6.out).mono ?_
  rintro e w7 ⟨rfl, b⟩
  have B7 := hide (B6.out.trans (b.mono B6.out.size))
  clear b B6
  go_wp2_with fail
  refine (H7.out _ B7.out).mono ?_
  rintro e w8 ⟨rfl, b⟩
  have B8 := hide (B7.out.trans (b.mono B7.out.size))
  clear b B7
  go_wp2_with fail
  refine (HS.out _ _ B8.out).mono ?_
  rintro e w9 ⟨rfl, b⟩
  have B9 := hide (B8.out.trans (b.mono B8.out.size))
  clear b B8
  go_wp2_with fail
  refine (H9.out _ B9.out).mono ?_
  rintro e w10 ⟨rfl, b⟩
  have B10 := hide (B9.out.trans (b.mono B9.out.size))
  clear b B9
  go_wp2_with fail
  refine (HS.out _ _ B10.out).mono ?_
  rintro e w11 ⟨rfl, b⟩
  have B11 := hide (B10.out.trans (b.mono B10.out.size))
  clear b B10
  go_wp2_with fail
  refine (H10.out _ B11.out).mono ?_
  rintro e w12 ⟨⟨x, rfl, hx⟩, b⟩
  have B12 := hide (B11.out.trans (b.mono B11.out.size))
  clear b B11
  have HX := hide hx
  clear hx
  go_wp2_with fail
  refine (H11.out _ B12.out).mono ?_
  rintro e w13 ⟨⟨y, rfl, hy⟩, b⟩
  have HX2 := hide (HX.out.stays b (Nat.le_refl _))
  have HY := hide hy
  have B13 := hide (B12.out.trans (b.mono B12.out.size))
  clear b B12 hy HX
  go_wp2_with fail
  refine (HS.out _ _ B13.out).mono ?_
  rintro e w14 ⟨rfl, b⟩
  have HX3 := hide (HX2.out.stays b (Nat.le_refl _))
  have HY3 := hide (HY.out.stays b (Nat.le_refl _))
  have B14 := hide (B13.out.trans (b.mono B13.out.size))
  clear b B13 HX2 HY
  go_wp2_with fail
  refine (H12.out _ _ _ B14.out HY3.out HX3.out).mono ?_
  rintro e w15 ⟨rfl, b⟩
  have B15 := hide (B14.out.trans (b.mono B14.out.size))
  clear b B14
  go_wp2_with fail
  go_ret
  exact ⟨rfl, B15.out⟩

theorem walk (v1 v2 : Value) (l1 l2 : List M.Val) (s : ByteArray) (w : World) (h1 : IsVals w v1 l1) (h2 : IsVals w v2 l2) (hs : s.size ≤ 1048576) (ht : Tab w) (hg : Hand w) :
    Calls Tryz.prog 3 #[v1, v2, .string s] w fun e w' => e = .returned (.bool true) ∧ Below w.heap.size w w' := by
  have h := asks v1 v2 l1 l2 s w h1 h2 hs ht hg
  by_cases he : M.likeF l1 = 0
  · by_cases hf : M.tupF l2 = 0
    · exact walk_fits v1 v2 l1 l2 s w h he hf
    · exact walk_tup v1 v2 l1 l2 s w h he hf
  · exact walk_like v1 v2 l1 l2 s w h he

end Go.Proofs.YtlefhfmckimlaaaGreatDoor.tupleTells
