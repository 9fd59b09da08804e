/-
  Proved: the Go function LeaseFirst returns true for every tuple and every time, and leaves them as they were: at the time it is no more to be put.
-/
import Derived.Test.YtlefhfmckimlaacLePut
import Derived.Test.YtlefhfmckimlaacLeCalls
import Derived.Test.YtlefhfmckimlaacRows
import Derived.ProofKit
import Derived.OpenShut
import Derived.Lib.SmallJoins
import Derived.Carry
namespace Go.Proofs.Ytlefhfmckimlaac.leaseFirst
open Go.ChangeShapes Go.WideShapes Go.ChangeAt Go.RowKit Go.Joins

/-- what is put till the time itself is refused -/
theorem putAt (S : Nat) (t : Value) (l : List M.Val) (tm : Int) (w : World) (ht : IsVals w t l) (hc : w.cell? ⟨S, 0, none⟩ = some (.int .i64 tm)) :
    Calls Try.prog 13 #[.pointer (some ⟨S, 0, none⟩), t, .int .i64 tm] w fun e w' => ∃ k, e = .returned (.tuple #[.int .i64 0, .iface 50 (.int .i64 k)]) ∧ Below w.heap.size w w' := by
  by_cases hf : M.tupF l = 0
  · refine (lput_late S t l tm tm w ht hf hc (may_no (Or.inl (Int.le_refl _)))).mono ?_
    rintro e w' ⟨rfl, hb⟩
    exact ⟨1, rfl, hb⟩
  · refine (lput_bad S t l tm w ht hf).mono ?_
    rintro e w' ⟨rfl, hb⟩
    exact ⟨_, by rw [errV_bad hf], hb⟩

set_option maxRecDepth 100000 in
theorem walk (t : Value) (l : List M.Val) (x : Int) (w : World) (ht : IsVals w t l) :
    Calls Try.prog 4 #[t, .int .i64 x] w fun e w' => e = .returned (.bool true) ∧ Below w.heap.size w w' := by
  have HT := hide ht
  clear ht
  by_cases hx : x < 0 ∨ 10000 < x
  · go_enter Try.func4, Try.ntmps4
    go_wp2_with fail
    refine (lnew _).mono ?_
    rintro e w1 ⟨rfl, hw1⟩
    have HB1 : Hid (Below w.heap.size w w1) := hide (by rw [hw1]; exact (Below.refl _ _).alloc (Nat.le_refl _) _)
    have HC := hide (lnow_bad w.heap.size 0 x w1 (by rw [hw1]; exact (Ls.new w (Nat.le_refl _)).c0) hx)
    clear hw1
    have hq : x < 0 ∨ ¬ x < 0 ∧ 10000 < x := by omega
    go_wp2_with fail
    refine (unhide HC).mono ?_
    rintro e w2 ⟨rfl, hb2⟩
    rw [errV_bad (by decide)]
    rcases hq with hq | ⟨hq, hq2⟩
    all_goals
      go_wp2_with fail
      go_ret
      exact ⟨rfl, HB1.out.trans (hb2.mono HB1.out.size)⟩
  · have H1 : Hid (¬ x < 0) := hide fun h => hx (Or.inl h)
    have H2 : Hid (¬ 10000 < x) := hide fun h => hx (Or.inr h)
    clear hx
    go_enter Try.func4, Try.ntmps4
    go_wp2_with fail
    refine (lnew _).mono ?_
    rintro e w1 ⟨rfl, hw1⟩
    have HB1 : Hid (Below w.heap.size w w1) := hide (by rw [hw1]; exact (Below.refl _ _).alloc (Nat.le_refl _) _)
    have HL1 : Hid (Ls w.heap.size w1 w.heap.size 0 0 (.slice none 0 0) []) := hide (by rw [hw1]; exact Ls.new w (Nat.le_refl _))
    clear hw1
    have HC := hide (lnow_ok w.heap.size w.heap.size 0 0 x (.slice none 0 0) [] w1 HL1.out (by simp) (by have := H1.out; omega) (by have := H2.out; omega))
    go_wp2_with fail
    refine (unhide HC).mono ?_
    rintro e w2 ⟨rfl, v', hL2, hT2, _⟩
    have HB2 := hide (HB1.out.trans (HL1.out.touchBelow hT2 (Nat.le_refl _)))
    have HL2 : Hid (Ls w.heap.size w2 w.heap.size x 0 v' []) := hide hL2
    clear hL2 hT2
    go_wp2_with fail
    refine (putAt _ t l x _ (HT.out.stays HB2.out (Nat.le_refl _)) HL2.out.c0).mono ?_
    rintro e w3 ⟨k, rfl, hb3⟩
    have HB3 := hide (HB2.out.trans (hb3.mono HB2.out.size))
    have HL3 := hide (HL2.out.below hb3)
    clear hb3
    go_wp2_with fail
    refine (lcount HL3.out).mono ?_
    rintro e w4 ⟨rfl, hb4⟩
    go_wp2_with fail
    go_ret
    exact ⟨rfl, HB3.out.trans (hb4.mono HB3.out.size)⟩

end Go.Proofs.Ytlefhfmckimlaac.leaseFirst
