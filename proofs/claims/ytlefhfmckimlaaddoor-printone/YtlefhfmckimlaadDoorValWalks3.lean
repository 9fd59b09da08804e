/-
  What checkBoth, Fits and Order of package value do, each as one law of its call.
-/
import Derived.Test.YtlefhfmckimlaadDoorValWalks2
namespace Go.Proofs.YtlefhfmckimlaadDoor
open Go.RowKit

theorem checkOk (k n : Int) (s : ByteArray) (w : World) (hs : s.size ≤ maxLen) (h : M.fault k n s = 0) : Calls Tryd.prog 8 #[.agg #[.int .i64 k, .int .i64 n, .string s]] w fun e w' => e = .returned .nilIface ∧ Below w.heap.size w w' := by
  have := check k n s w hs; rwa [h] at this
theorem errV_bad {e : Int} (h : e ≠ 0) : errV e = .iface 52 (.int .i64 e) := by unfold errV; rw [if_neg h]
theorem checkBad (k n : Int) (s : ByteArray) (w : World) (hs : s.size ≤ maxLen) (h : M.fault k n s ≠ 0) : Calls Tryd.prog 8 #[.agg #[.int .i64 k, .int .i64 n, .string s]] w fun e w' => e = .returned (.iface 52 (.int .i64 (M.fault k n s))) ∧ Below w.heap.size w w' := by
  have := check k n s w hs; rwa [errV_bad h] at this




end Go.Proofs.YtlefhfmckimlaadDoor
