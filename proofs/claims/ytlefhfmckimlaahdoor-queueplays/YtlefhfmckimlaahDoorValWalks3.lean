/-
  What checkBoth, Fits and Order of package value do, each as one law of its call.
-/
import Derived.Test.YtlefhfmckimlaahDoorValWalks2
namespace Go.Proofs.YtlefhfmckimlaahDoor
open Go.RowKit

theorem checkOk (k n : Int) (s : ByteArray) (w : World) (hs : s.size ≤ maxLen) (h : M.fault k n s = 0) : Calls Tryd.prog 41 #[.agg #[.int .i64 k, .int .i64 n, .string s]] w fun e w' => e = .returned .nilIface ∧ Below w.heap.size w w' := by
  have := check k n s w hs; rwa [h] at this
theorem errV_bad {e : Int} (h : e ≠ 0) : errV e = .iface 53 (.int .i64 e) := by unfold errV; rw [if_neg h]
theorem checkBad (k n : Int) (s : ByteArray) (w : World) (hs : s.size ≤ maxLen) (h : M.fault k n s ≠ 0) : Calls Tryd.prog 41 #[.agg #[.int .i64 k, .int .i64 n, .string s]] w fun e w' => e = .returned (.iface 53 (.int .i64 (M.fault k n s))) ∧ Below w.heap.size w w' := by
  have := check k n s w hs; rwa [errV_bad h] at this




end Go.Proofs.YtlefhfmckimlaahDoor
