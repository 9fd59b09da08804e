/-
  What Tuple of package digest does, as one law of its call.
-/
import Derived.Test.YtlefhfmckimlaacDoorDigest
import Derived.Test.YtlefhfmckimlaacDoorTupPrint
namespace Go.Proofs.YtlefhfmckimlaacDoor
open Go.RowKit

theorem line_le {l : List M.Val} (h : M.likeF l = 0) : (M.line l).size ≤ 70 := by
  obtain ⟨_, h5⟩ := likeF_len h
  have := words_len (likeF_each' h)
  rw [line_eq]
  show (M.joinL (words l)).toArray.size ≤ 70
  simp
  omega

theorem dtupBad (v : Value) (l : List M.Val) (w : World) (h : IsVals w v l) (hf : M.likeF l ≠ 0) :
    Calls Tryd.prog 33 #[v] w fun e w' => e = .returned (.tuple #[.int .i64 0, .iface 69 (.int .i64 (M.likeF l))]) ∧ Below w.heap.size w w' := by
  have HP : Hid (Calls Tryd.prog 53 #[v] w fun e w' => e = .returned (.tuple #[.string ⟨#[]⟩, .iface 69 (.int .i64 (M.likeF l))]) ∧ Below w.heap.size w w') := hide (by rw [← errV_bad hf]; exact tprint_bad v l w h hf)
  clear hf h
  go_enter Tryd.func33, Tryd.ntmps33
  go_wp2_with fail
  refine (unhide HP).mono ?_
  rintro e w1 ⟨rfl, hb⟩
  go_wp2_with fail
  go_ret2
  exact ⟨rfl, hb⟩

theorem dtupOk (v : Value) (l : List M.Val) (w : World) (h : IsVals w v l) (hf : M.likeF l = 0) (ht : Tab w) :
    Calls Tryd.prog 33 #[v] w fun e w' => e = .returned (.tuple #[.int .i64 (M.hash (M.line l)), .nilIface]) ∧ Below w.heap.size w w' := by
  have HP : Hid (Calls Tryd.prog 53 #[v] w fun e w' => e = .returned (.tuple #[.string (M.line l), .nilIface]) ∧ Below w.heap.size w w') := hide (by have := tprint v l w h ht; rwa [if_pos hf, hf] at this)
  have HW : Hid ((M.line l).size ≤ maxLen) := hide (Nat.le_trans (line_le hf) (by unfold maxLen; decide))
  clear hf h ht
  go_enter Tryd.func33, Tryd.ntmps33
  go_wp2_with fail
  refine (unhide HP).mono ?_
  rintro e w1 ⟨rfl, hb⟩
  go_wp2_with fail
  refine (number _ _ HW.out).mono ?_
  rintro e w2 ⟨rfl, rfl⟩
  go_wp2_with fail
  go_ret2
  exact ⟨rfl, hb⟩

end Go.Proofs.YtlefhfmckimlaacDoor
