/-
  What Value of package digest does, as one law of its call.
  What Tuple of package digest does, as one law of its call.
-/
import Derived.Test.YtlefhfmckimlaakGreatDoorJPrint
import Derived.Test.YtlefhfmckimlaakGreatDoorJHash
namespace Go.Proofs.YtlefhfmckimlaakGreatDoor
open Go.RowKit

/-- a value's text is short -/
theorem word_le {k n : Int} {s : ByteArray} (h : M.fault k n s = 0) : (M.word k n s).size ≤ 13 := by
  rcases fault_kind h with rfl | rfl | rfl
  · obtain ⟨h1, h2, _⟩ := fault_num h
    obtain ⟨i1, _⟩ := M.num_itoa n h1 h2
    obtain ⟨_, j2, _, _⟩ := M.isNum_parts i1
    have e : (M.word 0 n s).size = (Lib.itoa n).length := by show (Lib.itoa n).toArray.size = _; simp
    have : (Lib.itoa n).length ≤ 8 := by
      unfold M.digs at j2
      split at j2
      · simp at j2; omega
      · omega
    omega
  · obtain ⟨_, h2, _⟩ := fault_text h
    have e : (M.word 1 n s).size = 1 + s.size := by show ((⟨#[58]⟩ : ByteArray) ++ s).size = _; rw [ByteArray.size_append]; rfl
    omega
  · have e : (M.word 2 n s).size = 1 := rfl
    omega


end Go.Proofs.YtlefhfmckimlaakGreatDoor

namespace Go.Proofs.YtlefhfmckimlaakGreatDoor
open Go.RowKit

theorem line_le {l : List M.Val} (h : M.likeF l = 0) : (M.line l).size ≤ 70 := by
  obtain ⟨_, h5⟩ := likeF_len h
  have := words_len (likeF_each' h)
  rw [line_eq]
  show (M.joinL (words l)).toArray.size ≤ 70
  simp
  omega

theorem dtupBad (v : Value) (l : List M.Val) (w : World) (h : IsVals w v l) (hf : M.likeF l ≠ 0) :
    Calls Tryz.prog 146 #[v] w fun e w' => e = .returned (.tuple #[.int .i64 0, .iface 87 (.int .i64 (M.likeF l))]) ∧ Below w.heap.size w w' := by
  have HP : Hid (Calls Tryz.prog 81 #[v] w fun e w' => e = .returned (.tuple #[.string ⟨#[]⟩, .iface 87 (.int .i64 (M.likeF l))]) ∧ Below w.heap.size w w') := hide (by rw [← errV_bad hf]; exact tprint_bad v l w h hf)
  clear hf h
  go_enter Tryz.func146, Tryz.ntmps146
  go_wp2_with fail
  refine (unhide HP).mono ?_
  rintro e w1 ⟨rfl, hb⟩
  go_wp2_with fail
  go_ret2
  exact ⟨rfl, hb⟩

theorem dtupOk (v : Value) (l : List M.Val) (w : World) (h : IsVals w v l) (hf : M.likeF l = 0) (ht : Tab w) :
    Calls Tryz.prog 146 #[v] w fun e w' => e = .returned (.tuple #[.int .i64 (M.hash (M.line l)), .nilIface]) ∧ Below w.heap.size w w' := by
  have HP : Hid (Calls Tryz.prog 81 #[v] w fun e w' => e = .returned (.tuple #[.string (M.line l), .nilIface]) ∧ Below w.heap.size w w') := hide (by have := tprint v l w h ht; rwa [if_pos hf, hf] at this)
  have HW : Hid ((M.line l).size ≤ maxLen) := hide (Nat.le_trans (line_le hf) (by unfold maxLen; decide))
  clear hf h ht
  go_enter Tryz.func146, Tryz.ntmps146
  go_wp2_with fail
  refine (unhide HP).mono ?_
  rintro e w1 ⟨rfl, hb⟩
  go_wp2_with fail
  refine (number _ _ HW.out).mono ?_
  rintro e w2 ⟨rfl, rfl⟩
  go_wp2_with fail
  go_ret2
  exact ⟨rfl, hb⟩

end Go.Proofs.YtlefhfmckimlaakGreatDoor
