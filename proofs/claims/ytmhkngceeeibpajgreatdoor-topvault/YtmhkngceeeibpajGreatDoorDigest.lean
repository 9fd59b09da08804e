/-
  What Value of package digest does, as one law of its call.
-/
import Derived.Test.YtmhkngceeeibpajGreatDoorPrintWalks
import Derived.Test.YtmhkngceeeibpajGreatDoorJHash
namespace Go.Proofs.YtmhkngceeeibpajGreatDoor
open Go.RowKit

/-- a value's text is short -/
theorem word_le {k n : Int} {s : ByteArray} (h : M.fault k n s = 0) : (M.word k n s).size ≤ 13 := by
  rcases fault_kind h with rfl | rfl | rfl
  · obtain ⟨h1, h2, _⟩ := fault_num h
    obtain ⟨i1, _⟩ := M.num_itoa n h1 h2
    obtain ⟨_, j2, _, _⟩ := M.isNum_parts i1
    have e : (M.word 0 n s).size = (Lib.itoa n).length := by show (Lib.itoa n).toArray.size = _; simp
    have : (Lib.itoa n).length ≤ 8 := by
      unfold M.digs at j2
      split at j2
      · simp at j2; omega
      · omega
    omega
  · obtain ⟨_, h2, _⟩ := fault_text h
    have e : (M.word 1 n s).size = 1 + s.size := by show ((⟨#[58]⟩ : ByteArray) ++ s).size = _; rw [ByteArray.size_append]; rfl
    omega
  · have e : (M.word 2 n s).size = 1 := rfl
    omega


end Go.Proofs.YtmhkngceeeibpajGreatDoor
