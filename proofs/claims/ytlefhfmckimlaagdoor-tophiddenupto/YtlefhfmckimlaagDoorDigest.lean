/-
  What Value of package digest does, as one law of its call.
-/
import Derived.Test.YtlefhfmckimlaagDoorPrintWalks
import Derived.Test.YtlefhfmckimlaagDoorHashWalks
namespace Go.Proofs.YtlefhfmckimlaagDoor
open Go.RowKit

/-- a value's text is short -/
theorem word_le {k n : Int} {s : ByteArray} (h : M.fault k n s = 0) : (M.word k n s).size ≤ 13 := by
  rcases fault_kind h with rfl | rfl | rfl
  · obtain ⟨h1, h2, _⟩ := fault_num h
    obtain ⟨i1, _⟩ := M.num_itoa n h1 h2
    obtain ⟨_, j2, _, _⟩ := M.isNum_parts i1
    have e : (M.word 0 n s).size = (Lib.itoa n).length := by show (Lib.itoa n).toArray.size = _; simp
    have : (Lib.itoa n).length ≤ 8 := by
      unfold M.digs at j2
      split at j2
      · simp at j2; omega
      · omega
    omega
  · obtain ⟨_, h2, _⟩ := fault_text h
    have e : (M.word 1 n s).size = 1 + s.size := by show ((⟨#[58]⟩ : ByteArray) ++ s).size = _; rw [ByteArray.size_append]; rfl
    omega
  · have e : (M.word 2 n s).size = 1 := rfl
    omega

theorem dvalBad (k n : Int) (s : ByteArray) (w : World) (hs : s.size ≤ maxLen) (h : M.fault k n s ≠ 0) :
    Calls Tryd.prog 69 #[.agg #[.int .i64 k, .int .i64 n, .string s]] w fun e w' => e = .returned (.tuple #[.int .i64 0, .iface 64 (.int .i64 (M.fault k n s))]) ∧ Below w.heap.size w w' := by
  have H := hide h
  clear h
  go_enter Tryd.func69, Tryd.ntmps69
  go_wp2_with fail
  refine (printBad k n s _ hs H.out).mono ?_
  rintro e w1 ⟨rfl, hb⟩
  go_wp2_with fail
  go_ret2
  exact ⟨rfl, ((Below.refl _ _).alloc (Nat.le_refl _) _).trans (hb.mono (by simp))⟩

theorem dvalOk (k n : Int) (s : ByteArray) (w : World) (hs : s.size ≤ maxLen) (h : M.fault k n s = 0) (ht : Tab w) :
    Calls Tryd.prog 69 #[.agg #[.int .i64 k, .int .i64 n, .string s]] w fun e w' => e = .returned (.tuple #[.int .i64 (M.hash (M.word k n s)), .nilIface]) ∧ Below w.heap.size w w' := by
  have H := hide h
  have HT : Hid (∀ o, Tab (w.alloc o)) := hide fun o => ht.stays ((Below.refl _ _).alloc (Nat.le_refl _) o) (Nat.le_refl _)
  have HW : Hid ((M.word k n s).size ≤ maxLen) := hide (Nat.le_trans (word_le h) (by unfold maxLen; decide))
  clear h ht
  go_enter Tryd.func69, Tryd.ntmps69
  go_wp2_with fail
  refine (printOk k n s _ hs H.out (HT.out _)).mono ?_
  rintro e w1 ⟨rfl, hb⟩
  go_wp2_with fail
  refine (number _ _ HW.out).mono ?_
  rintro e w2 ⟨rfl, rfl⟩
  go_wp2_with fail
  go_ret2
  exact ⟨rfl, ((Below.refl _ _).alloc (Nat.le_refl _) _).trans (hb.mono (by simp))⟩

end Go.Proofs.YtlefhfmckimlaagDoor
