/-
  How two values are compared by the program: field by field.
-/
import Derived.Test.YtlefhfmckimlaagDoorValWalks3
namespace Go.Proofs.YtlefhfmckimlaagDoor
open Go.RowKit

theorem sameIn (k1 n1 : Int) (s1 : ByteArray) (k2 n2 : Int) (s2 : ByteArray) (w : World) : (Op.equalIn 10000 29 (.agg #[.int .i64 k1, .int .i64 n1, .string s1]) (.agg #[.int .i64 k2, .int .i64 n2, .string s2])).run Tryd.prog w = .ok (M.same k1 n1 s1 k2 n2 s2) w := by
  unfold M.same
  cases e1 : (k1 == k2)
  · go_simp
  · cases e2 : (n1 == n2)
    · go_simp
    · cases e3 : (s1.toList == s2.toList)
      · go_simp
      · go_simp
theorem sameEq (k1 n1 : Int) (s1 : ByteArray) (k2 n2 : Int) (s2 : ByteArray) (w : World) : (binOp .eql 29 (.agg #[.int .i64 k1, .int .i64 n1, .string s1]) (.agg #[.int .i64 k2, .int .i64 n2, .string s2])).run Tryd.prog w = .ok (.bool (M.same k1 n1 s1 k2 n2 s2)) w := by
  rw [run_eql_struct, sameIn]; rfl
theorem sameNe (k1 n1 : Int) (s1 : ByteArray) (k2 n2 : Int) (s2 : ByteArray) (w : World) : (binOp .neq 29 (.agg #[.int .i64 k1, .int .i64 n1, .string s1]) (.agg #[.int .i64 k2, .int .i64 n2, .string s2])).run Tryd.prog w = .ok (.bool (!M.same k1 n1 s1 k2 n2 s2)) w := by
  rw [run_neq_struct, sameIn]; rfl

theorem same_self (k n : Int) (s : ByteArray) : M.same k n s k n s = true := by simp [M.same]

end Go.Proofs.YtlefhfmckimlaagDoor
