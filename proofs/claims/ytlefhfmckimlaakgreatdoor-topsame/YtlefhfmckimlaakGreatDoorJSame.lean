/-
  How two values are compared by the program: field by field.
  What tuplesame.Tuple does, as one law of its call.
-/
import Derived.Test.YtlefhfmckimlaakGreatDoorJVal
import Derived.Test.YtlefhfmckimlaakGreatDoorJTup
import Derived.BigQuiet
import Derived.Deep.QuietTactic
import Derived.WalkSmall
namespace Go.Proofs.YtlefhfmckimlaakGreatDoor
open Go.RowKit

theorem sameIn (k1 n1 : Int) (s1 : ByteArray) (k2 n2 : Int) (s2 : ByteArray) (w : World) : (Op.equalIn 10000 31 (.agg #[.int .i64 k1, .int .i64 n1, .string s1]) (.agg #[.int .i64 k2, .int .i64 n2, .string s2])).run Tryz.prog w = .ok (M.same k1 n1 s1 k2 n2 s2) w := by
  unfold M.same
  cases e1 : (k1 == k2)
  · go_simp
  · cases e2 : (n1 == n2)
    · go_simp
    · cases e3 : (s1.toList == s2.toList)
      · go_simp
      · go_simp
theorem sameEq (k1 n1 : Int) (s1 : ByteArray) (k2 n2 : Int) (s2 : ByteArray) (w : World) : (binOp .eql 31 (.agg #[.int .i64 k1, .int .i64 n1, .string s1]) (.agg #[.int .i64 k2, .int .i64 n2, .string s2])).run Tryz.prog w = .ok (.bool (M.same k1 n1 s1 k2 n2 s2)) w := by
  rw [run_eql_struct, sameIn]; rfl
theorem sameNe (k1 n1 : Int) (s1 : ByteArray) (k2 n2 : Int) (s2 : ByteArray) (w : World) : (binOp .neq 31 (.agg #[.int .i64 k1, .int .i64 n1, .string s1]) (.agg #[.int .i64 k2, .int .i64 n2, .string s2])).run Tryz.prog w = .ok (.bool (!M.same k1 n1 s1 k2 n2 s2)) w := by
  rw [run_neq_struct, sameIn]; rfl

theorem same_self (k n : Int) (s : ByteArray) : M.same k n s k n s = true := by simp [M.same]

end Go.Proofs.YtlefhfmckimlaakGreatDoor

namespace Go.Proofs.YtlefhfmckimlaakGreatDoor
open Go.RowKit
attribute [local go_sem ↓] sameEq sameNe

def M.sameAll : List M.Val → List M.Val → Bool
  | [], [] => true
  | a :: l, b :: t => a.same b && M.sameAll l t
  | _, _ => false

theorem sameAll_len : ∀ {a b : List M.Val}, a.length ≠ b.length → M.sameAll a b = false
  | [], [], h => absurd rfl h
  | [], _ :: _, _ => rfl
  | _ :: _, [], _ => rfl
  | x :: a, y :: b, h => by unfold M.sameAll; rw [sameAll_len (by simpa using h)]; simp
theorem sameAll_take : ∀ {a b : List M.Val} {k : Nat} (h1 : k < a.length) (h2 : k < b.length), M.sameAll (a.take k) (b.take k) = true → M.sameAll (a.take (k + 1)) (b.take (k + 1)) = a[k].same b[k]
  | [], _, _, h, _, _ => by simp at h
  | _ :: _, [], _, _, h, _ => by simp at h
  | x :: a, y :: b, 0, _, _, _ => by simp [M.sameAll]
  | x :: a, y :: b, k + 1, h1, h2, h => by
    simp only [List.take_succ_cons, M.sameAll, Bool.and_eq_true, List.getElem_cons_succ] at h ⊢
    rw [h.1, Bool.true_and]
    exact sameAll_take (by simpa using h1) (by simpa using h2) h.2
theorem sameAll_no : ∀ {a b : List M.Val} {k : Nat} (h1 : k < a.length) (h2 : k < b.length), a[k].same b[k] = false → M.sameAll a b = false
  | [], _, _, h, _, _ => by simp at h
  | _ :: _, [], _, _, h, _ => by simp at h
  | x :: a, y :: b, 0, _, _, h => by simp only [List.getElem_cons_zero] at h; unfold M.sameAll; rw [h]; rfl
  | x :: a, y :: b, k + 1, h1, h2, h => by
    simp only [List.getElem_cons_succ] at h
    unfold M.sameAll
    rw [sameAll_no (by simpa using h1) (by simpa using h2) h]; simp
theorem sameAll_self : ∀ l : List M.Val, M.sameAll l l = true
  | [] => rfl
  | a :: l => by unfold M.sameAll; rw [sameAll_self l]; simp [M.Val.same, M.same]

theorem IsVals.shape {w : World} {v : Value} {l : List M.Val} (h : IsVals w v l) : ∃ ao cap, v = .slice ao l.length cap ∧ l.length ≤ maxLen := by
  rcases h with ⟨h1, h2⟩ | ⟨a, cap, h1, h2⟩ | ⟨b, off, cap, h1, h2, h3, h4, h5⟩
  · subst h2; exact ⟨none, 0, h1, by simp⟩
  · subst h2; exact ⟨_, cap, h1, by simp⟩
  · exact ⟨_, cap, h2, by omega⟩


end Go.Proofs.YtlefhfmckimlaakGreatDoor
