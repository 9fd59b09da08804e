/-
  What Fits of package tuple does, as one law of its call.
-/
import Derived.Test.YtlefhfmckimlaafDoorTupWalks
import Derived.Deep.RegionHeld3
import Derived.Deep.DrawnRows
namespace Go.Proofs.YtlefhfmckimlaafDoor
open Go.RowKit
attribute [local go_sem ↓] Go.wp_at_zero Go.wp_at_succ

/-- does a tuple fit: both right, and field by field -/
def M.fitsB (a b : List M.Val) : Bool := decide (M.both (M.likeF a) (M.tupF b) = 0) && M.fitAll a b


theorem fitAll_len : ∀ {a b : List M.Val}, a.length ≠ b.length → M.fitAll a b = false
  | [], [], h => absurd rfl h
  | [], _ :: _, _ => rfl
  | _ :: _, [], _ => rfl
  | x :: a, y :: b, h => by unfold M.fitAll; rw [fitAll_len (by simpa using h)]; simp
theorem fitAll_take : ∀ {a b : List M.Val} {k : Nat} (h1 : k < a.length) (h2 : k < b.length), M.fitAll (a.take k) (b.take k) = true → M.fitAll (a.take (k + 1)) (b.take (k + 1)) = M.fit1 a[k] b[k]
  | [], _, _, h, _, _ => by simp at h
  | _ :: _, [], _, _, h, _ => by simp at h
  | x :: a, y :: b, 0, _, _, _ => by simp [M.fitAll]
  | x :: a, y :: b, k + 1, h1, h2, h => by
    simp only [List.take_succ_cons, M.fitAll, Bool.and_eq_true, List.getElem_cons_succ] at h ⊢
    rw [h.1, Bool.true_and]
    exact fitAll_take (by simpa using h1) (by simpa using h2) h.2
theorem fitAll_no : ∀ {a b : List M.Val} {k : Nat} (h1 : k < a.length) (h2 : k < b.length), M.fit1 a[k] b[k] = false → M.fitAll a b = false
  | [], _, _, h, _, _ => by simp at h
  | _ :: _, [], _, _, h, _ => by simp at h
  | x :: a, y :: b, 0, _, _, h => by simp only [List.getElem_cons_zero] at h; unfold M.fitAll; rw [h]; rfl
  | x :: a, y :: b, k + 1, h1, h2, h => by
    simp only [List.getElem_cons_succ] at h
    unfold M.fitAll
    rw [fitAll_no (by simpa using h1) (by simpa using h2) h]; simp
theorem tupF_ok {l : List M.Val} (h : M.tupF l = 0) : M.likeF l = 0 ∧ M.hasAny l = false := by
  unfold M.tupF at h
  by_cases hf : M.likeF l ≠ 0
  · rw [if_pos hf] at h; exact absurd h hf
  · rw [if_neg hf] at h
    refine ⟨by simpa using hf, ?_⟩
    cases hA : M.hasAny l
    · rfl
    · rw [hA] at h; exact absurd h (by decide)
theorem likeF_each {l : List M.Val} (h : M.likeF l = 0) : ∀ v ∈ l, v.fault = 0 := by
  obtain ⟨h0, h5⟩ := likeF_len h
  unfold M.likeF at h
  rw [if_neg (by omega), if_neg (by omega)] at h
  exact M.firstF_zero h
theorem noAny_each {l : List M.Val} (h : M.hasAny l = false) : ∀ v ∈ l, v.k ≠ 2 := fun v hv e => by
  have : M.hasAny l = true := by unfold M.hasAny; rw [List.any_eq_true]; exact ⟨v, hv, by simp [e]⟩
  rw [h] at this; exact absurd this (by decide)


end Go.Proofs.YtlefhfmckimlaafDoor
