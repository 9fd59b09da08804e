/-
  Plain facts on a list of what was done: the last of somebody's. No program is walked here.
-/
import Derived.Test.YtlefhfmckimlaakGreatDoorCopMath
namespace Go.Proofs.YtlefhfmckimlaakGreatDoor.M

/-- what was done by somebody -/
structure Dn where
  who : Int
  seq : Int
  ans : ByteArray
def lastD (D : List Dn) (k : Int) : Int × ByteArray := D.foldl (fun r d => if d.who = k then (d.seq, d.ans) else r) (0, sNo)
theorem lastD_nil : lastD [] = fun _ => (0, sNo) := rfl
theorem lastD_snoc (D : List Dn) (a : Ask) (s : ByteArray) : lastD (D ++ [⟨a.who, a.seq, s⟩]) = upG (lastD D) a s := by
  funext k
  unfold lastD upG
  rw [List.foldl_append]
  simp only [List.foldl_cons, List.foldl_nil]
  by_cases h : k = a.who
  · rw [if_pos h.symm, if_pos h]
  · rw [if_neg (fun e => h e.symm), if_neg h]
theorem fold_skip (k : Int) : ∀ (l : List Dn) (r : Int × ByteArray), (∀ d ∈ l, d.who ≠ k) → l.foldl (fun r d => if d.who = k then (d.seq, d.ans) else r) r = r
  | [], _, _ => rfl
  | d :: l, r, h => by
    rw [List.foldl_cons, if_neg (h d (by simp))]
    exact fold_skip k l r (fun x hx => h x (by simp [hx]))
theorem lastD_none {D : List Dn} {k : Int} (h : ∀ j (hj : j < D.length), D[j].who ≠ k) : lastD D k = (0, sNo) := fold_skip k D _ fun d hd => by
  obtain ⟨i, hi, rfl⟩ := List.getElem_of_mem hd
  exact h i hi
theorem lastD_at {D : List Dn} {k : Int} {i : Nat} (hi : i < D.length) (h : D[i].who = k) (hj : ∀ j (hj : j < D.length), i < j → D[j].who ≠ k) : lastD D k = (D[i].seq, D[i].ans) := by
  have key : ∀ (x : Dn) (A B : List Dn), x.who = k → (∀ d ∈ B, d.who ≠ k) → lastD (A ++ x :: B) k = (x.seq, x.ans) := fun x A B hx hB => by
    unfold lastD
    rw [List.foldl_append, List.foldl_cons, if_pos hx]
    exact fold_skip k _ _ hB
  have e : D.take i ++ D[i] :: D.drop (i + 1) = D := by simp
  have h2 := key D[i] (D.take i) (D.drop (i + 1)) h (fun d hd => by
    obtain ⟨j, hj', rfl⟩ := List.getElem_of_mem hd
    rw [List.length_drop] at hj'
    rw [List.getElem_drop]
    exact hj _ (by omega) (by omega))
  rwa [e] at h2

end Go.Proofs.YtlefhfmckimlaakGreatDoor.M
