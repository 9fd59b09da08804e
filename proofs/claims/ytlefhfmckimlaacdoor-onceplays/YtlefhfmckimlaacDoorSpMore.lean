/-
  Several calls on one space, or on two, as one: what they leave as it was; two spaces of one type beside each other. For any program.
-/
import Derived.Test.YtlefhfmckimlaacDoorSpAll
namespace Go.Proofs.YtlefhfmckimlaacDoor
open Go.RowKit

theorem Near.trans {a b : World} {v v' v2 : Value} (h : Near a v v') (k : Near b v' v2) (hs : a.heap.size ≤ b.heap.size) : Near a v v2 := by
  rcases k with k | k
  · rcases h with h | h
    · exact Or.inl (k.trans h)
    · exact Or.inr fun i hi => h i (k ▸ hi)
  · exact Or.inr fun i hi => Nat.le_trans hs (k i hi)
theorem Near.old {a : World} {v v' : Value} {k : Nat} (h : Near a v v') (hk : k < a.heap.size) (hv : v.ownBlock ≠ some k) : v'.ownBlock ≠ some k := fun e => by
  rcases h with h | h
  · rw [h] at e; exact hv e
  · have := h k e; omega
theorem Touch.trans {S : Nat} {v v' : Value} {a b c : World} (h : Touch S v a b) (hn : Near a v v') (k : Touch S v' b c) : Touch S v a c :=
  ⟨k.os.trans h.os, k.tape.trans h.tape, k.output.trans h.output, Nat.le_trans h.size k.size, fun i hi h1 h2 => (k.block i (Nat.lt_of_lt_of_le hi h.size) h1 (hn.old hi h2)).trans (h.block i hi h1 h2)⟩

/-- what is kept but for two structs' blocks and their lists' rows -/
structure Touch2 (S O : Nat) (v u : Value) (w w' : World) : Prop where
  os : w'.os = w.os
  tape : w'.tape = w.tape
  output : w'.output = w.output
  size : w.heap.size ≤ w'.heap.size
  block : ∀ k, k < w.heap.size → k ≠ S → k ≠ O → v.ownBlock ≠ some k → u.ownBlock ≠ some k → w'.heap[k]? = w.heap[k]?
theorem Touch2.of_below {S O : Nat} {v u : Value} {w w' : World} (h : Below w.heap.size w w') : Touch2 S O v u w w' := ⟨h.os, h.tape, h.output, h.size, fun k hk _ _ _ _ => h.block k hk⟩
theorem Touch2.left {S O : Nat} {v u : Value} {w w' : World} (h : Touch S v w w') : Touch2 S O v u w w' := ⟨h.os, h.tape, h.output, h.size, fun k hk h1 _ h3 _ => h.block k hk h1 h3⟩
theorem Touch2.right {S O : Nat} {v u : Value} {w w' : World} (h : Touch O u w w') : Touch2 S O v u w w' := ⟨h.os, h.tape, h.output, h.size, fun k hk _ h2 _ h4 => h.block k hk h2 h4⟩
theorem Touch2.trans {S O : Nat} {v v' u u' : Value} {a b c : World} (h : Touch2 S O v u a b) (hv : Near a v v') (hu : Near a u u') (k : Touch2 S O v' u' b c) : Touch2 S O v u a c :=
  ⟨k.os.trans h.os, k.tape.trans h.tape, k.output.trans h.output, Nat.le_trans h.size k.size, fun i hi h1 h2 h3 h4 => (k.block i (Nat.lt_of_lt_of_le hi h.size) h1 h2 (hv.old hi h3) (hu.old hi h4)).trans (h.block i hi h1 h2 h3 h4)⟩
theorem Touch2.below {S O B : Nat} {v u : Value} {w w' : World} (h : Touch2 S O v u w w') (hS : B ≤ S) (hO : B ≤ O) (hv : ∀ k, v.ownBlock = some k → B ≤ k) (hu : ∀ k, u.ownBlock = some k → B ≤ k) (hB : B ≤ w.heap.size) : Below B w w' :=
  ⟨h.os, h.tape, h.output, h.size, fun k hk => h.block k (by omega) (by omega) (by omega) (fun e => by have := hv k e; omega) (fun e => by have := hu k e; omega)⟩

/-- one struct stays while another one of whatever type at another place is written -/
theorem Sp.touchAt {T T' : TypeId} {Q Q' : Value → List M.Val → Prop} {base S S' : Nat} {w w' : World} {u v : Value} {L L' : List (List M.Val)} (h : Sp T Q base w S u L) (h' : Sp T' Q' base w S' v L') (hne : S ≠ S') (hT : T ≠ 30) (hT' : T' ≠ 30) (ht : Touch S' v w w') (ha : Apart u v) : Sp T Q base w' S u L := by
  refine ⟨h.lo, ?_, h.row.touch h'.heap hT' ht ha⟩
  rw [ht.block S (heap_lt h.heap) hne (fun e => ?_)]
  · exact h.heap
  · obtain ⟨xs, h1, _⟩ := h'.row
    rcases h1.2 with ⟨hv, _⟩ | ⟨g, cap, c2, hv, _, hh, _⟩
    · rw [hv] at e; cases e
    · rw [hv] at e
      have : g = S := by simpa [Value.ownBlock] using e
      subst this
      rw [h.heap] at hh
      exact hT (tag_eq hh)
/-- two structs of different types lie at different places -/
theorem Sp.ne {T T' : TypeId} {Q Q' : Value → List M.Val → Prop} {base S S' : Nat} {w : World} {u v : Value} {L L' : List (List M.Val)} (h : Sp T Q base w S u L) (h' : Sp T' Q' base w S' v L') (hT : T ≠ T') : S ≠ S' := fun e => by
  subst e
  have := h.heap
  rw [h'.heap] at this
  exact hT (tag_eq this).symm

end Go.Proofs.YtlefhfmckimlaacDoor
