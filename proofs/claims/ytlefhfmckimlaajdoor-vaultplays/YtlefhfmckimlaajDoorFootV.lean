/-
  Things in memory of a call's own that stand beside each other, in a program that need not know values of tuples: each has its blocks; what a call on one leaves of another. For any program.
-/
import Derived.Below
import Derived.ProofKit
import Derived.Laws.OwnMore
import Derived.OwnWalk
namespace Go.Proofs.YtlefhfmckimlaajDoor
open Go.RowKit

/-- all is kept but some blocks -/
structure Tc (F : Nat → Prop) (w w' : World) : Prop where
  os : w'.os = w.os
  tape : w'.tape = w.tape
  output : w'.output = w.output
  size : w.heap.size ≤ w'.heap.size
  block : ∀ k, k < w.heap.size → ¬ F k → w'.heap[k]? = w.heap[k]?
/-- the blocks behind a call: those from before, or new ones -/
def Gr (w : World) (F F' : Nat → Prop) : Prop := ∀ k, F' k → F k ∨ w.heap.size ≤ k
/-- two sets have no block in common -/
def Of (F G : Nat → Prop) : Prop := ∀ k, F k → ¬ G k
section
variable {F F' F2 G : Nat → Prop} {a b c w w' : World} {B : Nat}
theorem Tc.of_below (h : Below w.heap.size w w') : Tc F w w' := ⟨h.os, h.tape, h.output, h.size, fun k hk _ => h.block k hk⟩
theorem Tc.refl (F : Nat → Prop) (w : World) : Tc F w w := Tc.of_below (Below.refl _ _)
theorem Gr.refl (w : World) (F : Nat → Prop) : Gr w F F := fun _ h => Or.inl h
theorem Gr.after (h : a.heap.size ≤ b.heap.size) (k : Gr b F F') : Gr a F F' := fun i hi => (k i hi).imp id (fun q => Nat.le_trans h q)
theorem Tc.trans (h : Tc F a b) (hg : Gr a F F') (k : Tc F' b c) : Tc F a c :=
  ⟨k.os.trans h.os, k.tape.trans h.tape, k.output.trans h.output, Nat.le_trans h.size k.size, fun i hi hF => (k.block i (Nat.lt_of_lt_of_le hi h.size) (fun e => by
    rcases hg i e with g | g
    · exact hF g
    · omega)).trans (h.block i hi hF)⟩
theorem Tc.then (h : Tc F a b) (k : Below b.heap.size b c) : Tc F a c := h.trans (Gr.refl _ _) (Tc.of_below k)
theorem Tc.after (h : Below a.heap.size a b) (k : Tc F b c) : Tc F a c := (Tc.of_below h).trans (Gr.refl _ _) k
theorem Tc.mono (h : Tc F w w') (hF : ∀ k, F k → G k) : Tc G w w' := ⟨h.os, h.tape, h.output, h.size, fun k hk hn => h.block k hk (fun e => hn (hF k e))⟩
theorem Tc.below (h : Tc F w w') (hF : ∀ k, F k → B ≤ k) (hB : B ≤ w.heap.size) : Below B w w' :=
  ⟨h.os, h.tape, h.output, h.size, fun k hk => h.block k (by omega) (fun e => by have := hF k e; omega)⟩
theorem Of.symm (h : Of F G) : Of G F := fun k hk e => h k e hk
theorem Of.grows (h : Of F G) (hG : ∀ k, G k → k < w.heap.size) (hg : Gr w F F') : Of F' G := fun k hk e => by
  rcases hg k hk with g | g
  · exact h k g e
  · have := hG k e; omega
theorem Of.new (hG : ∀ k, G k → k < w.heap.size) (hF : ∀ k, F k → w.heap.size ≤ k) : Of F G := fun k hk e => by have := hG k e; have := hF k hk; omega
theorem heapV_lt {g : Nat} {o : Obj} (h : w.heap[g]? = some o) : g < w.heap.size := (Array.getElem?_eq_some_iff.1 h).1
theorem tagV_eq {c1 c2 : Array Value} {T1 T2 : TypeId} {f1 f2 : Nat × Nat} (h : (some (Obj.cells c1 T1 f1) : Option Obj) = some (.cells c2 T2 f2)) : T1 = T2 := by cases h; rfl
/-- a row of the call's own: its block, and that it is there -/
theorem rowV_tag {base n k : Nat} {e : TypeId} {v : Value} {xs : List Value} (h : w.ownsRow base e k v n xs) {g : Nat} (hg : v.ownBlock = some g) : base ≤ g ∧ ∃ c fr, w.heap[g]? = some (.cells c e fr) := by
  rcases h.2 with ⟨hv, _⟩ | ⟨g2, cap, cur, hv, hb, hh, _⟩
  · rw [hv] at hg; cases hg
  · rw [hv] at hg
    have e2 : g2 = g := by simpa [Value.ownBlock] using hg
    subst e2
    exact ⟨hb, _, _, hh⟩
theorem rowV_at {base n k : Nat} {e : TypeId} {v : Value} {xs : List Value} (h : w.ownsRow base e k v n xs) (hk : ∀ g, v.ownBlock = some g → w'.heap[g]? = w.heap[g]?) : w'.ownsRow base e k v n xs := by
  refine ⟨h.1, ?_⟩
  rcases h.2 with q | ⟨g, cap, cur, hv, hb, hh, r⟩
  · exact Or.inl q
  · exact Or.inr ⟨g, cap, cur, hv, hb, (hk g (by rw [hv]; rfl)).trans hh, r⟩
theorem rowV_mono {base b2 n k : Nat} {e : TypeId} {v : Value} {xs : List Value} (h : w.ownsRow base e k v n xs) (hb : b2 ≤ base) : w.ownsRow b2 e k v n xs := by
  refine ⟨h.1, ?_⟩
  rcases h.2 with q | ⟨g, cap, cur, hv, hg, hh, r⟩
  · exact Or.inl q
  · exact Or.inr ⟨g, cap, cur, hv, Nat.le_trans hb hg, hh, r⟩
end

end Go.Proofs.YtlefhfmckimlaajDoor
