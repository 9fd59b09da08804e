/-
  Memory of a call's own that it goes on writing to: tuples, lists of tuples, and a struct that holds such a list; what a call on one leaves as it was. For any program.
-/
import Derived.Test.YtlefhfmckimlaagDoorTups
import Derived.Deep.AppendLies
namespace Go.Proofs.YtlefhfmckimlaagDoor
open Go.RowKit

/-- every block of values stays as it is -/
def Solid (w w' : World) : Prop := ∀ (b : Nat) (cur : Array Value) (fr : Nat × Nat), w.heap[b]? = some (.cells cur 29 fr) → w'.heap[b]? = some (.cells cur 29 fr)
theorem Solid.refl (w : World) : Solid w w := fun _ _ _ h => h
theorem Solid.trans {a b c : World} (h : Solid a b) (k : Solid b c) : Solid a c := fun i cur fr hi => k i cur fr (h i cur fr hi)
theorem heap_lt {w : World} {b : Nat} {o : Obj} (h : w.heap[b]? = some o) : b < w.heap.size := by
  rcases Nat.lt_or_ge b w.heap.size with g | g
  · exact g
  · rw [Array.getElem?_eq_none g] at h; cases h
theorem tag_eq {c1 c2 : Array Value} {t1 t2 : TypeId} {f1 f2 : Nat × Nat} (h : some (Obj.cells c1 t1 f1) = some (Obj.cells c2 t2 f2)) : t1 = t2 := by cases h; rfl
theorem Solid.below {w w' : World} (h : Below w.heap.size w w') : Solid w w' := fun b _ _ hb => (h.block b (heap_lt hb)).trans hb

/-- a tuple in memory of the call's own -/
def OwnT (base : Nat) (w : World) (v : Value) (l : List M.Val) : Prop := w.ownsRow base 29 3 v l.length (flat l) ∧ ∀ x ∈ l, x.s.size ≤ maxLen
theorem OwnT.vals {base : Nat} {w : World} {v : Value} {l : List M.Val} (h : OwnT base w v l) : IsVals w v l := isVals_own h.2 h.1
theorem ownsRow_solid {base : Nat} {w w' : World} {v : Value} {n k : Nat} {xs : List Value} (h : w.ownsRow base 29 k v n xs) (hs : Solid w w') : w'.ownsRow base 29 k v n xs := by
  refine ⟨h.1, ?_⟩
  rcases h.2 with h2 | ⟨g, cap, cur, hv, hg, hh, r⟩
  · exact Or.inl h2
  · exact Or.inr ⟨g, cap, cur, hv, hg, hs _ _ _ hh, r⟩
theorem OwnT.solid {base : Nat} {w w' : World} {v : Value} {l : List M.Val} (h : OwnT base w v l) (hs : Solid w w') : OwnT base w' v l := ⟨ownsRow_solid h.1 hs, h.2⟩
theorem OwnT.mono {base b2 : Nat} {w : World} {v : Value} {l : List M.Val} (h : OwnT base w v l) (hb : b2 ≤ base) : OwnT b2 w v l := by
  refine ⟨⟨h.1.1, ?_⟩, h.2⟩
  rcases h.1.2 with h2 | ⟨g, cap, cur, hv, hg, hh, r⟩
  · exact Or.inl h2
  · exact Or.inr ⟨g, cap, cur, hv, Nat.le_trans hb hg, hh, r⟩

/-- a list of tuples, whose row is the call's own; of each tuple Q is known -/
def RowOf (Q : Value → List M.Val → Prop) (base : Nat) (w : World) (v : Value) (L : List (List M.Val)) : Prop :=
  ∃ xs : List Value, w.ownsRow base 22 1 v L.length xs ∧ ∀ i (h1 : i < xs.length) (h2 : i < L.length), Q xs[i] L[i]
theorem RowOf.mono {Q Q' : Value → List M.Val → Prop} {base : Nat} {w : World} {v : Value} {L : List (List M.Val)} (h : RowOf Q base w v L) (hq : ∀ x l, Q x l → Q' x l) : RowOf Q' base w v L := by
  obtain ⟨xs, h1, h2⟩ := h
  exact ⟨xs, h1, fun i a b => hq _ _ (h2 i a b)⟩
theorem RowOf.tups {Q : Value → List M.Val → Prop} {base : Nat} {w : World} {v : Value} {L : List (List M.Val)} (h : RowOf Q base w v L) (hq : ∀ x l, Q x l → IsVals w x l) : IsTups w v L := by
  obtain ⟨xs, h1, h2⟩ := h
  exact isTups_own h1 fun i a b => hq _ _ (h2 i a b)
theorem RowOf.nil (Q : Value → List M.Val → Prop) (base : Nat) (w : World) : RowOf Q base w (.slice none 0 0) [] := ⟨[], World.ownsRow_nil _ _ _ _, fun i h => by simp at h⟩
theorem RowOf.lt {Q : Value → List M.Val → Prop} {base : Nat} {w : World} {v : Value} {L : List (List M.Val)} (h : RowOf Q base w v L) : ∀ k, v.ownBlock = some k → base ≤ k ∧ k < w.heap.size := by
  obtain ⟨xs, h1, _⟩ := h
  exact h1.lt
/-- behind an append of one -/
theorem RowOf.snoc {Q : Value → List M.Val → Prop} {base : Nat} {w' : World} {v x : Value} {L : List (List M.Val)} {l : List M.Val} {xs : List Value} (hxs : ∀ i (h1 : i < xs.length) (h2 : i < L.length), Q xs[i] L[i]) (hlen : xs.length = L.length)
    (h : w'.ownsRow base 22 1 v (L.length + 1) (xs ++ [x])) (hx : Q x l) : RowOf Q base w' v (L ++ [l]) := by
  refine ⟨xs ++ [x], by simpa using h, fun i h1 h2 => ?_⟩
  by_cases hi : i < xs.length
  · rw [List.getElem_append_left hi, List.getElem_append_left (by omega)]
    exact hxs i hi (by omega)
  · have : i = xs.length := by simp at h1; omega
    subst this
    rw [List.getElem_append_right (Nat.le_refl _), List.getElem_append_right (by omega)]
    simpa [hlen] using hx

/-- what is kept but for a struct's block and its list's row -/
structure Touch (S : Nat) (v : Value) (w w' : World) : Prop where
  os : w'.os = w.os
  tape : w'.tape = w.tape
  output : w'.output = w.output
  size : w.heap.size ≤ w'.heap.size
  block : ∀ k, k < w.heap.size → k ≠ S → v.ownBlock ≠ some k → w'.heap[k]? = w.heap[k]?
theorem Touch.of_below {S : Nat} {v : Value} {w w' : World} (h : Below w.heap.size w w') : Touch S v w w' := ⟨h.os, h.tape, h.output, h.size, fun k hk _ _ => h.block k hk⟩
theorem Touch.after {S : Nat} {v : Value} {a b c : World} (h : Below a.heap.size a b) (k : Touch S v b c) : Touch S v a c :=
  ⟨k.os.trans h.os, k.tape.trans h.tape, k.output.trans h.output, Nat.le_trans h.size k.size, fun i hi h1 h2 => (k.block i (Nat.lt_of_lt_of_le hi h.size) h1 h2).trans (h.block i hi)⟩
theorem Touch.then {S : Nat} {v : Value} {a b c : World} (h : Touch S v a b) (k : Below b.heap.size b c) : Touch S v a c :=
  ⟨k.os.trans h.os, k.tape.trans h.tape, k.output.trans h.output, Nat.le_trans h.size k.size, fun i hi h1 h2 => (k.block i (Nat.lt_of_lt_of_le hi h.size)).trans (h.block i hi h1 h2)⟩
theorem Touch.below {S B : Nat} {v : Value} {w w' : World} (h : Touch S v w w') (hS : B ≤ S) (hv : ∀ k, v.ownBlock = some k → B ≤ k) (hB : B ≤ w.heap.size) : Below B w w' :=
  ⟨h.os, h.tape, h.output, h.size, fun k hk => h.block k (by omega) (by omega) (fun e => by have := hv k e; omega)⟩

/-- a struct of the call's own whose one field is such a list -/
structure Sp (T : TypeId) (Q : Value → List M.Val → Prop) (base : Nat) (w : World) (S : Nat) (v : Value) (L : List (List M.Val)) : Prop where
  lo : base ≤ S
  heap : w.heap[S]? = some (.cells #[v] T (0, 0))
  row : RowOf Q base w v L

def Apart (u v : Value) : Prop := ∀ k, u.ownBlock = some k → v.ownBlock ≠ some k
theorem Apart.symm {u v : Value} (h : Apart u v) : Apart v u := fun k h1 h2 => h k h2 h1
theorem Apart.nil (v : Value) : Apart (.slice none 0 0) v := fun k h => by cases h
/-- where the list lies behind a call: where it lay, or in new memory -/
def Near (w : World) (v v' : Value) : Prop := v'.ownBlock = v.ownBlock ∨ ∀ k, v'.ownBlock = some k → w.heap.size ≤ k
theorem Near.refl (w : World) (v : Value) : Near w v v := Or.inl rfl
theorem Near.mono {w w1 : World} {v v' : Value} (h : Near w1 v v') (hs : w.heap.size ≤ w1.heap.size) : Near w v v' := by
  rcases h with h | h
  · exact Or.inl h
  · exact Or.inr fun k hk => Nat.le_trans hs (h k hk)
theorem Apart.near {w : World} {u v v' : Value} (h : Apart u v) (hu : ∀ k, u.ownBlock = some k → k < w.heap.size) (hn : Near w v v') : Apart u v' := by
  rcases hn with hn | hn
  · intro k hk; rw [hn]; exact h k hk
  · intro k hk e
    have := hu k hk
    have := hn k e
    omega

theorem RowOf.touch {Q : Value → List M.Val → Prop} {base S : Nat} {w w' : World} {u v : Value} {L : List (List M.Val)} {o : Array Value} {T : TypeId} {fr : Nat × Nat} (h : RowOf Q base w u L) (hS : w.heap[S]? = some (.cells o T fr)) (hT : T ≠ 22) (ht : Touch S v w w') (ha : Apart u v) : RowOf Q base w' u L := by
  obtain ⟨xs, h1, h2⟩ := h
  refine ⟨xs, ⟨h1.1, ?_⟩, h2⟩
  rcases h1.2 with h3 | ⟨g, cap, cur, hv, hg, hh, r⟩
  · exact Or.inl h3
  · refine Or.inr ⟨g, cap, cur, hv, hg, ?_, r⟩
    rw [ht.block g (heap_lt hh) (fun e => ?_) (ha g (by rw [hv]; rfl))]
    · exact hh
    · subst e
      rw [hS] at hh
      exact hT (tag_eq hh)
theorem RowOf.below {Q : Value → List M.Val → Prop} {base : Nat} {w w' : World} {u : Value} {L : List (List M.Val)} (h : RowOf Q base w u L) (hb : Below w.heap.size w w') : RowOf Q base w' u L := by
  obtain ⟨xs, h1, h2⟩ := h
  refine ⟨xs, ⟨h1.1, ?_⟩, h2⟩
  rcases h1.2 with h3 | ⟨g, cap, cur, hv, hg, hh, r⟩
  · exact Or.inl h3
  · exact Or.inr ⟨g, cap, cur, hv, hg, (hb.block g (heap_lt hh)).trans hh, r⟩
/-- the row of a struct's list, and that it is none of values -/
theorem Sp.solid {T : TypeId} {Q : Value → List M.Val → Prop} {base S : Nat} {w w' : World} {v : Value} {L : List (List M.Val)} (h : Sp T Q base w S v L) (hT : T ≠ 29) (ht : Touch S v w w') : Solid w w' := fun b cur fr hb => by
  rw [ht.block b (heap_lt hb) (fun e => ?_) (fun e => ?_)]
  · exact hb
  · subst e
    rw [h.heap] at hb
    exact hT (tag_eq hb)
  · obtain ⟨xs, h1, _⟩ := h.row
    rcases h1.2 with ⟨hv, _⟩ | ⟨g, cap, c2, hv, _, hh, _⟩
    · rw [hv] at e; cases e
    · rw [hv] at e
      have : g = b := by simpa [Value.ownBlock] using e
      subst this
      rw [hh] at hb
      exact absurd (tag_eq hb) (by decide)
theorem Sp.below {T : TypeId} {Q : Value → List M.Val → Prop} {base S : Nat} {w w' : World} {v : Value} {L : List (List M.Val)} (h : Sp T Q base w S v L) (ht : Touch S v w w') {B : Nat} (hB : B ≤ base) : Below B w w' := by
  refine ht.below (Nat.le_trans hB h.lo) (fun k hk => Nat.le_trans hB (h.row.lt k hk).1) ?_
  have := heap_lt h.heap
  have := h.lo
  omega
theorem Sp.mono {T : TypeId} {Q Q' : Value → List M.Val → Prop} {base S : Nat} {w : World} {v : Value} {L : List (List M.Val)} (h : Sp T Q base w S v L) (hq : ∀ x l, Q x l → Q' x l) : Sp T Q' base w S v L := ⟨h.lo, h.heap, h.row.mono hq⟩
theorem Sp.quiet {T : TypeId} {Q : Value → List M.Val → Prop} {base S : Nat} {w w' : World} {v : Value} {L : List (List M.Val)} (h : Sp T Q base w S v L) (hb : Below w.heap.size w w') : Sp T Q base w' S v L := ⟨h.lo, (hb.block S (heap_lt h.heap)).trans h.heap, h.row.below hb⟩
/-- one struct stays while another one is written -/
theorem Sp.touch {T T' : TypeId} {Q Q' : Value → List M.Val → Prop} {base S S' : Nat} {w w' : World} {u v : Value} {L L' : List (List M.Val)} (h : Sp T Q base w S u L) (h' : Sp T' Q' base w S' v L') (hTT : T ≠ T') (hT : T ≠ 22) (hT' : T' ≠ 22) (ht : Touch S' v w w') (ha : Apart u v) : Sp T Q base w' S u L := by
  refine ⟨h.lo, ?_, h.row.touch h'.heap hT' ht ha⟩
  rw [ht.block S (heap_lt h.heap) (fun e => ?_) (fun e => ?_)]
  · exact h.heap
  · subst e
    have := h.heap
    rw [h'.heap] at this
    exact hTT (tag_eq this).symm
  · obtain ⟨xs, h1, _⟩ := h'.row
    rcases h1.2 with ⟨hv, _⟩ | ⟨g, cap, c2, hv, _, hh, _⟩
    · rw [hv] at e; cases e
    · rw [hv] at e
      have : g = S := by simpa [Value.ownBlock] using e
      subst this
      rw [h.heap] at hh
      exact hT (tag_eq hh)

theorem Sp.row_ne {T : TypeId} {Q : Value → List M.Val → Prop} {base S : Nat} {w : World} {v : Value} {L : List (List M.Val)} (h : Sp T Q base w S v L) (hT : T ≠ 22) : v.ownBlock ≠ some S := fun e => by
  obtain ⟨xs, h1, _⟩ := h.row
  rcases h1.2 with ⟨hv, _⟩ | ⟨g, cap, c2, hv, _, hh, _⟩
  · rw [hv] at e; cases e
  · rw [hv] at e
    have : g = S := by simpa [Value.ownBlock] using e
    subst this
    rw [h.heap] at hh
    exact hT (tag_eq hh)
theorem solid_grown {wA w3 : World} {base n : Nat} {v : Value} {xs : List Value} (hx : wA.ownsRow base 22 1 v n xs) (hg : wA.grownBy w3 v.ownBlock) : Solid wA w3 := fun b cur fr hb => by
  rw [hg.block b (heap_lt hb) (fun e => ?_)]
  · exact hb
  · rcases hx.2 with ⟨hv, _⟩ | ⟨g, cap, c2, hv, _, hh, _⟩
    · rw [hv] at e; cases e
    · rw [hv] at e
      have : b = g := by simpa [Value.ownBlock] using e
      subst this
      rw [hh] at hb
      exact absurd (tag_eq hb) (by decide)
theorem grownBy_setCell (w : World) (a : Addr) (u : Value) : w.grownBy (w.setCell a u) (some a.block) := ⟨rfl, rfl, rfl, by simp, fun k _ hk => heap_setCell_other w a k u (fun e => hk (by rw [e]))⟩
/-- behind an append to the list, or any other writing of its row, and the store of what came of it -/
theorem Sp.stored {T : TypeId} {Q : Value → List M.Val → Prop} {base S : Nat} {wA w3 : World} {v v' : Value} {L L' : List (List M.Val)} (hT : T ≠ 22) (h : Sp T Q base wA S v L) (hg : wA.grownBy w3 v.ownBlock) (hr : RowOf Q base w3 v' L') (hn : Near wA v v') :
    Sp T Q base (w3.setCell ⟨S, 0, none⟩ v') S v' L' ∧ Touch S v wA (w3.setCell ⟨S, 0, none⟩ v') := by
  have hSl := heap_lt h.heap
  have hne := h.row_ne hT
  have h3 : w3.heap[S]? = some (.cells #[v] T (0, 0)) := (hg.block S hSl (fun e => hne e.symm)).trans h.heap
  have hne' : v'.ownBlock ≠ some S := fun e => by
    rcases hn with hn | hn
    · rw [hn] at e; exact hne e
    · have := hn S e; omega
  refine ⟨⟨h.lo, ?_, ?_⟩, ⟨hg.os, hg.tape, hg.output, ?_, fun k hk h1 h2 => ?_⟩⟩
  · rw [heap_setCell_same w3 S 0 #[v] T v' h3]; rfl
  · obtain ⟨xs, hx1, hx2⟩ := hr
    exact ⟨xs, hx1.kept (grownBy_setCell w3 ⟨S, 0, none⟩ v') (Or.inr hne'), hx2⟩
  · have := hg.size
    simpa using this
  · rw [heap_setCell_other w3 ⟨S, 0, none⟩ k v' h1]
    exact hg.block k hk (fun e => h2 e.symm)

end Go.Proofs.YtlefhfmckimlaagDoor
