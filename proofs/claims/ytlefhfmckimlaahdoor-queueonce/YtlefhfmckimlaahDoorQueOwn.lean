/-
  A queue in memory of a call's own: a struct of a list of what is asked and a map of the last number of each; what a call on it leaves as it was. For any program.
-/
import Derived.Test.YtlefhfmckimlaahDoorSpFresh
import Derived.Test.YtlefhfmckimlaahDoorQueTally
import Derived.Test.YtlefhfmckimlaahDoorWin
set_option linter.unusedVariables false
namespace Go.Proofs.YtlefhfmckimlaahDoor
open Go.RowKit Go.WideMaps Go.Maps

/-- one that waits: what is asked, and where its tuple lies -/
structure QEnt where
  a : M.Ask
  x : Option Addr
  n : Nat
  c : Nat
abbrev QEnt.v (e : QEnt) : Value := .slice e.x e.n e.c
/-- the cells of some, in a row -/
def cellsQ : List QEnt → List Value
  | [] => []
  | e :: l => .int .i64 e.a.who :: .int .i64 e.a.seq :: .int .i64 e.a.deed :: .slice e.x e.n e.c :: cellsQ l
theorem cellsQ_len : ∀ l : List QEnt, (cellsQ l).length = l.length * 4
  | [] => rfl
  | v :: l => by simp only [cellsQ, List.length_cons, cellsQ_len l]; omega
theorem cellsQ_append : ∀ a b : List QEnt, cellsQ (a ++ b) = cellsQ a ++ cellsQ b
  | [], b => rfl
  | v :: a, b => by simp only [List.cons_append, cellsQ, cellsQ_append a b]
theorem cellsQ_at : ∀ (l : List QEnt) (i : Nat) (h : i < l.length), (cellsQ l)[i * 4]? = some (.int .i64 l[i].a.who) ∧ (cellsQ l)[i * 4 + 1]? = some (.int .i64 l[i].a.seq) ∧ (cellsQ l)[i * 4 + 2]? = some (.int .i64 l[i].a.deed) ∧ (cellsQ l)[i * 4 + 3]? = some (.slice l[i].x l[i].n l[i].c)
  | [], i, h => by simp at h
  | v :: l, 0, _ => by simp [cellsQ]
  | v :: l, i + 1, h => by
    have ih := cellsQ_at l i (by simpa using h)
    have e : (i + 1) * 4 = i * 4 + 4 := by omega
    rw [e]
    simpa [cellsQ] using ih
theorem cellsQ_tail (e : QEnt) (l : List QEnt) : (cellsQ (e :: l)).drop 4 = cellsQ l := rfl

/-- what is kept but for a queue's struct, its list's row, and its map -/
structure TouchQ (S B : Nat) (v : Value) (w w' : World) : Prop where
  os : w'.os = w.os
  tape : w'.tape = w.tape
  output : w'.output = w.output
  size : w.heap.size ≤ w'.heap.size
  block : ∀ k, k < w.heap.size → k ≠ S → k ≠ B → v.ownBlock ≠ some k → w'.heap[k]? = w.heap[k]?
theorem TouchQ.of_below {S B : Nat} {v : Value} {w w' : World} (h : Below w.heap.size w w') : TouchQ S B v w w' := ⟨h.os, h.tape, h.output, h.size, fun k hk _ _ _ => h.block k hk⟩
theorem TouchQ.after {S B : Nat} {v : Value} {a b c : World} (h : Below a.heap.size a b) (k : TouchQ S B v b c) : TouchQ S B v a c :=
  ⟨k.os.trans h.os, k.tape.trans h.tape, k.output.trans h.output, Nat.le_trans h.size k.size, fun i hi h1 h2 h3 => (k.block i (Nat.lt_of_lt_of_le hi h.size) h1 h2 h3).trans (h.block i hi)⟩
theorem TouchQ.trans {S B : Nat} {v v' : Value} {a b c : World} (h : TouchQ S B v a b) (hn : Near a v v') (k : TouchQ S B v' b c) : TouchQ S B v a c :=
  ⟨k.os.trans h.os, k.tape.trans h.tape, k.output.trans h.output, Nat.le_trans h.size k.size, fun i hi h1 h2 h3 => (k.block i (Nat.lt_of_lt_of_le hi h.size) h1 h2 (fun e => by
    rcases hn with hn | hn
    · rw [hn] at e; exact h3 e
    · have := hn i e; omega)).trans (h.block i hi h1 h2 h3)⟩

/-- a queue: its list, and the last number of each -/
structure Qs (base : Nat) (w : World) (S B : Nat) (v : Value) (E : List QEnt) (n : Nat) (f : Int → Int) : Prop where
  lo : base ≤ S
  lob : base ≤ B
  heap : w.heap[S]? = some (.cells #[v, .map (some B)] 59 (0, 0))
  row : winRow w base 41 4 v E.length (cellsQ E)
  own : ∀ x ∈ E, OwnT base w x.v x.a.t
  map : ∃ D, w.ownsMap Tryd.prog 3 (plainElem (H := Unit) Tryd.prog 3) B n D ∧ Lasts D f

section
variable {base S B : Nat} {w w' : World} {v : Value} {E : List QEnt} {n : Nat} {f : Int → Int}

theorem ownsMap_below {k : TypeId} {R : Value → Option (DataW Unit × List MemPlace)} {b m : Nat} {D : DataW Unit} (h : w.ownsMap Tryd.prog k R b m D) (hb : Below w.heap.size w w') : w'.ownsMap Tryd.prog k R b m D :=
  h.kept (row := none) ⟨hb.os, hb.tape, hb.output, hb.size, fun i hi _ => hb.block i hi⟩ (by simp)
theorem Qs.below (h : Qs base w S B v E n f) (hb : Below w.heap.size w w') : Qs base w' S B v E n f := by
  obtain ⟨D, hD, hf⟩ := h.map
  exact ⟨h.lo, h.lob, (hb.block S (heap_lt h.heap)).trans h.heap, h.row.below hb, fun x hx => (h.own x hx).solid (Solid.below hb), D, ownsMap_below hD hb, hf⟩
theorem Qs.lt (h : Qs base w S B v E n f) : S < w.heap.size := heap_lt h.heap
theorem Qs.ltB (h : Qs base w S B v E n f) : B < w.heap.size := by
  obtain ⟨D, hD, _⟩ := h.map
  exact hD.lt
theorem Qs.base_le (h : Qs base w S B v E n f) : base ≤ w.heap.size := Nat.le_trans h.lo (Nat.le_of_lt h.lt)
theorem Qs.c0 (h : Qs base w S B v E n f) : w.cell? ⟨S, 0, none⟩ = some v := by rw [cell_of_row w S 0 _ _ (0, 0) h.heap]; rfl
theorem Qs.c1 (h : Qs base w S B v E n f) : w.cell? ⟨S, 1, none⟩ = some (.map (some B)) := by rw [cell_of_row w S 1 _ _ (0, 0) h.heap]; rfl
theorem Qs.fz (h : Qs base w S B v E n f) (j : Nat) : w.frozen? ⟨S, j, none⟩ = false := frozen_of_row w S j _ _ h.heap
theorem Qs.shape (h : Qs base w S B v E n f) : ∃ ao cap, v = .slice ao E.length cap := h.row.shape
theorem Qs.mapHeap (h : Qs base w S B v E n f) : ∃ es c, w.heap[B]? = some (.map es c) := by
  obtain ⟨D, ⟨es, c, hb, _⟩, _⟩ := h.map
  exact ⟨es, c, hb⟩
theorem Qs.ne (h : Qs base w S B v E n f) : S ≠ B := fun e => by
  obtain ⟨es, c, hb⟩ := h.mapHeap
  rw [← e, h.heap] at hb
  cases hb
theorem Qs.row_ne (h : Qs base w S B v E n f) : v.ownBlock ≠ some S := h.row.tag (by decide) h.heap
theorem Qs.row_neB (h : Qs base w S B v E n f) : v.ownBlock ≠ some B := by
  obtain ⟨es, c, hb⟩ := h.mapHeap
  exact h.row.map hb
/-- every block of another type stays while a queue is written -/
theorem Qs.keeps (h : Qs base w S B v E n f) (ht : TouchQ S B v w w') {T : TypeId} (h1 : T ≠ 59) (h2 : T ≠ 41) {b : Nat} {c : Array Value} {fr : Nat × Nat} (hb : w.heap[b]? = some (.cells c T fr)) : w'.heap[b]? = some (.cells c T fr) := by
  rw [ht.block b (heap_lt hb) (fun e => ?_) (fun e => ?_) (h.row.tag h2.symm hb)]
  · exact hb
  · subst e
    rw [h.heap] at hb
    exact h1 (tag_eq hb).symm
  · subst e
    obtain ⟨es, c', hm⟩ := h.mapHeap
    rw [hm] at hb
    cases hb
theorem Qs.solid (h : Qs base w S B v E n f) (ht : TouchQ S B v w w') : Solid w w' := fun _ _ _ hb => h.keeps ht (by decide) (by decide) hb
theorem Qs.keepsRow (h : Qs base w S B v E n f) (ht : TouchQ S B v w w') {T : TypeId} (h1 : T ≠ 59) (h2 : T ≠ 41) {b2 k m : Nat} {u : Value} {xs : List Value} (hr : w.ownsRow b2 T k u m xs) : w'.ownsRow b2 T k u m xs := by
  refine ⟨hr.1, ?_⟩
  rcases hr.2 with h3 | ⟨g, cap, cur, hv, hg, hh, r⟩
  · exact Or.inl h3
  · exact Or.inr ⟨g, cap, cur, hv, hg, h.keeps ht h1 h2 hh, r⟩
/-- another row of what is asked stays, if it lies elsewhere -/
theorem Qs.keepsAsks (h : Qs base w S B v E n f) (ht : TouchQ S B v w w') {b2 k m : Nat} {u : Value} {xs : List Value} (hr : winRow w b2 41 k u m xs) (ha : Apart u v) : winRow w' b2 41 k u m xs := by
  refine ⟨hr.1, ?_⟩
  rcases hr.2 with h3 | ⟨g, o, cap, cur, hv, hg, hh, r⟩
  · exact Or.inl h3
  · refine Or.inr ⟨g, o, cap, cur, hv, hg, ?_, r⟩
    rw [ht.block g (heap_lt hh) (fun e => ?_) (fun e => ?_) (ha g (by rw [hv]; rfl))]
    · exact hh
    · subst e
      rw [h.heap] at hh
      exact absurd (tag_eq hh) (by decide)
    · subst e
      obtain ⟨es, c', hm⟩ := h.mapHeap
      rw [hm] at hh
      cases hh
theorem Qs.touchBelow (h : Qs base w S B v E n f) (ht : TouchQ S B v w w') {b : Nat} (hB : b ≤ base) : Below b w w' :=
  ⟨ht.os, ht.tape, ht.output, ht.size, fun k hk => by
    have h1 := h.lo
    have h2 := h.lob
    have h3 := h.base_le
    exact ht.block k (by omega) (by omega) (by omega) (fun e => by have := (h.row.lt k e).1; omega)⟩
/-- behind a writing of the row, and the store of what came of it -/
theorem Qs.stored {w3 : World} {v' : Value} {E' : List QEnt} (h : Qs base w S B v E n f) (hg : w.grownBy w3 v.ownBlock) (hr : winRow w3 base 41 4 v' E'.length (cellsQ E')) (ho : ∀ x ∈ E', OwnT base w x.v x.a.t) (hn : Near w v v') :
    Qs base (w3.setCell ⟨S, 0, none⟩ v') S B v' E' n f ∧ TouchQ S B v w (w3.setCell ⟨S, 0, none⟩ v') := by
  have hne := h.row_ne
  have h3 : w3.heap[S]? = some (.cells #[v, .map (some B)] 59 (0, 0)) := (hg.block S h.lt (fun e => hne e.symm)).trans h.heap
  have hne' : v'.ownBlock ≠ some S := fun e => by
    rcases hn with hn | hn
    · rw [hn] at e; exact hne e
    · have := hn S e; have := h.lt; omega
  have ht : TouchQ S B v w (w3.setCell ⟨S, 0, none⟩ v') := ⟨hg.os, hg.tape, hg.output, by have := hg.size; simpa using this, fun k hk h1 _ h2 => by
    rw [heap_setCell_other w3 ⟨S, 0, none⟩ k v' h1]
    exact hg.block k hk (fun e => h2 e.symm)⟩
  obtain ⟨D, hD, hf⟩ := h.map
  refine ⟨⟨h.lo, h.lob, ?_, ?_, fun y hy => (ho y hy).solid (h.solid ht), D, ?_, hf⟩, ht⟩
  · rw [heap_setCell_same w3 S 0 _ _ _ h3]; rfl
  · exact hr.kept (grownBy_setCell w3 ⟨S, 0, none⟩ v') (fun g hg' e => hne' (by cases e; exact hg'))
  · exact (hD.kept hg (fun e => h.row_neB e.symm)).kept (grownBy_setCell w3 ⟨S, 0, none⟩ v') (fun e => h.ne (by cases e; rfl))
/-- behind a writing of the map -/
theorem Qs.mapped {w3 : World} {D : DataW Unit} {f' : Int → Int} {n' : Nat} (h : Qs base w S B v E n f) (hg : w.grownBy w3 (some B)) (hD : w3.ownsMap Tryd.prog 3 (plainElem (H := Unit) Tryd.prog 3) B n' D) (hf : Lasts D f') : Qs base w3 S B v E n' f' ∧ TouchQ S B v w w3 := by
  have ht : TouchQ S B v w w3 := ⟨hg.os, hg.tape, hg.output, hg.size, fun k hk _ h1 _ => hg.block k hk (fun e => h1 (by cases e; rfl))⟩
  exact ⟨⟨h.lo, h.lob, (hg.block S h.lt (fun e => h.ne (by cases e; rfl))).trans h.heap, h.row.kept hg (fun g hv e => h.row_neB (by cases e; exact hv)), fun x hx => (h.own x hx).solid (h.solid ht), D, hD, hf⟩, ht⟩
/-- a block of what is asked is none of a queue's -/
theorem Qs.boxed (h : Qs base w S B v E n f) {b : Nat} {c : Array Value} {fr : Nat × Nat} (hb : w.heap[b]? = some (.cells c 41 fr)) : b ≠ S ∧ b ≠ B := by
  refine ⟨fun e => ?_, fun e => ?_⟩
  · subst e
    rw [h.heap] at hb
    exact absurd (tag_eq hb) (by decide)
  · subst e
    obtain ⟨es, c', hm⟩ := h.mapHeap
    rw [hm] at hb
    cases hb
end

end Go.Proofs.YtlefhfmckimlaahDoor
