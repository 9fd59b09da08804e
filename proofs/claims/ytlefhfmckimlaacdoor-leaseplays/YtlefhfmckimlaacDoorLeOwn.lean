/-
  Leases in memory of a call's own: a struct of three fields whose last one is a list of such as are held; what a call on it leaves as it was. For any program.
-/
import Derived.Test.YtlefhfmckimlaacDoorSpFresh
namespace Go.Proofs.YtlefhfmckimlaacDoor
open Go.RowKit

/-- one that is held: its number, its time, where its tuple lies, and the tuple -/
structure Ent where
  i : Int
  u : Int
  a : Option Addr
  n : Nat
  c : Nat
  t : List M.Val
abbrev Ent.v (x : Ent) : Value := .slice x.a x.n x.c

/-- the cells of some, in a row -/
def cellsE : List Ent → List Value
  | [] => []
  | x :: l => .int .i64 x.i :: .int .i64 x.u :: .slice x.a x.n x.c :: cellsE l
theorem cellsE_len : ∀ l : List Ent, (cellsE l).length = l.length * 3
  | [] => rfl
  | v :: l => by simp only [cellsE, List.length_cons, cellsE_len l]; omega
theorem cellsE_append : ∀ a b : List Ent, cellsE (a ++ b) = cellsE a ++ cellsE b
  | [], b => rfl
  | v :: a, b => by simp only [List.cons_append, cellsE, cellsE_append a b]
theorem cellsE_at : ∀ (l : List Ent) (i : Nat) (h : i < l.length), (cellsE l)[i * 3]? = some (.int .i64 l[i].i) ∧ (cellsE l)[i * 3 + 1]? = some (.int .i64 l[i].u) ∧ (cellsE l)[i * 3 + 2]? = some (.slice l[i].a l[i].n l[i].c)
  | [], i, h => by simp at h
  | v :: l, 0, _ => by simp [cellsE]
  | v :: l, i + 1, h => by
    have ih := cellsE_at l i (by simpa using h)
    have e : (i + 1) * 3 = i * 3 + 3 := by omega
    rw [e]
    simpa [cellsE] using ih
theorem cellsE_set : ∀ (l : List Ent) (k : Nat) (x : Ent), k < l.length → cellsE (l.set k x) = (((cellsE l).set (k * 3) (.int .i64 x.i)).set (k * 3 + 1) (.int .i64 x.u)).set (k * 3 + 2) x.v
  | [], k, _, h => by simp at h
  | y :: l, 0, x, _ => by simp [cellsE]
  | y :: l, k + 1, x, h => by
    have ih := cellsE_set l k x (by simpa using h)
    have e : (k + 1) * 3 = k * 3 + 3 := by omega
    rw [e]
    simp [cellsE, ih]
theorem cellsE_take : ∀ (l : List Ent) (k : Nat), cellsE (l.take k) = (cellsE l).take (k * 3)
  | [], k => by simp [cellsE]
  | y :: l, 0 => by simp [cellsE]
  | y :: l, k + 1 => by
    have e : (k + 1) * 3 = k * 3 + 3 := by omega
    rw [e]
    simp [cellsE, cellsE_take l k]

/-- the row of a list of leases, and their tuples -/
structure Held (base : Nat) (w : World) (v : Value) (E : List Ent) : Prop where
  row : w.ownsRow base 78 3 v E.length (cellsE E)
  own : ∀ x ∈ E, OwnT base w x.v x.t
theorem Held.nil (base : Nat) (w : World) : Held base w (.slice none 0 0) [] := ⟨World.ownsRow_nil _ _ _ _, fun x h => by simp at h⟩
theorem Held.below {base : Nat} {w w' : World} {v : Value} {E : List Ent} (h : Held base w v E) (hb : Below w.heap.size w w') : Held base w' v E := by
  refine ⟨⟨h.row.1, ?_⟩, fun x hx => (h.own x hx).solid (Solid.below hb)⟩
  rcases h.row.2 with h3 | ⟨g, cap, cur, hv, hg, hh, r⟩
  · exact Or.inl h3
  · exact Or.inr ⟨g, cap, cur, hv, hg, (hb.block g (heap_lt hh)).trans hh, r⟩

/-- a struct of leases: its time, how many were given, and its list -/
structure Ls (base : Nat) (w : World) (S : Nat) (tm gv : Int) (v : Value) (E : List Ent) : Prop where
  lo : base ≤ S
  heap : w.heap[S]? = some (.cells #[.int .i64 tm, .int .i64 gv, v] 75 (0, 0))
  held : Held base w v E

section
variable {base S : Nat} {w w' : World} {tm gv : Int} {v : Value} {E : List Ent}

theorem Ls.below (h : Ls base w S tm gv v E) (hb : Below w.heap.size w w') : Ls base w' S tm gv v E := ⟨h.lo, (hb.block S (heap_lt h.heap)).trans h.heap, h.held.below hb⟩
theorem Ls.lt (h : Ls base w S tm gv v E) : S < w.heap.size := heap_lt h.heap
theorem Ls.base_le (h : Ls base w S tm gv v E) : base ≤ w.heap.size := Nat.le_trans h.lo (Nat.le_of_lt h.lt)
theorem Ls.c0 (h : Ls base w S tm gv v E) : w.cell? ⟨S, 0, none⟩ = some (.int .i64 tm) := by rw [cell_of_row w S 0 _ _ (0, 0) h.heap]; rfl
theorem Ls.c1 (h : Ls base w S tm gv v E) : w.cell? ⟨S, 1, none⟩ = some (.int .i64 gv) := by rw [cell_of_row w S 1 _ _ (0, 0) h.heap]; rfl
theorem Ls.c2 (h : Ls base w S tm gv v E) : w.cell? ⟨S, 2, none⟩ = some v := by rw [cell_of_row w S 2 _ _ (0, 0) h.heap]; rfl
theorem Ls.fz (h : Ls base w S tm gv v E) (j : Nat) : w.frozen? ⟨S, j, none⟩ = false := frozen_of_row w S j _ _ h.heap
theorem Ls.shape (h : Ls base w S tm gv v E) : ∃ ao cap, v = .slice ao E.length cap := by
  rcases h.held.row.2 with ⟨hv, hn⟩ | ⟨g, cap, cur, hv, _⟩
  · exact ⟨_, _, by rw [hv, hn]⟩
  · exact ⟨_, _, hv⟩

/-- the row is none of another type -/
theorem row_tag {T U : TypeId} {k n : Nat} {xs : List Value} {c : Array Value} {fr : Nat × Nat} {b : Nat} (h : w.ownsRow base T k v n xs) (hT : T ≠ U) (hb : w.heap[b]? = some (.cells c U fr)) : v.ownBlock ≠ some b := fun e => by
  rcases h.2 with ⟨hv, _⟩ | ⟨g, cap, c2, hv, _, hh, _⟩
  · rw [hv] at e; cases e
  · rw [hv] at e
    have : g = b := by simpa [Value.ownBlock] using e
    subst this
    rw [hh] at hb
    exact hT (tag_eq hb)
theorem Ls.row_ne (h : Ls base w S tm gv v E) : v.ownBlock ≠ some S := row_tag h.held.row (by decide) h.heap
theorem Ls.row_lt (h : Ls base w S tm gv v E) : ∀ k, v.ownBlock = some k → base ≤ k ∧ k < w.heap.size := h.held.row.lt
/-- every block of another type stays while leases are written -/
theorem Ls.keeps (h : Ls base w S tm gv v E) (ht : Touch S v w w') {T : TypeId} (h1 : T ≠ 75) (h2 : T ≠ 78) {b : Nat} {c : Array Value} {fr : Nat × Nat} (hb : w.heap[b]? = some (.cells c T fr)) : w'.heap[b]? = some (.cells c T fr) := by
  rw [ht.block b (heap_lt hb) (fun e => ?_) (row_tag h.held.row h2.symm hb)]
  · exact hb
  · subst e
    rw [h.heap] at hb
    exact h1 (tag_eq hb).symm
theorem Ls.solid (h : Ls base w S tm gv v E) (ht : Touch S v w w') : Solid w w' := fun _ _ _ hb => h.keeps ht (by decide) (by decide) hb
theorem Ls.keepsRow (h : Ls base w S tm gv v E) (ht : Touch S v w w') {T : TypeId} (h1 : T ≠ 75) (h2 : T ≠ 78) {b2 k n : Nat} {u : Value} {xs : List Value} (hr : w.ownsRow b2 T k u n xs) : w'.ownsRow b2 T k u n xs := by
  refine ⟨hr.1, ?_⟩
  rcases hr.2 with h3 | ⟨g, cap, cur, hv, hg, hh, r⟩
  · exact Or.inl h3
  · exact Or.inr ⟨g, cap, cur, hv, hg, h.keeps ht h1 h2 hh, r⟩
theorem Ls.touchBelow (h : Ls base w S tm gv v E) (ht : Touch S v w w') {B : Nat} (hB : B ≤ base) : Below B w w' :=
  ht.below (Nat.le_trans hB h.lo) (fun k hk => Nat.le_trans hB (h.row_lt k hk).1) (Nat.le_trans hB h.base_le)
end

theorem near_trans {a b : World} {v v' v2 : Value} (h : Near a v v') (k : Near b v' v2) (hs : a.heap.size ≤ b.heap.size) : Near a v v2 := by
  rcases k with k | k
  · rcases h with h | h
    · exact Or.inl (k.trans h)
    · exact Or.inr fun i hi => h i (k ▸ hi)
  · exact Or.inr fun i hi => Nat.le_trans hs (k i hi)
theorem touch_trans {S : Nat} {v v' : Value} {a b c : World} (h : Touch S v a b) (hn : Near a v v') (k : Touch S v' b c) : Touch S v a c :=
  ⟨k.os.trans h.os, k.tape.trans h.tape, k.output.trans h.output, Nat.le_trans h.size k.size, fun i hi h1 h2 => (k.block i (Nat.lt_of_lt_of_le hi h.size) h1 (fun e => by
    rcases hn with hn | hn
    · rw [hn] at e; exact h2 e
    · have := hn i e; omega)).trans (h.block i hi h1 h2)⟩

section
variable {base S : Nat} {w w3 : World} {tm gv : Int} {v v' : Value} {E E' : List Ent}

/-- a store to the time -/
theorem Ls.setTime (h : Ls base w S tm gv v E) (x : Int) : Ls base (w.setCell ⟨S, 0, none⟩ (.int .i64 x)) S x gv v E ∧ Touch S v w (w.setCell ⟨S, 0, none⟩ (.int .i64 x)) := by
  have hg := grownBy_setCell w ⟨S, 0, none⟩ (.int .i64 x)
  have ht : Touch S v w (w.setCell ⟨S, 0, none⟩ (.int .i64 x)) := ⟨rfl, rfl, rfl, hg.size, fun k hk h1 _ => hg.block k hk (fun e => h1 (by cases e; rfl))⟩
  refine ⟨⟨h.lo, ?_, ?_, fun y hy => (h.held.own y hy).solid (h.solid ht)⟩, ht⟩
  · rw [heap_setCell_same w S 0 _ _ _ h.heap]; rfl
  · exact h.held.row.kept hg (Or.inr h.row_ne)
/-- a store to how many were given -/
theorem Ls.setGiven (h : Ls base w S tm gv v E) (x : Int) : Ls base (w.setCell ⟨S, 1, none⟩ (.int .i64 x)) S tm x v E ∧ Touch S v w (w.setCell ⟨S, 1, none⟩ (.int .i64 x)) := by
  have hg := grownBy_setCell w ⟨S, 1, none⟩ (.int .i64 x)
  have ht : Touch S v w (w.setCell ⟨S, 1, none⟩ (.int .i64 x)) := ⟨rfl, rfl, rfl, hg.size, fun k hk h1 _ => hg.block k hk (fun e => h1 (by cases e; rfl))⟩
  refine ⟨⟨h.lo, ?_, ?_, fun y hy => (h.held.own y hy).solid (h.solid ht)⟩, ht⟩
  · rw [heap_setCell_same w S 1 _ _ _ h.heap]; rfl
  · exact h.held.row.kept hg (Or.inr h.row_ne)
/-- behind a writing of the row, and the store of what came of it -/
theorem Ls.stored (h : Ls base w S tm gv v E) (hg : w.grownBy w3 v.ownBlock) (hr : w3.ownsRow base 78 3 v' E'.length (cellsE E')) (ho : ∀ x ∈ E', OwnT base w x.v x.t) (hn : Near w v v') :
    Ls base (w3.setCell ⟨S, 2, none⟩ v') S tm gv v' E' ∧ Touch S v w (w3.setCell ⟨S, 2, none⟩ v') := by
  have hne := h.row_ne
  have h3 : w3.heap[S]? = some (.cells #[.int .i64 tm, .int .i64 gv, v] 75 (0, 0)) := (hg.block S h.lt (fun e => hne e.symm)).trans h.heap
  have hne' : v'.ownBlock ≠ some S := fun e => by
    rcases hn with hn | hn
    · rw [hn] at e; exact hne e
    · have := hn S e; have := h.lt; omega
  have ht : Touch S v w (w3.setCell ⟨S, 2, none⟩ v') := ⟨hg.os, hg.tape, hg.output, by have := hg.size; simpa using this, fun k hk h1 h2 => by
    rw [heap_setCell_other w3 ⟨S, 2, none⟩ k v' h1]
    exact hg.block k hk (fun e => h2 e.symm)⟩
  refine ⟨⟨h.lo, ?_, ?_, fun y hy => (ho y hy).solid (h.solid ht)⟩, ht⟩
  · rw [heap_setCell_same w3 S 2 _ _ _ h3]; rfl
  · exact hr.kept (grownBy_setCell w3 ⟨S, 2, none⟩ v') (Or.inr hne')
/-- behind a writing of the row where it is -/
theorem Ls.written (h : Ls base w S tm gv v E) (hg : w.grownBy w3 v.ownBlock) (hr : w3.ownsRow base 78 3 v E'.length (cellsE E')) (ho : ∀ x ∈ E', OwnT base w x.v x.t) :
    Ls base w3 S tm gv v E' ∧ Touch S v w w3 := by
  have ht : Touch S v w w3 := ⟨hg.os, hg.tape, hg.output, hg.size, fun k hk _ h2 => hg.block k hk (fun e => h2 e.symm)⟩
  exact ⟨⟨h.lo, (hg.block S h.lt (fun e => h.row_ne e.symm)).trans h.heap, hr, fun y hy => (ho y hy).solid (h.solid ht)⟩, ht⟩
end

/-- values never lie in such a struct -/
theorem Ls.apart {base S b off : Nat} {w : World} {tm gv : Int} {v : Value} {E : List Ent} {l : List M.Val} (h : Ls base w S tm gv v E) (hl : Lie w b off l) (h0 : 0 < l.length) : b ≠ S := fun e => by
  subst e
  obtain ⟨ao, cap, rfl⟩ := h.shape
  obtain ⟨_, _, h3, _⟩ := hl 0 h0
  rw [cell_of_row w b _ _ _ (0, 0) h.heap] at h3
  match off, h3 with
  | 0, h3 => simp at h3
  | off + 1, h3 => simp at h3
theorem Ls.valsGiven {base S : Nat} {w : World} {tm gv : Int} {v t : Value} {E : List Ent} {l : List M.Val} (h : Ls base w S tm gv v E) (ht : IsVals w t l) (x : Value) (j : Nat) : IsVals (w.setCell ⟨S, j, none⟩ x) t l := by
  rcases ht with ht | ht | ⟨b, off, cap, h1, h2, h3, h4, h5⟩
  · exact Or.inl ht
  · exact Or.inr (Or.inl ht)
  · have hne := h.apart h5 h1
    have hc : ∀ o, (w.setCell ⟨S, j, none⟩ x).cell? ⟨b, o, none⟩ = w.cell? ⟨b, o, none⟩ := fun o => World.cell?_setCell_other _ _ _ _ (fun e => hne (by cases e; rfl))
    refine Or.inr (Or.inr ⟨b, off, cap, h1, h2, h3, h4, fun i hi => ?_⟩)
    rw [hc, hc, hc]
    exact h5 i hi

/-- some cells that lie behind others are written: the row up to them is as it was -/
theorem ownsRow_cut {w : World} {base g n cap k i : Nat} {e : TypeId} {xs : List Value} (h : w.ownsRow base e k (.slice (some ⟨g, 0, none⟩) n cap) n xs) (hi : i ≤ n) : w.ownsRow base e k (.slice (some ⟨g, 0, none⟩) i cap) i (xs.take (i * k)) := by
  rcases h.2 with ⟨h', _⟩ | ⟨g', cap', cur, h', hb, hg, hnc, hcm, hcs, htake⟩
  · simp at h'
  · simp only [Value.slice.injEq, Option.some.injEq, Addr.mk.injEq, and_true, true_and] at h'
    obtain ⟨rfl, rfl⟩ := h'
    have hmul : i * k ≤ n * k := Nat.mul_le_mul_right _ hi
    refine ⟨by rw [List.length_take, h.1]; omega, Or.inr ⟨g, cap, cur, rfl, hb, hg, by omega, hcm, hcs, ?_⟩⟩
    rw [← htake, List.take_take]
    congr 1
    omega
theorem ownsRow_behind {base g n cap k : Nat} {e : TypeId} : ∀ (us : List Value) (o : Nat) {w : World} {xs : List Value}, w.ownsRow base e k (.slice (some ⟨g, 0, none⟩) n cap) n xs → n * k ≤ o →
    (w.setCells g o us).ownsRow base e k (.slice (some ⟨g, 0, none⟩) n cap) n xs ∧ w.grownBy (w.setCells g o us) (some g)
  | [], _, w, _, h, _ => ⟨h, ⟨rfl, rfl, rfl, Nat.le_refl _, fun _ _ _ => rfl⟩⟩
  | u :: us, o, w, xs, h, ho => by
    obtain ⟨h1, g1⟩ := h.stored o u
    rw [List.set_eq_of_length_le (by rw [h.1]; exact ho)] at h1
    obtain ⟨h2, g2⟩ := ownsRow_behind us (o + 1) h1 (by omega)
    exact ⟨h2, ⟨g2.os.trans g1.os, g2.tape.trans g1.tape, g2.output.trans g1.output, Nat.le_trans g1.size g2.size, fun i hi hne => (g2.block i (Nat.lt_of_lt_of_le hi g1.size) hne).trans (g1.block i hi hne)⟩⟩

/-- the built-in clear on a part of such a row -/
theorem clear_part {P : Program} {w : World} {base g n cap k i : Nat} {e t : TypeId} {xs : List Value} {z : Value} (ht : P.underlying t = some (.slice e)) (hz : ∀ w, (zeroValue e).run P w = .ok z w) (hk : z.cells.size = k) (hk0 : 0 < k) (h1 : ∀ j, j < k → (z.cells[j]!).oneCell' = true)
    (h : w.ownsRow base e k (.slice (some ⟨g, 0, none⟩) n cap) n xs) (hi : i < n) (c : Nat) :
    ∃ us : List Value, ∀ ty, (Builtin.clear_ #[t] ty #[.slice (some ⟨g, i * k, none⟩) (n - i) c]).run P w = .ok (.tuple #[]) (w.setCells g (i * k) us) := by
  have hlen : (Builtin.zeroCells z.cells (n - i)).toList.length = (n - i) * k := by simp [Builtin.zeroCells, hk]
  have hmul : i * k + (n - i) * k = n * k := by rw [← Nat.add_mul]; congr 1; omega
  have hst := run_storeCells_cells (P := P) g (i * k) (Builtin.zeroCells z.cells (n - i)).toList 0 w
    (fun j hj => by
      rw [hlen] at hj
      rw [Nat.add_zero, h.cellAt _ (by omega), List.getElem?_eq_getElem (by rw [h.1]; omega)]; rfl)
    (fun j hj => h.frozenAt _)
    (fun v hv => by
      simp only [Builtin.zeroCells, Array.toList_map, List.mem_map] at hv
      obtain ⟨j, _, rfl⟩ := hv
      rw [hk]
      exact h1 _ (Nat.mod_lt _ hk0))
  refine ⟨(Builtin.zeroCells z.cells (n - i)).toList, fun ty => ?_⟩
  simp only [Nat.add_zero] at hst
  obtain ⟨m, hm⟩ : ∃ m, n - i = m + 1 := ⟨n - i - 1, by omega⟩
  rw [hm] at hst ⊢
  simp [Builtin.clear_, run_underlying ht, hz, hst]

end Go.Proofs.YtlefhfmckimlaacDoor
