/-
  Lists of tuples that lie in memory behind a slice of slices: what a walk is told of one that came in or that a call has put together. For any program.
  Memory of a call's own that it goes on writing to: tuples, lists of tuples, and a struct that holds such a list; what a call on one leaves as it was. For any program.
  Things in memory of a call's own that stand beside each other: each has its blocks; what a call on one leaves of another. For any program.
-/
import Derived.Test.YtlefhfmckimlaajGreatDoorJ7A
import Derived.Deep.AppendLies
namespace Go.Proofs.YtlefhfmckimlaajGreatDoor
open Go.RowKit Go.Deep

/-- the tuples L lie in w, a slice each, from cell off of block b on -/
def LieT (w : World) (b off : Nat) (L : List (List M.Val)) : Prop :=
  ∀ i (h : i < L.length), ∃ v, w.cell? ⟨b, off + i, none⟩ = some v ∧ IsVals w v L[i]
/-- the slice v holds the tuples L -/
def IsTups (w : World) (v : Value) (L : List (List M.Val)) : Prop :=
  (v = .slice none 0 0 ∧ L = []) ∨ (∃ a cap, v = .slice (some a) 0 cap ∧ L = []) ∨ ∃ b off cap, 0 < L.length ∧ v = .slice (some ⟨b, off, none⟩) L.length cap ∧ L.length ≤ cap ∧ cap ≤ maxLen ∧ LieT w b off L

theorem LieT.block {w : World} {b off : Nat} {L : List (List M.Val)} (h : LieT w b off L) (hl : 0 < L.length) : b < w.heap.size := by
  rcases Nat.lt_or_ge b w.heap.size with g | g
  · exact g
  · obtain ⟨v, hv, _⟩ := h 0 hl
    simp [World.cell?, Array.getElem?_eq_none g] at hv
theorem LieT.stays {w w' : World} {b off B : Nat} {L : List (List M.Val)} (h : LieT w b off L) (hl : 0 < L.length) (hb : Below B w w') (hB : w.heap.size ≤ B) : LieT w' b off L := fun i hi => by
  have hlt := Nat.lt_of_lt_of_le (h.block hl) hB
  obtain ⟨v, h1, h2⟩ := h i hi
  exact ⟨v, (hb.cell (p := ⟨b, off + i, none⟩) hlt).trans h1, h2.stays hb hB⟩
theorem IsTups.stays {w w' : World} {v : Value} {B : Nat} {L : List (List M.Val)} (h : IsTups w v L) (hb : Below B w w') (hB : w.heap.size ≤ B) : IsTups w' v L := by
  rcases h with h | h | ⟨b, off, cap, h1, h2, h3, h4, h5⟩
  · exact Or.inl h
  · exact Or.inr (Or.inl h)
  · exact Or.inr (Or.inr ⟨b, off, cap, h1, h2, h3, h4, h5.stays h1 hb hB⟩)
theorem IsTups.some {w : World} {v : Value} {L : List (List M.Val)} (h : IsTups w v L) (h0 : 0 < L.length) : ∃ b off cap, v = .slice (some ⟨b, off, none⟩) L.length cap ∧ L.length ≤ cap ∧ cap ≤ maxLen ∧ LieT w b off L := by
  rcases h with ⟨_, h2⟩ | ⟨_, _, _, h2⟩ | ⟨b, off, cap, h1, h2, h3, h4, h5⟩
  · subst h2; exact absurd h0 (by simp)
  · subst h2; exact absurd h0 (by simp)
  · exact ⟨b, off, cap, h2, h3, h4, h5⟩
theorem IsTups.shape {w : World} {v : Value} {L : List (List M.Val)} (h : IsTups w v L) : ∃ ao cap, v = .slice ao L.length cap ∧ L.length ≤ maxLen := by
  rcases h with ⟨h1, h2⟩ | ⟨a, cap, h1, h2⟩ | ⟨b, off, cap, h1, h2, h3, h4, h5⟩
  · subst h2; exact ⟨none, 0, h1, by simp⟩
  · subst h2; exact ⟨_, cap, h1, by simp⟩
  · exact ⟨_, cap, h2, by omega⟩

/-- what a call has put together itself: the row's values hold the tuples -/
theorem isTups_own {w : World} {base : Nat} {e : TypeId} {v : Value} {xs : List Value} {L : List (List M.Val)} (h : w.ownsRow base e 1 v L.length xs) (hx : ∀ i (h1 : i < xs.length) (h2 : i < L.length), IsVals w xs[i] L[i]) : IsTups w v L := by
  have hlen : xs.length = L.length := by have := h.1; omega
  rcases Nat.eq_zero_or_pos L.length with h0 | h0
  · have hl : L = [] := List.length_eq_zero_iff.1 h0
    rcases h.2 with ⟨rfl, _⟩ | ⟨g, cap, cur, hv, _⟩
    · exact Or.inl ⟨rfl, hl⟩
    · rw [h0] at hv; exact Or.inr (Or.inl ⟨_, _, hv, hl⟩)
  · have hc := h
    rcases h.2 with ⟨_, hn⟩ | ⟨g, cap, cur, hv, _, _, hn, hm, _⟩
    · omega
    · refine Or.inr (Or.inr ⟨g, 0, cap, h0, hv, hn, hm, fun i hi => ?_⟩)
      have hix : i < xs.length := by omega
      have := hc.cells (g := g) (by rw [hv]; rfl) i xs[i] (List.getElem?_eq_getElem hix)
      rw [WideShapes.add_plain] at this
      exact ⟨xs[i], this, hx i hix hi⟩

/-- an argument of type [][]Value -/
theorem open_tups {H : Type} {enc : TypeId × Value → H} {P : Program} {w : World} {tt t e : TypeId} {f0 f1 f2 : Field} {a : Option Addr} {len cap : Nat} {d : DataW H} {p : List MemPlace}
    (htt : P.underlying tt = some (.slice t)) (ct : P.cellsOf t = 1) (ht : P.underlying t = some (.slice e)) (he : P.underlying e = some (.struct #[f0, f1, f2])) (ce : P.cellsOf e = 3) (o0 : f0.offset = 0) (o1 : f1.offset = 1) (o2 : f2.offset = 2)
    (u0 : P.underlying f0.type = some (.int .i64)) (u1 : P.underlying f1.type = some (.int .i64)) (u2 : P.underlying f2.type = some .string) (c0 : P.cellsOf f0.type = 1) (c1 : P.cellsOf f1.type = 1) (c2 : P.cellsOf f2.type = 1)
    (h : DataW.Trod enc P w 0 (fun _ => true) true tt (.slice a len cap) d p) : ∃ L, IsTups w (.slice a len cap) L ∧ ((d = .nil ∧ L = []) ∨ ∃ D1 D2, d = .slice D1 D2 ∧ D1.length = L.length) := by
  obtain ⟨fuel, hf⟩ := h
  rcases open_slice1 htt ct hf with ⟨hcs, hd⟩ | ⟨x, len', cap', m, n, V, D, Pl, hcs, _, hl, hm, hmm, hd, hx⟩
  · simp [Value.cells] at hcs
    obtain ⟨rfl, rfl, rfl⟩ := hcs
    exact ⟨[], Or.inl ⟨rfl, rfl⟩, Or.inl ⟨(Prod.mk.inj hd).1, rfl⟩⟩
  · simp [Value.cells] at hcs
    obtain ⟨rfl, rfl, rfl⟩ := hcs
    rcases Nat.eq_zero_or_pos len with h0 | h0
    · subst h0; exact ⟨[], Or.inr (Or.inl ⟨x, cap, rfl, rfl⟩), Or.inr ⟨_, _, (Prod.mk.inj hd).1, by simp⟩⟩
    have hmc : m = cap := by rw [hmm]; simp
    have each : ∀ i, i < len → ∃ l : List M.Val, w.cell? (x.add i) = some (V i) ∧ IsVals w (V i) l := by
      intro i hi
      obtain ⟨h1, h2⟩ := hx i (by omega)
      have hV : ∃ a' len' cap', V i = .slice a' len' cap' := by
        rcases open_slice ht h2 with ⟨hc, _⟩ | ⟨x', l', c', _, _, _, _, hc, _⟩
        · exact ⟨none, 0, 0, by simpa using hc⟩
        · exact ⟨some x', l', c', by simpa using hc⟩
      obtain ⟨a', l', c', hv⟩ := hV
      rw [hv] at h1 h2 ⊢
      obtain ⟨l, hl, _⟩ := open_vals (d := D i) (p := Pl i) ht he ce o0 o1 o2 u0 u1 u2 c0 c1 c2 ⟨n, by simpa [Value.cells] using h2⟩
      exact ⟨l, h1, hl⟩
    obtain ⟨f, hfe⟩ := choose_lt each
    obtain ⟨b, off, spot⟩ := x
    have hspot : spot = none := by simpa [Addr.add] using World.cell?_spot (hfe 0 h0).1
    subst hspot
    have hll : ((List.range len).map f).length = len := by simp
    refine ⟨(List.range len).map f, Or.inr (Or.inr ⟨b, off, cap, by rw [hll]; exact h0, by rw [hll], by rw [hll]; exact hl, hm, ?_⟩), Or.inr ⟨_, _, (Prod.mk.inj hd).1, by simp⟩⟩
    intro i hi
    have hi' : i < len := by rw [hll] at hi; exact hi
    have e : ((List.range len).map f)[i] = f i := by simp
    rw [e]
    have g := hfe i hi'
    rw [WideShapes.add_plain] at g
    exact ⟨V i, g⟩

end Go.Proofs.YtlefhfmckimlaajGreatDoor

namespace Go.Proofs.YtlefhfmckimlaajGreatDoor
open Go.RowKit

/-- every block of values stays as it is -/
def Solid (w w' : World) : Prop := ∀ (b : Nat) (cur : Array Value) (fr : Nat × Nat), w.heap[b]? = some (.cells cur 47 fr) → w'.heap[b]? = some (.cells cur 47 fr)
theorem Solid.refl (w : World) : Solid w w := fun _ _ _ h => h
theorem Solid.trans {a b c : World} (h : Solid a b) (k : Solid b c) : Solid a c := fun i cur fr hi => k i cur fr (h i cur fr hi)
theorem heap_lt {w : World} {b : Nat} {o : Obj} (h : w.heap[b]? = some o) : b < w.heap.size := by
  rcases Nat.lt_or_ge b w.heap.size with g | g
  · exact g
  · rw [Array.getElem?_eq_none g] at h; cases h
theorem tag_eq {c1 c2 : Array Value} {t1 t2 : TypeId} {f1 f2 : Nat × Nat} (h : some (Obj.cells c1 t1 f1) = some (Obj.cells c2 t2 f2)) : t1 = t2 := by cases h; rfl
theorem Solid.below {w w' : World} (h : Below w.heap.size w w') : Solid w w' := fun b _ _ hb => (h.block b (heap_lt hb)).trans hb

/-- a tuple in memory of the call's own -/
def OwnT (base : Nat) (w : World) (v : Value) (l : List M.Val) : Prop := w.ownsRow base 47 3 v l.length (flat l) ∧ ∀ x ∈ l, x.s.size ≤ maxLen
theorem OwnT.vals {base : Nat} {w : World} {v : Value} {l : List M.Val} (h : OwnT base w v l) : IsVals w v l := isVals_own h.2 h.1
theorem ownsRow_solid {base : Nat} {w w' : World} {v : Value} {n k : Nat} {xs : List Value} (h : w.ownsRow base 47 k v n xs) (hs : Solid w w') : w'.ownsRow base 47 k v n xs := by
  refine ⟨h.1, ?_⟩
  rcases h.2 with h2 | ⟨g, cap, cur, hv, hg, hh, r⟩
  · exact Or.inl h2
  · exact Or.inr ⟨g, cap, cur, hv, hg, hs _ _ _ hh, r⟩
theorem OwnT.solid {base : Nat} {w w' : World} {v : Value} {l : List M.Val} (h : OwnT base w v l) (hs : Solid w w') : OwnT base w' v l := ⟨ownsRow_solid h.1 hs, h.2⟩
theorem OwnT.mono {base b2 : Nat} {w : World} {v : Value} {l : List M.Val} (h : OwnT base w v l) (hb : b2 ≤ base) : OwnT b2 w v l := by
  refine ⟨⟨h.1.1, ?_⟩, h.2⟩
  rcases h.1.2 with h2 | ⟨g, cap, cur, hv, hg, hh, r⟩
  · exact Or.inl h2
  · exact Or.inr ⟨g, cap, cur, hv, Nat.le_trans hb hg, hh, r⟩

/-- a list of tuples, whose row is the call's own; of each tuple Q is known -/
def RowOf (Q : Value → List M.Val → Prop) (base : Nat) (w : World) (v : Value) (L : List (List M.Val)) : Prop :=
  ∃ xs : List Value, w.ownsRow base 33 1 v L.length xs ∧ ∀ i (h1 : i < xs.length) (h2 : i < L.length), Q xs[i] L[i]
theorem RowOf.mono {Q Q' : Value → List M.Val → Prop} {base : Nat} {w : World} {v : Value} {L : List (List M.Val)} (h : RowOf Q base w v L) (hq : ∀ x l, Q x l → Q' x l) : RowOf Q' base w v L := by
  obtain ⟨xs, h1, h2⟩ := h
  exact ⟨xs, h1, fun i a b => hq _ _ (h2 i a b)⟩
theorem RowOf.tups {Q : Value → List M.Val → Prop} {base : Nat} {w : World} {v : Value} {L : List (List M.Val)} (h : RowOf Q base w v L) (hq : ∀ x l, Q x l → IsVals w x l) : IsTups w v L := by
  obtain ⟨xs, h1, h2⟩ := h
  exact isTups_own h1 fun i a b => hq _ _ (h2 i a b)
theorem RowOf.nil (Q : Value → List M.Val → Prop) (base : Nat) (w : World) : RowOf Q base w (.slice none 0 0) [] := ⟨[], World.ownsRow_nil _ _ _ _, fun i h => by simp at h⟩
theorem RowOf.lt {Q : Value → List M.Val → Prop} {base : Nat} {w : World} {v : Value} {L : List (List M.Val)} (h : RowOf Q base w v L) : ∀ k, v.ownBlock = some k → base ≤ k ∧ k < w.heap.size := by
  obtain ⟨xs, h1, _⟩ := h
  exact h1.lt
/-- behind an append of one -/
theorem RowOf.snoc {Q : Value → List M.Val → Prop} {base : Nat} {w' : World} {v x : Value} {L : List (List M.Val)} {l : List M.Val} {xs : List Value} (hxs : ∀ i (h1 : i < xs.length) (h2 : i < L.length), Q xs[i] L[i]) (hlen : xs.length = L.length)
    (h : w'.ownsRow base 33 1 v (L.length + 1) (xs ++ [x])) (hx : Q x l) : RowOf Q base w' v (L ++ [l]) := by
  refine ⟨xs ++ [x], by simpa using h, fun i h1 h2 => ?_⟩
  by_cases hi : i < xs.length
  · rw [List.getElem_append_left hi, List.getElem_append_left (by omega)]
    exact hxs i hi (by omega)
  · have : i = xs.length := by simp at h1; omega
    subst this
    rw [List.getElem_append_right (Nat.le_refl _), List.getElem_append_right (by omega)]
    simpa [hlen] using hx

/-- what is kept but for a struct's block and its list's row -/
structure Touch (S : Nat) (v : Value) (w w' : World) : Prop where
  os : w'.os = w.os
  tape : w'.tape = w.tape
  output : w'.output = w.output
  size : w.heap.size ≤ w'.heap.size
  block : ∀ k, k < w.heap.size → k ≠ S → v.ownBlock ≠ some k → w'.heap[k]? = w.heap[k]?
theorem Touch.of_below {S : Nat} {v : Value} {w w' : World} (h : Below w.heap.size w w') : Touch S v w w' := ⟨h.os, h.tape, h.output, h.size, fun k hk _ _ => h.block k hk⟩
theorem Touch.after {S : Nat} {v : Value} {a b c : World} (h : Below a.heap.size a b) (k : Touch S v b c) : Touch S v a c :=
  ⟨k.os.trans h.os, k.tape.trans h.tape, k.output.trans h.output, Nat.le_trans h.size k.size, fun i hi h1 h2 => (k.block i (Nat.lt_of_lt_of_le hi h.size) h1 h2).trans (h.block i hi)⟩
theorem Touch.then {S : Nat} {v : Value} {a b c : World} (h : Touch S v a b) (k : Below b.heap.size b c) : Touch S v a c :=
  ⟨k.os.trans h.os, k.tape.trans h.tape, k.output.trans h.output, Nat.le_trans h.size k.size, fun i hi h1 h2 => (k.block i (Nat.lt_of_lt_of_le hi h.size)).trans (h.block i hi h1 h2)⟩
theorem Touch.below {S B : Nat} {v : Value} {w w' : World} (h : Touch S v w w') (hS : B ≤ S) (hv : ∀ k, v.ownBlock = some k → B ≤ k) (hB : B ≤ w.heap.size) : Below B w w' :=
  ⟨h.os, h.tape, h.output, h.size, fun k hk => h.block k (by omega) (by omega) (fun e => by have := hv k e; omega)⟩

/-- a struct of the call's own whose one field is such a list -/
structure Sp (T : TypeId) (Q : Value → List M.Val → Prop) (base : Nat) (w : World) (S : Nat) (v : Value) (L : List (List M.Val)) : Prop where
  lo : base ≤ S
  heap : w.heap[S]? = some (.cells #[v] T (0, 0))
  row : RowOf Q base w v L

def Apart (u v : Value) : Prop := ∀ k, u.ownBlock = some k → v.ownBlock ≠ some k
theorem Apart.symm {u v : Value} (h : Apart u v) : Apart v u := fun k h1 h2 => h k h2 h1
theorem Apart.nil (v : Value) : Apart (.slice none 0 0) v := fun k h => by cases h
/-- where the list lies behind a call: where it lay, or in new memory -/
def Near (w : World) (v v' : Value) : Prop := v'.ownBlock = v.ownBlock ∨ ∀ k, v'.ownBlock = some k → w.heap.size ≤ k
theorem Near.refl (w : World) (v : Value) : Near w v v := Or.inl rfl
theorem Near.mono {w w1 : World} {v v' : Value} (h : Near w1 v v') (hs : w.heap.size ≤ w1.heap.size) : Near w v v' := by
  rcases h with h | h
  · exact Or.inl h
  · exact Or.inr fun k hk => Nat.le_trans hs (h k hk)
theorem Apart.near {w : World} {u v v' : Value} (h : Apart u v) (hu : ∀ k, u.ownBlock = some k → k < w.heap.size) (hn : Near w v v') : Apart u v' := by
  rcases hn with hn | hn
  · intro k hk; rw [hn]; exact h k hk
  · intro k hk e
    have := hu k hk
    have := hn k e
    omega

theorem RowOf.touch {Q : Value → List M.Val → Prop} {base S : Nat} {w w' : World} {u v : Value} {L : List (List M.Val)} {o : Array Value} {T : TypeId} {fr : Nat × Nat} (h : RowOf Q base w u L) (hS : w.heap[S]? = some (.cells o T fr)) (hT : T ≠ 33) (ht : Touch S v w w') (ha : Apart u v) : RowOf Q base w' u L := by
  obtain ⟨xs, h1, h2⟩ := h
  refine ⟨xs, ⟨h1.1, ?_⟩, h2⟩
  rcases h1.2 with h3 | ⟨g, cap, cur, hv, hg, hh, r⟩
  · exact Or.inl h3
  · refine Or.inr ⟨g, cap, cur, hv, hg, ?_, r⟩
    rw [ht.block g (heap_lt hh) (fun e => ?_) (ha g (by rw [hv]; rfl))]
    · exact hh
    · subst e
      rw [hS] at hh
      exact hT (tag_eq hh)
theorem RowOf.below {Q : Value → List M.Val → Prop} {base : Nat} {w w' : World} {u : Value} {L : List (List M.Val)} (h : RowOf Q base w u L) (hb : Below w.heap.size w w') : RowOf Q base w' u L := by
  obtain ⟨xs, h1, h2⟩ := h
  refine ⟨xs, ⟨h1.1, ?_⟩, h2⟩
  rcases h1.2 with h3 | ⟨g, cap, cur, hv, hg, hh, r⟩
  · exact Or.inl h3
  · exact Or.inr ⟨g, cap, cur, hv, hg, (hb.block g (heap_lt hh)).trans hh, r⟩
/-- the row of a struct's list, and that it is none of values -/
theorem Sp.solid {T : TypeId} {Q : Value → List M.Val → Prop} {base S : Nat} {w w' : World} {v : Value} {L : List (List M.Val)} (h : Sp T Q base w S v L) (hT : T ≠ 47) (ht : Touch S v w w') : Solid w w' := fun b cur fr hb => by
  rw [ht.block b (heap_lt hb) (fun e => ?_) (fun e => ?_)]
  · exact hb
  · subst e
    rw [h.heap] at hb
    exact hT (tag_eq hb)
  · obtain ⟨xs, h1, _⟩ := h.row
    rcases h1.2 with ⟨hv, _⟩ | ⟨g, cap, c2, hv, _, hh, _⟩
    · rw [hv] at e; cases e
    · rw [hv] at e
      have : g = b := by simpa [Value.ownBlock] using e
      subst this
      rw [hh] at hb
      exact absurd (tag_eq hb) (by decide)
theorem Sp.below {T : TypeId} {Q : Value → List M.Val → Prop} {base S : Nat} {w w' : World} {v : Value} {L : List (List M.Val)} (h : Sp T Q base w S v L) (ht : Touch S v w w') {B : Nat} (hB : B ≤ base) : Below B w w' := by
  refine ht.below (Nat.le_trans hB h.lo) (fun k hk => Nat.le_trans hB (h.row.lt k hk).1) ?_
  have := heap_lt h.heap
  have := h.lo
  omega
theorem Sp.mono {T : TypeId} {Q Q' : Value → List M.Val → Prop} {base S : Nat} {w : World} {v : Value} {L : List (List M.Val)} (h : Sp T Q base w S v L) (hq : ∀ x l, Q x l → Q' x l) : Sp T Q' base w S v L := ⟨h.lo, h.heap, h.row.mono hq⟩
theorem Sp.quiet {T : TypeId} {Q : Value → List M.Val → Prop} {base S : Nat} {w w' : World} {v : Value} {L : List (List M.Val)} (h : Sp T Q base w S v L) (hb : Below w.heap.size w w') : Sp T Q base w' S v L := ⟨h.lo, (hb.block S (heap_lt h.heap)).trans h.heap, h.row.below hb⟩
/-- one struct stays while another one is written -/
theorem Sp.touch {T T' : TypeId} {Q Q' : Value → List M.Val → Prop} {base S S' : Nat} {w w' : World} {u v : Value} {L L' : List (List M.Val)} (h : Sp T Q base w S u L) (h' : Sp T' Q' base w S' v L') (hTT : T ≠ T') (hT : T ≠ 33) (hT' : T' ≠ 33) (ht : Touch S' v w w') (ha : Apart u v) : Sp T Q base w' S u L := by
  refine ⟨h.lo, ?_, h.row.touch h'.heap hT' ht ha⟩
  rw [ht.block S (heap_lt h.heap) (fun e => ?_) (fun e => ?_)]
  · exact h.heap
  · subst e
    have := h.heap
    rw [h'.heap] at this
    exact hTT (tag_eq this).symm
  · obtain ⟨xs, h1, _⟩ := h'.row
    rcases h1.2 with ⟨hv, _⟩ | ⟨g, cap, c2, hv, _, hh, _⟩
    · rw [hv] at e; cases e
    · rw [hv] at e
      have : g = S := by simpa [Value.ownBlock] using e
      subst this
      rw [h.heap] at hh
      exact hT (tag_eq hh)

theorem Sp.row_ne {T : TypeId} {Q : Value → List M.Val → Prop} {base S : Nat} {w : World} {v : Value} {L : List (List M.Val)} (h : Sp T Q base w S v L) (hT : T ≠ 33) : v.ownBlock ≠ some S := fun e => by
  obtain ⟨xs, h1, _⟩ := h.row
  rcases h1.2 with ⟨hv, _⟩ | ⟨g, cap, c2, hv, _, hh, _⟩
  · rw [hv] at e; cases e
  · rw [hv] at e
    have : g = S := by simpa [Value.ownBlock] using e
    subst this
    rw [h.heap] at hh
    exact hT (tag_eq hh)
theorem solid_grown {wA w3 : World} {base n : Nat} {v : Value} {xs : List Value} (hx : wA.ownsRow base 33 1 v n xs) (hg : wA.grownBy w3 v.ownBlock) : Solid wA w3 := fun b cur fr hb => by
  rw [hg.block b (heap_lt hb) (fun e => ?_)]
  · exact hb
  · rcases hx.2 with ⟨hv, _⟩ | ⟨g, cap, c2, hv, _, hh, _⟩
    · rw [hv] at e; cases e
    · rw [hv] at e
      have : b = g := by simpa [Value.ownBlock] using e
      subst this
      rw [hh] at hb
      exact absurd (tag_eq hb) (by decide)
theorem grownBy_setCell (w : World) (a : Addr) (u : Value) : w.grownBy (w.setCell a u) (some a.block) := ⟨rfl, rfl, rfl, by simp, fun k _ hk => heap_setCell_other w a k u (fun e => hk (by rw [e]))⟩
/-- behind an append to the list, or any other writing of its row, and the store of what came of it -/
theorem Sp.stored {T : TypeId} {Q : Value → List M.Val → Prop} {base S : Nat} {wA w3 : World} {v v' : Value} {L L' : List (List M.Val)} (hT : T ≠ 33) (h : Sp T Q base wA S v L) (hg : wA.grownBy w3 v.ownBlock) (hr : RowOf Q base w3 v' L') (hn : Near wA v v') :
    Sp T Q base (w3.setCell ⟨S, 0, none⟩ v') S v' L' ∧ Touch S v wA (w3.setCell ⟨S, 0, none⟩ v') := by
  have hSl := heap_lt h.heap
  have hne := h.row_ne hT
  have h3 : w3.heap[S]? = some (.cells #[v] T (0, 0)) := (hg.block S hSl (fun e => hne e.symm)).trans h.heap
  have hne' : v'.ownBlock ≠ some S := fun e => by
    rcases hn with hn | hn
    · rw [hn] at e; exact hne e
    · have := hn S e; omega
  refine ⟨⟨h.lo, ?_, ?_⟩, ⟨hg.os, hg.tape, hg.output, ?_, fun k hk h1 h2 => ?_⟩⟩
  · rw [heap_setCell_same w3 S 0 #[v] T v' h3]; rfl
  · obtain ⟨xs, hx1, hx2⟩ := hr
    exact ⟨xs, hx1.kept (grownBy_setCell w3 ⟨S, 0, none⟩ v') (Or.inr hne'), hx2⟩
  · have := hg.size
    simpa using this
  · rw [heap_setCell_other w3 ⟨S, 0, none⟩ k v' h1]
    exact hg.block k hk (fun e => h2 e.symm)

end Go.Proofs.YtlefhfmckimlaajGreatDoor

namespace Go.Proofs.YtlefhfmckimlaajGreatDoor
open Go.RowKit

/-- all is kept but some blocks; blocks of values stay whatever -/
structure Tch (F : Nat → Prop) (w w' : World) : Prop where
  os : w'.os = w.os
  tape : w'.tape = w.tape
  output : w'.output = w.output
  size : w.heap.size ≤ w'.heap.size
  block : ∀ k, k < w.heap.size → ¬ F k → w'.heap[k]? = w.heap[k]?
  vals : Solid w w'
/-- the blocks behind a call: those from before, or new ones -/
def Grows (w : World) (F F' : Nat → Prop) : Prop := ∀ k, F' k → F k ∨ w.heap.size ≤ k
section
variable {F F' F2 G : Nat → Prop} {a b c w w' : World} {base B : Nat}
theorem Tch.of_below (h : Below w.heap.size w w') : Tch F w w' := ⟨h.os, h.tape, h.output, h.size, fun k hk _ => h.block k hk, Solid.below h⟩
theorem Tch.refl (F : Nat → Prop) (w : World) : Tch F w w := Tch.of_below (Below.refl _ _)
theorem Grows.refl (w : World) (F : Nat → Prop) : Grows w F F := fun _ h => Or.inl h
theorem Grows.trans (h : Grows a F F') (hs : a.heap.size ≤ b.heap.size) (k : Grows b F' F2) : Grows a F F2 := fun i hi => by
  rcases k i hi with g | g
  · exact h i g
  · exact Or.inr (Nat.le_trans hs g)
theorem Tch.trans (h : Tch F a b) (hg : Grows a F F') (k : Tch F' b c) : Tch F a c :=
  ⟨k.os.trans h.os, k.tape.trans h.tape, k.output.trans h.output, Nat.le_trans h.size k.size, fun i hi hF => (k.block i (Nat.lt_of_lt_of_le hi h.size) (fun e => by
    rcases hg i e with g | g
    · exact hF g
    · omega)).trans (h.block i hi hF), h.vals.trans k.vals⟩
theorem Tch.then (h : Tch F a b) (k : Below b.heap.size b c) : Tch F a c := h.trans (Grows.refl _ _) (Tch.of_below k)
theorem Tch.after (h : Below a.heap.size a b) (k : Tch F b c) : Tch F a c := (Tch.of_below h).trans (Grows.refl _ _) k
theorem Tch.mono (h : Tch F w w') (hF : ∀ k, F k → G k) : Tch G w w' := ⟨h.os, h.tape, h.output, h.size, fun k hk hn => h.block k hk (fun e => hn (hF k e)), h.vals⟩
theorem Tch.below (h : Tch F w w') (hF : ∀ k, F k → B ≤ k) (hB : B ≤ w.heap.size) : Below B w w' :=
  ⟨h.os, h.tape, h.output, h.size, fun k hk => h.block k (by omega) (fun e => by have := hF k e; omega)⟩

/-- the blocks of a set, the values and what came in are as they were -/
structure Kept (base : Nat) (F : Nat → Prop) (w w' : World) : Prop where
  block : ∀ k, F k → w'.heap[k]? = w.heap[k]?
  vals : Solid w w'
  below : Below base w w'
theorem Kept.refl (base : Nat) (F : Nat → Prop) (w : World) : Kept base F w w := ⟨fun _ _ => rfl, Solid.refl w, Below.refl _ _⟩
theorem Kept.trans (h : Kept base F a b) (k : Kept base F b c) : Kept base F a c := ⟨fun i hi => (k.block i hi).trans (h.block i hi), h.vals.trans k.vals, h.below.trans k.below⟩
theorem Tch.kept (h : Tch G w w') (hF : ∀ k, F k → k < w.heap.size) (hd : ∀ k, F k → ¬ G k) (hG : ∀ k, G k → base ≤ k) (hB : base ≤ w.heap.size) : Kept base F w w' :=
  ⟨fun k hk => h.block k (hF k hk) (hd k hk), h.vals, h.below hG hB⟩
theorem Kept.of_below (hF : ∀ k, F k → k < w.heap.size) (hB : base ≤ w.heap.size) (h : Below w.heap.size w w') : Kept base F w w' := ⟨fun k hk => h.block k (hF k hk), Solid.below h, h.mono hB⟩

/-- a thing whose blocks are F -/
structure Thing (base : Nat) (F : Nat → Prop) (P : World → Prop) (w : World) : Prop where
  lo : ∀ k, F k → base ≤ k
  hi : ∀ k, F k → k < w.heap.size
  base_le : base ≤ w.heap.size
  all : ∀ w', Kept base F w w' → P w'
variable {P Q : World → Prop}
theorem Thing.here (h : Thing base F P w) : P w := h.all w (Kept.refl _ _ _)
theorem Thing.keep (h : Thing base F P w) (t : Tch G w w') (hd : ∀ k, F k → ¬ G k) (hG : ∀ k, G k → base ≤ k) : Thing base F P w' :=
  ⟨h.lo, fun k hk => Nat.lt_of_lt_of_le (h.hi k hk) t.size, Nat.le_trans h.base_le t.size, fun _ hk => h.all _ ((t.kept h.hi hd hG h.base_le).trans hk)⟩
theorem Thing.quiet (h : Thing base F P w) (hb : Below w.heap.size w w') : Thing base F P w' :=
  ⟨h.lo, fun k hk => Nat.lt_of_lt_of_le (h.hi k hk) hb.size, Nat.le_trans h.base_le hb.size, fun _ hk => h.all _ ((Kept.of_below h.hi h.base_le hb).trans hk)⟩
/-- two sets have no block in common -/
def Off (F G : Nat → Prop) : Prop := ∀ k, F k → ¬ G k
theorem Off.symm (h : Off F G) : Off G F := fun k hk e => h k e hk
theorem Off.grows (h : Off F G) (hG : ∀ k, G k → k < w.heap.size) (hg : Grows w F F') : Off F' G := fun k hk e => by
  rcases hg k hk with g | g
  · exact h k g e
  · have := hG k e; omega
theorem Off.new (hG : ∀ k, G k → k < w.heap.size) (hF : ∀ k, F k → w.heap.size ≤ k) : Off F G := fun k hk e => by have := hG k e; have := hF k hk; omega
end

end Go.Proofs.YtlefhfmckimlaajGreatDoor
