/-
  Lists of tuples that lie in memory behind a slice of slices: what a walk is told of one that came in or that a call has put together. For any program.
-/
import Derived.Test.YtlefhfmckimlaagDoorVals
namespace Go.Proofs.YtlefhfmckimlaagDoor
open Go.RowKit Go.Deep

/-- the tuples L lie in w, a slice each, from cell off of block b on -/
def LieT (w : World) (b off : Nat) (L : List (List M.Val)) : Prop :=
  ∀ i (h : i < L.length), ∃ v, w.cell? ⟨b, off + i, none⟩ = some v ∧ IsVals w v L[i]
/-- the slice v holds the tuples L -/
def IsTups (w : World) (v : Value) (L : List (List M.Val)) : Prop :=
  (v = .slice none 0 0 ∧ L = []) ∨ (∃ a cap, v = .slice (some a) 0 cap ∧ L = []) ∨ ∃ b off cap, 0 < L.length ∧ v = .slice (some ⟨b, off, none⟩) L.length cap ∧ L.length ≤ cap ∧ cap ≤ maxLen ∧ LieT w b off L

theorem LieT.block {w : World} {b off : Nat} {L : List (List M.Val)} (h : LieT w b off L) (hl : 0 < L.length) : b < w.heap.size := by
  rcases Nat.lt_or_ge b w.heap.size with g | g
  · exact g
  · obtain ⟨v, hv, _⟩ := h 0 hl
    simp [World.cell?, Array.getElem?_eq_none g] at hv
theorem LieT.stays {w w' : World} {b off B : Nat} {L : List (List M.Val)} (h : LieT w b off L) (hl : 0 < L.length) (hb : Below B w w') (hB : w.heap.size ≤ B) : LieT w' b off L := fun i hi => by
  have hlt := Nat.lt_of_lt_of_le (h.block hl) hB
  obtain ⟨v, h1, h2⟩ := h i hi
  exact ⟨v, (hb.cell (p := ⟨b, off + i, none⟩) hlt).trans h1, h2.stays hb hB⟩
theorem IsTups.stays {w w' : World} {v : Value} {B : Nat} {L : List (List M.Val)} (h : IsTups w v L) (hb : Below B w w') (hB : w.heap.size ≤ B) : IsTups w' v L := by
  rcases h with h | h | ⟨b, off, cap, h1, h2, h3, h4, h5⟩
  · exact Or.inl h
  · exact Or.inr (Or.inl h)
  · exact Or.inr (Or.inr ⟨b, off, cap, h1, h2, h3, h4, h5.stays h1 hb hB⟩)
theorem IsTups.some {w : World} {v : Value} {L : List (List M.Val)} (h : IsTups w v L) (h0 : 0 < L.length) : ∃ b off cap, v = .slice (some ⟨b, off, none⟩) L.length cap ∧ L.length ≤ cap ∧ cap ≤ maxLen ∧ LieT w b off L := by
  rcases h with ⟨_, h2⟩ | ⟨_, _, _, h2⟩ | ⟨b, off, cap, h1, h2, h3, h4, h5⟩
  · subst h2; exact absurd h0 (by simp)
  · subst h2; exact absurd h0 (by simp)
  · exact ⟨b, off, cap, h2, h3, h4, h5⟩
theorem IsTups.shape {w : World} {v : Value} {L : List (List M.Val)} (h : IsTups w v L) : ∃ ao cap, v = .slice ao L.length cap ∧ L.length ≤ maxLen := by
  rcases h with ⟨h1, h2⟩ | ⟨a, cap, h1, h2⟩ | ⟨b, off, cap, h1, h2, h3, h4, h5⟩
  · subst h2; exact ⟨none, 0, h1, by simp⟩
  · subst h2; exact ⟨_, cap, h1, by simp⟩
  · exact ⟨_, cap, h2, by omega⟩

/-- what a call has put together itself: the row's values hold the tuples -/
theorem isTups_own {w : World} {base : Nat} {e : TypeId} {v : Value} {xs : List Value} {L : List (List M.Val)} (h : w.ownsRow base e 1 v L.length xs) (hx : ∀ i (h1 : i < xs.length) (h2 : i < L.length), IsVals w xs[i] L[i]) : IsTups w v L := by
  have hlen : xs.length = L.length := by have := h.1; omega
  rcases Nat.eq_zero_or_pos L.length with h0 | h0
  · have hl : L = [] := List.length_eq_zero_iff.1 h0
    rcases h.2 with ⟨rfl, _⟩ | ⟨g, cap, cur, hv, _⟩
    · exact Or.inl ⟨rfl, hl⟩
    · rw [h0] at hv; exact Or.inr (Or.inl ⟨_, _, hv, hl⟩)
  · have hc := h
    rcases h.2 with ⟨_, hn⟩ | ⟨g, cap, cur, hv, _, _, hn, hm, _⟩
    · omega
    · refine Or.inr (Or.inr ⟨g, 0, cap, h0, hv, hn, hm, fun i hi => ?_⟩)
      have hix : i < xs.length := by omega
      have := hc.cells (g := g) (by rw [hv]; rfl) i xs[i] (List.getElem?_eq_getElem hix)
      rw [WideShapes.add_plain] at this
      exact ⟨xs[i], this, hx i hix hi⟩

/-- an argument of type [][]Value -/
theorem open_tups {H : Type} {enc : TypeId × Value → H} {P : Program} {w : World} {tt t e : TypeId} {f0 f1 f2 : Field} {a : Option Addr} {len cap : Nat} {d : DataW H} {p : List MemPlace}
    (htt : P.underlying tt = some (.slice t)) (ct : P.cellsOf t = 1) (ht : P.underlying t = some (.slice e)) (he : P.underlying e = some (.struct #[f0, f1, f2])) (ce : P.cellsOf e = 3) (o0 : f0.offset = 0) (o1 : f1.offset = 1) (o2 : f2.offset = 2)
    (u0 : P.underlying f0.type = some (.int .i64)) (u1 : P.underlying f1.type = some (.int .i64)) (u2 : P.underlying f2.type = some .string) (c0 : P.cellsOf f0.type = 1) (c1 : P.cellsOf f1.type = 1) (c2 : P.cellsOf f2.type = 1)
    (h : DataW.Trod enc P w 0 (fun _ => true) true tt (.slice a len cap) d p) : ∃ L, IsTups w (.slice a len cap) L ∧ ((d = .nil ∧ L = []) ∨ ∃ D1 D2, d = .slice D1 D2 ∧ D1.length = L.length) := by
  obtain ⟨fuel, hf⟩ := h
  rcases open_slice1 htt ct hf with ⟨hcs, hd⟩ | ⟨x, len', cap', m, n, V, D, Pl, hcs, _, hl, hm, hmm, hd, hx⟩
  · simp [Value.cells] at hcs
    obtain ⟨rfl, rfl, rfl⟩ := hcs
    exact ⟨[], Or.inl ⟨rfl, rfl⟩, Or.inl ⟨(Prod.mk.inj hd).1, rfl⟩⟩
  · simp [Value.cells] at hcs
    obtain ⟨rfl, rfl, rfl⟩ := hcs
    rcases Nat.eq_zero_or_pos len with h0 | h0
    · subst h0; exact ⟨[], Or.inr (Or.inl ⟨x, cap, rfl, rfl⟩), Or.inr ⟨_, _, (Prod.mk.inj hd).1, by simp⟩⟩
    have hmc : m = cap := by rw [hmm]; simp
    have each : ∀ i, i < len → ∃ l : List M.Val, w.cell? (x.add i) = some (V i) ∧ IsVals w (V i) l := by
      intro i hi
      obtain ⟨h1, h2⟩ := hx i (by omega)
      have hV : ∃ a' len' cap', V i = .slice a' len' cap' := by
        rcases open_slice ht h2 with ⟨hc, _⟩ | ⟨x', l', c', _, _, _, _, hc, _⟩
        · exact ⟨none, 0, 0, by simpa using hc⟩
        · exact ⟨some x', l', c', by simpa using hc⟩
      obtain ⟨a', l', c', hv⟩ := hV
      rw [hv] at h1 h2 ⊢
      obtain ⟨l, hl, _⟩ := open_vals (d := D i) (p := Pl i) ht he ce o0 o1 o2 u0 u1 u2 c0 c1 c2 ⟨n, by simpa [Value.cells] using h2⟩
      exact ⟨l, h1, hl⟩
    obtain ⟨f, hfe⟩ := choose_lt each
    obtain ⟨b, off, spot⟩ := x
    have hspot : spot = none := by simpa [Addr.add] using World.cell?_spot (hfe 0 h0).1
    subst hspot
    have hll : ((List.range len).map f).length = len := by simp
    refine ⟨(List.range len).map f, Or.inr (Or.inr ⟨b, off, cap, by rw [hll]; exact h0, by rw [hll], by rw [hll]; exact hl, hm, ?_⟩), Or.inr ⟨_, _, (Prod.mk.inj hd).1, by simp⟩⟩
    intro i hi
    have hi' : i < len := by rw [hll] at hi; exact hi
    have e : ((List.range len).map f)[i] = f i := by simp
    rw [e]
    have g := hfe i hi'
    rw [WideShapes.add_plain] at g
    exact ⟨V i, g⟩

end Go.Proofs.YtlefhfmckimlaagDoor
