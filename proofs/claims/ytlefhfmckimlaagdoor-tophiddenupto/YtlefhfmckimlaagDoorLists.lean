/-
  A slice of slices of numbers, or of shares, that lies in memory: what a walk is told of one that came in or that a call has put together, and that it stays while only new memory is written. For any program.
-/
import Derived.Test.YtlefhfmckimlaagDoorIntsOwn
namespace Go.Proofs.YtlefhfmckimlaagDoor
open Go.RowKit Go.Deep

/-- the things L lie in w, a cell each, from cell off of block b on; of each Q is known -/
def LieQ {α : Type} (Q : World → Value → α → Prop) (w : World) (b off : Nat) (L : List α) : Prop := ∀ i (h : i < L.length), ∃ v, w.cell? ⟨b, off + i, none⟩ = some v ∧ Q w v L[i]
/-- where a slice has them: nowhere, if there are none -/
def AtQ {α : Type} (Q : World → Value → α → Prop) (w : World) (a : Option Addr) (L : List α) : Prop := 0 < L.length → ∃ b off, a = some ⟨b, off, none⟩ ∧ LieQ Q w b off L
/-- a thing that stays while only new memory is written -/
def FirmQ {α : Type} (Q : World → Value → α → Prop) : Prop := ∀ (w w' : World) (v : Value) (x : α) (B : Nat), Q w v x → Below B w w' → w.heap.size ≤ B → Q w' v x

theorem LieQ.stays {α : Type} {Q : World → Value → α → Prop} (hQ : FirmQ Q) {w w' : World} {b off B : Nat} {L : List α} (h : LieQ Q w b off L) (hb : Below B w w') (hB : w.heap.size ≤ B) : LieQ Q w' b off L := fun i hi => by
  obtain ⟨v, h1, h2⟩ := h i hi
  exact ⟨v, (hb.cell (p := ⟨b, off + i, none⟩) (Nat.lt_of_lt_of_le (World.block_lt_of_cell? w _ h1) hB)).trans h1, hQ _ _ _ _ _ h2 hb hB⟩
theorem AtQ.stays {α : Type} {Q : World → Value → α → Prop} (hQ : FirmQ Q) {w w' : World} {a : Option Addr} {B : Nat} {L : List α} (h : AtQ Q w a L) (hb : Below B w w') (hB : w.heap.size ≤ B) : AtQ Q w' a L := fun h0 => by
  obtain ⟨b, off, e, g⟩ := h h0
  exact ⟨b, off, e, g.stays hQ hb hB⟩

/-- a slice of numbers -/
def IsI (w : World) (v : Value) (l : List Int) : Prop := ∃ a n cap, v = .slice a n cap ∧ n = l.length ∧ n ≤ maxLen ∧ AtI w a l ∧ Tidy a n cap
/-- a slice of shares -/
def IsP (w : World) (v : Value) (l : List (Int × Int)) : Prop := ∃ a n cap, v = .slice a n cap ∧ n = l.length ∧ n ≤ cap ∧ cap ≤ maxLen ∧ AtP w a l
theorem firmI : FirmQ IsI := fun w w' v x B h hb hB => by
  obtain ⟨a, n, cap, e, h1, h2, h3, h4⟩ := h
  exact ⟨a, n, cap, e, h1, h2, h3.stays hb hB, h4⟩
theorem firmP : FirmQ IsP := fun w w' v x B h hb hB => by
  obtain ⟨a, n, cap, e, h1, h2, h3, h4⟩ := h
  exact ⟨a, n, cap, e, h1, h2, h3, h4.stays hb hB⟩

/-- what a call has put together itself -/
theorem atQ_own {α : Type} {Q : World → Value → α → Prop} {w : World} {base : Nat} {e : TypeId} {v : Value} {xs : List Value} {L : List α} (h : w.ownsRow base e 1 v L.length xs) (hx : ∀ i (h1 : i < xs.length) (h2 : i < L.length), Q w xs[i] L[i]) : ∃ a cap, v = .slice a L.length cap ∧ L.length ≤ cap ∧ cap ≤ maxLen ∧ AtQ Q w a L := by
  have hlen : xs.length = L.length := by have := h.1; omega
  have hc := h
  rcases h.2 with ⟨hv, hn⟩ | ⟨g, cap, cur, hv, _, _, hn, hm, _⟩
  · exact ⟨none, 0, by rw [hv, hn], by omega, Nat.zero_le _, fun h0 => by omega⟩
  · refine ⟨some ⟨g, 0, none⟩, cap, hv, hn, hm, fun h0 => ⟨g, 0, rfl, fun i hi => ?_⟩⟩
    have hix : i < xs.length := by omega
    have := hc.cells (g := g) (by rw [hv]; rfl) i xs[i] (List.getElem?_eq_getElem hix)
    rw [WideShapes.add_plain] at this
    exact ⟨xs[i], this, hx i hix hi⟩

/-- an argument whose type is a slice of one-cell things -/
theorem open_each {α : Type} {H : Type} {enc : TypeId × Value → H} {P : Program} {w : World} {Q : World → Value → α → Prop} {tt t : TypeId} {a : Option Addr} {len cap : Nat} {d : DataW H} {p : List MemPlace}
    (htt : P.underlying tt = some (.slice t)) (ct : P.cellsOf t = 1) (hin : ∀ (v : Value) (y : DataW H × List MemPlace) (n : Nat), DataW.trod enc P w 0 (fun _ => true) true n t [v] = some y → ∃ l, Q w v l)
    (h : DataW.Trod enc P w 0 (fun _ => true) true tt (.slice a len cap) d p) : ∃ L : List α, len = L.length ∧ len ≤ cap ∧ cap ≤ maxLen ∧ AtQ Q w a L ∧ Tidy a len cap := by
  obtain ⟨fuel, hf⟩ := h
  rcases open_slice1 htt ct hf with ⟨hcs, hd⟩ | ⟨x, len', cap', m, n, V, D, Pl, hcs, _, hl, hm, hmm, hd, hx⟩
  · simp [Value.cells] at hcs
    obtain ⟨rfl, rfl, rfl⟩ := hcs
    exact ⟨[], rfl, Nat.zero_le _, Nat.zero_le _, fun h => absurd h (by simp), fun _ => ⟨rfl, rfl⟩⟩
  · simp [Value.cells] at hcs
    obtain ⟨rfl, rfl, rfl⟩ := hcs
    have hmc : m = cap := by rw [hmm]; simp
    have each : ∀ i, i < len → ∃ l : α, w.cell? (x.add i) = some (V i) ∧ Q w (V i) l := by
      intro i hi
      obtain ⟨h1, h2⟩ := hx i (by omega)
      obtain ⟨l, hl⟩ := hin (V i) _ _ h2
      exact ⟨l, h1, hl⟩
    rcases Nat.eq_zero_or_pos len with h0 | h0
    · subst h0; exact ⟨[], rfl, hl, hm, fun h => absurd h (by simp), fun e => by cases e⟩
    obtain ⟨dummy, _⟩ := each 0 h0
    haveI : Nonempty α := ⟨dummy⟩
    have each' : ∀ i, ∃ l : α, i < len → w.cell? (x.add i) = some (V i) ∧ Q w (V i) l := fun i => by
      by_cases hi : i < len
      · obtain ⟨l, hl⟩ := each i hi; exact ⟨l, fun _ => hl⟩
      · exact ⟨dummy, fun h => absurd h hi⟩
    obtain ⟨f, hfe⟩ := Classical.axiomOfChoice each'
    obtain ⟨b, off, spot⟩ := x
    have hspot : spot = none := by simpa [Addr.add] using World.cell?_spot (hfe 0 h0).1
    subst hspot
    have hll : ((List.range len).map f).length = len := by simp
    refine ⟨(List.range len).map f, hll.symm, hl, hm, fun _ => ⟨b, off, rfl, fun i hi => ?_⟩, fun e => by cases e⟩
    have hi' : i < len := by rw [hll] at hi; exact hi
    have e : ((List.range len).map f)[i] = f i := by simp
    rw [e]
    have g := hfe i hi'
    rw [WideShapes.add_plain] at g
    exact ⟨V i, g⟩

theorem inner_form {H : Type} {enc : TypeId × Value → H} {P : Program} {w : World} {t e : TypeId} {v : Value} {y : DataW H × List MemPlace} {n : Nat} (ht : P.underlying t = some (.slice e)) (h : DataW.trod enc P w 0 (fun _ => true) true n t [v] = some y) : ∃ a len cap, v = .slice a len cap := by
  rcases open_slice ht h with ⟨hc, _⟩ | ⟨x', l', c', _, _, _, _, hc, _⟩
  · exact ⟨none, 0, 0, by simpa using hc⟩
  · exact ⟨some x', l', c', by simpa using hc⟩

/-- an argument of type [][]int -/
theorem open_listsI {H : Type} {enc : TypeId × Value → H} {P : Program} {w : World} {tt t e : TypeId} {a : Option Addr} {len cap : Nat} {d : DataW H} {p : List MemPlace}
    (htt : P.underlying tt = some (.slice t)) (ct : P.cellsOf t = 1) (ht : P.underlying t = some (.slice e)) (ce : P.cellsOf e = 1) (he : P.underlying e = some (.int .i64))
    (h : DataW.Trod enc P w 0 (fun _ => true) true tt (.slice a len cap) d p) : ∃ L : List (List Int), len = L.length ∧ len ≤ cap ∧ cap ≤ maxLen ∧ AtQ IsI w a L ∧ Tidy a len cap :=
  open_each htt ct (fun v y n hy => by
    obtain ⟨a', l', c', rfl⟩ := inner_form ht hy
    have hy' : DataW.Trod enc P w 0 (fun _ => true) true t (.slice a' l' c') y.1 y.2 := ⟨n, by simpa [Value.cells] using hy⟩
    obtain ⟨l, h1, h2, h3⟩ := open_ints ht ce he hy'
    exact ⟨l, a', l', c', rfl, h1, h2, h3, by
      rcases open_slice ht hy with ⟨hc, _⟩ | ⟨x', l2, c2, _, _, _, _, hc, _⟩
      · simp at hc; obtain ⟨rfl, rfl, rfl⟩ := hc; exact fun _ => ⟨rfl, rfl⟩
      · simp at hc; obtain ⟨rfl, rfl, rfl⟩ := hc; exact fun e => by cases e⟩) h

/-- an argument of type [][]api.Share -/
theorem open_listsP {H : Type} {enc : TypeId × Value → H} {P : Program} {w : World} {tt t e : TypeId} {f0 f1 : Field} {a : Option Addr} {len cap : Nat} {d : DataW H} {p : List MemPlace}
    (htt : P.underlying tt = some (.slice t)) (ct : P.cellsOf t = 1) (ht : P.underlying t = some (.slice e)) (he : P.underlying e = some (.struct #[f0, f1])) (ce : P.cellsOf e = 2) (o0 : f0.offset = 0) (o1 : f1.offset = 1)
    (u0 : P.underlying f0.type = some (.int .i64)) (u1 : P.underlying f1.type = some (.int .i64)) (c0 : P.cellsOf f0.type = 1) (c1 : P.cellsOf f1.type = 1)
    (h : DataW.Trod enc P w 0 (fun _ => true) true tt (.slice a len cap) d p) : ∃ L : List (List (Int × Int)), len = L.length ∧ len ≤ cap ∧ cap ≤ maxLen ∧ AtQ IsP w a L ∧ Tidy a len cap :=
  open_each htt ct (fun v y n hy => by
    obtain ⟨a', l', c', rfl⟩ := inner_form ht hy
    have hy' : DataW.Trod enc P w 0 (fun _ => true) true t (.slice a' l' c') y.1 y.2 := ⟨n, by simpa [Value.cells] using hy⟩
    obtain ⟨l, h1, h2, h3, h4⟩ := open_pts ht he ce o0 o1 u0 u1 c0 c1 hy'
    exact ⟨l, a', l', c', rfl, h1, h2, h3, h4⟩) h

end Go.Proofs.YtlefhfmckimlaagDoor
