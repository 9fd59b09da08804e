/-
  What is asked, in memory behind a slice: what a walk is told of some that came in, and that they stay while only new memory is written. For any program.
-/
import Derived.Test.YtlefhfmckimlaakGreatDoorJTup
import Derived.Test.YtlefhfmckimlaakGreatDoorJQue
import Derived.Lib.SmallJoins
namespace Go.Proofs.YtlefhfmckimlaakGreatDoor
open Go.RowKit Go.Deep

/-- the asks l lie in w, four cells each, from cell off of block b on -/
def LieA (w : World) (b off : Nat) (l : List M.Ask) : Prop :=
  ∀ i (h : i < l.length), w.cell? ⟨b, off + i * 4, none⟩ = some (.int .i64 l[i].who) ∧ w.cell? ⟨b, off + i * 4 + 1, none⟩ = some (.int .i64 l[i].seq) ∧ w.cell? ⟨b, off + i * 4 + 2, none⟩ = some (.int .i64 l[i].deed) ∧ ∃ v, w.cell? ⟨b, off + i * 4 + 3, none⟩ = some v ∧ IsVals w v l[i].t
/-- where a slice has its asks: nowhere, if there are none -/
def AtA (w : World) (a : Option Addr) (l : List M.Ask) : Prop := 0 < l.length → ∃ b off, a = some ⟨b, off, none⟩ ∧ LieA w b off l

theorem LieA.stays {w w' : World} {b off B : Nat} {l : List M.Ask} (h : LieA w b off l) (hb : Below B w w') (hB : w.heap.size ≤ B) : LieA w' b off l := fun i hi => by
  obtain ⟨h1, h2, h5, v, h3, h4⟩ := h i hi
  have hlt := Nat.lt_of_lt_of_le (World.block_lt_of_cell? w _ h1) hB
  exact ⟨(hb.cell (p := ⟨b, off + i * 4, none⟩) hlt).trans h1, (hb.cell (p := ⟨b, off + i * 4 + 1, none⟩) hlt).trans h2, (hb.cell (p := ⟨b, off + i * 4 + 2, none⟩) hlt).trans h5, v, (hb.cell (p := ⟨b, off + i * 4 + 3, none⟩) hlt).trans h3, h4.stays hb hB⟩
theorem AtA.stays {w w' : World} {a : Option Addr} {B : Nat} {l : List M.Ask} (h : AtA w a l) (hb : Below B w w') (hB : w.heap.size ≤ B) : AtA w' a l := fun h0 => by
  obtain ⟨b, off, e, g⟩ := h h0
  exact ⟨b, off, e, g.stays hb hB⟩

theorem LieA.get {w : World} {b off : Nat} {l : List M.Ask} (h : LieA w b off l) {k : Nat} (hk : k < l.length) : ∃ a n c, w.cell? ⟨b, off + k * 4, none⟩ = some (.int .i64 l[k].who) ∧ w.cell? ⟨b, off + k * 4 + 1, none⟩ = some (.int .i64 l[k].seq) ∧ w.cell? ⟨b, off + k * 4 + 2, none⟩ = some (.int .i64 l[k].deed) ∧ w.cell? ⟨b, off + k * 4 + 3, none⟩ = some (.slice a n c) ∧ IsVals w (.slice a n c) l[k].t := by
  obtain ⟨h1, h2, h3, v, h4, h5⟩ := h k hk
  have hs : ∃ a n c, v = .slice a n c := by
    rcases h5 with ⟨h, _⟩ | ⟨a, c, h, _⟩ | ⟨b, off, c, _, h, _⟩
    · exact ⟨_, _, _, h⟩
    · exact ⟨_, _, _, h⟩
    · exact ⟨_, _, _, h⟩
  obtain ⟨a, n, c, rfl⟩ := hs
  exact ⟨a, n, c, h1, h2, h3, h4, h5⟩

/-- an argument of type []api.Ask -/
theorem open_asks {H : Type} {enc : TypeId × Value → H} {P : Program} {w : World} {t e ev : TypeId} {f0 f1 f2 f3 g0 g1 g2 : Field} {a : Option Addr} {len cap : Nat} {d : DataW H} {p : List MemPlace}
    (ht : P.underlying t = some (.slice e)) (he : P.underlying e = some (.struct #[f0, f1, f2, f3])) (ce : P.cellsOf e = 4) (o0 : f0.offset = 0) (o1 : f1.offset = 1) (o2 : f2.offset = 2) (o3 : f3.offset = 3)
    (u0 : P.underlying f0.type = some (.int .i64)) (u1 : P.underlying f1.type = some (.int .i64)) (u2 : P.underlying f2.type = some (.int .i64)) (u3 : P.underlying f3.type = some (.slice ev)) (c0 : P.cellsOf f0.type = 1) (c1 : P.cellsOf f1.type = 1) (c2 : P.cellsOf f2.type = 1) (c3 : P.cellsOf f3.type = 1)
    (hv : P.underlying ev = some (.struct #[g0, g1, g2])) (cv : P.cellsOf ev = 3) (q0 : g0.offset = 0) (q1 : g1.offset = 1) (q2 : g2.offset = 2) (r0 : P.underlying g0.type = some (.int .i64)) (r1 : P.underlying g1.type = some (.int .i64)) (r2 : P.underlying g2.type = some .string) (k0 : P.cellsOf g0.type = 1) (k1 : P.cellsOf g1.type = 1) (k2 : P.cellsOf g2.type = 1)
    (h : DataW.Trod enc P w 0 (fun _ => true) true t (.slice a len cap) d p) : ∃ l : List M.Ask, len = l.length ∧ len ≤ cap ∧ cap ≤ maxLen ∧ AtA w a l ∧ ((d = .nil ∧ l = []) ∨ ∃ D1 D2, d = .slice D1 D2 ∧ D1.length = l.length) ∧ (a = none → len = 0 ∧ cap = 0) := by
  obtain ⟨fuel, hf⟩ := h
  rcases open_slice ht hf with ⟨hcs, hd⟩ | ⟨x, len', cap', m, n, D, Pl, hcs, _, hl, hm, hmm, hd, hx⟩
  · simp [Value.cells] at hcs
    obtain ⟨rfl, rfl, rfl⟩ := hcs
    exact ⟨[], rfl, Nat.zero_le _, Nat.zero_le _, fun h => absurd h (by decide), Or.inl ⟨(Prod.mk.inj hd).1, rfl⟩, fun _ => ⟨rfl, rfl⟩⟩
  · simp [Value.cells] at hcs
    obtain ⟨rfl, rfl, rfl⟩ := hcs
    have hmc : m = cap := by rw [hmm]; simp
    have each : ∀ i, i < len → ∃ r : M.Ask, w.cell? (x.add (i * 4)) = some (.int .i64 r.who) ∧ w.cell? (x.add (i * 4 + 1)) = some (.int .i64 r.seq) ∧ w.cell? (x.add (i * 4 + 2)) = some (.int .i64 r.deed) ∧ ∃ v, w.cell? (x.add (i * 4 + 3)) = some v ∧ IsVals w v r.t := by
      intro i hi
      obtain ⟨cs', h1, h2⟩ := hx i (by omega)
      rw [ce] at h1
      obtain ⟨_, hlen, hcell⟩ := World.cells?_some h1
      obtain ⟨y0, y1, y2, y3, k, _, _, t0, t1, t2, t3⟩ := Joins.trod_struct4 he h2
      match cs', hlen with
      | [v0, v1, v2, v3], _ =>
        rw [o0, c0] at t0
        rw [o1, c1] at t1
        rw [o2, c2] at t2
        rw [o3, c3] at t3
        obtain ⟨z0, s0, _, _⟩ := DataW.trod_int u0 t0
        obtain ⟨z1, s1, _, _⟩ := DataW.trod_int u1 t1
        obtain ⟨z2, s2, _, _⟩ := DataW.trod_int u2 t2
        simp at s0 s1 s2
        have t3' : DataW.trod enc P w 0 (fun _ => true) true k f3.type [v3] = some y3 := by simpa using t3
        have hV : ∃ a' len' cap', v3 = .slice a' len' cap' := by
          rcases open_slice u3 t3' with ⟨hc, _⟩ | ⟨x', l', c', _, _, _, _, hc, _⟩
          · exact ⟨none, 0, 0, by simpa using hc⟩
          · exact ⟨some x', l', c', by simpa using hc⟩
        obtain ⟨a', l', c', hve⟩ := hV
        subst hve
        obtain ⟨ll, hll, _⟩ := open_vals (d := y3.1) (p := y3.2) u3 hv cv q0 q1 q2 r0 r1 r2 k0 k1 k2 ⟨k, by simpa [Value.cells] using t3'⟩
        have e0 := hcell 0 (by omega)
        have e1 := hcell 1 (by omega)
        have e2 := hcell 2 (by omega)
        have e3 := hcell 3 (by omega)
        refine ⟨⟨z0, z1, z2, ll⟩, ?_, ?_, ?_, _, ?_, hll⟩
        · simpa [add_add, s0] using e0
        · simpa [add_add, s1] using e1
        · simpa [add_add, s2] using e2
        · simpa [add_add] using e3
    rcases Nat.eq_zero_or_pos len with h0 | h0
    · subst h0; exact ⟨[], rfl, hl, hm, fun h => absurd h (by simp), Or.inr ⟨_, _, (Prod.mk.inj hd).1, by simp⟩, fun e => by cases e⟩
    haveI : Inhabited M.Ask := ⟨⟨0, 0, 0, []⟩⟩
    obtain ⟨f, hfe⟩ := choose_lt each
    obtain ⟨b, off, spot⟩ := x
    have hspot : spot = none := by simpa [Addr.add] using World.cell?_spot (hfe 0 h0).1
    subst hspot
    have hll : ((List.range len).map f).length = len := by simp
    refine ⟨(List.range len).map f, hll.symm, hl, hm, fun _ => ⟨b, off, rfl, fun i hi => ?_⟩, Or.inr ⟨_, _, (Prod.mk.inj hd).1, by simp⟩, fun e => by cases e⟩
    have hi' : i < len := by rw [hll] at hi; exact hi
    have e : ((List.range len).map f)[i] = f i := by simp
    rw [e]
    have g := hfe i hi'
    simp only [WideShapes.add_plain] at g
    exact g

/-- an argument of type api.Ask -/
theorem open_ask {H : Type} {enc : TypeId × Value → H} {P : Program} {w : World} {r : Reach} {b0 : Nat} {e ev : TypeId} {f0 f1 f2 f3 g0 g1 g2 : Field} {v : Value} {d : DataW H} {p : List MemPlace}
    (he : P.underlying e = some (.struct #[f0, f1, f2, f3])) (ce : P.cellsOf e = 4) (o0 : f0.offset = 0) (o1 : f1.offset = 1) (o2 : f2.offset = 2) (o3 : f3.offset = 3)
    (u0 : P.underlying f0.type = some (.int .i64)) (u1 : P.underlying f1.type = some (.int .i64)) (u2 : P.underlying f2.type = some (.int .i64)) (u3 : P.underlying f3.type = some (.slice ev)) (c0 : P.cellsOf f0.type = 1) (c1 : P.cellsOf f1.type = 1) (c2 : P.cellsOf f2.type = 1) (c3 : P.cellsOf f3.type = 1)
    (hv : P.underlying ev = some (.struct #[g0, g1, g2])) (cv : P.cellsOf ev = 3) (q0 : g0.offset = 0) (q1 : g1.offset = 1) (q2 : g2.offset = 2) (r0 : P.underlying g0.type = some (.int .i64)) (r1 : P.underlying g1.type = some (.int .i64)) (r2 : P.underlying g2.type = some .string) (k0 : P.cellsOf g0.type = 1) (k1 : P.cellsOf g1.type = 1) (k2 : P.cellsOf g2.type = 1)
    (hw : Value.okWide P w r b0 e v) (h : DataW.Trod enc P w 0 (fun _ => true) true e v d p) : ∃ (x : M.Ask) (a : Option Addr) (n c : Nat), v = .agg #[.int .i64 x.who, .int .i64 x.seq, .int .i64 x.deed, .slice a n c] ∧ IsVals w (.slice a n c) x.t := by
  obtain ⟨cs, rfl, hsz⟩ := WideShapes.okWide_struct he hw
  rw [ce] at hsz
  obtain ⟨v0, v1, v2, v3, rfl⟩ := Joins.array4 hsz
  obtain ⟨fuel, hf⟩ := h
  obtain ⟨y0, y1, y2, y3, k, _, _, t0, t1, t2, t3⟩ := Joins.trod_struct4 he hf
  rw [o0, c0] at t0
  rw [o1, c1] at t1
  rw [o2, c2] at t2
  rw [o3, c3] at t3
  obtain ⟨z0, s0, _, _⟩ := DataW.trod_int u0 t0
  obtain ⟨z1, s1, _, _⟩ := DataW.trod_int u1 t1
  obtain ⟨z2, s2, _, _⟩ := DataW.trod_int u2 t2
  simp [Value.cells] at s0 s1 s2
  have t3' : DataW.trod enc P w 0 (fun _ => true) true k f3.type [v3] = some y3 := by simpa [Value.cells] using t3
  have hV : ∃ a' len' cap', v3 = .slice a' len' cap' := by
    rcases open_slice u3 t3' with ⟨hc, _⟩ | ⟨x', l', c', _, _, _, _, hc, _⟩
    · exact ⟨none, 0, 0, by simpa using hc⟩
    · exact ⟨some x', l', c', by simpa using hc⟩
  obtain ⟨a', l', c', hve⟩ := hV
  subst hve
  obtain ⟨ll, hll, _⟩ := open_vals (d := y3.1) (p := y3.2) u3 hv cv q0 q1 q2 r0 r1 r2 k0 k1 k2 ⟨k, by simpa [Value.cells] using t3'⟩
  exact ⟨⟨z0, z1, z2, ll⟩, a', l', c', by rw [s0, s1, s2], hll⟩

end Go.Proofs.YtlefhfmckimlaakGreatDoor
