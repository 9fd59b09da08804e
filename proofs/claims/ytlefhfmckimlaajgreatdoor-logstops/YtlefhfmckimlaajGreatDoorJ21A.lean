/-
  Rows and spaces whose blocks are as they were. For any program.
  Rules that lie in memory behind a slice: what a walk is told of some that came in, and that they stay while only new memory is written. For any program.
-/
import Derived.Test.YtlefhfmckimlaajGreatDoorJ20A
import Derived.Test.YtlefhfmckimlaajGreatDoorJ7A
import Derived.Test.YtlefhfmckimlaajGreatDoorRuleMath
import Derived.Lib.SmallJoins
set_option linter.unusedVariables false
namespace Go.Proofs.YtlefhfmckimlaajGreatDoor
open Go.RowKit

theorem ownsRow_at {b T k n : Nat} {w w' : World} {v : Value} {xs : List Value} (h : w.ownsRow b T k v n xs) (hk : ∀ g, v.ownBlock = some g → w'.heap[g]? = w.heap[g]?) : w'.ownsRow b T k v n xs := by
  refine ⟨h.1, ?_⟩
  rcases h.2 with h2 | ⟨g, cap, cur, hv, hg, hh, r⟩
  · exact Or.inl h2
  · exact Or.inr ⟨g, cap, cur, hv, hg, (hk g (by rw [hv]; rfl)).trans hh, r⟩
theorem ownsRow_tag {b T k n : Nat} {w : World} {v : Value} {xs : List Value} (h : w.ownsRow b T k v n xs) {g : Nat} (hg : v.ownBlock = some g) : b ≤ g ∧ ∃ c fr, w.heap[g]? = some (.cells c T fr) := by
  rcases h.2 with ⟨hv, _⟩ | ⟨g', cap, cur, hv, hb, hh, r⟩
  · rw [hv] at hg; cases hg
  · rw [hv] at hg
    have : g' = g := by simpa [Value.ownBlock] using hg
    subst this
    exact ⟨hb, _, _, hh⟩
section
variable {T : TypeId} {Q : Value → List M.Val → Prop} {base S : Nat} {w w' : World} {v v' : Value} {L : List (List M.Val)}
theorem Sp.at (h : Sp T Q base w S v L) (hS : w'.heap[S]? = w.heap[S]?) (hv : ∀ g, v.ownBlock = some g → w'.heap[g]? = w.heap[g]?) : Sp T Q base w' S v L := by
  obtain ⟨xs, h1, h2⟩ := h.row
  exact ⟨h.lo, hS.trans h.heap, xs, ownsRow_at h1 hv, h2⟩
/-- a block of another type is none of a space's -/
theorem Sp.other (h : Sp T Q base w S v L) {b : Nat} {c : Array Value} {T' : TypeId} {fr : Nat × Nat} (hb : w.heap[b]? = some (.cells c T' fr)) (h1 : T' ≠ T) (h2 : T' ≠ 33) : b ≠ S ∧ v.ownBlock ≠ some b := by
  refine ⟨fun e => ?_, fun e => ?_⟩
  · subst e
    rw [h.heap] at hb
    exact h1 (tag_eq hb).symm
  · obtain ⟨xs, hx, _⟩ := h.row
    obtain ⟨_, c', fr', hh⟩ := ownsRow_tag hx e
    rw [hb] at hh
    exact h2 (tag_eq hh)
theorem Sp.tch (h : Sp T Q base w S v L) (hT : T ≠ 47) (ht : Touch S v w w') : Tch (fun k => k = S ∨ v.ownBlock = some k) w w' :=
  ⟨ht.os, ht.tape, ht.output, ht.size, fun k hk hn => ht.block k hk (fun e => hn (Or.inl e)) (fun e => hn (Or.inr e)), Sp.solid h hT ht⟩
theorem Near.grows (h : Near w v v') {k : Nat} (hk : v'.ownBlock = some k) : v.ownBlock = some k ∨ w.heap.size ≤ k := by
  rcases h with h | h
  · exact Or.inl (h ▸ hk)
  · exact Or.inr (h k hk)
end

theorem near_app {H g : Nat} {w : World} {u : Value} {n c : Nat} (h : u.ownBlock = some g ∨ g = H) (hw : w.heap.size ≤ H) : Near w u (.slice (some ⟨g, 0, none⟩) n c) := by
  rcases h with h | h
  · exact Or.inl h.symm
  · refine Or.inr fun k hk => ?_
    have : g = k := by simpa [Value.ownBlock] using hk
    omega

end Go.Proofs.YtlefhfmckimlaajGreatDoor

namespace Go.Proofs.YtlefhfmckimlaajGreatDoor
open Go.RowKit Go.Deep

/-- the rules l lie in w, four cells each, from cell off of block b on -/
def LieR (w : World) (b off : Nat) (l : List M.Rul) : Prop :=
  ∀ i (h : i < l.length), w.cell? ⟨b, off + i * 4, none⟩ = some (.int .i64 l[i].deed) ∧ w.cell? ⟨b, off + i * 4 + 1, none⟩ = some (.int .i64 l[i].who) ∧ (∃ v, w.cell? ⟨b, off + i * 4 + 2, none⟩ = some v ∧ IsVals w v l[i].like) ∧ w.cell? ⟨b, off + i * 4 + 3, none⟩ = some (.bool l[i].may)
/-- where a slice has its rules: nowhere, if there are none -/
def AtR (w : World) (a : Option Addr) (l : List M.Rul) : Prop := 0 < l.length → ∃ b off, a = some ⟨b, off, none⟩ ∧ LieR w b off l

theorem LieR.stays {w w' : World} {b off B : Nat} {l : List M.Rul} (h : LieR w b off l) (hb : Below B w w') (hB : w.heap.size ≤ B) : LieR w' b off l := fun i hi => by
  obtain ⟨h1, h2, ⟨v, h3, h4⟩, h5⟩ := h i hi
  have hlt := Nat.lt_of_lt_of_le (World.block_lt_of_cell? w _ h1) hB
  exact ⟨(hb.cell (p := ⟨b, off + i * 4, none⟩) hlt).trans h1, (hb.cell (p := ⟨b, off + i * 4 + 1, none⟩) hlt).trans h2, ⟨v, (hb.cell (p := ⟨b, off + i * 4 + 2, none⟩) hlt).trans h3, h4.stays hb hB⟩, (hb.cell (p := ⟨b, off + i * 4 + 3, none⟩) hlt).trans h5⟩
theorem AtR.stays {w w' : World} {a : Option Addr} {B : Nat} {l : List M.Rul} (h : AtR w a l) (hb : Below B w w') (hB : w.heap.size ≤ B) : AtR w' a l := fun h0 => by
  obtain ⟨b, off, e, g⟩ := h h0
  exact ⟨b, off, e, g.stays hb hB⟩

/-- an argument of type []api.Rule -/
theorem open_rules {H : Type} {enc : TypeId × Value → H} {P : Program} {w : World} {t e ev : TypeId} {f0 f1 f2 f3 g0 g1 g2 : Field} {a : Option Addr} {len cap : Nat} {d : DataW H} {p : List MemPlace}
    (ht : P.underlying t = some (.slice e)) (he : P.underlying e = some (.struct #[f0, f1, f2, f3])) (ce : P.cellsOf e = 4) (o0 : f0.offset = 0) (o1 : f1.offset = 1) (o2 : f2.offset = 2) (o3 : f3.offset = 3)
    (u0 : P.underlying f0.type = some (.int .i64)) (u1 : P.underlying f1.type = some (.int .i64)) (u2 : P.underlying f2.type = some (.slice ev)) (u3 : P.underlying f3.type = some .bool) (c0 : P.cellsOf f0.type = 1) (c1 : P.cellsOf f1.type = 1) (c2 : P.cellsOf f2.type = 1) (c3 : P.cellsOf f3.type = 1)
    (hv : P.underlying ev = some (.struct #[g0, g1, g2])) (cv : P.cellsOf ev = 3) (q0 : g0.offset = 0) (q1 : g1.offset = 1) (q2 : g2.offset = 2) (r0 : P.underlying g0.type = some (.int .i64)) (r1 : P.underlying g1.type = some (.int .i64)) (r2 : P.underlying g2.type = some .string) (k0 : P.cellsOf g0.type = 1) (k1 : P.cellsOf g1.type = 1) (k2 : P.cellsOf g2.type = 1)
    (h : DataW.Trod enc P w 0 (fun _ => true) true t (.slice a len cap) d p) : ∃ l : List M.Rul, len = l.length ∧ len ≤ cap ∧ cap ≤ maxLen ∧ AtR w a l ∧ ((d = .nil ∧ l = []) ∨ ∃ D1 D2, d = .slice D1 D2 ∧ D1.length = l.length) ∧ (a = none → len = 0 ∧ cap = 0) := by
  obtain ⟨fuel, hf⟩ := h
  rcases open_slice ht hf with ⟨hcs, hd⟩ | ⟨x, len', cap', m, n, D, Pl, hcs, _, hl, hm, hmm, hd, hx⟩
  · simp [Value.cells] at hcs
    obtain ⟨rfl, rfl, rfl⟩ := hcs
    exact ⟨[], rfl, Nat.zero_le _, Nat.zero_le _, fun h => absurd h (by decide), Or.inl ⟨(Prod.mk.inj hd).1, rfl⟩, fun _ => ⟨rfl, rfl⟩⟩
  · simp [Value.cells] at hcs
    obtain ⟨rfl, rfl, rfl⟩ := hcs
    have hmc : m = cap := by rw [hmm]; simp
    have each : ∀ i, i < len → ∃ r : M.Rul, w.cell? (x.add (i * 4)) = some (.int .i64 r.deed) ∧ w.cell? (x.add (i * 4 + 1)) = some (.int .i64 r.who) ∧ (∃ v, w.cell? (x.add (i * 4 + 2)) = some v ∧ IsVals w v r.like) ∧ w.cell? (x.add (i * 4 + 3)) = some (.bool r.may) := by
      intro i hi
      obtain ⟨cs', h1, h2⟩ := hx i (by omega)
      rw [ce] at h1
      obtain ⟨_, hlen, hcell⟩ := World.cells?_some h1
      obtain ⟨y0, y1, y2, y3, k, _, _, t0, t1, t2, t3⟩ := Joins.trod_struct4 he h2
      match cs', hlen with
      | [v0, v1, v2, v3], _ =>
        rw [o0, c0] at t0
        rw [o1, c1] at t1
        rw [o2, c2] at t2
        rw [o3, c3] at t3
        obtain ⟨z0, s0, _, _⟩ := DataW.trod_int u0 t0
        obtain ⟨z1, s1, _, _⟩ := DataW.trod_int u1 t1
        obtain ⟨z3, s3, _⟩ := DataW.trod_bool u3 t3
        simp at s0 s1 s3
        have t2' : DataW.trod enc P w 0 (fun _ => true) true k f2.type [v2] = some y2 := by simpa using t2
        have hV : ∃ a' len' cap', v2 = .slice a' len' cap' := by
          rcases open_slice u2 t2' with ⟨hc, _⟩ | ⟨x', l', c', _, _, _, _, hc, _⟩
          · exact ⟨none, 0, 0, by simpa using hc⟩
          · exact ⟨some x', l', c', by simpa using hc⟩
        obtain ⟨a', l', c', hve⟩ := hV
        subst hve
        obtain ⟨ll, hll, _⟩ := open_vals (d := y2.1) (p := y2.2) u2 hv cv q0 q1 q2 r0 r1 r2 k0 k1 k2 ⟨k, by simpa [Value.cells] using t2'⟩
        have e0 := hcell 0 (by omega)
        have e1 := hcell 1 (by omega)
        have e2 := hcell 2 (by omega)
        have e3 := hcell 3 (by omega)
        refine ⟨⟨z0, z1, ll, z3⟩, ?_, ?_, ⟨_, ?_, hll⟩, ?_⟩
        · simpa [add_add, s0] using e0
        · simpa [add_add, s1] using e1
        · simpa [add_add] using e2
        · simpa [add_add, s3] using e3
    rcases Nat.eq_zero_or_pos len with h0 | h0
    · subst h0; exact ⟨[], rfl, hl, hm, fun h => absurd h (by simp), Or.inr ⟨_, _, (Prod.mk.inj hd).1, by simp⟩, fun e => by cases e⟩
    haveI : Inhabited M.Rul := ⟨⟨0, 0, [], false⟩⟩
    obtain ⟨f, hfe⟩ := choose_lt each
    obtain ⟨b, off, spot⟩ := x
    have hspot : spot = none := by simpa [Addr.add] using World.cell?_spot (hfe 0 h0).1
    subst hspot
    have hll : ((List.range len).map f).length = len := by simp
    refine ⟨(List.range len).map f, hll.symm, hl, hm, fun _ => ⟨b, off, rfl, fun i hi => ?_⟩, Or.inr ⟨_, _, (Prod.mk.inj hd).1, by simp⟩, fun e => by cases e⟩
    have hi' : i < len := by rw [hll] at hi; exact hi
    have e : ((List.range len).map f)[i] = f i := by simp
    rw [e]
    have g := hfe i hi'
    simp only [WideShapes.add_plain] at g
    exact g

end Go.Proofs.YtlefhfmckimlaajGreatDoor
