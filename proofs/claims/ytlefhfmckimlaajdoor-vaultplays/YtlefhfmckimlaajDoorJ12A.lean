/-
  Numbers, and points, that lie in memory behind a slice: what a walk is told of one that came in, and that it stays while only new memory is written.
  A row of points that a call puts together itself.
  A row of numbers that a call puts together itself; a slice without memory.
-/
import Derived.Test.YtlefhfmckimlaajDoorJ10A
import Derived.Test.YtlefhfmckimlaajDoorPolyMath2
import Derived.Test.YtlefhfmckimlaajDoorModWalks
import Derived.Deep.Slices
import Derived.Deep.Strs
import Derived.ChangeSame
import Derived.Below
import Derived.WideShapes
import Derived.Laws.AppendOwn
import Derived.Deep.AppendLies
import Derived.Laws.OwnMore
import Derived.OwnWalk
namespace Go.Proofs.YtlefhfmckimlaajDoor
open Go.RowKit Go.Deep

theorem prod_range {a b : Int} (h0 : 0 ≤ a) (h1 : a < 257) (h2 : 0 ≤ b) (h3 : b < 257) : 0 ≤ a * b ∧ a * b ≤ 65536 :=
  ⟨Int.mul_nonneg h0 h2, by have := Int.mul_le_mul (show a ≤ 256 by omega) (show b ≤ 256 by omega) h2 (by decide); omega⟩

/-- the numbers l lie in w from cell off of block b on -/
def LieI (w : World) (b off : Nat) (l : List Int) : Prop := ∀ i (h : i < l.length), w.cell? ⟨b, off + i, none⟩ = some (.int .i64 l[i])
/-- where a slice has its numbers: nowhere, if there are none -/
def AtI (w : World) (a : Option Addr) (l : List Int) : Prop := 0 < l.length → ∃ b off, a = some ⟨b, off, none⟩ ∧ LieI w b off l
/-- the points l lie in w from cell off of block b on -/
def LieP (w : World) (b off : Nat) (l : List (Int × Int)) : Prop := ∀ i (h : i < l.length), w.cell? ⟨b, off + i * 2, none⟩ = some (.int .i64 l[i].1) ∧ w.cell? ⟨b, off + i * 2 + 1, none⟩ = some (.int .i64 l[i].2)
def AtP (w : World) (a : Option Addr) (l : List (Int × Int)) : Prop := 0 < l.length → ∃ b off, a = some ⟨b, off, none⟩ ∧ LieP w b off l

theorem LieI.stays {w w' : World} {b off B : Nat} {l : List Int} (h : LieI w b off l) (hb : Below B w w') (hB : w.heap.size ≤ B) : LieI w' b off l := fun i hi => by
  have g := h i hi
  exact (hb.cell (p := ⟨b, off + i, none⟩) (Nat.lt_of_lt_of_le (World.block_lt_of_cell? w _ g) hB)).trans g
theorem AtI.stays {w w' : World} {a : Option Addr} {B : Nat} {l : List Int} (h : AtI w a l) (hb : Below B w w') (hB : w.heap.size ≤ B) : AtI w' a l := fun h0 => by
  obtain ⟨b, off, e, g⟩ := h h0
  exact ⟨b, off, e, g.stays hb hB⟩
theorem LieP.stays {w w' : World} {b off B : Nat} {l : List (Int × Int)} (h : LieP w b off l) (hb : Below B w w') (hB : w.heap.size ≤ B) : LieP w' b off l := fun i hi => by
  obtain ⟨g1, g2⟩ := h i hi
  exact ⟨(hb.cell (p := ⟨b, off + i * 2, none⟩) (Nat.lt_of_lt_of_le (World.block_lt_of_cell? w _ g1) hB)).trans g1, (hb.cell (p := ⟨b, off + i * 2 + 1, none⟩) (Nat.lt_of_lt_of_le (World.block_lt_of_cell? w _ g2) hB)).trans g2⟩
theorem AtP.stays {w w' : World} {a : Option Addr} {B : Nat} {l : List (Int × Int)} (h : AtP w a l) (hb : Below B w w') (hB : w.heap.size ≤ B) : AtP w' a l := fun h0 => by
  obtain ⟨b, off, e, g⟩ := h h0
  exact ⟨b, off, e, g.stays hb hB⟩

/-- an argument of type []int -/
theorem open_ints {H : Type} {enc : TypeId × Value → H} {P : Program} {w : World} {tt t : TypeId} {a : Option Addr} {len cap : Nat} {d : DataW H} {p : List MemPlace}
    (htt : P.underlying tt = some (.slice t)) (ct : P.cellsOf t = 1) (ht : P.underlying t = some (.int .i64)) (h : DataW.Trod enc P w 0 (fun _ => true) true tt (.slice a len cap) d p) :
    ∃ l : List Int, len = l.length ∧ len ≤ maxLen ∧ AtI w a l := by
  obtain ⟨fuel, hf⟩ := h
  rcases open_slice1 htt ct hf with ⟨hcs, hd⟩ | ⟨x, len', cap', m, n, V, D, Pl, hcs, _, hl, hm, hmm, hd, hx⟩
  · simp [Value.cells] at hcs
    obtain ⟨rfl, rfl, rfl⟩ := hcs
    exact ⟨[], rfl, Nat.zero_le _, fun h => absurd h (by decide)⟩
  · simp [Value.cells] at hcs
    obtain ⟨rfl, rfl, rfl⟩ := hcs
    have hmc : m = cap := by rw [hmm]; simp
    have each : ∀ i, i < len → ∃ z, w.cell? (x.add i) = some (.int .i64 z) := by
      intro i hi
      obtain ⟨h1, h2⟩ := hx i (by omega)
      obtain ⟨z, q, _, _⟩ := DataW.trod_int ht h2
      simp at q
      exact ⟨z, by rw [h1, q]⟩
    obtain ⟨f, hfe⟩ := choose_lt each
    refine ⟨(List.range len).map f, by simp, Nat.le_trans hl hm, fun h0 => ?_⟩
    have h0' : 0 < len := by simpa using h0
    obtain ⟨b, off, spot⟩ := x
    have hspot : spot = none := by simpa [Addr.add] using World.cell?_spot (hfe 0 h0')
    subst hspot
    refine ⟨b, off, rfl, fun i hi => ?_⟩
    have hi' : i < len := by simpa using hi
    have e : ((List.range len).map f)[i] = f i := by simp
    rw [e]
    have g := hfe i hi'
    rw [WideShapes.add_plain] at g
    exact g

/-- an argument of type []api.Share -/
theorem open_pts {H : Type} {enc : TypeId × Value → H} {P : Program} {w : World} {t e : TypeId} {f0 f1 : Field} {a : Option Addr} {len cap : Nat} {d : DataW H} {p : List MemPlace}
    (ht : P.underlying t = some (.slice e)) (he : P.underlying e = some (.struct #[f0, f1])) (ce : P.cellsOf e = 2) (o0 : f0.offset = 0) (o1 : f1.offset = 1)
    (u0 : P.underlying f0.type = some (.int .i64)) (u1 : P.underlying f1.type = some (.int .i64)) (c0 : P.cellsOf f0.type = 1) (c1 : P.cellsOf f1.type = 1)
    (h : DataW.Trod enc P w 0 (fun _ => true) true t (.slice a len cap) d p) : ∃ l : List (Int × Int), len = l.length ∧ len ≤ cap ∧ cap ≤ maxLen ∧ AtP w a l := by
  obtain ⟨fuel, hf⟩ := h
  rcases open_slice ht hf with ⟨hcs, hd⟩ | ⟨x, len', cap', m, n, D, Pl, hcs, _, hl, hm, hmm, hd, hx⟩
  · simp [Value.cells] at hcs
    obtain ⟨rfl, rfl, rfl⟩ := hcs
    exact ⟨[], rfl, Nat.zero_le _, Nat.zero_le _, fun h => absurd h (by decide)⟩
  · simp [Value.cells] at hcs
    obtain ⟨rfl, rfl, rfl⟩ := hcs
    have hmc : m = cap := by rw [hmm]; simp
    have each : ∀ i, i < len → ∃ v : Int × Int, w.cell? (x.add (i * 2)) = some (.int .i64 v.1) ∧ w.cell? (x.add (i * 2 + 1)) = some (.int .i64 v.2) := by
      intro i hi
      obtain ⟨cs', h1, h2⟩ := hx i (by omega)
      rw [ce] at h1
      obtain ⟨_, hlen, hcell⟩ := World.cells?_some h1
      obtain ⟨y0, y1, k, _, _, t0, t1⟩ := ChangeShapes.trod_struct2 he h2
      match cs', hlen with
      | [v0, v1], _ =>
        rw [o0, c0] at t0
        rw [o1, c1] at t1
        obtain ⟨z0, q0, _, _⟩ := DataW.trod_int u0 t0
        obtain ⟨z1, q1, _, _⟩ := DataW.trod_int u1 t1
        simp at q0 q1
        have g0 := hcell 0 (by omega)
        have g1 := hcell 1 (by omega)
        refine ⟨⟨z0, z1⟩, ?_, ?_⟩
        · simpa [add_add, q0] using g0
        · simpa [add_add, q1] using g1
    obtain ⟨f, hfe⟩ := choose_lt each
    refine ⟨(List.range len).map f, by simp, hl, hm, fun h0 => ?_⟩
    have h0' : 0 < len := by simpa using h0
    obtain ⟨b, off, spot⟩ := x
    have hspot : spot = none := by simpa [Addr.add] using World.cell?_spot (hfe 0 h0').1
    subst hspot
    refine ⟨b, off, rfl, fun i hi => ?_⟩
    have hi' : i < len := by simpa using hi
    have e : ((List.range len).map f)[i] = f i := by simp
    rw [e]
    have g := hfe i hi'
    rw [WideShapes.add_plain, WideShapes.add_plain] at g
    exact g

end Go.Proofs.YtlefhfmckimlaajDoor

set_option linter.unusedVariables false
namespace Go.Proofs.YtlefhfmckimlaajDoor
open Go.RowKit

/-- the cells of some points, in a row -/
def flatP : List (Int × Int) → List Value
  | [] => []
  | q :: l => .int .i64 q.1 :: .int .i64 q.2 :: flatP l
theorem flatP_append : ∀ a b : List (Int × Int), flatP (a ++ b) = flatP a ++ flatP b
  | [], b => rfl
  | q :: a, b => by simp only [List.cons_append, flatP, flatP_append a b]
theorem flatP_oneCell : ∀ (l : List (Int × Int)), ∀ u ∈ flatP l, u.oneCell' = true
  | [], u, h => by simp [flatP] at h
  | q :: l, u, h => by
    simp only [flatP, List.mem_cons] at h
    rcases h with rfl | rfl | h
    · rfl
    · rfl
    · exact flatP_oneCell l u h
theorem flatP_at : ∀ (l : List (Int × Int)) (i : Nat) (h : i < l.length), (flatP l)[i * 2]? = some (.int .i64 l[i].1) ∧ (flatP l)[i * 2 + 1]? = some (.int .i64 l[i].2)
  | [], i, h => by simp at h
  | q :: l, 0, _ => by simp [flatP]
  | q :: l, i + 1, h => by
    have ih := flatP_at l i (by simpa using h)
    have e : (i + 1) * 2 = i * 2 + 2 := by omega
    rw [e]
    simpa [flatP] using ih
theorem row_stays {w w' : World} {base k n : Nat} {e : TypeId} {v : Value} {xs : List Value} (h : w.ownsRow base e k v n xs) (hb : Below w.heap.size w w') : w'.ownsRow base e k v n xs := by
  refine ⟨h.1, ?_⟩
  rcases h.2 with h3 | ⟨g, cap, cur, hv, hg, hh, r⟩
  · exact Or.inl h3
  · exact Or.inr ⟨g, cap, cur, hv, hg, (hb.block g (Array.getElem?_eq_some_iff.1 hh).1).trans hh, r⟩
/-- what a call has put together itself -/
theorem atP_own {w : World} {base : Nat} {e : TypeId} {v : Value} {m : Nat} {l : List (Int × Int)} (hm : m = l.length) (h : w.ownsRow base e 2 v m (flatP l)) : ∃ a cap, v = .slice a m cap ∧ m ≤ cap ∧ cap ≤ maxLen ∧ AtP w a l := by
  have hc := h
  rcases h.2 with ⟨hv, hn⟩ | ⟨g, cap, cur, hv, _, _, hn, hcm, _⟩
  · exact ⟨none, 0, by rw [hv, hn], by omega, Nat.zero_le _, fun h0 => by omega⟩
  · refine ⟨some ⟨g, 0, none⟩, cap, hv, hn, hcm, fun _ => ⟨g, 0, rfl, fun i hi => ?_⟩⟩
    have hcells := hc.cells (g := g) (by rw [hv]; rfl)
    obtain ⟨h1, h2⟩ := flatP_at l i hi
    have g1 := hcells _ _ h1
    have g2 := hcells _ _ h2
    rw [WideShapes.add_plain] at g1 g2
    exact ⟨g1, by simpa [Nat.add_assoc] using g2⟩

theorem infoP : (Tryd.prog.info? 31).map (fun i => (i.zero, i.size, i.bytes)) = some (some (.agg #[.int .i64 0, .int .i64 0]), 2, 16) := by kernel_rfl

end Go.Proofs.YtlefhfmckimlaajDoor

set_option linter.unusedVariables false
namespace Go.Proofs.YtlefhfmckimlaajDoor
open Go.RowKit

/-- the cells of some numbers, in a row -/
def cellsI (l : List Int) : List Value := l.map fun z => .int .i64 z
theorem cellsI_len (l : List Int) : (cellsI l).length = l.length := by simp [cellsI]
theorem cellsI_at {l : List Int} {j : Nat} (h : j < l.length) : (cellsI l)[j]? = some (.int .i64 l[j]) := by simp [cellsI, h]
theorem cellsI_oneCell (l : List Int) : ∀ u ∈ cellsI l, u.oneCell' = true := fun u h => by
  simp only [cellsI, List.mem_map] at h
  obtain ⟨z, _, rfl⟩ := h
  rfl
theorem infoInt : (Tryd.prog.info? 3).map (fun i => (i.zero, i.size, i.bytes)) = some (some (.int .i64 0), 1, 8) := by kernel_rfl
/-- numbers that a call has put together itself -/
theorem atI_own {w : World} {base : Nat} {e : TypeId} {v : Value} {m : Nat} {l : List Int} (hm : m = l.length) (h : w.ownsRow base e 1 v m (cellsI l)) : ∃ a cap, v = .slice a m cap ∧ m ≤ cap ∧ cap ≤ maxLen ∧ AtI w a l := by
  have hc := h
  rcases h.2 with ⟨hv, hn⟩ | ⟨g, cap, cur, hv, _, _, hn, hcm, _⟩
  · exact ⟨none, 0, by rw [hv, hn], by omega, Nat.zero_le _, fun h0 => by omega⟩
  · refine ⟨some ⟨g, 0, none⟩, cap, hv, hn, hcm, fun _ => ⟨g, 0, rfl, fun i hi => ?_⟩⟩
    have g1 := hc.cells (g := g) (by rw [hv]; rfl) _ _ (cellsI_at hi)
    rw [WideShapes.add_plain] at g1
    exact g1
/-- the cells of numbers that lie somewhere -/
theorem AtI.news {w : World} {ad : Addr} {l : List Int} (h : AtI w (some ad) l) : ∀ j u, (cellsI l)[j]? = some u → w.cell? (ad.add j) = some u := fun j u hu => by
  have hj : j < l.length := by
    have := (List.getElem?_eq_some_iff.1 hu).1
    rwa [cellsI_len] at this
  obtain ⟨b, off, e, g⟩ := h (by omega)
  cases e
  rw [cellsI_at hj] at hu
  cases hu
  rw [WideShapes.add_plain]
  exact g j hj
/-- no memory: nothing in it -/
def Tidy (a : Option Addr) (n cap : Nat) : Prop := a = none → n = 0 ∧ cap = 0

end Go.Proofs.YtlefhfmckimlaajDoor
