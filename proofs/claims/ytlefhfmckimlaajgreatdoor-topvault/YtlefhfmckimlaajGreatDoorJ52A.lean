/-
  Numbers, and points, that lie in memory behind a slice: what a walk is told of one that came in, and that it stays while only new memory is written.
  A row of points that a call puts together itself.
  A row of numbers that a call puts together itself; a slice without memory.
  A vault in memory of a call's own: a struct that leads to a map of what is kept of each name, each in rows of its own; what a call leaves of it.
-/
import Derived.Test.YtlefhfmckimlaajGreatDoorJ7A
import Derived.Test.YtlefhfmckimlaajGreatDoorPolyMath2
import Derived.Test.YtlefhfmckimlaajGreatDoorModWalks
import Derived.Deep.Slices
import Derived.Deep.Strs
import Derived.ChangeSame
import Derived.Below
import Derived.WideShapes
import Derived.Laws.AppendOwn
import Derived.Deep.AppendLies
import Derived.Laws.OwnMore
import Derived.OwnWalk
import Derived.Test.YtlefhfmckimlaajGreatDoorJ49A
import Derived.Test.YtlefhfmckimlaajGreatDoorJ50A
import Derived.Maps.OwnSet
namespace Go.Proofs.YtlefhfmckimlaajGreatDoor
open Go.RowKit Go.Deep

theorem prod_range {a b : Int} (h0 : 0 ≤ a) (h1 : a < 257) (h2 : 0 ≤ b) (h3 : b < 257) : 0 ≤ a * b ∧ a * b ≤ 65536 :=
  ⟨Int.mul_nonneg h0 h2, by have := Int.mul_le_mul (show a ≤ 256 by omega) (show b ≤ 256 by omega) h2 (by decide); omega⟩

/-- the numbers l lie in w from cell off of block b on -/
def LieI (w : World) (b off : Nat) (l : List Int) : Prop := ∀ i (h : i < l.length), w.cell? ⟨b, off + i, none⟩ = some (.int .i64 l[i])
/-- where a slice has its numbers: nowhere, if there are none -/
def AtI (w : World) (a : Option Addr) (l : List Int) : Prop := 0 < l.length → ∃ b off, a = some ⟨b, off, none⟩ ∧ LieI w b off l
/-- the points l lie in w from cell off of block b on -/
def LieP (w : World) (b off : Nat) (l : List (Int × Int)) : Prop := ∀ i (h : i < l.length), w.cell? ⟨b, off + i * 2, none⟩ = some (.int .i64 l[i].1) ∧ w.cell? ⟨b, off + i * 2 + 1, none⟩ = some (.int .i64 l[i].2)
def AtP (w : World) (a : Option Addr) (l : List (Int × Int)) : Prop := 0 < l.length → ∃ b off, a = some ⟨b, off, none⟩ ∧ LieP w b off l

theorem LieI.stays {w w' : World} {b off B : Nat} {l : List Int} (h : LieI w b off l) (hb : Below B w w') (hB : w.heap.size ≤ B) : LieI w' b off l := fun i hi => by
  have g := h i hi
  exact (hb.cell (p := ⟨b, off + i, none⟩) (Nat.lt_of_lt_of_le (World.block_lt_of_cell? w _ g) hB)).trans g
theorem AtI.stays {w w' : World} {a : Option Addr} {B : Nat} {l : List Int} (h : AtI w a l) (hb : Below B w w') (hB : w.heap.size ≤ B) : AtI w' a l := fun h0 => by
  obtain ⟨b, off, e, g⟩ := h h0
  exact ⟨b, off, e, g.stays hb hB⟩
theorem LieP.stays {w w' : World} {b off B : Nat} {l : List (Int × Int)} (h : LieP w b off l) (hb : Below B w w') (hB : w.heap.size ≤ B) : LieP w' b off l := fun i hi => by
  obtain ⟨g1, g2⟩ := h i hi
  exact ⟨(hb.cell (p := ⟨b, off + i * 2, none⟩) (Nat.lt_of_lt_of_le (World.block_lt_of_cell? w _ g1) hB)).trans g1, (hb.cell (p := ⟨b, off + i * 2 + 1, none⟩) (Nat.lt_of_lt_of_le (World.block_lt_of_cell? w _ g2) hB)).trans g2⟩
theorem AtP.stays {w w' : World} {a : Option Addr} {B : Nat} {l : List (Int × Int)} (h : AtP w a l) (hb : Below B w w') (hB : w.heap.size ≤ B) : AtP w' a l := fun h0 => by
  obtain ⟨b, off, e, g⟩ := h h0
  exact ⟨b, off, e, g.stays hb hB⟩

/-- an argument of type []int -/
theorem open_ints {H : Type} {enc : TypeId × Value → H} {P : Program} {w : World} {tt t : TypeId} {a : Option Addr} {len cap : Nat} {d : DataW H} {p : List MemPlace}
    (htt : P.underlying tt = some (.slice t)) (ct : P.cellsOf t = 1) (ht : P.underlying t = some (.int .i64)) (h : DataW.Trod enc P w 0 (fun _ => true) true tt (.slice a len cap) d p) :
    ∃ l : List Int, len = l.length ∧ len ≤ maxLen ∧ AtI w a l := by
  obtain ⟨fuel, hf⟩ := h
  rcases open_slice1 htt ct hf with ⟨hcs, hd⟩ | ⟨x, len', cap', m, n, V, D, Pl, hcs, _, hl, hm, hmm, hd, hx⟩
  · simp [Value.cells] at hcs
    obtain ⟨rfl, rfl, rfl⟩ := hcs
    exact ⟨[], rfl, Nat.zero_le _, fun h => absurd h (by decide)⟩
  · simp [Value.cells] at hcs
    obtain ⟨rfl, rfl, rfl⟩ := hcs
    have hmc : m = cap := by rw [hmm]; simp
    have each : ∀ i, i < len → ∃ z, w.cell? (x.add i) = some (.int .i64 z) := by
      intro i hi
      obtain ⟨h1, h2⟩ := hx i (by omega)
      obtain ⟨z, q, _, _⟩ := DataW.trod_int ht h2
      simp at q
      exact ⟨z, by rw [h1, q]⟩
    obtain ⟨f, hfe⟩ := choose_lt each
    refine ⟨(List.range len).map f, by simp, Nat.le_trans hl hm, fun h0 => ?_⟩
    have h0' : 0 < len := by simpa using h0
    obtain ⟨b, off, spot⟩ := x
    have hspot : spot = none := by simpa [Addr.add] using World.cell?_spot (hfe 0 h0')
    subst hspot
    refine ⟨b, off, rfl, fun i hi => ?_⟩
    have hi' : i < len := by simpa using hi
    have e : ((List.range len).map f)[i] = f i := by simp
    rw [e]
    have g := hfe i hi'
    rw [WideShapes.add_plain] at g
    exact g

/-- an argument of type []api.Share -/
theorem open_pts {H : Type} {enc : TypeId × Value → H} {P : Program} {w : World} {t e : TypeId} {f0 f1 : Field} {a : Option Addr} {len cap : Nat} {d : DataW H} {p : List MemPlace}
    (ht : P.underlying t = some (.slice e)) (he : P.underlying e = some (.struct #[f0, f1])) (ce : P.cellsOf e = 2) (o0 : f0.offset = 0) (o1 : f1.offset = 1)
    (u0 : P.underlying f0.type = some (.int .i64)) (u1 : P.underlying f1.type = some (.int .i64)) (c0 : P.cellsOf f0.type = 1) (c1 : P.cellsOf f1.type = 1)
    (h : DataW.Trod enc P w 0 (fun _ => true) true t (.slice a len cap) d p) : ∃ l : List (Int × Int), len = l.length ∧ len ≤ cap ∧ cap ≤ maxLen ∧ AtP w a l := by
  obtain ⟨fuel, hf⟩ := h
  rcases open_slice ht hf with ⟨hcs, hd⟩ | ⟨x, len', cap', m, n, D, Pl, hcs, _, hl, hm, hmm, hd, hx⟩
  · simp [Value.cells] at hcs
    obtain ⟨rfl, rfl, rfl⟩ := hcs
    exact ⟨[], rfl, Nat.zero_le _, Nat.zero_le _, fun h => absurd h (by decide)⟩
  · simp [Value.cells] at hcs
    obtain ⟨rfl, rfl, rfl⟩ := hcs
    have hmc : m = cap := by rw [hmm]; simp
    have each : ∀ i, i < len → ∃ v : Int × Int, w.cell? (x.add (i * 2)) = some (.int .i64 v.1) ∧ w.cell? (x.add (i * 2 + 1)) = some (.int .i64 v.2) := by
      intro i hi
      obtain ⟨cs', h1, h2⟩ := hx i (by omega)
      rw [ce] at h1
      obtain ⟨_, hlen, hcell⟩ := World.cells?_some h1
      obtain ⟨y0, y1, k, _, _, t0, t1⟩ := ChangeShapes.trod_struct2 he h2
      match cs', hlen with
      | [v0, v1], _ =>
        rw [o0, c0] at t0
        rw [o1, c1] at t1
        obtain ⟨z0, q0, _, _⟩ := DataW.trod_int u0 t0
        obtain ⟨z1, q1, _, _⟩ := DataW.trod_int u1 t1
        simp at q0 q1
        have g0 := hcell 0 (by omega)
        have g1 := hcell 1 (by omega)
        refine ⟨⟨z0, z1⟩, ?_, ?_⟩
        · simpa [add_add, q0] using g0
        · simpa [add_add, q1] using g1
    obtain ⟨f, hfe⟩ := choose_lt each
    refine ⟨(List.range len).map f, by simp, hl, hm, fun h0 => ?_⟩
    have h0' : 0 < len := by simpa using h0
    obtain ⟨b, off, spot⟩ := x
    have hspot : spot = none := by simpa [Addr.add] using World.cell?_spot (hfe 0 h0').1
    subst hspot
    refine ⟨b, off, rfl, fun i hi => ?_⟩
    have hi' : i < len := by simpa using hi
    have e : ((List.range len).map f)[i] = f i := by simp
    rw [e]
    have g := hfe i hi'
    rw [WideShapes.add_plain, WideShapes.add_plain] at g
    exact g

end Go.Proofs.YtlefhfmckimlaajGreatDoor

set_option linter.unusedVariables false
namespace Go.Proofs.YtlefhfmckimlaajGreatDoor
open Go.RowKit

/-- the cells of some points, in a row -/
def flatP : List (Int × Int) → List Value
  | [] => []
  | q :: l => .int .i64 q.1 :: .int .i64 q.2 :: flatP l
theorem flatP_append : ∀ a b : List (Int × Int), flatP (a ++ b) = flatP a ++ flatP b
  | [], b => rfl
  | q :: a, b => by simp only [List.cons_append, flatP, flatP_append a b]
theorem flatP_oneCell : ∀ (l : List (Int × Int)), ∀ u ∈ flatP l, u.oneCell' = true
  | [], u, h => by simp [flatP] at h
  | q :: l, u, h => by
    simp only [flatP, List.mem_cons] at h
    rcases h with rfl | rfl | h
    · rfl
    · rfl
    · exact flatP_oneCell l u h
theorem flatP_at : ∀ (l : List (Int × Int)) (i : Nat) (h : i < l.length), (flatP l)[i * 2]? = some (.int .i64 l[i].1) ∧ (flatP l)[i * 2 + 1]? = some (.int .i64 l[i].2)
  | [], i, h => by simp at h
  | q :: l, 0, _ => by simp [flatP]
  | q :: l, i + 1, h => by
    have ih := flatP_at l i (by simpa using h)
    have e : (i + 1) * 2 = i * 2 + 2 := by omega
    rw [e]
    simpa [flatP] using ih
theorem row_stays {w w' : World} {base k n : Nat} {e : TypeId} {v : Value} {xs : List Value} (h : w.ownsRow base e k v n xs) (hb : Below w.heap.size w w') : w'.ownsRow base e k v n xs := by
  refine ⟨h.1, ?_⟩
  rcases h.2 with h3 | ⟨g, cap, cur, hv, hg, hh, r⟩
  · exact Or.inl h3
  · exact Or.inr ⟨g, cap, cur, hv, hg, (hb.block g (Array.getElem?_eq_some_iff.1 hh).1).trans hh, r⟩
/-- what a call has put together itself -/
theorem atP_own {w : World} {base : Nat} {e : TypeId} {v : Value} {m : Nat} {l : List (Int × Int)} (hm : m = l.length) (h : w.ownsRow base e 2 v m (flatP l)) : ∃ a cap, v = .slice a m cap ∧ m ≤ cap ∧ cap ≤ maxLen ∧ AtP w a l := by
  have hc := h
  rcases h.2 with ⟨hv, hn⟩ | ⟨g, cap, cur, hv, _, _, hn, hcm, _⟩
  · exact ⟨none, 0, by rw [hv, hn], by omega, Nat.zero_le _, fun h0 => by omega⟩
  · refine ⟨some ⟨g, 0, none⟩, cap, hv, hn, hcm, fun _ => ⟨g, 0, rfl, fun i hi => ?_⟩⟩
    have hcells := hc.cells (g := g) (by rw [hv]; rfl)
    obtain ⟨h1, h2⟩ := flatP_at l i hi
    have g1 := hcells _ _ h1
    have g2 := hcells _ _ h2
    rw [WideShapes.add_plain] at g1 g2
    exact ⟨g1, by simpa [Nat.add_assoc] using g2⟩

theorem infoP : (Tryz.prog.info? 37).map (fun i => (i.zero, i.size, i.bytes)) = some (some (.agg #[.int .i64 0, .int .i64 0]), 2, 16) := by kernel_rfl

end Go.Proofs.YtlefhfmckimlaajGreatDoor

set_option linter.unusedVariables false
namespace Go.Proofs.YtlefhfmckimlaajGreatDoor
open Go.RowKit

/-- the cells of some numbers, in a row -/
def cellsI (l : List Int) : List Value := l.map fun z => .int .i64 z
theorem cellsI_len (l : List Int) : (cellsI l).length = l.length := by simp [cellsI]
theorem cellsI_at {l : List Int} {j : Nat} (h : j < l.length) : (cellsI l)[j]? = some (.int .i64 l[j]) := by simp [cellsI, h]
theorem cellsI_oneCell (l : List Int) : ∀ u ∈ cellsI l, u.oneCell' = true := fun u h => by
  simp only [cellsI, List.mem_map] at h
  obtain ⟨z, _, rfl⟩ := h
  rfl
theorem infoInt : (Tryz.prog.info? 3).map (fun i => (i.zero, i.size, i.bytes)) = some (some (.int .i64 0), 1, 8) := by kernel_rfl
/-- numbers that a call has put together itself -/
theorem atI_own {w : World} {base : Nat} {e : TypeId} {v : Value} {m : Nat} {l : List Int} (hm : m = l.length) (h : w.ownsRow base e 1 v m (cellsI l)) : ∃ a cap, v = .slice a m cap ∧ m ≤ cap ∧ cap ≤ maxLen ∧ AtI w a l := by
  have hc := h
  rcases h.2 with ⟨hv, hn⟩ | ⟨g, cap, cur, hv, _, _, hn, hcm, _⟩
  · exact ⟨none, 0, by rw [hv, hn], by omega, Nat.zero_le _, fun h0 => by omega⟩
  · refine ⟨some ⟨g, 0, none⟩, cap, hv, hn, hcm, fun _ => ⟨g, 0, rfl, fun i hi => ?_⟩⟩
    have g1 := hc.cells (g := g) (by rw [hv]; rfl) _ _ (cellsI_at hi)
    rw [WideShapes.add_plain] at g1
    exact g1
/-- the cells of numbers that lie somewhere -/
theorem AtI.news {w : World} {ad : Addr} {l : List Int} (h : AtI w (some ad) l) : ∀ j u, (cellsI l)[j]? = some u → w.cell? (ad.add j) = some u := fun j u hu => by
  have hj : j < l.length := by
    have := (List.getElem?_eq_some_iff.1 hu).1
    rwa [cellsI_len] at this
  obtain ⟨b, off, e, g⟩ := h (by omega)
  cases e
  rw [cellsI_at hj] at hu
  cases hu
  rw [WideShapes.add_plain]
  exact g j hj
/-- no memory: nothing in it -/
def Tidy (a : Option Addr) (n cap : Nat) : Prop := a = none → n = 0 ∧ cap = 0

end Go.Proofs.YtlefhfmckimlaajGreatDoor

set_option linter.unusedVariables false
namespace Go.Proofs.YtlefhfmckimlaajGreatDoor
open Go.RowKit Go.WideMaps Go.Maps

/-- how an element of whatever type reads: as itself -/
def heldV (v : Value) : Option (DataW Value × List MemPlace) := some (.held v, [])
/-- what is kept of one name: its shares, its commits -/
abbrev aggK (s c : Value) : Value := .agg #[s, c]
abbrev nilS : Value := .slice none 0 0
theorem keyed_str : Keyed Tryz.prog 9 := string_keyed Tryz.underlying9
theorem zero_kept (w : World) : (zeroValue 73).run Tryz.prog w = .ok (aggK nilS nilS) w := by kernel_rfl
/-- the map says of each name where its rows are -/
structure Holds (D : DataW Value) (g : ByteArray → Option (List Int)) (n : Nat) (K : ByteArray → Value × Value) : Prop where
  tidy : Maps.Tidy D
  look : ∀ a, D.atKey (keyS a) (.held (aggK nilS nilS)) = .held (aggK (K a).1 (K a).2)
  has : ∀ a, Maps.has D (keyS a) = (g a).isSome
  many : Maps.size D = n
theorem holds_none : Holds (.map []) (fun _ => none) 0 (fun _ => (nilS, nilS)) := ⟨tidy_empty, fun _ => rfl, fun _ => rfl, rfl⟩
theorem Holds.isMap {D : DataW Value} {g : ByteArray → Option (List Int)} {n : Nat} {K : ByteArray → Value × Value} (h : Holds D g n K) : IsMap D := by
  obtain ⟨es, e, _⟩ := h.tidy
  exact ⟨es, e⟩
theorem key_lit (a : ByteArray) : WideAt.IsKeyLit (keyS a) := by simp [keyS, WideAt.IsKeyLit]
/-- of a name that is not there nothing is said -/
theorem Holds.nil {D : DataW Value} {g : ByteArray → Option (List Int)} {n : Nat} {K : ByteArray → Value × Value} (h : Holds D g n K) {a : ByteArray} (ha : g a = none) : (K a).1 = nilS ∧ (K a).2 = nilS := by
  have h1 : Maps.has D (keyS a) = false := by rw [h.has a, ha]; rfl
  have h2 := h.look a
  rw [atKey_of_not_has h1] at h2
  simp only [DataW.held.injEq, Value.agg.injEq] at h2
  have h3 : [nilS, nilS] = [(K a).1, (K a).2] := congrArg Array.toList h2
  simp only [List.cons.injEq, and_true] at h3
  exact ⟨h3.1.symm, h3.2.symm⟩
/-- one more name -/
theorem Holds.put {D : DataW Value} {g : ByteArray → Option (List Int)} {n : Nat} {K : ByteArray → Value × Value} (h : Holds D g n K) {a : ByteArray} (ha : g a = none) (p : List Int) (s c : Value) :
    Holds (D.put (keyS a) (.held (aggK s c))) (fun b => if b = a then some p else g b) (n + 1) (fun b => if b = a then (s, c) else K b) := by
  refine ⟨h.tidy.put (key_lit a) _, fun b => ?_, fun b => ?_, ?_⟩
  · by_cases e : b = a
    · subst e
      rw [atKey_put_same h.isMap (key_lit b), if_pos rfl]
    · rw [atKey_put_other (fun q => e (keyS_own q)), if_neg e, h.look b]
  · by_cases e : b = a
    · subst e
      rw [has_put_same h.isMap (key_lit b), if_pos rfl]; rfl
    · rw [has_put_other (fun q => e (keyS_own q)), if_neg e, h.has b]
  · rw [size_put h.tidy, h.has a, ha, if_neg (by simp), h.many]

/-- what is kept of one name -/
structure KeptOf (base : Nat) (w : World) (many : Nat) (p : List Int) (s c : Value) : Prop where
  shares : w.ownsRow base 37 2 s many (flatP (M.deal p many))
  commits : w.ownsRow base 3 1 c p.length (cellsI (M.commits p))
/-- a vault -/
structure Vt (base : Nat) (w : World) (V B : Nat) (v : M.Vlt) (K : ByteArray → Value × Value) : Prop where
  lo : base ≤ V
  lob : base ≤ B
  heap : w.heap[V]? = some (.cells #[.int .i64 v.many, .int .i64 v.need, .map (some B)] 69 (0, 0))
  map : ∃ D, w.ownsMap Tryz.prog 9 heldV B v.n D ∧ Holds D v.g v.n K
  rows : ∀ a p, v.g a = some p → KeptOf base w v.many p (K a).1 (K a).2
/-- its blocks -/
def vtF (V B : Nat) (v : M.Vlt) (K : ByteArray → Value × Value) (b : Nat) : Prop := b = V ∨ b = B ∨ ∃ a p, v.g a = some p ∧ ((K a).1.ownBlock = some b ∨ (K a).2.ownBlock = some b)
section
variable {base : Nat} {w w' : World} {V B : Nat} {v v' : M.Vlt} {K K' : ByteArray → Value × Value}
theorem cellV_of (w : World) (g j : Nat) (c : Array Value) (T : TypeId) (h : w.heap[g]? = some (.cells c T (0, 0))) : w.cell? ⟨g, j, none⟩ = c[j]? := by
  simp [World.cell?, h]
theorem Vt.cells (h : Vt base w V B v K) : w.cell? ⟨V, 0, none⟩ = some (.int .i64 v.many) ∧ w.cell? ⟨V, 1, none⟩ = some (.int .i64 v.need) ∧ w.cell? ⟨V, 2, none⟩ = some (.map (some B)) ∧ V < w.heap.size := by
  refine ⟨?_, ?_, ?_, heapV_lt h.heap⟩
  · rw [cellV_of w V 0 _ _ h.heap]; rfl
  · rw [cellV_of w V 1 _ _ h.heap]; rfl
  · rw [cellV_of w V 2 _ _ h.heap]; rfl
theorem Vt.mapHeap (h : Vt base w V B v K) : ∃ es c, w.heap[B]? = some (.map es c) := by
  obtain ⟨D, ⟨es, c, hb, _⟩, _⟩ := h.map
  exact ⟨es, c, hb⟩
theorem Vt.lows (h : Vt base w V B v K) : ∀ i, vtF V B v K i → base ≤ i := fun i hi => by
  rcases hi with rfl | rfl | ⟨a, p, hp, hi | hi⟩
  · exact h.lo
  · exact h.lob
  · exact (rowV_tag (h.rows a p hp).shares hi).1
  · exact (rowV_tag (h.rows a p hp).commits hi).1
theorem Vt.highs (h : Vt base w V B v K) : ∀ i, vtF V B v K i → i < w.heap.size := fun i hi => by
  rcases hi with rfl | rfl | ⟨a, p, hp, hi | hi⟩
  · exact heapV_lt h.heap
  · obtain ⟨es, c, hb⟩ := h.mapHeap
    exact heapV_lt hb
  · obtain ⟨_, c, fr, hh⟩ := rowV_tag (h.rows a p hp).shares hi
    exact heapV_lt hh
  · obtain ⟨_, c, fr, hh⟩ := rowV_tag (h.rows a p hp).commits hi
    exact heapV_lt hh
theorem Vt.base_le (h : Vt base w V B v K) : base ≤ w.heap.size := Nat.le_trans h.lo (Nat.le_of_lt (heapV_lt h.heap))
theorem Vt.kept (h : Vt base w V B v K) (hk : ∀ i, vtF V B v K i → w'.heap[i]? = w.heap[i]?) : Vt base w' V B v K := by
  obtain ⟨D, ⟨es, c, hb, r⟩, hg⟩ := h.map
  exact ⟨h.lo, h.lob, (hk V (Or.inl rfl)).trans h.heap, ⟨D, ⟨es, c, (hk B (Or.inr (Or.inl rfl))).trans hb, r⟩, hg⟩, fun a p hp => ⟨rowV_at (h.rows a p hp).shares (fun i hi => hk i (Or.inr (Or.inr ⟨a, p, hp, Or.inl hi⟩))), rowV_at (h.rows a p hp).commits (fun i hi => hk i (Or.inr (Or.inr ⟨a, p, hp, Or.inr hi⟩)))⟩⟩
theorem Vt.quiet (h : Vt base w V B v K) (hb : Below w.heap.size w w') : Vt base w' V B v K := h.kept (fun i hi => hb.block i (h.highs i hi))
/-- what the map says of a name -/
theorem Vt.look (h : Vt base w V B v K) (a : ByteArray) (ha : a.size ≤ maxLen) : (Instr.lookup 67 (.map (some B)) (.string a) true).run Tryz.prog w = .ok (.tuple #[aggK (K a).1 (K a).2, .bool (v.g a).isSome]) w := by
  obtain ⟨D, hD, hh⟩ := h.map
  obtain ⟨u, ps, hr, hv⟩ := hD.look_ok keyed_str Tryz.underlying67 (zero_kept w) (zd := .held (aggK nilS nilS)) (zp := []) rfl (keyOf_string_mk Tryz.underlying9 ha)
  rw [show (Lit.string a.data.toList) = keyS a from rfl] at hr hv
  rw [hh.look a] at hv
  have e : u = aggK (K a).1 (K a).2 := by
    unfold heldV at hv
    simp only [Option.some.injEq, Prod.mk.injEq, DataW.held.injEq] at hv
    exact hv.1
  rw [e, hh.has a] at hr
  exact hr
/-- .. that is not there -/
theorem Vt.lookNo (h : Vt base w V B v K) (a : ByteArray) (ha : a.size ≤ maxLen) (hg : v.g a = none) : (Instr.lookup 67 (.map (some B)) (.string a) true).run Tryz.prog w = .ok (.tuple #[aggK nilS nilS, .bool false]) w := by
  have h1 := h.look a ha
  obtain ⟨D, _, hh⟩ := h.map
  obtain ⟨e1, e2⟩ := hh.nil hg
  rw [hg, e1, e2] at h1
  exact h1
/-- .. that is there -/
theorem Vt.lookYes (h : Vt base w V B v K) (a : ByteArray) (ha : a.size ≤ maxLen) {p : List Int} (hg : v.g a = some p) : ∃ sa sc ca cc, (Instr.lookup 67 (.map (some B)) (.string a) true).run Tryz.prog w = .ok (.tuple #[aggK (.slice sa v.many sc) (.slice ca p.length cc), .bool true]) w ∧ AtP w sa (M.deal p v.many) ∧ AtI w ca (M.commits p) := by
  have h1 := h.look a ha
  obtain ⟨sa, sc, hsv, _, _, hs⟩ := atP_own (M.deal_len p v.many).symm (h.rows a p hg).shares
  obtain ⟨ca, cc, hcv, _, _, hc⟩ := atI_own (by rw [M.commits_len]) (h.rows a p hg).commits
  rw [hg, hsv, hcv] at h1
  exact ⟨sa, sc, ca, cc, h1, hs, hc⟩
theorem Vt.len (h : Vt base w V B v K) (ty : TypeId) : (Builtin.len_ #[67] ty #[.map (some B)]).run Tryz.prog w = .ok (.int .i64 v.n) w := by
  obtain ⟨D, hD, hh⟩ := h.map
  have := hD.len Tryz.underlying67 ty
  rwa [hh.many] at this
/-- behind one more name: its rows are new, or of the call's own -/
theorem Vt.put (h : Vt base w V B v K) {a : ByteArray} {p : List Int} {s c : Value} (ha : a.size ≤ maxLen) (hn : v.n < maxLen) (hno : v.g a = none) (hk : KeptOf base w v.many p s c) :
    ∃ w3, (Instr.mapUpdate 67 (.map (some B)) (.string a) (aggK s c)).run Tryz.prog w = .ok () w3 ∧ Vt base w3 V B ⟨v.many, v.need, fun b => if b = a then some p else v.g b, v.n + 1⟩ (fun b => if b = a then (s, c) else K b) ∧ Tc (vtF V B v K) w w3 := by
  obtain ⟨D, hD, hh⟩ := h.map
  obtain ⟨w3, hr, r1, r2⟩ := hD.update keyed_str Tryz.underlying67 hn (keyOf_string_mk Tryz.underlying9 ha) (show heldV (aggK s c) = some (.held (aggK s c), []) from rfl)
  have hb : ∀ i, i < w.heap.size → i ≠ B → w3.heap[i]? = w.heap[i]? := fun i hi hn => r2.block i hi (fun e => hn (by cases e; rfl))
  obtain ⟨es, cc, hB⟩ := h.mapHeap
  have hne : ∀ {i : Nat} {c : Array Value} {T : TypeId} {fr : Nat × Nat}, w.heap[i]? = some (.cells c T fr) → w3.heap[i]? = w.heap[i]? := fun hh => hb _ (heapV_lt hh) (fun e => by rw [e, hB] at hh; cases hh)
  have hrow : ∀ {k n : Nat} {e : TypeId} {u : Value} {xs : List Value}, w.ownsRow base e k u n xs → w3.ownsRow base e k u n xs := fun ho => rowV_at ho (fun g hg => by
    obtain ⟨_, c', fr, hh⟩ := rowV_tag ho hg
    exact hne hh)
  refine ⟨w3, hr, ⟨h.lo, h.lob, (hne h.heap).trans h.heap, ⟨_, r1, hh.put hno p s c⟩, fun b q hq => ?_⟩, ⟨r2.os, r2.tape, r2.output, r2.size, fun i hi hn => hb i hi (fun e => hn (Or.inr (Or.inl e)))⟩⟩
  by_cases e : b = a
  · subst e
    simp only [if_pos] at hq ⊢
    cases hq
    exact ⟨hrow hk.shares, hrow hk.commits⟩
  · simp only [if_neg e] at hq ⊢
    exact ⟨hrow (h.rows b q hq).shares, hrow (h.rows b q hq).commits⟩
end

/-- a vault that is v, in the blocks F -/
structure VtIs (base : Nat) (w : World) (F : Nat → Prop) (V : Nat) (v : M.Vlt) : Prop where
  ok : v.Ok
  is : ∃ B K, F = vtF V B v K ∧ Vt base w V B v K
section
variable {base : Nat} {w w' : World} {F G : Nat → Prop} {V : Nat} {v : M.Vlt}
theorem VtIs.lows (h : VtIs base w F V v) : ∀ i, F i → base ≤ i := by
  obtain ⟨B, K, rfl, hc⟩ := h.is
  exact hc.lows
theorem VtIs.highs (h : VtIs base w F V v) : ∀ i, F i → i < w.heap.size := by
  obtain ⟨B, K, rfl, hc⟩ := h.is
  exact hc.highs
theorem VtIs.base_le (h : VtIs base w F V v) : base ≤ w.heap.size := by
  obtain ⟨B, K, rfl, hc⟩ := h.is
  exact hc.base_le
theorem VtIs.quiet (h : VtIs base w F V v) (hb : Below w.heap.size w w') : VtIs base w' F V v := by
  obtain ⟨B, K, rfl, hc⟩ := h.is
  exact ⟨h.ok, B, K, rfl, hc.quiet hb⟩
theorem VtIs.keep (h : VtIs base w F V v) (ht : Tc G w w') (hd : Of F G) : VtIs base w' F V v := by
  obtain ⟨B, K, rfl, hc⟩ := h.is
  exact ⟨h.ok, B, K, rfl, hc.kept (fun i hi => ht.block i (hc.highs i hi) (hd i hi))⟩
end

end Go.Proofs.YtlefhfmckimlaajGreatDoor
