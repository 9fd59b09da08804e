/-
  A vault in memory of a call's own: a struct that leads to a map of what is kept of each name, each in rows of its own; what a call leaves of it.
-/
import Derived.Test.YtlefhfmckimlaajDoorVaultMath
import Derived.Test.YtlefhfmckimlaajDoorFootV
import Derived.Test.YtlefhfmckimlaajDoorJ7A
import Derived.Test.YtlefhfmckimlaajDoorJ12A
import Derived.Maps.OwnSet
set_option linter.unusedVariables false
namespace Go.Proofs.YtlefhfmckimlaajDoor
open Go.RowKit Go.WideMaps Go.Maps

/-- how an element of whatever type reads: as itself -/
def heldV (v : Value) : Option (DataW Value × List MemPlace) := some (.held v, [])
/-- what is kept of one name: its shares, its commits -/
abbrev aggK (s c : Value) : Value := .agg #[s, c]
abbrev nilS : Value := .slice none 0 0
theorem keyed_str : Keyed Tryd.prog 9 := string_keyed Tryd.underlying9
theorem zero_kept (w : World) : (zeroValue 71).run Tryd.prog w = .ok (aggK nilS nilS) w := by kernel_rfl
/-- the map says of each name where its rows are -/
structure Holds (D : DataW Value) (g : ByteArray → Option (List Int)) (n : Nat) (K : ByteArray → Value × Value) : Prop where
  tidy : Maps.Tidy D
  look : ∀ a, D.atKey (keyS a) (.held (aggK nilS nilS)) = .held (aggK (K a).1 (K a).2)
  has : ∀ a, Maps.has D (keyS a) = (g a).isSome
  many : Maps.size D = n
theorem holds_none : Holds (.map []) (fun _ => none) 0 (fun _ => (nilS, nilS)) := ⟨tidy_empty, fun _ => rfl, fun _ => rfl, rfl⟩
theorem Holds.isMap {D : DataW Value} {g : ByteArray → Option (List Int)} {n : Nat} {K : ByteArray → Value × Value} (h : Holds D g n K) : IsMap D := by
  obtain ⟨es, e, _⟩ := h.tidy
  exact ⟨es, e⟩
theorem key_lit (a : ByteArray) : WideAt.IsKeyLit (keyS a) := by simp [keyS, WideAt.IsKeyLit]
/-- of a name that is not there nothing is said -/
theorem Holds.nil {D : DataW Value} {g : ByteArray → Option (List Int)} {n : Nat} {K : ByteArray → Value × Value} (h : Holds D g n K) {a : ByteArray} (ha : g a = none) : (K a).1 = nilS ∧ (K a).2 = nilS := by
  have h1 : Maps.has D (keyS a) = false := by rw [h.has a, ha]; rfl
  have h2 := h.look a
  rw [atKey_of_not_has h1] at h2
  simp only [DataW.held.injEq, Value.agg.injEq] at h2
  have h3 : [nilS, nilS] = [(K a).1, (K a).2] := congrArg Array.toList h2
  simp only [List.cons.injEq, and_true] at h3
  exact ⟨h3.1.symm, h3.2.symm⟩
/-- one more name -/
theorem Holds.put {D : DataW Value} {g : ByteArray → Option (List Int)} {n : Nat} {K : ByteArray → Value × Value} (h : Holds D g n K) {a : ByteArray} (ha : g a = none) (p : List Int) (s c : Value) :
    Holds (D.put (keyS a) (.held (aggK s c))) (fun b => if b = a then some p else g b) (n + 1) (fun b => if b = a then (s, c) else K b) := by
  refine ⟨h.tidy.put (key_lit a) _, fun b => ?_, fun b => ?_, ?_⟩
  · by_cases e : b = a
    · subst e
      rw [atKey_put_same h.isMap (key_lit b), if_pos rfl]
    · rw [atKey_put_other (fun q => e (keyS_own q)), if_neg e, h.look b]
  · by_cases e : b = a
    · subst e
      rw [has_put_same h.isMap (key_lit b), if_pos rfl]; rfl
    · rw [has_put_other (fun q => e (keyS_own q)), if_neg e, h.has b]
  · rw [size_put h.tidy, h.has a, ha, if_neg (by simp), h.many]

/-- what is kept of one name -/
structure KeptOf (base : Nat) (w : World) (many : Nat) (p : List Int) (s c : Value) : Prop where
  shares : w.ownsRow base 31 2 s many (flatP (M.deal p many))
  commits : w.ownsRow base 3 1 c p.length (cellsI (M.commits p))
/-- a vault -/
structure Vt (base : Nat) (w : World) (V B : Nat) (v : M.Vlt) (K : ByteArray → Value × Value) : Prop where
  lo : base ≤ V
  lob : base ≤ B
  heap : w.heap[V]? = some (.cells #[.int .i64 v.many, .int .i64 v.need, .map (some B)] 69 (0, 0))
  map : ∃ D, w.ownsMap Tryd.prog 9 heldV B v.n D ∧ Holds D v.g v.n K
  rows : ∀ a p, v.g a = some p → KeptOf base w v.many p (K a).1 (K a).2
/-- its blocks -/
def vtF (V B : Nat) (v : M.Vlt) (K : ByteArray → Value × Value) (b : Nat) : Prop := b = V ∨ b = B ∨ ∃ a p, v.g a = some p ∧ ((K a).1.ownBlock = some b ∨ (K a).2.ownBlock = some b)
section
variable {base : Nat} {w w' : World} {V B : Nat} {v v' : M.Vlt} {K K' : ByteArray → Value × Value}
theorem cellV_of (w : World) (g j : Nat) (c : Array Value) (T : TypeId) (h : w.heap[g]? = some (.cells c T (0, 0))) : w.cell? ⟨g, j, none⟩ = c[j]? := by
  simp [World.cell?, h]
theorem Vt.cells (h : Vt base w V B v K) : w.cell? ⟨V, 0, none⟩ = some (.int .i64 v.many) ∧ w.cell? ⟨V, 1, none⟩ = some (.int .i64 v.need) ∧ w.cell? ⟨V, 2, none⟩ = some (.map (some B)) ∧ V < w.heap.size := by
  refine ⟨?_, ?_, ?_, heapV_lt h.heap⟩
  · rw [cellV_of w V 0 _ _ h.heap]; rfl
  · rw [cellV_of w V 1 _ _ h.heap]; rfl
  · rw [cellV_of w V 2 _ _ h.heap]; rfl
theorem Vt.mapHeap (h : Vt base w V B v K) : ∃ es c, w.heap[B]? = some (.map es c) := by
  obtain ⟨D, ⟨es, c, hb, _⟩, _⟩ := h.map
  exact ⟨es, c, hb⟩
theorem Vt.lows (h : Vt base w V B v K) : ∀ i, vtF V B v K i → base ≤ i := fun i hi => by
  rcases hi with rfl | rfl | ⟨a, p, hp, hi | hi⟩
  · exact h.lo
  · exact h.lob
  · exact (rowV_tag (h.rows a p hp).shares hi).1
  · exact (rowV_tag (h.rows a p hp).commits hi).1
theorem Vt.highs (h : Vt base w V B v K) : ∀ i, vtF V B v K i → i < w.heap.size := fun i hi => by
  rcases hi with rfl | rfl | ⟨a, p, hp, hi | hi⟩
  · exact heapV_lt h.heap
  · obtain ⟨es, c, hb⟩ := h.mapHeap
    exact heapV_lt hb
  · obtain ⟨_, c, fr, hh⟩ := rowV_tag (h.rows a p hp).shares hi
    exact heapV_lt hh
  · obtain ⟨_, c, fr, hh⟩ := rowV_tag (h.rows a p hp).commits hi
    exact heapV_lt hh
theorem Vt.base_le (h : Vt base w V B v K) : base ≤ w.heap.size := Nat.le_trans h.lo (Nat.le_of_lt (heapV_lt h.heap))
theorem Vt.kept (h : Vt base w V B v K) (hk : ∀ i, vtF V B v K i → w'.heap[i]? = w.heap[i]?) : Vt base w' V B v K := by
  obtain ⟨D, ⟨es, c, hb, r⟩, hg⟩ := h.map
  exact ⟨h.lo, h.lob, (hk V (Or.inl rfl)).trans h.heap, ⟨D, ⟨es, c, (hk B (Or.inr (Or.inl rfl))).trans hb, r⟩, hg⟩, fun a p hp => ⟨rowV_at (h.rows a p hp).shares (fun i hi => hk i (Or.inr (Or.inr ⟨a, p, hp, Or.inl hi⟩))), rowV_at (h.rows a p hp).commits (fun i hi => hk i (Or.inr (Or.inr ⟨a, p, hp, Or.inr hi⟩)))⟩⟩
theorem Vt.quiet (h : Vt base w V B v K) (hb : Below w.heap.size w w') : Vt base w' V B v K := h.kept (fun i hi => hb.block i (h.highs i hi))
/-- what the map says of a name -/
theorem Vt.look (h : Vt base w V B v K) (a : ByteArray) (ha : a.size ≤ maxLen) : (Instr.lookup 67 (.map (some B)) (.string a) true).run Tryd.prog w = .ok (.tuple #[aggK (K a).1 (K a).2, .bool (v.g a).isSome]) w := by
  obtain ⟨D, hD, hh⟩ := h.map
  obtain ⟨u, ps, hr, hv⟩ := hD.look_ok keyed_str Tryd.underlying67 (zero_kept w) (zd := .held (aggK nilS nilS)) (zp := []) rfl (keyOf_string_mk Tryd.underlying9 ha)
  rw [show (Lit.string a.data.toList) = keyS a from rfl] at hr hv
  rw [hh.look a] at hv
  have e : u = aggK (K a).1 (K a).2 := by
    unfold heldV at hv
    simp only [Option.some.injEq, Prod.mk.injEq, DataW.held.injEq] at hv
    exact hv.1
  rw [e, hh.has a] at hr
  exact hr
/-- .. that is not there -/
theorem Vt.lookNo (h : Vt base w V B v K) (a : ByteArray) (ha : a.size ≤ maxLen) (hg : v.g a = none) : (Instr.lookup 67 (.map (some B)) (.string a) true).run Tryd.prog w = .ok (.tuple #[aggK nilS nilS, .bool false]) w := by
  have h1 := h.look a ha
  obtain ⟨D, _, hh⟩ := h.map
  obtain ⟨e1, e2⟩ := hh.nil hg
  rw [hg, e1, e2] at h1
  exact h1
/-- .. that is there -/
theorem Vt.lookYes (h : Vt base w V B v K) (a : ByteArray) (ha : a.size ≤ maxLen) {p : List Int} (hg : v.g a = some p) : ∃ sa sc ca cc, (Instr.lookup 67 (.map (some B)) (.string a) true).run Tryd.prog w = .ok (.tuple #[aggK (.slice sa v.many sc) (.slice ca p.length cc), .bool true]) w ∧ AtP w sa (M.deal p v.many) ∧ AtI w ca (M.commits p) := by
  have h1 := h.look a ha
  obtain ⟨sa, sc, hsv, _, _, hs⟩ := atP_own (M.deal_len p v.many).symm (h.rows a p hg).shares
  obtain ⟨ca, cc, hcv, _, _, hc⟩ := atI_own (by rw [M.commits_len]) (h.rows a p hg).commits
  rw [hg, hsv, hcv] at h1
  exact ⟨sa, sc, ca, cc, h1, hs, hc⟩
theorem Vt.len (h : Vt base w V B v K) (ty : TypeId) : (Builtin.len_ #[67] ty #[.map (some B)]).run Tryd.prog w = .ok (.int .i64 v.n) w := by
  obtain ⟨D, hD, hh⟩ := h.map
  have := hD.len Tryd.underlying67 ty
  rwa [hh.many] at this
/-- behind one more name: its rows are new, or of the call's own -/
theorem Vt.put (h : Vt base w V B v K) {a : ByteArray} {p : List Int} {s c : Value} (ha : a.size ≤ maxLen) (hn : v.n < maxLen) (hno : v.g a = none) (hk : KeptOf base w v.many p s c) :
    ∃ w3, (Instr.mapUpdate 67 (.map (some B)) (.string a) (aggK s c)).run Tryd.prog w = .ok () w3 ∧ Vt base w3 V B ⟨v.many, v.need, fun b => if b = a then some p else v.g b, v.n + 1⟩ (fun b => if b = a then (s, c) else K b) ∧ Tc (vtF V B v K) w w3 := by
  obtain ⟨D, hD, hh⟩ := h.map
  obtain ⟨w3, hr, r1, r2⟩ := hD.update keyed_str Tryd.underlying67 hn (keyOf_string_mk Tryd.underlying9 ha) (show heldV (aggK s c) = some (.held (aggK s c), []) from rfl)
  have hb : ∀ i, i < w.heap.size → i ≠ B → w3.heap[i]? = w.heap[i]? := fun i hi hn => r2.block i hi (fun e => hn (by cases e; rfl))
  obtain ⟨es, cc, hB⟩ := h.mapHeap
  have hne : ∀ {i : Nat} {c : Array Value} {T : TypeId} {fr : Nat × Nat}, w.heap[i]? = some (.cells c T fr) → w3.heap[i]? = w.heap[i]? := fun hh => hb _ (heapV_lt hh) (fun e => by rw [e, hB] at hh; cases hh)
  have hrow : ∀ {k n : Nat} {e : TypeId} {u : Value} {xs : List Value}, w.ownsRow base e k u n xs → w3.ownsRow base e k u n xs := fun ho => rowV_at ho (fun g hg => by
    obtain ⟨_, c', fr, hh⟩ := rowV_tag ho hg
    exact hne hh)
  refine ⟨w3, hr, ⟨h.lo, h.lob, (hne h.heap).trans h.heap, ⟨_, r1, hh.put hno p s c⟩, fun b q hq => ?_⟩, ⟨r2.os, r2.tape, r2.output, r2.size, fun i hi hn => hb i hi (fun e => hn (Or.inr (Or.inl e)))⟩⟩
  by_cases e : b = a
  · subst e
    simp only [if_pos] at hq ⊢
    cases hq
    exact ⟨hrow hk.shares, hrow hk.commits⟩
  · simp only [if_neg e] at hq ⊢
    exact ⟨hrow (h.rows b q hq).shares, hrow (h.rows b q hq).commits⟩
end

/-- a vault that is v, in the blocks F -/
structure VtIs (base : Nat) (w : World) (F : Nat → Prop) (V : Nat) (v : M.Vlt) : Prop where
  ok : v.Ok
  is : ∃ B K, F = vtF V B v K ∧ Vt base w V B v K
section
variable {base : Nat} {w w' : World} {F G : Nat → Prop} {V : Nat} {v : M.Vlt}
theorem VtIs.lows (h : VtIs base w F V v) : ∀ i, F i → base ≤ i := by
  obtain ⟨B, K, rfl, hc⟩ := h.is
  exact hc.lows
theorem VtIs.highs (h : VtIs base w F V v) : ∀ i, F i → i < w.heap.size := by
  obtain ⟨B, K, rfl, hc⟩ := h.is
  exact hc.highs
theorem VtIs.base_le (h : VtIs base w F V v) : base ≤ w.heap.size := by
  obtain ⟨B, K, rfl, hc⟩ := h.is
  exact hc.base_le
theorem VtIs.quiet (h : VtIs base w F V v) (hb : Below w.heap.size w w') : VtIs base w' F V v := by
  obtain ⟨B, K, rfl, hc⟩ := h.is
  exact ⟨h.ok, B, K, rfl, hc.quiet hb⟩
theorem VtIs.keep (h : VtIs base w F V v) (ht : Tc G w w') (hd : Of F G) : VtIs base w' F V v := by
  obtain ⟨B, K, rfl, hc⟩ := h.is
  exact ⟨h.ok, B, K, rfl, hc.kept (fun i hi => ht.block i (hc.highs i hi) (hd i hi))⟩
end

end Go.Proofs.YtlefhfmckimlaajDoor
