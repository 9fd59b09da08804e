/-
  A copy in memory of a call's own: a struct that leads to a space, to rules and to a map of the last that was done of each; what a call on it leaves as it was.
-/
import Derived.Test.YtlefhfmckimlaakGreatDoorJSp
import Derived.Test.YtlefhfmckimlaakGreatDoorJRule
import Derived.Test.YtlefhfmckimlaakGreatDoorCopMath
import Derived.Test.YtlefhfmckimlaakGreatDoorJSpace
import Derived.Test.YtlefhfmckimlaakGreatDoorJQue
import Derived.Maps.OwnSet
set_option linter.unusedVariables false
namespace Go.Proofs.YtlefhfmckimlaakGreatDoor
open Go.RowKit Go.WideMaps Go.Maps

/-- how an element of whatever type reads: as itself -/
def heldR (v : Value) : Option (DataW Value × List MemPlace) := some (.held v, [])
/-- the last that was done, with its answer -/
abbrev aggD (s : Int) (a : ByteArray) : Value := .agg #[.int .i64 s, .string a]
/-- the map says the last of each -/
def Says (D : DataW Value) (g : Int → Int × ByteArray) : Prop := IsMap D ∧ (∀ k, D.atKey (keyI k) (.held (aggD 0 M.sNo)) = .held (aggD (g k).1 (g k).2)) ∧ ∀ k, Maps.has D (keyI k) = decide (0 < (g k).1)
theorem says_none : Says (.map []) (fun _ => (0, M.sNo)) := ⟨isMap_empty, fun s => rfl, fun s => rfl⟩
theorem Says.up {D : DataW Value} {g : Int → Int × ByteArray} (h : Says D g) (a : M.Ask) (s : ByteArray) (hp : 0 < a.seq) : Says (D.put (keyI a.who) (.held (aggD a.seq s))) (M.upG g a s) := by
  refine ⟨h.1.put _ _, fun k => ?_, fun k => ?_⟩
  · by_cases e : k = a.who
    · subst e
      rw [atKey_put_same h.1 (by simp [keyI, WideAt.IsKeyLit]), M.upG_same]
    · rw [atKey_put_other (fun g => e (by simpa [keyI] using g)), M.upG_other e, h.2.1 k]
  · by_cases e : k = a.who
    · subst e
      rw [has_put_same h.1 (by simp [keyI, WideAt.IsKeyLit]), M.upG_same]
      exact (decide_eq_true hp).symm
    · rw [has_put_other (fun g => e (by simpa [keyI] using g)), M.upG_other e, h.2.2 k]
theorem keyed_int : Keyed Tryz.prog 3 := int_keyed Tryz.underlying3
theorem zero_done (w : World) : (zeroValue 128).run Tryz.prog w = .ok (aggD 0 M.sNo) w := by kernel_rfl
theorem keyI_mk {k : Int} (h1 : -1000001 ≤ k) (h2 : k ≤ 1000001) : keyOf Tryz.prog 3 (.int .i64 k) = some (keyI k) := keyOf_int_mk Tryz.underlying3 (WalkArith.wf_i64 (by omega))
theorem Says.look {w : World} {B n : Nat} {D : DataW Value} {g : Int → Int × ByteArray} (h : w.ownsMap Tryz.prog 3 heldR B n D) (hs : Says D g) {k : Int} (h1 : -1000001 ≤ k) (h2 : k ≤ 1000001) : (Instr.lookup 117 (.map (some B)) (.int .i64 k) true).run Tryz.prog w = .ok (.tuple #[aggD (g k).1 (g k).2, .bool (decide (0 < (g k).1))]) w := by
  obtain ⟨v, ps, hr, hv⟩ := h.look_ok keyed_int Tryz.underlying117 (zero_done w) (zd := .held (aggD 0 M.sNo)) (zp := []) rfl (keyI_mk h1 h2)
  rw [hs.2.1 k] at hv
  have e : v = aggD (g k).1 (g k).2 := by
    unfold heldR at hv
    simp only [Option.some.injEq, Prod.mk.injEq, DataW.held.injEq] at hv
    exact hv.1
  rw [e, hs.2.2 k] at hr
  exact hr

/-- the cells of rules whose tuples are the call's own -/
def RowO (base : Nat) (w : World) : List Value → List M.Rul → Prop
  | xs, [] => xs = []
  | xs, r :: l => ∃ v ys, xs = .int .i64 r.deed :: .int .i64 r.who :: v :: .bool r.may :: ys ∧ OwnT base w v r.like ∧ RowO base w ys l
theorem RowO.row {base : Nat} {w : World} : ∀ {l : List M.Rul} {xs : List Value}, RowO base w xs l → RowR w xs l
  | [], xs, h => h
  | r :: l, xs, h => by
    obtain ⟨v, ys, e, h1, h2⟩ := h
    exact ⟨v, ys, e, h1.vals, RowO.row h2⟩
theorem RowO.solid {base : Nat} {w w' : World} (hs : Solid w w') : ∀ {l : List M.Rul} {xs : List Value}, RowO base w xs l → RowO base w' xs l
  | [], xs, h => h
  | r :: l, xs, h => by
    obtain ⟨v, ys, e, h1, h2⟩ := h
    exact ⟨v, ys, e, h1.solid hs, RowO.solid hs h2⟩
/-- rules of the call's own -/
def OwnR (base : Nat) (w : World) (rv : Value) (R : List M.Rul) : Prop := ∃ xs, w.ownsRow base 34 4 rv R.length xs ∧ RowO base w xs R
theorem OwnR.at {base : Nat} {w : World} {rv : Value} {R : List M.Rul} (h : OwnR base w rv R) : ∃ a cap, rv = .slice a R.length cap ∧ AtR w a R := by
  obtain ⟨xs, h1, h2⟩ := h
  exact atR_own rfl h2.row h1

/-- a copy -/
structure Cp (base : Nat) (w : World) (C S B : Nat) (v rv : Value) (l : List (List M.Val)) (g : Int → Int × ByteArray) (m : Int) (k : Nat) (R : List M.Rul) : Prop where
  lo : base ≤ C
  lob : base ≤ B
  heap : w.heap[C]? = some (.cells #[rv, .pointer (some ⟨S, 0, none⟩), .map (some B), .int .i64 m] 119 (0, 0))
  sp : Space base w S v l
  map : ∃ D, w.ownsMap Tryz.prog 3 heldR B k D ∧ Says D g
  rules : OwnR base w rv R
/-- its blocks -/
def cpF (C S B : Nat) (v rv : Value) (k : Nat) : Prop := k = C ∨ k = S ∨ k = B ∨ v.ownBlock = some k ∨ rv.ownBlock = some k
section
variable {base : Nat} {w w' : World} {C S B : Nat} {v v' rv : Value} {l l' : List (List M.Val)} {g g' : Int → Int × ByteArray} {m m' : Int} {k : Nat} {R : List M.Rul}
theorem Cp.cells (h : Cp base w C S B v rv l g m k R) : w.cell? ⟨C, 0, none⟩ = some rv ∧ w.cell? ⟨C, 1, none⟩ = some (.pointer (some ⟨S, 0, none⟩)) ∧ w.cell? ⟨C, 2, none⟩ = some (.map (some B)) ∧ w.cell? ⟨C, 3, none⟩ = some (.int .i64 m) ∧ C < w.heap.size ∧ ∀ j, w.frozen? ⟨C, j, none⟩ = false := by
  refine ⟨?_, ?_, ?_, ?_, heap_lt h.heap, fun j => frozen_of_row w C j _ _ h.heap⟩
  · rw [cell_of_row w C 0 _ _ (0, 0) h.heap]; rfl
  · rw [cell_of_row w C 1 _ _ (0, 0) h.heap]; rfl
  · rw [cell_of_row w C 2 _ _ (0, 0) h.heap]; rfl
  · rw [cell_of_row w C 3 _ _ (0, 0) h.heap]; rfl
theorem Cp.mapHeap (h : Cp base w C S B v rv l g m k R) : ∃ es c, w.heap[B]? = some (.map es c) := by
  obtain ⟨D, ⟨es, c, hb, _⟩, _⟩ := h.map
  exact ⟨es, c, hb⟩
theorem Cp.rowR (h : Cp base w C S B v rv l g m k R) {b : Nat} (hb : rv.ownBlock = some b) : base ≤ b ∧ ∃ c fr, w.heap[b]? = some (.cells c 34 fr) := by
  obtain ⟨xs, h1, _⟩ := h.rules
  exact ownsRow_tag h1 hb
theorem Cp.rowV (h : Cp base w C S B v rv l g m k R) {b : Nat} (hb : v.ownBlock = some b) : base ≤ b ∧ ∃ c fr, w.heap[b]? = some (.cells c 32 fr) := by
  obtain ⟨xs, h1, _⟩ := h.sp.row
  exact ownsRow_tag h1 hb
theorem Cp.lows (h : Cp base w C S B v rv l g m k R) : ∀ i, cpF C S B v rv i → base ≤ i := fun i hi => by
  rcases hi with rfl | rfl | rfl | hi | hi
  · exact h.lo
  · exact h.sp.lo
  · exact h.lob
  · exact (h.rowV hi).1
  · exact (h.rowR hi).1
theorem Cp.highs (h : Cp base w C S B v rv l g m k R) : ∀ i, cpF C S B v rv i → i < w.heap.size := fun i hi => by
  rcases hi with rfl | rfl | rfl | hi | hi
  · exact heap_lt h.heap
  · exact heap_lt h.sp.heap
  · obtain ⟨es, c, hb⟩ := h.mapHeap
    exact heap_lt hb
  · obtain ⟨_, c, fr, hh⟩ := h.rowV hi
    exact heap_lt hh
  · obtain ⟨_, c, fr, hh⟩ := h.rowR hi
    exact heap_lt hh
theorem Cp.base_le (h : Cp base w C S B v rv l g m k R) : base ≤ w.heap.size := Nat.le_trans h.lo (Nat.le_of_lt (heap_lt h.heap))
theorem Cp.kept (h : Cp base w C S B v rv l g m k R) (hk : ∀ i, cpF C S B v rv i → w'.heap[i]? = w.heap[i]?) (hs : Solid w w') : Cp base w' C S B v rv l g m k R := by
  obtain ⟨D, ⟨es, c, hb, r⟩, hg⟩ := h.map
  obtain ⟨xs, h1, h2⟩ := h.rules
  exact ⟨h.lo, h.lob, (hk C (Or.inl rfl)).trans h.heap, (h.sp.at (hk S (Or.inr (Or.inl rfl))) (fun i hi => hk i (Or.inr (Or.inr (Or.inr (Or.inl hi)))))).mono (fun _ _ ho => ho.solid hs), ⟨D, ⟨es, c, (hk B (Or.inr (Or.inr (Or.inl rfl)))).trans hb, r⟩, hg⟩, xs, ownsRow_at h1 (fun i hi => hk i (Or.inr (Or.inr (Or.inr (Or.inr hi))))), h2.solid hs⟩
theorem Cp.quiet (h : Cp base w C S B v rv l g m k R) (hb : Below w.heap.size w w') : Cp base w' C S B v rv l g m k R := h.kept (fun i hi => hb.block i (h.highs i hi)) (Solid.below hb)
/-- a block of another type is none of its own -/
theorem Cp.other (h : Cp base w C S B v rv l g m k R) {b : Nat} {c : Array Value} {T : TypeId} {fr : Nat × Nat} (hb : w.heap[b]? = some (.cells c T fr)) (h1 : T ≠ 119) (h2 : T ≠ 162) (h3 : T ≠ 32) (h4 : T ≠ 34) : ¬ cpF C S B v rv b := fun hi => by
  rcases hi with rfl | rfl | rfl | hi | hi
  · rw [h.heap] at hb; exact h1 (tag_eq hb).symm
  · rw [h.sp.heap] at hb; exact h2 (tag_eq hb).symm
  · obtain ⟨es, c', hm⟩ := h.mapHeap
    rw [hm] at hb; cases hb
  · obtain ⟨_, c', fr', hh⟩ := h.rowV hi
    rw [hh] at hb; exact h3 (tag_eq hb).symm
  · obtain ⟨_, c', fr', hh⟩ := h.rowR hi
    rw [hh] at hb; exact h4 (tag_eq hb).symm
/-- behind a writing of its own blocks alone the values stay -/
theorem Cp.solid (h : Cp base w C S B v rv l g m k R) (hb : ∀ i, i < w.heap.size → ¬ cpF C S B v rv i → w'.heap[i]? = w.heap[i]?) : Solid w w' := fun b cur fr hh => (hb b (heap_lt hh) (h.other hh (by decide) (by decide) (by decide) (by decide))).trans hh
/-- behind a call on its space -/
theorem Cp.space (h : Cp base w C S B v rv l g m k R) (hs : Space base w' S v' l') (ht : Touch S v w w') (hn : Near w v v') : Cp base w' C S B v' rv l' g m k R ∧ Tch (cpF C S B v rv) w w' ∧ Grows w (cpF C S B v rv) (cpF C S B v' rv) := by
  obtain ⟨c1, c2⟩ := h.sp.other h.heap (by decide) (by decide)
  have hsol := Sp.solid h.sp (by decide) ht
  obtain ⟨D, ⟨es, c, hb, r⟩, hg⟩ := h.map
  obtain ⟨xs, h1, h2⟩ := h.rules
  have hB : w'.heap[B]? = w.heap[B]? := ht.block B (heap_lt hb) (fun e => by rw [e, h.sp.heap] at hb; cases hb) (fun e => by
    obtain ⟨_, c', fr', hh⟩ := h.rowV e
    rw [hh] at hb; cases hb)
  refine ⟨⟨h.lo, h.lob, (ht.block C (heap_lt h.heap) c1 c2).trans h.heap, hs, ⟨D, ⟨es, c, hB.trans hb, r⟩, hg⟩, xs, ownsRow_at h1 (fun i hi => ?_), h2.solid hsol⟩, (h.sp.tch (by decide) ht).mono (fun i hi => ?_), fun i hi => ?_⟩
  · obtain ⟨_, c', fr, hh⟩ := h.rowR hi
    obtain ⟨d1, d2⟩ := h.sp.other hh (by decide) (by decide)
    exact ht.block i (heap_lt hh) d1 d2
  · rcases hi with rfl | hi
    · exact Or.inr (Or.inl rfl)
    · exact Or.inr (Or.inr (Or.inr (Or.inl hi)))
  · rcases hi with rfl | rfl | rfl | hi | hi
    · exact Or.inl (Or.inl rfl)
    · exact Or.inl (Or.inr (Or.inl rfl))
    · exact Or.inl (Or.inr (Or.inr (Or.inl rfl)))
    · rcases hn.grows hi with q | q
      · exact Or.inl (Or.inr (Or.inr (Or.inr (Or.inl q))))
      · exact Or.inr q
    · exact Or.inl (Or.inr (Or.inr (Or.inr (Or.inr hi))))
/-- behind a writing of its map -/
theorem Cp.mapped {w3 : World} {D : DataW Value} {k' : Nat} (h : Cp base w C S B v rv l g m k R) (hg : w.grownBy w3 (some B)) (hD : w3.ownsMap Tryz.prog 3 heldR B k' D) (hs : Says D g') : Cp base w3 C S B v rv l g' m k' R ∧ Tch (cpF C S B v rv) w w3 := by
  have hb : ∀ i, i < w.heap.size → i ≠ B → w3.heap[i]? = w.heap[i]? := fun i hi hn => hg.block i hi (fun e => hn (by cases e; rfl))
  obtain ⟨es, c, hB⟩ := h.mapHeap
  have hsol : Solid w w3 := h.solid (fun i hi hn => hb i hi (fun e => hn (Or.inr (Or.inr (Or.inl e)))))
  have hne : ∀ {i : Nat} {c : Array Value} {T : TypeId} {fr : Nat × Nat}, w.heap[i]? = some (.cells c T fr) → w3.heap[i]? = w.heap[i]? := fun hh => hb _ (heap_lt hh) (fun e => by rw [e, hB] at hh; cases hh)
  obtain ⟨xs, h1, h2⟩ := h.rules
  refine ⟨⟨h.lo, h.lob, (hne h.heap).trans h.heap, (h.sp.at (hne h.sp.heap) (fun i hi => ?_)).mono (fun _ _ ho => ho.solid hsol), ⟨D, hD, hs⟩, xs, ownsRow_at h1 (fun i hi => ?_), h2.solid hsol⟩, ⟨hg.os, hg.tape, hg.output, hg.size, fun i hi hn => hb i hi (fun e => hn (Or.inr (Or.inr (Or.inl e)))), hsol⟩⟩
  · obtain ⟨_, c', fr, hh⟩ := h.rowV hi
    exact hne hh
  · obtain ⟨_, c', fr, hh⟩ := h.rowR hi
    exact hne hh
/-- behind a writing of its number -/
theorem Cp.many (h : Cp base w C S B v rv l g m k R) : Cp base (w.setCell ⟨C, 3, none⟩ (.int .i64 m')) C S B v rv l g m' k R ∧ Tch (cpF C S B v rv) w (w.setCell ⟨C, 3, none⟩ (.int .i64 m')) := by
  have hg := grownBy_setCell w ⟨C, 3, none⟩ (.int .i64 m')
  have hb : ∀ i, i < w.heap.size → i ≠ C → (w.setCell ⟨C, 3, none⟩ (.int .i64 m')).heap[i]? = w.heap[i]? := fun i hi hc => hg.block i hi (fun e => hc (by cases e; rfl))
  have hsol : Solid w (w.setCell ⟨C, 3, none⟩ (.int .i64 m')) := h.solid (fun i hi hn => hb i hi (fun e => hn (Or.inl e)))
  obtain ⟨c1, c2⟩ := h.sp.other h.heap (by decide) (by decide)
  obtain ⟨D, ⟨es, c, hB, r⟩, hs⟩ := h.map
  obtain ⟨xs, h1, h2⟩ := h.rules
  refine ⟨⟨h.lo, h.lob, ?_, (h.sp.at (hb S (heap_lt h.sp.heap) c1.symm) (fun i hi => ?_)).mono (fun _ _ ho => ho.solid hsol), ⟨D, ⟨es, c, (hb B (heap_lt hB) (fun e => ?_)).trans hB, r⟩, hs⟩, xs, ownsRow_at h1 (fun i hi => ?_), h2.solid hsol⟩, ⟨hg.os, hg.tape, hg.output, hg.size, fun i hi hn => hb i hi (fun e => hn (Or.inl e)), hsol⟩⟩
  · rw [heap_setCell_same w C 3 _ _ _ h.heap]; rfl
  · exact hb i (h.highs i (Or.inr (Or.inr (Or.inr (Or.inl hi))))) (fun e => c2 (e ▸ hi))
  · rw [e, h.heap] at hB; cases hB
  · obtain ⟨_, c', fr, hh⟩ := h.rowR hi
    exact hb i (heap_lt hh) (fun e => by rw [e, h.heap] at hh; exact absurd (tag_eq hh) (by decide))
end

/-- a copy that is c, by the rules R, in the blocks F -/
structure CpIs (base : Nat) (w : World) (F : Nat → Prop) (C : Nat) (c : M.Cop) (R : List M.Rul) : Prop where
  ok : c.Ok
  fine : M.rulE R = 0
  is : ∃ S B v rv, F = cpF C S B v rv ∧ Cp base w C S B v rv c.l c.g c.n c.n R
section
variable {base : Nat} {w w' : World} {F G : Nat → Prop} {C : Nat} {c : M.Cop} {R : List M.Rul}
theorem CpIs.lows (h : CpIs base w F C c R) : ∀ i, F i → base ≤ i := by
  obtain ⟨S, B, v, rv, rfl, hc⟩ := h.is
  exact hc.lows
theorem CpIs.highs (h : CpIs base w F C c R) : ∀ i, F i → i < w.heap.size := by
  obtain ⟨S, B, v, rv, rfl, hc⟩ := h.is
  exact hc.highs
theorem CpIs.base_le (h : CpIs base w F C c R) : base ≤ w.heap.size := by
  obtain ⟨S, B, v, rv, rfl, hc⟩ := h.is
  exact hc.base_le
theorem CpIs.quiet (h : CpIs base w F C c R) (hb : Below w.heap.size w w') : CpIs base w' F C c R := by
  obtain ⟨S, B, v, rv, rfl, hc⟩ := h.is
  exact ⟨h.ok, h.fine, S, B, v, rv, rfl, hc.quiet hb⟩
theorem CpIs.keep (h : CpIs base w F C c R) (ht : Tch G w w') (hd : Off F G) : CpIs base w' F C c R := by
  obtain ⟨S, B, v, rv, rfl, hc⟩ := h.is
  exact ⟨h.ok, h.fine, S, B, v, rv, rfl, hc.kept (fun i hi => ht.block i (hc.highs i hi) (hd i hi)) ht.vals⟩
end

end Go.Proofs.YtlefhfmckimlaakGreatDoor
