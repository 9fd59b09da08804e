/-
  A log in memory of a call's own: a struct that leads to a copy and to rules, and bears its records as bytes; what a call on it leaves as it was.
-/
import Derived.Test.YtlefhfmckimlaakGreatDoorJLogM
import Derived.Test.YtlefhfmckimlaakGreatDoorCopCalls
set_option linter.unusedVariables false
namespace Go.Proofs.YtlefhfmckimlaakGreatDoor
open Go.RowKit

/-- a text of bytes -/
abbrev bytesB (l : List UInt8) : ByteArray := ⟨l.toArray⟩
theorem bytesB_size (l : List UInt8) : (bytesB l).size = l.length := by simp [ByteArray.size]
theorem bytesB_list (l : List UInt8) : (bytesB l).data.toList = l := by simp
theorem bytesB_append (a b : List UInt8) : bytesB a ++ bytesB b = bytesB (a ++ b) := by
  apply WideShapes.bytes_inj
  simp [ByteArray.data_append]

theorem CpIs.other {base : Nat} {w : World} {F : Nat → Prop} {C : Nat} {c : M.Cop} {R : List M.Rul} (h : CpIs base w F C c R) {b : Nat} {cs : Array Value} {T : TypeId} {fr : Nat × Nat} (hb : w.heap[b]? = some (.cells cs T fr)) (h1 : T ≠ 119) (h2 : T ≠ 162) (h3 : T ≠ 32) (h4 : T ≠ 34) : ¬ F b := by
  obtain ⟨S, B, v, rv, rfl, hc⟩ := h.is
  exact hc.other hb h1 h2 h3 h4

/-- the struct -/
structure LgC (base : Nat) (w : World) (J C : Nat) (uv : Value) (K : ByteArray) (sf lf : Int) (st : Bool) (R : List M.Rul) : Prop where
  lo : base ≤ J
  heap : w.heap[J]? = some (.cells #[uv, .pointer (some ⟨C, 0, none⟩), .string K, .int .i64 sf, .int .i64 lf, .bool st] 86 (0, 0))
  rules : OwnR base w uv R
/-- its blocks -/
def lgF (J : Nat) (uv : Value) (F : Nat → Prop) (k : Nat) : Prop := k = J ∨ uv.ownBlock = some k ∨ F k
section
variable {base : Nat} {w w' : World} {J C C' : Nat} {uv : Value} {K K' : ByteArray} {sf lf sf' lf' : Int} {st st' : Bool} {R : List M.Rul} {F : Nat → Prop} {c : M.Cop}
theorem LgC.cells (h : LgC base w J C uv K sf lf st R) : w.cell? ⟨J, 0, none⟩ = some uv ∧ w.cell? ⟨J, 1, none⟩ = some (.pointer (some ⟨C, 0, none⟩)) ∧ w.cell? ⟨J, 2, none⟩ = some (.string K) ∧ w.cell? ⟨J, 3, none⟩ = some (.int .i64 sf) ∧ w.cell? ⟨J, 4, none⟩ = some (.int .i64 lf) ∧ w.cell? ⟨J, 5, none⟩ = some (.bool st) ∧ J < w.heap.size ∧ ∀ j, w.frozen? ⟨J, j, none⟩ = false := by
  refine ⟨?_, ?_, ?_, ?_, ?_, ?_, heap_lt h.heap, fun j => frozen_of_row w J j _ _ h.heap⟩
  · rw [cell_of_row w J 0 _ _ (0, 0) h.heap]; rfl
  · rw [cell_of_row w J 1 _ _ (0, 0) h.heap]; rfl
  · rw [cell_of_row w J 2 _ _ (0, 0) h.heap]; rfl
  · rw [cell_of_row w J 3 _ _ (0, 0) h.heap]; rfl
  · rw [cell_of_row w J 4 _ _ (0, 0) h.heap]; rfl
  · rw [cell_of_row w J 5 _ _ (0, 0) h.heap]; rfl
theorem LgC.row (h : LgC base w J C uv K sf lf st R) {b : Nat} (hb : uv.ownBlock = some b) : base ≤ b ∧ ∃ c fr, w.heap[b]? = some (.cells c 34 fr) := by
  obtain ⟨xs, h1, _⟩ := h.rules
  exact ownsRow_tag h1 hb
theorem LgC.base_le (h : LgC base w J C uv K sf lf st R) : base ≤ w.heap.size := Nat.le_trans h.lo (Nat.le_of_lt (heap_lt h.heap))
theorem LgC.kept (h : LgC base w J C uv K sf lf st R) (hJ : w'.heap[J]? = w.heap[J]?) (hu : ∀ k, uv.ownBlock = some k → w'.heap[k]? = w.heap[k]?) (hs : Solid w w') : LgC base w' J C uv K sf lf st R := by
  obtain ⟨xs, h1, h2⟩ := h.rules
  exact ⟨h.lo, hJ.trans h.heap, xs, ownsRow_at h1 hu, h2.solid hs⟩
theorem LgC.quiet (h : LgC base w J C uv K sf lf st R) (hb : Below w.heap.size w w') : LgC base w' J C uv K sf lf st R :=
  h.kept (hb.block J (heap_lt h.heap)) (fun k hk => by obtain ⟨_, c, fr, hh⟩ := h.row hk; exact hb.block k (heap_lt hh)) (Solid.below hb)
/-- behind a writing of one of its fields -/
theorem LgC.store (h : LgC base w J C uv K sf lf st R) (i : Nat) (x : Value) (hx : (#[uv, .pointer (some ⟨C, 0, none⟩), .string K, .int .i64 sf, .int .i64 lf, .bool st] : Array Value).setIfInBounds i x = #[uv, .pointer (some ⟨C', 0, none⟩), .string K', .int .i64 sf', .int .i64 lf', .bool st']) : LgC base (w.setCell ⟨J, i, none⟩ x) J C' uv K' sf' lf' st' R ∧ Tch (fun k => k = J) w (w.setCell ⟨J, i, none⟩ x) := by
  have hg := grownBy_setCell w ⟨J, i, none⟩ x
  have hb : ∀ k, k < w.heap.size → k ≠ J → (w.setCell ⟨J, i, none⟩ x).heap[k]? = w.heap[k]? := fun k hk hn => hg.block k hk (fun e => hn (by cases e; rfl))
  have hsol : Solid w (w.setCell ⟨J, i, none⟩ x) := fun b cur fr hh => (hb b (heap_lt hh) (fun e => by rw [e, h.heap] at hh; exact absurd (tag_eq hh) (by decide))).trans hh
  obtain ⟨xs, h1, h2⟩ := h.rules
  refine ⟨⟨h.lo, ?_, xs, ownsRow_at h1 (fun k hk => ?_), h2.solid hsol⟩, ⟨hg.os, hg.tape, hg.output, hg.size, fun k hk hn => hb k hk hn, hsol⟩⟩
  · rw [heap_setCell_same w J i _ _ _ h.heap, hx]
  · obtain ⟨_, c', fr, hh⟩ := h.row hk
    exact hb k (heap_lt hh) (fun e => by rw [e, h.heap] at hh; exact absurd (tag_eq hh) (by decide))
theorem LgC.tch (ht : Tch (fun k => k = J) w w') : Tch (lgF J uv F) w w' := ht.mono (fun k hk => Or.inl hk)
/-- the copy is another thing -/
theorem LgC.off (h : LgC base w J C uv K sf lf st R) (hc : CpIs base w F C' c R) : ¬ F J := hc.other h.heap (by decide) (by decide) (by decide) (by decide)
theorem CpIs.logged (hc : CpIs base w F C' c R) (h : LgC base w J C uv K sf lf st R) (ht : Tch (fun k => k = J) w w') : CpIs base w' F C' c R := hc.keep ht (fun k hk e => h.off hc (e ▸ hk))
/-- behind a call on the copy -/
theorem LgC.copied {F' : Nat → Prop} (h : LgC base w J C uv K sf lf st R) (hc : CpIs base w F C' c R) (hu : ∀ k, uv.ownBlock = some k → ¬ F k) (ht : Tch F w w') (hg : Grows w F F') : LgC base w' J C uv K sf lf st R ∧ Tch (lgF J uv F) w w' ∧ Grows w (lgF J uv F) (lgF J uv F') ∧ ∀ k, uv.ownBlock = some k → ¬ F' k := by
  refine ⟨h.kept (ht.block J (heap_lt h.heap) (h.off hc)) (fun k hk => ?_) ht.vals, ht.mono (fun k hk => Or.inr (Or.inr hk)), fun k hk => ?_, fun k hk hF => ?_⟩
  · obtain ⟨_, c', fr, hh⟩ := h.row hk
    exact ht.block k (heap_lt hh) (hu k hk)
  · rcases hk with rfl | hk | hk
    · exact Or.inl (Or.inl rfl)
    · exact Or.inl (Or.inr (Or.inl hk))
    · exact (hg k hk).imp (fun q => Or.inr (Or.inr q)) id
  · rcases hg k hF with q | q
    · exact hu k hk q
    · obtain ⟨_, c', fr, hh⟩ := h.row hk
      have := heap_lt hh
      omega
end

/-- a log that is g, by the rules R, in the blocks F -/
structure LgIs (base : Nat) (w : World) (F : Nat → Prop) (J : Nat) (g : M.Lg) (R : List M.Rul) : Prop where
  ok : g.Ok R
  fine : M.rulE R = 0
  left : g.left ≤ 9223372036854775807
  is : ∃ C uv Fc l half, F = lgF J uv Fc ∧ LgC base w J C uv (bytesB (M.keptL l ++ half)) g.safe g.left g.stop R ∧ CpIs base w Fc C g.cop R ∧ (∀ k, uv.ownBlock = some k → ¬ Fc k) ∧ M.Recs R g l half
section
variable {base : Nat} {w w' : World} {F G : Nat → Prop} {J : Nat} {g : M.Lg} {R : List M.Rul}
theorem LgIs.lows (h : LgIs base w F J g R) : ∀ i, F i → base ≤ i := by
  obtain ⟨C, uv, Fc, l, half, rfl, h1, h2, h3, h4⟩ := h.is
  intro i hi
  rcases hi with rfl | hi | hi
  · exact h1.lo
  · exact (h1.row hi).1
  · exact h2.lows i hi
theorem LgIs.highs (h : LgIs base w F J g R) : ∀ i, F i → i < w.heap.size := by
  obtain ⟨C, uv, Fc, l, half, rfl, h1, h2, h3, h4⟩ := h.is
  intro i hi
  rcases hi with rfl | hi | hi
  · exact heap_lt h1.heap
  · obtain ⟨_, c, fr, hh⟩ := h1.row hi
    exact heap_lt hh
  · exact h2.highs i hi
theorem LgIs.base_le (h : LgIs base w F J g R) : base ≤ w.heap.size := by
  obtain ⟨C, uv, Fc, l, half, rfl, h1, h2, h3, h4⟩ := h.is
  exact h1.base_le
theorem LgIs.quiet (h : LgIs base w F J g R) (hb : Below w.heap.size w w') : LgIs base w' F J g R := by
  obtain ⟨C, uv, Fc, l, half, rfl, h1, h2, h3, h4⟩ := h.is
  exact ⟨h.ok, h.fine, h.left, C, uv, Fc, l, half, rfl, h1.quiet hb, h2.quiet hb, h3, h4⟩
theorem LgIs.keep (h : LgIs base w F J g R) (ht : Tch G w w') (hd : Off F G) : LgIs base w' F J g R := by
  have hh := h.highs
  obtain ⟨C, uv, Fc, l, half, rfl, h1, h2, h3, h4⟩ := h.is
  exact ⟨h.ok, h.fine, h.left, C, uv, Fc, l, half, rfl, h1.kept (ht.block J (hh J (Or.inl rfl)) (hd J (Or.inl rfl))) (fun k hk => ht.block k (hh k (Or.inr (Or.inl hk))) (hd k (Or.inr (Or.inl hk)))) ht.vals, h2.keep ht (fun k hk => hd k (Or.inr (Or.inr hk))), h3, h4⟩
theorem LgIs.other (h : LgIs base w F J g R) {b : Nat} {cs : Array Value} {T : TypeId} {fr : Nat × Nat} (hb : w.heap[b]? = some (.cells cs T fr)) (h1 : T ≠ 119) (h2 : T ≠ 162) (h3 : T ≠ 32) (h4 : T ≠ 34) (h5 : T ≠ 86) : ¬ F b := by
  obtain ⟨C, uv, Fc, l, half, rfl, g1, g2, g3, g4⟩ := h.is
  rintro (rfl | hi | hi)
  · rw [g1.heap] at hb; exact h5 (tag_eq hb).symm
  · obtain ⟨_, c', fr', hh⟩ := g1.row hi
    rw [hh] at hb; exact h4 (tag_eq hb).symm
  · exact g2.other hb h1 h2 h3 h4 hi
end

end Go.Proofs.YtlefhfmckimlaakGreatDoor
