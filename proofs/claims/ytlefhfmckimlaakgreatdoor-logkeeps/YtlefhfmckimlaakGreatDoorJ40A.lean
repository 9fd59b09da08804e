/-
  The document's copy in memory of a law's own: a struct that leads to the document's space and to a list of what was done; what a call on it leaves as it was.
  What the document's own copy does: NewCopy, Last and Mark of package tupleref2, each as one law of its call.
  What the document's own space does: First and Count of package tupleref1, each as one law of its call.
-/
import Derived.Test.YtlefhfmckimlaakGreatDoorJ12A
import Derived.Test.YtlefhfmckimlaakGreatDoorJ39A
import Derived.Test.YtlefhfmckimlaakGreatDoorJ20A
import Derived.BigQuiet
import Derived.Deep.QuietTactic
set_option linter.unusedVariables false
namespace Go.Proofs.YtlefhfmckimlaakGreatDoor
open Go.RowKit

/-- the cells of what was done, in a row -/
def cellsD : List M.Dn → List Value
  | [] => []
  | d :: l => .int .i64 d.who :: .int .i64 d.seq :: .string d.ans :: cellsD l
theorem cellsD_len : ∀ l : List M.Dn, (cellsD l).length = l.length * 3
  | [] => rfl
  | v :: l => by simp only [cellsD, List.length_cons, cellsD_len l]; omega
theorem cellsD_append : ∀ a b : List M.Dn, cellsD (a ++ b) = cellsD a ++ cellsD b
  | [], b => rfl
  | v :: a, b => by simp only [List.cons_append, cellsD, cellsD_append a b]
theorem cellsD_at : ∀ (l : List M.Dn) (i : Nat) (h : i < l.length), (cellsD l)[i * 3]? = some (.int .i64 l[i].who) ∧ (cellsD l)[i * 3 + 1]? = some (.int .i64 l[i].seq) ∧ (cellsD l)[i * 3 + 2]? = some (.string l[i].ans)
  | [], i, h => by simp at h
  | v :: l, 0, _ => by simp [cellsD]
  | v :: l, i + 1, h => by
    have ih := cellsD_at l i (by simpa using h)
    have e : (i + 1) * 3 = i * 3 + 3 := by omega
    rw [e]
    simpa [cellsD] using ih
theorem cellsD_one : ∀ (l : List M.Dn), ∀ u ∈ cellsD l, u.oneCell' = true
  | [], u, h => by cases h
  | d :: l, u, h => by
    simp only [cellsD, List.mem_cons] at h
    rcases h with rfl | rfl | rfl | h
    · rfl
    · rfl
    · rfl
    · exact cellsD_one l u h

/-- the document's copy of a law that came in with w0 -/
structure Rc (w0 w : World) (C S : Nat) (u dv rv : Value) (K : List (List M.Val)) (D : List M.Dn) (n : Int) : Prop where
  lo : w0.heap.size ≤ C
  heap : w.heap[C]? = some (.cells #[rv, .pointer (some ⟨S, 0, none⟩), dv, .int .i64 n] 55 (0, 0))
  sp : Ref w0 w S u K
  row : w.ownsRow w0.heap.size 106 3 dv D.length (cellsD D)
  bel : Below w0.heap.size w0 w
/-- its blocks -/
def rcF (C S : Nat) (u dv : Value) (k : Nat) : Prop := k = C ∨ k = S ∨ u.ownBlock = some k ∨ dv.ownBlock = some k
section
variable {w0 w w' : World} {C S : Nat} {u u' dv dv' rv : Value} {K K' : List (List M.Val)} {D D' : List M.Dn} {n n' : Int}
theorem Rc.cells (h : Rc w0 w C S u dv rv K D n) : w.cell? ⟨C, 0, none⟩ = some rv ∧ w.cell? ⟨C, 1, none⟩ = some (.pointer (some ⟨S, 0, none⟩)) ∧ w.cell? ⟨C, 2, none⟩ = some dv ∧ w.cell? ⟨C, 3, none⟩ = some (.int .i64 n) ∧ C < w.heap.size ∧ ∀ j, w.frozen? ⟨C, j, none⟩ = false := by
  refine ⟨?_, ?_, ?_, ?_, heap_lt h.heap, fun j => frozen_of_row w C j _ _ h.heap⟩
  · rw [cell_of_row w C 0 _ _ (0, 0) h.heap]; rfl
  · rw [cell_of_row w C 1 _ _ (0, 0) h.heap]; rfl
  · rw [cell_of_row w C 2 _ _ (0, 0) h.heap]; rfl
  · rw [cell_of_row w C 3 _ _ (0, 0) h.heap]; rfl
theorem Rc.lows (h : Rc w0 w C S u dv rv K D n) : ∀ k, rcF C S u dv k → w0.heap.size ≤ k := fun k hk => by
  rcases hk with rfl | rfl | hk | hk
  · exact h.lo
  · exact h.sp.lo
  · exact (h.sp.row.lt k hk).1
  · exact (ownsRow_tag h.row hk).1
theorem Rc.highs (h : Rc w0 w C S u dv rv K D n) : ∀ k, rcF C S u dv k → k < w.heap.size := fun k hk => by
  rcases hk with rfl | rfl | hk | hk
  · exact heap_lt h.heap
  · exact heap_lt h.sp.heap
  · exact (h.sp.row.lt k hk).2
  · obtain ⟨_, c, fr, hh⟩ := ownsRow_tag h.row hk
    exact heap_lt hh
theorem Rc.kept (h : Rc w0 w C S u dv rv K D n) (hk : Kept w0.heap.size (rcF C S u dv) w w') : Rc w0 w' C S u dv rv K D n :=
  ⟨h.lo, (hk.block C (Or.inl rfl)).trans h.heap, h.sp.at (hk.block S (Or.inr (Or.inl rfl))) (fun g hg => hk.block g (Or.inr (Or.inr (Or.inl hg)))), ownsRow_at h.row (fun g hg => hk.block g (Or.inr (Or.inr (Or.inr hg)))), h.bel.trans hk.below⟩
theorem Rc.quiet (h : Rc w0 w C S u dv rv K D n) (hb : Below w.heap.size w w') : Rc w0 w' C S u dv rv K D n := h.kept (Kept.of_below h.highs h.bel.size hb)
theorem Rc.thing (h : Rc w0 w C S u dv rv K D n) : Thing w0.heap.size (rcF C S u dv) (fun w' => Rc w0 w' C S u dv rv K D n) w := ⟨h.lows, h.highs, h.bel.size, fun _ hk => h.kept hk⟩
/-- behind a call on its space -/
theorem Rc.space (h : Rc w0 w C S u dv rv K D n) (hs : Ref w0 w' S u' K') (ht : Touch S u w w') (hn : Near w u u') : Rc w0 w' C S u' dv rv K' D n ∧ Tch (rcF C S u dv) w w' ∧ Grows w (rcF C S u dv) (rcF C S u' dv) := by
  obtain ⟨c1, c2⟩ := h.sp.other h.heap (by decide) (by decide)
  refine ⟨⟨h.lo, (ht.block C (heap_lt h.heap) c1 c2).trans h.heap, hs, ownsRow_at h.row (fun g hg => ?_), h.bel.trans (Sp.below h.sp ht (Nat.le_refl _))⟩, (h.sp.tch (by decide) ht).mono (fun k hk => ?_), fun k hk => ?_⟩
  · obtain ⟨_, c, fr, hh⟩ := ownsRow_tag h.row hg
    obtain ⟨d1, d2⟩ := h.sp.other hh (by decide) (by decide)
    exact ht.block g (heap_lt hh) d1 d2
  · rcases hk with rfl | hk
    · exact Or.inr (Or.inl rfl)
    · exact Or.inr (Or.inr (Or.inl hk))
  · rcases hk with rfl | rfl | hk | hk
    · exact Or.inl (Or.inl rfl)
    · exact Or.inl (Or.inr (Or.inl rfl))
    · rcases hn.grows hk with g | g
      · exact Or.inl (Or.inr (Or.inr (Or.inl g)))
      · exact Or.inr g
    · exact Or.inl (Or.inr (Or.inr (Or.inr hk)))
/-- a block of values is none of its own -/
theorem Rc.solid (h : Rc w0 w C S u dv rv K D n) (hb : ∀ k, k < w.heap.size → k ≠ C → dv.ownBlock ≠ some k → w'.heap[k]? = w.heap[k]?) : Solid w w' := fun b cur fr hh => by
  rw [hb b (heap_lt hh) (fun e => ?_) (fun e => ?_)]
  · exact hh
  · subst e
    rw [h.heap] at hh
    exact absurd (tag_eq hh) (by decide)
  · obtain ⟨_, c, fr', hd⟩ := ownsRow_tag h.row e
    rw [hd] at hh
    exact absurd (tag_eq hh) (by decide)
/-- behind a writing of its own struct's number -/
theorem Rc.many (h : Rc w0 w C S u dv rv K D n) : Rc w0 (w.setCell ⟨C, 3, none⟩ (.int .i64 n')) C S u dv rv K D n' ∧ Tch (rcF C S u dv) w (w.setCell ⟨C, 3, none⟩ (.int .i64 n')) := by
  have hg := grownBy_setCell w ⟨C, 3, none⟩ (.int .i64 n')
  have hb : ∀ k, k < w.heap.size → k ≠ C → (w.setCell ⟨C, 3, none⟩ (.int .i64 n')).heap[k]? = w.heap[k]? := fun k hk hc => hg.block k hk (fun e => hc (by cases e; rfl))
  obtain ⟨c1, c2⟩ := h.sp.other h.heap (by decide) (by decide)
  have hT : Tch (rcF C S u dv) w (w.setCell ⟨C, 3, none⟩ (.int .i64 n')) := ⟨hg.os, hg.tape, hg.output, hg.size, fun k hk hn => hb k hk (fun e => hn (Or.inl e)), h.solid (fun k hk hc _ => hb k hk hc)⟩
  refine ⟨⟨h.lo, ?_, h.sp.at (hb S (heap_lt h.sp.heap) c1.symm) (fun g hg' => hb g (h.sp.row.lt g hg').2 (fun e => c2 (e ▸ hg'))), ownsRow_at h.row (fun g hg' => ?_), h.bel.trans (hT.below h.lows h.bel.size)⟩, hT⟩
  · rw [heap_setCell_same w C 3 _ _ _ h.heap]; rfl
  · obtain ⟨_, c, fr, hh⟩ := ownsRow_tag h.row hg'
    refine hb g (heap_lt hh) (fun e => ?_)
    subst e
    rw [h.heap] at hh
    exact absurd (tag_eq hh) (by decide)
/-- behind an append to its list, and the store of what came of it -/
theorem Rc.done {w3 : World} (h : Rc w0 w C S u dv rv K D n) (hg : w.grownBy w3 dv.ownBlock) (hr : w3.ownsRow w0.heap.size 106 3 dv' D'.length (cellsD D')) (hn : Near w dv dv') :
    Rc w0 (w3.setCell ⟨C, 2, none⟩ dv') C S u dv' rv K D' n ∧ Tch (rcF C S u dv) w (w3.setCell ⟨C, 2, none⟩ dv') ∧ Grows w (rcF C S u dv) (rcF C S u dv') := by
  have hne : dv.ownBlock ≠ some C := fun e => by
    obtain ⟨_, c, fr, hh⟩ := ownsRow_tag h.row e
    rw [h.heap] at hh
    exact absurd (tag_eq hh) (by decide)
  have hne' : dv'.ownBlock ≠ some C := fun e => by
    rcases hn with hn | hn
    · rw [hn] at e; exact hne e
    · have := hn C e; have := heap_lt h.heap; omega
  have h3 : w3.heap[C]? = some (.cells #[rv, .pointer (some ⟨S, 0, none⟩), dv, .int .i64 n] 55 (0, 0)) := (hg.block C (heap_lt h.heap) (fun e => hne e.symm)).trans h.heap
  have hb : ∀ k, k < w.heap.size → k ≠ C → dv.ownBlock ≠ some k → (w3.setCell ⟨C, 2, none⟩ dv').heap[k]? = w.heap[k]? := fun k hk hc hd => by
    rw [heap_setCell_other w3 ⟨C, 2, none⟩ k dv' hc]
    exact hg.block k hk (fun e => hd e.symm)
  obtain ⟨c1, c2⟩ := h.sp.other h.heap (by decide) (by decide)
  have hT : Tch (rcF C S u dv) w (w3.setCell ⟨C, 2, none⟩ dv') := ⟨hg.os, hg.tape, hg.output, by simpa using hg.size, fun k hk hn => hb k hk (fun e => hn (Or.inl e)) (fun e => hn (Or.inr (Or.inr (Or.inr e)))), h.solid hb⟩
  refine ⟨⟨h.lo, ?_, h.sp.at (hb S (heap_lt h.sp.heap) c1.symm (fun e => ?_)) (fun g hg' => hb g (h.sp.row.lt g hg').2 (fun e => c2 (e ▸ hg')) (fun e => ?_)), hr.kept (grownBy_setCell w3 ⟨C, 2, none⟩ dv') (Or.inr hne'), h.bel.trans (hT.below h.lows h.bel.size)⟩, hT, fun k hk => ?_⟩
  · rw [heap_setCell_same w3 C 2 _ _ _ h3]; rfl
  · obtain ⟨_, c, fr, hh⟩ := ownsRow_tag h.row e
    exact (h.sp.other hh (by decide) (by decide)).1 rfl
  · obtain ⟨_, c, fr, hh⟩ := ownsRow_tag h.row e
    exact (h.sp.other hh (by decide) (by decide)).2 hg'
  · rcases hk with rfl | rfl | hk | hk
    · exact Or.inl (Or.inl rfl)
    · exact Or.inl (Or.inr (Or.inl rfl))
    · exact Or.inl (Or.inr (Or.inr (Or.inl hk)))
    · rcases hn.grows hk with g | g
      · exact Or.inl (Or.inr (Or.inr (Or.inr g)))
      · exact Or.inr g
end

end Go.Proofs.YtlefhfmckimlaakGreatDoor

set_option linter.unusedVariables false
namespace Go.Proofs.YtlefhfmckimlaakGreatDoor
open Go.RowKit

theorem rNewCopy (av : Option Addr) (n cap : Nat) (w : World) : Calls Tryz.prog 17 #[.slice av n cap] w fun e w' => e = .returned (.pointer (some ⟨w.heap.size + 1, 0, none⟩)) ∧ w' = (w.alloc (.cells #[.slice none 0 0] 78)).alloc (.cells #[.slice av n cap, .pointer (some ⟨w.heap.size, 0, none⟩), .slice none 0 0, .int .i64 0] 55) := by
  go_enter Tryz.func17, Tryz.ntmps17
  go_wp2
  go_ret
  exact ⟨rfl, rfl⟩
theorem Rc.new {w0 w : World} (hb : Below w0.heap.size w0 w) (rv : Value) : Rc w0 ((w.alloc (.cells #[.slice none 0 0] 78)).alloc (.cells #[rv, .pointer (some ⟨w.heap.size, 0, none⟩), .slice none 0 0, .int .i64 0] 55)) (w.heap.size + 1) w.heap.size (.slice none 0 0) (.slice none 0 0) rv [] [] 0 := by
  have h1 : Ref w0 (w.alloc (.cells #[.slice none 0 0] 78)) w.heap.size (.slice none 0 0) [] := ⟨hb.size, heap_alloc_new w _, RowOf.nil _ _ _⟩
  refine ⟨Nat.le_succ_of_le hb.size, ?_, Sp.quiet h1 ((Below.refl _ _).alloc (Nat.le_refl _) _), World.ownsRow_nil _ _ _ _, (hb.alloc hb.size _).alloc (by simp; exact Nat.le_succ_of_le hb.size) _⟩
  have := heap_alloc_new (w.alloc (.cells #[.slice none 0 0] 78)) (.cells #[rv, .pointer (some ⟨w.heap.size, 0, none⟩), .slice none 0 0, .int .i64 0] 55)
  simpa using this

theorem rLast_none (C cap : Nat) (ao : Option Addr) (who : Int) (w : World) (hC : C < w.heap.size) (hc : w.cell? ⟨C, 2, none⟩ = some (.slice ao 0 cap)) :
    Calls Tryz.prog 46 #[.pointer (some ⟨C, 0, none⟩), .int .i64 who] w fun e w' => e = .returned (.tuple #[.int .i64 0, .string ⟨#[]⟩]) ∧ Below w.heap.size w w' := by
  go_enter Tryz.func46, Tryz.ntmps46
  go_wp2
  go_loopw [6] (fun i wr => i = .int .i64 (-1) ∧ wr = w) (fun _ _ => 0)
  case atStart => exact ⟨rfl, rfl⟩
  case round =>
    obtain ⟨rfl, rfl⟩ := hrel
    go_wp2
    go_ret2
    exact ⟨rfl, Below.refl _ _⟩

theorem rLast_many (C g n cap : Nat) (who : Int) (D : List M.Dn) (w : World) (hC : C < w.heap.size) (hc : w.cell? ⟨C, 2, none⟩ = some (.slice (some ⟨g, 0, none⟩) n cap)) (hn : n = D.length) (h0 : 0 < n) (hm : n ≤ 1000)
    (hD : ∀ i (h : i < D.length), w.cell? ⟨g, i * 3, none⟩ = some (.int .i64 D[i].who) ∧ w.cell? ⟨g, i * 3 + 1, none⟩ = some (.int .i64 D[i].seq) ∧ w.cell? ⟨g, i * 3 + 2, none⟩ = some (.string D[i].ans)) :
    Calls Tryz.prog 46 #[.pointer (some ⟨C, 0, none⟩), .int .i64 who] w fun e w' => e = .returned (.tuple #[.int .i64 (M.lastD D who).1, .string (M.lastD D who).2]) ∧ Below w.heap.size w w' := by
  have HD := hide hD
  have HN := hide hn
  clear hD hn
  go_enter Tryz.func46, Tryz.ntmps46
  go_wp2
  go_loopw [6] (fun i wr => ∃ k : Nat, k ≤ n ∧ i = .int .i64 ((k : Int) - 1) ∧ Hid (∀ j (hj : j < D.length), k ≤ j → D[j].who ≠ who) ∧ wr = w) (fun i _ => (intOf i + 1).toNat)
  case atStart => exact ⟨n, Nat.le_refl _, rfl, hide (fun j hj hk => by have := HN.out; omega), rfl⟩
  case round =>
    obtain ⟨k, hk, rfl, hno, rfl⟩ := hrel
    by_cases hlt : 0 < k
    · obtain ⟨i, rfl⟩ : ∃ i, k = i + 1 := ⟨k - 1, by omega⟩
      have hil : i < D.length := by have := HN.out; omega
      obtain ⟨c0, c1, c2⟩ := HD.out i hil
      have hik : ((i + 1 : Nat) : Int) - 1 = (i : Int) := by omega
      have h0i : (0 : Int) ≤ (i : Int) := by omega
      have hin : (i : Int) < (n : Int) := by omega
      rw [hik]
      by_cases he : D[i].who = who
      · have HL : Hid (M.lastD D who = (D[i].seq, D[i].ans)) := hide (M.lastD_at hil he (fun j hj hij => hno.out j hj (by omega)))
        have hb : (D[i].who == who) = true := by simpa using he
        generalize D[i].seq = s at *
        generalize D[i].ans = t at *
        clear hlt
        go_wp2_with fail
        go_quiet (fail)
        go_wp2_with fail
        go_ret2
        exact ⟨by rw [HL.out]; rfl, Go.below_drewN (Below.refl _ _) _⟩
      · have hb : (D[i].who == who) = false := by simpa using he
        have HE := hide he
        clear he hlt
        go_wp2_with fail
        go_roundw
        case rel => exact ⟨i, by omega, by go_num, hide (fun j hj hij => by
          by_cases e : j = i
          · subst e; exact HE.out
          · exact hno.out j hj (by omega)), trivial⟩
        case measure => simp [intOf]
    · have HL : Hid (M.lastD D who = (0, M.sNo)) := hide (M.lastD_none (fun j hj => hno.out j hj (by omega)))
      have hk0 : k = 0 := by omega
      subst hk0
      go_wp2
      go_ret2
      exact ⟨by rw [HL.out]; rfl, Below.refl _ _⟩

theorem rLast {w0 w : World} {C S : Nat} {u dv rv : Value} {K : List (List M.Val)} {D : List M.Dn} {n : Int} (h : Rc w0 w C S u dv rv K D n) (who : Int) (hm : D.length ≤ 1000) :
    Calls Tryz.prog 46 #[.pointer (some ⟨C, 0, none⟩), .int .i64 who] w fun e w' => e = .returned (.tuple #[.int .i64 (M.lastD D who).1, .string (M.lastD D who).2]) ∧ Below w.heap.size w w' := by
  obtain ⟨_, _, c2, _, hC, _⟩ := h.cells
  rcases h.row.2 with ⟨hv, hn⟩ | ⟨g, cap, cur, hv, _, _, hn, hcm, _⟩
  · have e := List.length_eq_zero_iff.1 hn
    subst e
    rw [hv] at c2
    exact rLast_none C 0 none who w hC c2
  · rcases Nat.eq_zero_or_pos D.length with h0 | h0
    · have e := List.length_eq_zero_iff.1 h0
      subst e
      rw [hv] at c2
      exact rLast_none C cap _ who w hC c2
    · have hr := h.row
      rw [hv] at c2 hr
      refine rLast_many C g D.length cap who D w hC c2 rfl h0 hm (fun i hi => ?_)
      obtain ⟨d0, d1, d2⟩ := cellsD_at D i hi
      have g0 := hr.cells (g := g) rfl _ _ d0
      have g1 := hr.cells (g := g) rfl _ _ d1
      have g2 := hr.cells (g := g) rfl _ _ d2
      rw [WideShapes.add_plain] at g0 g1 g2
      refine ⟨?_, ?_, ?_⟩
      · simpa using g0
      · simpa [Nat.add_assoc] using g1
      · simpa [Nat.add_assoc] using g2

end Go.Proofs.YtlefhfmckimlaakGreatDoor

namespace Go.Proofs.YtlefhfmckimlaakGreatDoor
open Go.RowKit

theorem rfirst_none (R cap : Nat) (ao : Option Addr) (v : Value) (w : World) (hc : w.cell? ⟨R, 0, none⟩ = some (.slice ao 0 cap)) :
    Calls Tryz.prog 90 #[.pointer (some ⟨R, 0, none⟩), v] w fun e w' => e = .returned (.int .i64 (-1)) ∧ Below w.heap.size w w' := by
  go_enter Tryz.func90, Tryz.ntmps90
  go_wp2
  go_loopw [5] (fun i wr => i = .int .i64 0 ∧ wr = w) (fun _ _ => 0)
  case atStart => exact ⟨rfl, rfl⟩
  case round =>
    obtain ⟨rfl, rfl⟩ := hrel
    go_wp2
    go_ret
    exact ⟨rfl, Below.refl _ _⟩

/-- what a loop over the list reads, whatever has been laid since -/
def Reads (R g n cap : Nat) (v : Value) (a : List M.Val) (L : List (List M.Val)) (w : World) : Prop :=
  ∀ wr, Below w.heap.size w wr → wr.cell? ⟨R, 0, none⟩ = some (.slice (some ⟨g, 0, none⟩) n cap) ∧ ∀ j (hj : j < L.length), ∃ x, wr.cell? ⟨g, j, none⟩ = some x ∧ Calls Tryz.prog 120 #[v, x] wr fun e w' => e = .returned (.bool (M.fitAll a L[j])) ∧ Below wr.heap.size wr w'

theorem rfirst_many (R g n cap : Nat) (v : Value) (a : List M.Val) (L : List (List M.Val)) (w : World) (hn : n = L.length) (h0 : 0 < n) (h20 : n ≤ 20) (hR : Reads R g n cap v a L w) :
    Calls Tryz.prog 90 #[.pointer (some ⟨R, 0, none⟩), v] w fun e w' => e = .returned (.int .i64 (M.place a L)) ∧ Below w.heap.size w w' := by
  have HR := hide hR
  have HN := hide hn
  clear hR hn
  go_enter Tryz.func90, Tryz.ntmps90
  go_wp2
  go_loopw [5] (fun i wr => ∃ k : Nat, k ≤ n ∧ i = .int .i64 k ∧ Hid (∀ j (hj : j < k) (hjl : j < L.length), M.fitAll a L[j] = false) ∧ Hid (Below w.heap.size w wr)) (fun i _ => n - (intOf i).toNat)
  case atStart => exact ⟨0, Nat.zero_le _, rfl, hide (fun j hj => by omega), hide (Below.refl _ _)⟩
  case round =>
    obtain ⟨k, hk, rfl, hno, hbel⟩ := hrel
    obtain ⟨c1, hat⟩ := (unhide HR) wr hbel.out
    by_cases hlt : k < n
    · have hkl : k < L.length := HN.out ▸ hlt
      have ik : (k : Int) < (n : Int) := by omega
      obtain ⟨x, hx, hC⟩ := hat k hkl
      clear hat
      cases hb : M.fitAll a L[k]
      · rw [hb] at hC
        have HB := hide hb
        have HC := hide hC
        clear hb hC
        go_wp2_with fail
        refine (unhide HC).mono ?_
        rintro e w1 ⟨rfl, hb1⟩
        go_wp2_with fail
        go_roundw
        case rel =>
          refine ⟨k + 1, by omega, by go_num, hide (fun j hj hjl => ?_), hide (hbel.out.trans (hb1.mono hbel.out.size))⟩
          rcases Nat.lt_succ_iff_lt_or_eq.1 hj with h | h
          · exact hno.out j h hjl
          · subst h; exact HB.out
        case measure => simp [intOf]; omega
      · rw [hb] at hC
        have HC := hide hC
        have hsp : M.spot a L = k := spot_hit hkl (fun j hj => hno.out j hj (by omega)) hb
        have hfin : Hid (M.place a L = (k : Int)) := hide (by unfold M.place; rw [hsp, if_pos hkl])
        clear hb hC hsp
        go_wp2_with fail
        refine (unhide HC).mono ?_
        rintro e w1 ⟨rfl, hb1⟩
        go_wp2_with fail
        go_ret
        exact ⟨by rw [hfin.out]; rfl, hbel.out.trans (hb1.mono hbel.out.size)⟩
    · have hsp : M.spot a L = L.length := spot_none (fun j hj => hno.out j (by have := HN.out; omega) hj)
      have hfin : Hid (M.place a L = -1) := hide (by unfold M.place; rw [hsp, if_neg (Nat.lt_irrefl _)])
      have ik : ¬ (k : Int) < (n : Int) := by omega
      clear hsp hat
      go_wp2
      go_ret
      exact ⟨by rw [hfin.out]; rfl, hbel.out⟩

theorem rcount_none (R cap : Nat) (ao : Option Addr) (v : Value) (w : World) (hc : w.cell? ⟨R, 0, none⟩ = some (.slice ao 0 cap)) :
    Calls Tryz.prog 76 #[.pointer (some ⟨R, 0, none⟩), v] w fun e w' => e = .returned (.int .i64 0) ∧ Below w.heap.size w w' := by
  go_enter Tryz.func76, Tryz.ntmps76
  go_wp2
  go_loopw [6, 5] (fun i c wr => i = .int .i64 0 ∧ c = .int .i64 0 ∧ wr = w) (fun _ _ _ => 0)
  case atStart => exact ⟨rfl, rfl, rfl⟩
  case round =>
    obtain ⟨rfl, rfl, rfl⟩ := hrel
    go_wp2
    go_ret
    exact ⟨rfl, Below.refl _ _⟩

theorem rcount_many (R g n cap : Nat) (v : Value) (a : List M.Val) (L : List (List M.Val)) (w : World) (hn : n = L.length) (h0 : 0 < n) (h20 : n ≤ 20) (hR : Reads R g n cap v a L w) :
    Calls Tryz.prog 76 #[.pointer (some ⟨R, 0, none⟩), v] w fun e w' => e = .returned (.int .i64 (M.many a L)) ∧ Below w.heap.size w w' := by
  have HR := hide hR
  have HN := hide hn
  clear hR hn
  go_enter Tryz.func76, Tryz.ntmps76
  go_wp2
  go_loopw [6, 5] (fun i c wr => ∃ k q : Nat, k ≤ n ∧ q ≤ k ∧ i = .int .i64 k ∧ c = .int .i64 q ∧ Hid (q = M.many a (L.take k)) ∧ Hid (Below w.heap.size w wr)) (fun i _ _ => n - (intOf i).toNat)
  case atStart => exact ⟨0, 0, Nat.zero_le _, Nat.le_refl _, rfl, rfl, hide rfl, hide (Below.refl _ _)⟩
  case round =>
    obtain ⟨k, q, hk, hqk, rfl, rfl, hq, hbel⟩ := hrel
    obtain ⟨c1, hat⟩ := (unhide HR) wr hbel.out
    by_cases hlt : k < n
    · have hkl : k < L.length := HN.out ▸ hlt
      have ik : (k : Int) < (n : Int) := by omega
      obtain ⟨x, hx, hC⟩ := hat k hkl
      have hms := hide (many_snoc (a := a) hkl)
      clear hat
      cases hb : M.fitAll a L[k]
      · rw [hb] at hC hms
        have HC := hide hC
        clear hb hC
        go_wp2_with fail
        refine (unhide HC).mono ?_
        rintro e w1 ⟨rfl, hb1⟩
        go_wp2_with fail
        go_roundw
        case rel => exact ⟨k + 1, q, by omega, by omega, by go_num, rfl, hide (by rw [hms.out]; exact hq.out), hide (hbel.out.trans (hb1.mono hbel.out.size))⟩
        case measure => simp [intOf]; omega
      · rw [hb] at hC hms
        have HC := hide hC
        clear hb hC
        go_wp2_with fail
        refine (unhide HC).mono ?_
        rintro e w1 ⟨rfl, hb1⟩
        go_wp2_with fail
        go_roundw
        case rel => exact ⟨k + 1, q + 1, by omega, by omega, by go_num, by go_num, hide (by rw [hms.out]; have := hq.out; simp; omega), hide (hbel.out.trans (hb1.mono hbel.out.size))⟩
        case measure => simp [intOf]; omega
    · have hfin : Hid (q = M.many a L) := hide (by have := hq.out; rwa [List.take_of_length_le (by have := HN.out; omega)] at this)
      have ik : ¬ (k : Int) < (n : Int) := by omega
      clear hat
      go_wp2
      go_ret
      exact ⟨by rw [← hfin.out]; rfl, hbel.out⟩

theorem Ref.reads {w0 w : World} {R : Nat} {u v : Value} {a : List M.Val} {L : List (List M.Val)} (h : Ref w0 w R u L) (h0 : 0 < L.length) (hbw : Below w0.heap.size w0 w) (hv : IsVals w0 v a) (ha : M.likeF a = 0) : ∃ g cap, u = .slice (some ⟨g, 0, Option.none⟩) L.length cap ∧ Reads R g L.length cap v a L w := by
  obtain ⟨g, cap, rfl, _⟩ := h.row.at h0
  refine ⟨g, cap, rfl, fun wr hb => ?_⟩
  have h' : Ref w0 wr R (.slice (some ⟨g, 0, Option.none⟩) L.length cap) L := Sp.quiet h hb
  have hbr := hbw.trans (hb.mono hbw.size)
  refine ⟨h'.cell.1, fun j hj => ?_⟩
  obtain ⟨g2, cap2, e, hat⟩ := h'.row.at h0
  simp only [Value.slice.injEq, Option.some.injEq, Addr.mk.injEq, and_true, true_and] at e
  obtain ⟨rfl, rfl⟩ := e
  obtain ⟨x, hx, hxv⟩ := hat j hj
  exact ⟨x, hx, rfits v x a L[j] wr (hv.stays hbr (Nat.le_refl _)) (hxv.stays hbr (Nat.le_refl _)) ha⟩

theorem rfirst (w0 : World) (R : Nat) (u v : Value) (a : List M.Val) (L : List (List M.Val)) (w : World) (h : Ref w0 w R u L) (hL : M.Fine L) (hbw : Below w0.heap.size w0 w) (hv : IsVals w0 v a) (ha : M.likeF a = 0) :
    Calls Tryz.prog 90 #[.pointer (some ⟨R, 0, none⟩), v] w fun e w' => e = .returned (.int .i64 (M.place a L)) ∧ Below w.heap.size w w' := by
  rcases Nat.eq_zero_or_pos L.length with h0 | h0
  · obtain ⟨ao, cap, rfl⟩ := h.row.shape
    have hl := List.length_eq_zero_iff.1 h0
    subst hl
    exact rfirst_none R cap ao v w h.cell.1
  · obtain ⟨g, cap, rfl, hr⟩ := Ref.reads h h0 hbw hv ha
    exact rfirst_many R g L.length cap v a L w rfl h0 hL.2 hr
theorem rcount (w0 : World) (R : Nat) (u v : Value) (a : List M.Val) (L : List (List M.Val)) (w : World) (h : Ref w0 w R u L) (hL : M.Fine L) (hbw : Below w0.heap.size w0 w) (hv : IsVals w0 v a) (ha : M.likeF a = 0) :
    Calls Tryz.prog 76 #[.pointer (some ⟨R, 0, none⟩), v] w fun e w' => e = .returned (.int .i64 (M.many a L)) ∧ Below w.heap.size w w' := by
  rcases Nat.eq_zero_or_pos L.length with h0 | h0
  · obtain ⟨ao, cap, rfl⟩ := h.row.shape
    have hl := List.length_eq_zero_iff.1 h0
    subst hl
    exact rcount_none R cap ao v w h.cell.1
  · obtain ⟨g, cap, rfl, hr⟩ := Ref.reads h h0 hbw hv ha
    exact rcount_many R g L.length cap v a L w rfl h0 hL.2 hr

end Go.Proofs.YtlefhfmckimlaakGreatDoor
