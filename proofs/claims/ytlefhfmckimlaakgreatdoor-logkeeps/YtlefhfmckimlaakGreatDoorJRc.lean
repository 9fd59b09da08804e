/-
  The document's copy in memory of a law's own: a struct that leads to the document's space and to a list of what was done; what a call on it leaves as it was.
  What the document's own copy does: NewCopy, Last and Mark of package tupleref2, each as one law of its call.
  What Do of the document's own copy does, as one law of its call.
-/
import Derived.Test.YtlefhfmckimlaakGreatDoorJSp
import Derived.Test.YtlefhfmckimlaakGreatDoorJSpRef
import Derived.Test.YtlefhfmckimlaakGreatDoorDoneMath
import Derived.Test.YtlefhfmckimlaakGreatDoorJRule
import Derived.Test.YtlefhfmckimlaakGreatDoorJHash
import Derived.Test.YtlefhfmckimlaakGreatDoorJRef
import Derived.BigQuiet
import Derived.Deep.QuietTactic
import Derived.Test.YtlefhfmckimlaakGreatDoorRuleRef
import Derived.Test.YtlefhfmckimlaakGreatDoorRefAsk
import Derived.Test.YtlefhfmckimlaakGreatDoorJQue
import Derived.Deep.RegionHeld3
import Derived.Deep.RegionLaw
import Derived.Deep.DeepCutAuto
import Derived.Deep.CutBlock
import Derived.Deep.Draws
import Derived.Deep.DrawnRows
import Derived.Deep.AppendLies
set_option linter.unusedVariables false
namespace Go.Proofs.YtlefhfmckimlaakGreatDoor
open Go.RowKit

/-- the cells of what was done, in a row -/
def cellsD : List M.Dn → List Value
  | [] => []
  | d :: l => .int .i64 d.who :: .int .i64 d.seq :: .string d.ans :: cellsD l
theorem cellsD_len : ∀ l : List M.Dn, (cellsD l).length = l.length * 3
  | [] => rfl
  | v :: l => by simp only [cellsD, List.length_cons, cellsD_len l]; omega
theorem cellsD_append : ∀ a b : List M.Dn, cellsD (a ++ b) = cellsD a ++ cellsD b
  | [], b => rfl
  | v :: a, b => by simp only [List.cons_append, cellsD, cellsD_append a b]
theorem cellsD_at : ∀ (l : List M.Dn) (i : Nat) (h : i < l.length), (cellsD l)[i * 3]? = some (.int .i64 l[i].who) ∧ (cellsD l)[i * 3 + 1]? = some (.int .i64 l[i].seq) ∧ (cellsD l)[i * 3 + 2]? = some (.string l[i].ans)
  | [], i, h => by simp at h
  | v :: l, 0, _ => by simp [cellsD]
  | v :: l, i + 1, h => by
    have ih := cellsD_at l i (by simpa using h)
    have e : (i + 1) * 3 = i * 3 + 3 := by omega
    rw [e]
    simpa [cellsD] using ih
theorem cellsD_one : ∀ (l : List M.Dn), ∀ u ∈ cellsD l, u.oneCell' = true
  | [], u, h => by cases h
  | d :: l, u, h => by
    simp only [cellsD, List.mem_cons] at h
    rcases h with rfl | rfl | rfl | h
    · rfl
    · rfl
    · rfl
    · exact cellsD_one l u h

/-- the document's copy of a law that came in with w0 -/
structure Rc (w0 w : World) (C S : Nat) (u dv rv : Value) (K : List (List M.Val)) (D : List M.Dn) (n : Int) : Prop where
  lo : w0.heap.size ≤ C
  heap : w.heap[C]? = some (.cells #[rv, .pointer (some ⟨S, 0, none⟩), dv, .int .i64 n] 55 (0, 0))
  sp : Ref w0 w S u K
  row : w.ownsRow w0.heap.size 106 3 dv D.length (cellsD D)
  bel : Below w0.heap.size w0 w
/-- its blocks -/
def rcF (C S : Nat) (u dv : Value) (k : Nat) : Prop := k = C ∨ k = S ∨ u.ownBlock = some k ∨ dv.ownBlock = some k
section
variable {w0 w w' : World} {C S : Nat} {u u' dv dv' rv : Value} {K K' : List (List M.Val)} {D D' : List M.Dn} {n n' : Int}
theorem Rc.cells (h : Rc w0 w C S u dv rv K D n) : w.cell? ⟨C, 0, none⟩ = some rv ∧ w.cell? ⟨C, 1, none⟩ = some (.pointer (some ⟨S, 0, none⟩)) ∧ w.cell? ⟨C, 2, none⟩ = some dv ∧ w.cell? ⟨C, 3, none⟩ = some (.int .i64 n) ∧ C < w.heap.size ∧ ∀ j, w.frozen? ⟨C, j, none⟩ = false := by
  refine ⟨?_, ?_, ?_, ?_, heap_lt h.heap, fun j => frozen_of_row w C j _ _ h.heap⟩
  · rw [cell_of_row w C 0 _ _ (0, 0) h.heap]; rfl
  · rw [cell_of_row w C 1 _ _ (0, 0) h.heap]; rfl
  · rw [cell_of_row w C 2 _ _ (0, 0) h.heap]; rfl
  · rw [cell_of_row w C 3 _ _ (0, 0) h.heap]; rfl
theorem Rc.lows (h : Rc w0 w C S u dv rv K D n) : ∀ k, rcF C S u dv k → w0.heap.size ≤ k := fun k hk => by
  rcases hk with rfl | rfl | hk | hk
  · exact h.lo
  · exact h.sp.lo
  · exact (h.sp.row.lt k hk).1
  · exact (ownsRow_tag h.row hk).1
theorem Rc.highs (h : Rc w0 w C S u dv rv K D n) : ∀ k, rcF C S u dv k → k < w.heap.size := fun k hk => by
  rcases hk with rfl | rfl | hk | hk
  · exact heap_lt h.heap
  · exact heap_lt h.sp.heap
  · exact (h.sp.row.lt k hk).2
  · obtain ⟨_, c, fr, hh⟩ := ownsRow_tag h.row hk
    exact heap_lt hh
theorem Rc.kept (h : Rc w0 w C S u dv rv K D n) (hk : Kept w0.heap.size (rcF C S u dv) w w') : Rc w0 w' C S u dv rv K D n :=
  ⟨h.lo, (hk.block C (Or.inl rfl)).trans h.heap, h.sp.at (hk.block S (Or.inr (Or.inl rfl))) (fun g hg => hk.block g (Or.inr (Or.inr (Or.inl hg)))), ownsRow_at h.row (fun g hg => hk.block g (Or.inr (Or.inr (Or.inr hg)))), h.bel.trans hk.below⟩
theorem Rc.quiet (h : Rc w0 w C S u dv rv K D n) (hb : Below w.heap.size w w') : Rc w0 w' C S u dv rv K D n := h.kept (Kept.of_below h.highs h.bel.size hb)
theorem Rc.thing (h : Rc w0 w C S u dv rv K D n) : Thing w0.heap.size (rcF C S u dv) (fun w' => Rc w0 w' C S u dv rv K D n) w := ⟨h.lows, h.highs, h.bel.size, fun _ hk => h.kept hk⟩
/-- behind a call on its space -/
theorem Rc.space (h : Rc w0 w C S u dv rv K D n) (hs : Ref w0 w' S u' K') (ht : Touch S u w w') (hn : Near w u u') : Rc w0 w' C S u' dv rv K' D n ∧ Tch (rcF C S u dv) w w' ∧ Grows w (rcF C S u dv) (rcF C S u' dv) := by
  obtain ⟨c1, c2⟩ := h.sp.other h.heap (by decide) (by decide)
  refine ⟨⟨h.lo, (ht.block C (heap_lt h.heap) c1 c2).trans h.heap, hs, ownsRow_at h.row (fun g hg => ?_), h.bel.trans (Sp.below h.sp ht (Nat.le_refl _))⟩, (h.sp.tch (by decide) ht).mono (fun k hk => ?_), fun k hk => ?_⟩
  · obtain ⟨_, c, fr, hh⟩ := ownsRow_tag h.row hg
    obtain ⟨d1, d2⟩ := h.sp.other hh (by decide) (by decide)
    exact ht.block g (heap_lt hh) d1 d2
  · rcases hk with rfl | hk
    · exact Or.inr (Or.inl rfl)
    · exact Or.inr (Or.inr (Or.inl hk))
  · rcases hk with rfl | rfl | hk | hk
    · exact Or.inl (Or.inl rfl)
    · exact Or.inl (Or.inr (Or.inl rfl))
    · rcases hn.grows hk with g | g
      · exact Or.inl (Or.inr (Or.inr (Or.inl g)))
      · exact Or.inr g
    · exact Or.inl (Or.inr (Or.inr (Or.inr hk)))
/-- a block of values is none of its own -/
theorem Rc.solid (h : Rc w0 w C S u dv rv K D n) (hb : ∀ k, k < w.heap.size → k ≠ C → dv.ownBlock ≠ some k → w'.heap[k]? = w.heap[k]?) : Solid w w' := fun b cur fr hh => by
  rw [hb b (heap_lt hh) (fun e => ?_) (fun e => ?_)]
  · exact hh
  · subst e
    rw [h.heap] at hh
    exact absurd (tag_eq hh) (by decide)
  · obtain ⟨_, c, fr', hd⟩ := ownsRow_tag h.row e
    rw [hd] at hh
    exact absurd (tag_eq hh) (by decide)
/-- behind a writing of its own struct's number -/
theorem Rc.many (h : Rc w0 w C S u dv rv K D n) : Rc w0 (w.setCell ⟨C, 3, none⟩ (.int .i64 n')) C S u dv rv K D n' ∧ Tch (rcF C S u dv) w (w.setCell ⟨C, 3, none⟩ (.int .i64 n')) := by
  have hg := grownBy_setCell w ⟨C, 3, none⟩ (.int .i64 n')
  have hb : ∀ k, k < w.heap.size → k ≠ C → (w.setCell ⟨C, 3, none⟩ (.int .i64 n')).heap[k]? = w.heap[k]? := fun k hk hc => hg.block k hk (fun e => hc (by cases e; rfl))
  obtain ⟨c1, c2⟩ := h.sp.other h.heap (by decide) (by decide)
  have hT : Tch (rcF C S u dv) w (w.setCell ⟨C, 3, none⟩ (.int .i64 n')) := ⟨hg.os, hg.tape, hg.output, hg.size, fun k hk hn => hb k hk (fun e => hn (Or.inl e)), h.solid (fun k hk hc _ => hb k hk hc)⟩
  refine ⟨⟨h.lo, ?_, h.sp.at (hb S (heap_lt h.sp.heap) c1.symm) (fun g hg' => hb g (h.sp.row.lt g hg').2 (fun e => c2 (e ▸ hg'))), ownsRow_at h.row (fun g hg' => ?_), h.bel.trans (hT.below h.lows h.bel.size)⟩, hT⟩
  · rw [heap_setCell_same w C 3 _ _ _ h.heap]; rfl
  · obtain ⟨_, c, fr, hh⟩ := ownsRow_tag h.row hg'
    refine hb g (heap_lt hh) (fun e => ?_)
    subst e
    rw [h.heap] at hh
    exact absurd (tag_eq hh) (by decide)
/-- behind an append to its list, and the store of what came of it -/
theorem Rc.done {w3 : World} (h : Rc w0 w C S u dv rv K D n) (hg : w.grownBy w3 dv.ownBlock) (hr : w3.ownsRow w0.heap.size 106 3 dv' D'.length (cellsD D')) (hn : Near w dv dv') :
    Rc w0 (w3.setCell ⟨C, 2, none⟩ dv') C S u dv' rv K D' n ∧ Tch (rcF C S u dv) w (w3.setCell ⟨C, 2, none⟩ dv') ∧ Grows w (rcF C S u dv) (rcF C S u dv') := by
  have hne : dv.ownBlock ≠ some C := fun e => by
    obtain ⟨_, c, fr, hh⟩ := ownsRow_tag h.row e
    rw [h.heap] at hh
    exact absurd (tag_eq hh) (by decide)
  have hne' : dv'.ownBlock ≠ some C := fun e => by
    rcases hn with hn | hn
    · rw [hn] at e; exact hne e
    · have := hn C e; have := heap_lt h.heap; omega
  have h3 : w3.heap[C]? = some (.cells #[rv, .pointer (some ⟨S, 0, none⟩), dv, .int .i64 n] 55 (0, 0)) := (hg.block C (heap_lt h.heap) (fun e => hne e.symm)).trans h.heap
  have hb : ∀ k, k < w.heap.size → k ≠ C → dv.ownBlock ≠ some k → (w3.setCell ⟨C, 2, none⟩ dv').heap[k]? = w.heap[k]? := fun k hk hc hd => by
    rw [heap_setCell_other w3 ⟨C, 2, none⟩ k dv' hc]
    exact hg.block k hk (fun e => hd e.symm)
  obtain ⟨c1, c2⟩ := h.sp.other h.heap (by decide) (by decide)
  have hT : Tch (rcF C S u dv) w (w3.setCell ⟨C, 2, none⟩ dv') := ⟨hg.os, hg.tape, hg.output, by simpa using hg.size, fun k hk hn => hb k hk (fun e => hn (Or.inl e)) (fun e => hn (Or.inr (Or.inr (Or.inr e)))), h.solid hb⟩
  refine ⟨⟨h.lo, ?_, h.sp.at (hb S (heap_lt h.sp.heap) c1.symm (fun e => ?_)) (fun g hg' => hb g (h.sp.row.lt g hg').2 (fun e => c2 (e ▸ hg')) (fun e => ?_)), hr.kept (grownBy_setCell w3 ⟨C, 2, none⟩ dv') (Or.inr hne'), h.bel.trans (hT.below h.lows h.bel.size)⟩, hT, fun k hk => ?_⟩
  · rw [heap_setCell_same w3 C 2 _ _ _ h3]; rfl
  · obtain ⟨_, c, fr, hh⟩ := ownsRow_tag h.row e
    exact (h.sp.other hh (by decide) (by decide)).1 rfl
  · obtain ⟨_, c, fr, hh⟩ := ownsRow_tag h.row e
    exact (h.sp.other hh (by decide) (by decide)).2 hg'
  · rcases hk with rfl | rfl | hk | hk
    · exact Or.inl (Or.inl rfl)
    · exact Or.inl (Or.inr (Or.inl rfl))
    · exact Or.inl (Or.inr (Or.inr (Or.inl hk)))
    · rcases hn.grows hk with g | g
      · exact Or.inl (Or.inr (Or.inr (Or.inr g)))
      · exact Or.inr g
end

end Go.Proofs.YtlefhfmckimlaakGreatDoor

set_option linter.unusedVariables false
namespace Go.Proofs.YtlefhfmckimlaakGreatDoor
open Go.RowKit

theorem rNewCopy (av : Option Addr) (n cap : Nat) (w : World) : Calls Tryz.prog 17 #[.slice av n cap] w fun e w' => e = .returned (.pointer (some ⟨w.heap.size + 1, 0, none⟩)) ∧ w' = (w.alloc (.cells #[.slice none 0 0] 78)).alloc (.cells #[.slice av n cap, .pointer (some ⟨w.heap.size, 0, none⟩), .slice none 0 0, .int .i64 0] 55) := by
  go_enter Tryz.func17, Tryz.ntmps17
  go_wp2
  go_ret
  exact ⟨rfl, rfl⟩
theorem Rc.new {w0 w : World} (hb : Below w0.heap.size w0 w) (rv : Value) : Rc w0 ((w.alloc (.cells #[.slice none 0 0] 78)).alloc (.cells #[rv, .pointer (some ⟨w.heap.size, 0, none⟩), .slice none 0 0, .int .i64 0] 55)) (w.heap.size + 1) w.heap.size (.slice none 0 0) (.slice none 0 0) rv [] [] 0 := by
  have h1 : Ref w0 (w.alloc (.cells #[.slice none 0 0] 78)) w.heap.size (.slice none 0 0) [] := ⟨hb.size, heap_alloc_new w _, RowOf.nil _ _ _⟩
  refine ⟨Nat.le_succ_of_le hb.size, ?_, Sp.quiet h1 ((Below.refl _ _).alloc (Nat.le_refl _) _), World.ownsRow_nil _ _ _ _, (hb.alloc hb.size _).alloc (by simp; exact Nat.le_succ_of_le hb.size) _⟩
  have := heap_alloc_new (w.alloc (.cells #[.slice none 0 0] 78)) (.cells #[rv, .pointer (some ⟨w.heap.size, 0, none⟩), .slice none 0 0, .int .i64 0] 55)
  simpa using this

theorem rLast_none (C cap : Nat) (ao : Option Addr) (who : Int) (w : World) (hC : C < w.heap.size) (hc : w.cell? ⟨C, 2, none⟩ = some (.slice ao 0 cap)) :
    Calls Tryz.prog 46 #[.pointer (some ⟨C, 0, none⟩), .int .i64 who] w fun e w' => e = .returned (.tuple #[.int .i64 0, .string ⟨#[]⟩]) ∧ Below w.heap.size w w' := by
  go_enter Tryz.func46, Tryz.ntmps46
  go_wp2
  go_loopw [6] (fun i wr => i = .int .i64 (-1) ∧ wr = w) (fun _ _ => 0)
  case atStart => exact ⟨rfl, rfl⟩
  case round =>
    obtain ⟨rfl, rfl⟩ := hrel
    go_wp2
    go_ret2
    exact ⟨rfl, Below.refl _ _⟩

theorem rLast_many (C g n cap : Nat) (who : Int) (D : List M.Dn) (w : World) (hC : C < w.heap.size) (hc : w.cell? ⟨C, 2, none⟩ = some (.slice (some ⟨g, 0, none⟩) n cap)) (hn : n = D.length) (h0 : 0 < n) (hm : n ≤ 1000)
    (hD : ∀ i (h : i < D.length), w.cell? ⟨g, i * 3, none⟩ = some (.int .i64 D[i].who) ∧ w.cell? ⟨g, i * 3 + 1, none⟩ = some (.int .i64 D[i].seq) ∧ w.cell? ⟨g, i * 3 + 2, none⟩ = some (.string D[i].ans)) :
    Calls Tryz.prog 46 #[.pointer (some ⟨C, 0, none⟩), .int .i64 who] w fun e w' => e = .returned (.tuple #[.int .i64 (M.lastD D who).1, .string (M.lastD D who).2]) ∧ Below w.heap.size w w' := by
  have HD := hide hD
  have HN := hide hn
  clear hD hn
  go_enter Tryz.func46, Tryz.ntmps46
  go_wp2
  go_loopw [6] (fun i wr => ∃ k : Nat, k ≤ n ∧ i = .int .i64 ((k : Int) - 1) ∧ Hid (∀ j (hj : j < D.length), k ≤ j → D[j].who ≠ who) ∧ wr = w) (fun i _ => (intOf i + 1).toNat)
  case atStart => exact ⟨n, Nat.le_refl _, rfl, hide (fun j hj hk => by have := HN.out; omega), rfl⟩
  case round =>
    obtain ⟨k, hk, rfl, hno, rfl⟩ := hrel
    by_cases hlt : 0 < k
    · obtain ⟨i, rfl⟩ : ∃ i, k = i + 1 := ⟨k - 1, by omega⟩
      have hil : i < D.length := by have := HN.out; omega
      obtain ⟨c0, c1, c2⟩ := HD.out i hil
      have hik : ((i + 1 : Nat) : Int) - 1 = (i : Int) := by omega
      have h0i : (0 : Int) ≤ (i : Int) := by omega
      have hin : (i : Int) < (n : Int) := by omega
      rw [hik]
      by_cases he : D[i].who = who
      · have HL : Hid (M.lastD D who = (D[i].seq, D[i].ans)) := hide (M.lastD_at hil he (fun j hj hij => hno.out j hj (by omega)))
        have hb : (D[i].who == who) = true := by simpa using he
        generalize D[i].seq = s at *
        generalize D[i].ans = t at *
        clear hlt
        go_wp2_with fail
        go_quiet (fail)
        go_wp2_with fail
        go_ret2
        exact ⟨by rw [HL.out]; rfl, Go.below_drewN (Below.refl _ _) _⟩
      · have hb : (D[i].who == who) = false := by simpa using he
        have HE := hide he
        clear he hlt
        go_wp2_with fail
        go_roundw
        case rel => exact ⟨i, by omega, by go_num, hide (fun j hj hij => by
          by_cases e : j = i
          · subst e; exact HE.out
          · exact hno.out j hj (by omega)), trivial⟩
        case measure => simp [intOf]
    · have HL : Hid (M.lastD D who = (0, M.sNo)) := hide (M.lastD_none (fun j hj => hno.out j hj (by omega)))
      have hk0 : k = 0 := by omega
      subst hk0
      go_wp2
      go_ret2
      exact ⟨by rw [HL.out]; rfl, Below.refl _ _⟩

theorem rLast {w0 w : World} {C S : Nat} {u dv rv : Value} {K : List (List M.Val)} {D : List M.Dn} {n : Int} (h : Rc w0 w C S u dv rv K D n) (who : Int) (hm : D.length ≤ 1000) :
    Calls Tryz.prog 46 #[.pointer (some ⟨C, 0, none⟩), .int .i64 who] w fun e w' => e = .returned (.tuple #[.int .i64 (M.lastD D who).1, .string (M.lastD D who).2]) ∧ Below w.heap.size w w' := by
  obtain ⟨_, _, c2, _, hC, _⟩ := h.cells
  rcases h.row.2 with ⟨hv, hn⟩ | ⟨g, cap, cur, hv, _, _, hn, hcm, _⟩
  · have e := List.length_eq_zero_iff.1 hn
    subst e
    rw [hv] at c2
    exact rLast_none C 0 none who w hC c2
  · rcases Nat.eq_zero_or_pos D.length with h0 | h0
    · have e := List.length_eq_zero_iff.1 h0
      subst e
      rw [hv] at c2
      exact rLast_none C cap _ who w hC c2
    · have hr := h.row
      rw [hv] at c2 hr
      refine rLast_many C g D.length cap who D w hC c2 rfl h0 hm (fun i hi => ?_)
      obtain ⟨d0, d1, d2⟩ := cellsD_at D i hi
      have g0 := hr.cells (g := g) rfl _ _ d0
      have g1 := hr.cells (g := g) rfl _ _ d1
      have g2 := hr.cells (g := g) rfl _ _ d2
      rw [WideShapes.add_plain] at g0 g1 g2
      refine ⟨?_, ?_, ?_⟩
      · simpa using g0
      · simpa [Nat.add_assoc] using g1
      · simpa [Nat.add_assoc] using g2

end Go.Proofs.YtlefhfmckimlaakGreatDoor

set_option linter.unusedVariables false
namespace Go.Proofs.YtlefhfmckimlaakGreatDoor
open Go.RowKit

section
variable {w0 w : World} {C S : Nat} {u dv : Value} {ra : Option Addr} {rn rc : Nat} {c : M.Cop} {D : List M.Dn} {R : List M.Rul}
/-- what the document's copy is in memory -/
structure RcIs (w0 w : World) (C S : Nat) (u dv : Value) (ra : Option Addr) (rn rc : Nat) (c : M.Cop) (D : List M.Dn) (R : List M.Rul) : Prop where
  rc : Rc w0 w C S u dv (.slice ra rn rc) c.l D c.n
  last : M.lastD D = c.g
  len : D.length = c.n
  ok : c.Ok
  rules : AtR w0 ra R
  many : rn = R.length
  fine : M.rulE R = 0
theorem RcIs.quiet {w' : World} (h : RcIs w0 w C S u dv ra rn rc c D R) (hb : Below w.heap.size w w') : RcIs w0 w' C S u dv ra rn rc c D R := ⟨h.rc.quiet hb, h.last, h.len, h.ok, h.rules, h.many, h.fine⟩
end

section
variable {w0 w : World} {C S : Nat} {u dv : Value} {ra : Option Addr} {rn rc : Nat} {c : M.Cop} {D : List M.Dn} {R : List M.Rul} {who seq deed : Int} {a : Option Addr} {n cp : Nat} {l : List M.Val}

theorem rDo_bad (h : RcIs w0 w C S u dv ra rn rc c D R) (hv : IsVals w0 (.slice a n cp) l) (hf : M.askF ⟨who, seq, deed, l⟩ ≠ 0) :
    Calls Tryz.prog 20 #[.pointer (some ⟨C, 0, none⟩), aggA who seq deed a n cp] w fun e w' => e = .returned (.tuple #[.string M.sNo, .int .i64 (M.askF ⟨who, seq, deed, l⟩)]) ∧ Below w.heap.size w w' := by
  have HB : Hid (∀ o, Below w.heap.size w (w.alloc o)) := hide fun o => (Below.refl _ _).alloc (Nat.le_refl _) o
  have HC : Hid (∀ wx, Below w.heap.size w wx → Calls Tryz.prog 45 #[aggA who seq deed a n cp] wx fun e w' => e = .returned (.int .i64 (M.askF ⟨who, seq, deed, l⟩)) ∧ Below wx.heap.size wx w') := hide fun wx hb => rAsk who seq deed a n cp l wx ((hv.stays h.rc.bel (Nat.le_refl _)).stays hb (Nat.le_refl _))
  generalize M.askF ⟨who, seq, deed, l⟩ = E at *
  have hz : (E == 0) = false := by simpa using hf
  clear hf hv h
  go_enter Tryz.func20, Tryz.ntmps20
  go_wp2_with fail
  refine (HC.out _ (HB.out _)).mono ?_
  rintro e w1 ⟨rfl, hb1⟩
  go_wp2_with fail
  go_ret2
  exact ⟨rfl, (HB.out _).trans (hb1.mono (by simp))⟩

/-- the calls that come first, where nothing is wrong with what is asked -/
structure RcPre (w : World) (C : Nat) (who seq deed : Int) (a : Option Addr) (n cp : Nat) (G1 : Int) (G2 : ByteArray) : Prop where
  ask : ∀ wx, Below w.heap.size w wx → Calls Tryz.prog 45 #[aggA who seq deed a n cp] wx fun e w' => e = .returned (.int .i64 0) ∧ Below wx.heap.size wx w'
  last : ∀ wx, Below w.heap.size w wx → Calls Tryz.prog 46 #[.pointer (some ⟨C, 0, none⟩), .int .i64 who] wx fun e w' => e = .returned (.tuple #[.int .i64 G1, .string G2]) ∧ Below wx.heap.size wx w'
theorem RcIs.pre (h : RcIs w0 w C S u dv ra rn rc c D R) (hv : IsVals w0 (.slice a n cp) l) (hf : M.askF ⟨who, seq, deed, l⟩ = 0) (hn : c.n ≤ 1000) : RcPre w C who seq deed a n cp (c.g who).1 (c.g who).2 := by
  refine ⟨fun wx hb => ?_, fun wx hb => ?_⟩
  · have := rAsk who seq deed a n cp l wx ((hv.stays h.rc.bel (Nat.le_refl _)).stays hb (Nat.le_refl _))
    rwa [hf] at this
  · have := rLast (h.rc.quiet hb) who (by rw [h.len]; exact hn)
    rwa [h.last] at this

theorem rDo_again (h : RcIs w0 w C S u dv ra rn rc c D R) (hv : IsVals w0 (.slice a n cp) l) (hf : M.askF ⟨who, seq, deed, l⟩ = 0) (hn : c.n ≤ 1000) (h1 : seq = (c.g who).1) (h2 : 0 < (c.g who).1) :
    Calls Tryz.prog 20 #[.pointer (some ⟨C, 0, none⟩), aggA who seq deed a n cp] w fun e w' => e = .returned (.tuple #[.string (c.g who).2, .int .i64 0]) ∧ Below w.heap.size w w' := by
  have HB : Hid (∀ o, Below w.heap.size w (w.alloc o)) := hide fun o => (Below.refl _ _).alloc (Nat.le_refl _) o
  have HP := hide (h.pre hv hf hn)
  generalize (c.g who).1 = G1 at *
  generalize (c.g who).2 = G2 at *
  subst h1
  clear hf hv h
  go_enter Tryz.func20, Tryz.ntmps20
  go_wp2_with fail
  refine (HP.out.ask _ (HB.out _)).mono ?_
  rintro e w1 ⟨rfl, hb1⟩
  have HX1 := hide (AskBox.new hb1)
  have HB1 := hide ((HB.out (.cells #[.int .i64 who, .int .i64 seq, .int .i64 deed, .slice a n cp] 38)).trans (hb1.mono (by simp)))
  obtain ⟨b0, b1, b2, b3, bn⟩ := HX1.out.cells
  clear hb1
  go_wp2_with fail
  refine (HP.out.last _ HB1.out).mono ?_
  rintro e w2 ⟨rfl, hb2⟩
  obtain ⟨d0, d1, d2, d3, dn⟩ := (HX1.out.below hb2).cells
  have HB2 := hide (HB1.out.trans (hb2.mono HB1.out.size))
  clear hb2 b0 b1 b2 b3 bn
  go_wp2_with fail
  go_ret2
  exact ⟨rfl, HB2.out⟩

theorem rDo_state (h : RcIs w0 w C S u dv ra rn rc c D R) (hv : IsVals w0 (.slice a n cp) l) (hf : M.askF ⟨who, seq, deed, l⟩ = 0) (hn : c.n ≤ 1000) (h1 : ¬ (seq = (c.g who).1 ∧ 0 < (c.g who).1)) (h2 : seq ≠ (c.g who).1 + 1) :
    Calls Tryz.prog 20 #[.pointer (some ⟨C, 0, none⟩), aggA who seq deed a n cp] w fun e w' => e = .returned (.tuple #[.string M.sNo, .int .i64 6]) ∧ Below w.heap.size w w' := by
  have HB : Hid (∀ o, Below w.heap.size w (w.alloc o)) := hide fun o => (Below.refl _ _).alloc (Nat.le_refl _) o
  have HP := hide (h.pre hv hf hn)
  have g1 := h.ok.lo who
  have g2 := h.ok.hi who
  have g3 : (c.g who).1 ≤ 1000 := by omega
  generalize (c.g who).1 = G1 at *
  generalize (c.g who).2 = G2 at *
  have hz2 : (seq == G1 + 1) = false := by simpa using h2
  have hq : (seq == G1) = false ∨ ((seq == G1) = true ∧ ¬ 0 < G1) := by
    by_cases e : seq = G1
    · exact Or.inr ⟨by simpa using e, fun e2 => h1 ⟨e, e2⟩⟩
    · exact Or.inl (by simpa using e)
  clear hf hv h h1 h2 g2
  rcases hq with hq | ⟨hq, hq2⟩
  all_goals
    go_enter Tryz.func20, Tryz.ntmps20
    go_wp2_with fail
    refine (HP.out.ask _ (HB.out _)).mono ?_
    rintro e w1 ⟨rfl, hb1⟩
    have HX1 := hide (AskBox.new hb1)
    have HB1 := hide ((HB.out (.cells #[.int .i64 who, .int .i64 seq, .int .i64 deed, .slice a n cp] 38)).trans (hb1.mono (by simp)))
    obtain ⟨b0, b1, b2, b3, bn⟩ := HX1.out.cells
    clear hb1
    go_wp2_with fail
    refine (HP.out.last _ HB1.out).mono ?_
    rintro e w2 ⟨rfl, hb2⟩
    obtain ⟨d0, d1, d2, d3, dn⟩ := (HX1.out.below hb2).cells
    have HB2 := hide (HB1.out.trans (hb2.mono HB1.out.size))
    clear hb2 b0 b1 b2 b3 bn
    go_wp2_with fail
    go_ret2
    exact ⟨rfl, HB2.out⟩
end

end Go.Proofs.YtlefhfmckimlaakGreatDoor
