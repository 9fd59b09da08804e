/-
  A crowd in memory of a call's own: a struct that leads to a row of copies, each in blocks of its own; what a call on one copy leaves of the others.
-/
import Derived.Test.YtlefhfmckimlaakGreatDoorCopCalls
import Derived.Test.YtlefhfmckimlaakGreatDoorCrowdMath
set_option linter.unusedVariables false
namespace Go.Proofs.YtlefhfmckimlaakGreatDoor
open Go.RowKit

/-- a block of another type is none of a copy's -/
theorem CpIs.other {base : Nat} {w : World} {F : Nat → Prop} {C : Nat} {c : M.Cop} {R : List M.Rul} (h : CpIs base w F C c R) {b : Nat} {cs : Array Value} {T : TypeId} {fr : Nat × Nat} (hb : w.heap[b]? = some (.cells cs T fr)) (h1 : T ≠ 119) (h2 : T ≠ 162) (h3 : T ≠ 32) (h4 : T ≠ 34) : ¬ F b := by
  obtain ⟨S, B, v, rv, rfl, hc⟩ := h.is
  exact hc.other hb h1 h2 h3 h4

/-- pointers to copies, in a row -/
def ptrs (Cs : List Nat) : List Value := Cs.map fun C => .pointer (some ⟨C, 0, none⟩)
theorem ptrs_len (Cs : List Nat) : (ptrs Cs).length = Cs.length := by simp [ptrs]
theorem ptrs_at {Cs : List Nat} {i : Nat} (h : i < Cs.length) : (ptrs Cs)[i]? = some (.pointer (some ⟨Cs[i], 0, none⟩)) := by simp [ptrs, h]
theorem ptrs_snoc (Cs : List Nat) (C : Nat) : ptrs (Cs ++ [C]) = ptrs Cs ++ [.pointer (some ⟨C, 0, none⟩)] := by simp [ptrs]

/-- a crowd: its copies, each with its blocks and what it is -/
structure Cw (base : Nat) (w : World) (K : Nat) (v : Value) (nd : Int) (Cs : List Nat) (Fs : Nat → Nat → Prop) (st : Nat → M.Cop) (R : List M.Rul) : Prop where
  lo : base ≤ K
  heap : w.heap[K]? = some (.cells #[v, .int .i64 nd] 124 (0, 0))
  row : w.ownsRow base 60 1 v Cs.length (ptrs Cs)
  cps : ∀ i (h : i < Cs.length), CpIs base w (Fs i) Cs[i] (st i) R
  off : ∀ i j, i < Cs.length → j < Cs.length → i ≠ j → Off (Fs i) (Fs j)
/-- its blocks -/
def cwF (K : Nat) (v : Value) (n : Nat) (Fs : Nat → Nat → Prop) (b : Nat) : Prop := b = K ∨ v.ownBlock = some b ∨ ∃ i, i < n ∧ Fs i b
section
variable {base : Nat} {w w' : World} {K : Nat} {v v' : Value} {nd : Int} {Cs : List Nat} {Fs : Nat → Nat → Prop} {st : Nat → M.Cop} {R : List M.Rul}
theorem Cw.cells (h : Cw base w K v nd Cs Fs st R) : w.cell? ⟨K, 0, none⟩ = some v ∧ w.cell? ⟨K, 1, none⟩ = some (.int .i64 nd) ∧ K < w.heap.size ∧ ∀ j, w.frozen? ⟨K, j, none⟩ = false := by
  refine ⟨?_, ?_, heap_lt h.heap, fun j => frozen_of_row w K j _ _ h.heap⟩
  · rw [cell_of_row w K 0 _ _ (0, 0) h.heap]; rfl
  · rw [cell_of_row w K 1 _ _ (0, 0) h.heap]; rfl
theorem Cw.shape (h : Cw base w K v nd Cs Fs st R) : ∃ ao cap, v = .slice ao Cs.length cap := by
  rcases h.row.2 with ⟨hv, hn⟩ | ⟨g, cap, cur, hv, _⟩
  · exact ⟨none, 0, by rw [hv, hn]⟩
  · exact ⟨_, cap, hv⟩
theorem Cw.base_le (h : Cw base w K v nd Cs Fs st R) : base ≤ w.heap.size := Nat.le_trans h.lo (Nat.le_of_lt (heap_lt h.heap))
theorem Cw.lows (h : Cw base w K v nd Cs Fs st R) : ∀ b, cwF K v Cs.length Fs b → base ≤ b := fun b hb => by
  rcases hb with rfl | hb | ⟨i, hi, hb⟩
  · exact h.lo
  · exact (ownsRow_tag h.row hb).1
  · exact (h.cps i hi).lows b hb
theorem Cw.highs (h : Cw base w K v nd Cs Fs st R) : ∀ b, cwF K v Cs.length Fs b → b < w.heap.size := fun b hb => by
  rcases hb with rfl | hb | ⟨i, hi, hb⟩
  · exact heap_lt h.heap
  · obtain ⟨_, c, fr, hh⟩ := ownsRow_tag h.row hb
    exact heap_lt hh
  · exact (h.cps i hi).highs b hb
theorem Cw.quiet (h : Cw base w K v nd Cs Fs st R) (hb : Below w.heap.size w w') : Cw base w' K v nd Cs Fs st R :=
  ⟨h.lo, (hb.block K (heap_lt h.heap)).trans h.heap, ownsRow_at h.row (fun g hg => by
    obtain ⟨_, c, fr, hh⟩ := ownsRow_tag h.row hg
    exact hb.block g (heap_lt hh)), fun i hi => (h.cps i hi).quiet hb, h.off⟩
/-- while something beside it is written -/
theorem Cw.keep {G : Nat → Prop} (h : Cw base w K v nd Cs Fs st R) (ht : Tch G w w') (hd : Off (cwF K v Cs.length Fs) G) : Cw base w' K v nd Cs Fs st R :=
  ⟨h.lo, (ht.block K (heap_lt h.heap) (hd K (Or.inl rfl))).trans h.heap, ownsRow_at h.row (fun g hg => ht.block g (h.highs g (Or.inr (Or.inl hg))) (hd g (Or.inr (Or.inl hg)))), fun i hi => (h.cps i hi).keep ht (fun b hb => hd b (Or.inr (Or.inr ⟨i, hi, hb⟩))), h.off⟩
/-- one copy's place in a list of what they are, or of their blocks -/
def upd {α : Type} (f : Nat → α) (i : Nat) (x : α) : Nat → α := fun j => if j = i then x else f j
theorem upd_same {α : Type} (f : Nat → α) (i : Nat) (x : α) : upd f i x i = x := if_pos rfl
theorem upd_other {α : Type} {f : Nat → α} {i j : Nat} {x : α} (h : j ≠ i) : upd f i x j = f j := if_neg h
/-- behind a call on one copy -/
theorem Cw.step {i : Nat} {F' : Nat → Prop} {c' : M.Cop} (h : Cw base w K v nd Cs Fs st R) (hi : i < Cs.length) (hC : CpIs base w' F' Cs[i] c' R) (ht : Tch (Fs i) w w') (hg : Grows w (Fs i) F') :
    Cw base w' K v nd Cs (upd Fs i F') (upd st i c') R ∧ Tch (cwF K v Cs.length Fs) w w' ∧ Grows w (cwF K v Cs.length Fs) (cwF K v Cs.length (upd Fs i F')) := by
  have hci := h.cps i hi
  refine ⟨⟨h.lo, ?_, ownsRow_at h.row (fun g hg' => ?_), fun j hj => ?_, fun a b ha hb hab => ?_⟩, ht.mono (fun b hb => Or.inr (Or.inr ⟨i, hi, hb⟩)), fun b hb => ?_⟩
  · exact (ht.block K (heap_lt h.heap) (hci.other h.heap (by decide) (by decide) (by decide) (by decide))).trans h.heap
  · obtain ⟨_, c, fr, hh⟩ := ownsRow_tag h.row hg'
    exact ht.block g (heap_lt hh) (hci.other hh (by decide) (by decide) (by decide) (by decide))
  · by_cases e : j = i
    · subst e; rw [upd_same, upd_same]; exact hC
    · rw [upd_other e, upd_other e]; exact (h.cps j hj).keep ht (h.off j i hj hi e)
  · by_cases e1 : a = i
    · subst e1
      rw [upd_same, upd_other (fun e => hab e.symm)]
      exact (h.off a b ha hb hab).grows (h.cps b hb).highs hg
    · by_cases e2 : b = i
      · subst e2
        rw [upd_same, upd_other e1]
        exact ((h.off b a hb ha (fun e => hab e.symm)).grows (h.cps a ha).highs hg).symm
      · rw [upd_other e1, upd_other e2]; exact h.off a b ha hb hab
  · rcases hb with rfl | hb | ⟨j, hj, hb⟩
    · exact Or.inl (Or.inl rfl)
    · exact Or.inl (Or.inr (Or.inl hb))
    · by_cases e : j = i
      · subst e
        rw [upd_same] at hb
        rcases hg b hb with q | q
        · exact Or.inl (Or.inr (Or.inr ⟨j, hj, q⟩))
        · exact Or.inr q
      · rw [upd_other e] at hb
        exact Or.inl (Or.inr (Or.inr ⟨j, hj, hb⟩))
/-- behind an append of one more, and the store of what came of it -/
theorem Cw.more {w3 : World} {C : Nat} {F : Nat → Prop} {c : M.Cop} (h : Cw base w K v nd Cs Fs st R) (hC : CpIs base w F C c R) (hF : ∀ i, i < Cs.length → Off F (Fs i)) (hg : w.grownBy w3 v.ownBlock) (hr : w3.ownsRow base 60 1 v' (Cs.length + 1) (ptrs Cs ++ [.pointer (some ⟨C, 0, none⟩)])) (hn : Near w v v') :
    Cw base (w3.setCell ⟨K, 0, none⟩ v') K v' nd (Cs ++ [C]) (upd Fs Cs.length F) (upd st Cs.length c) R ∧ Below base w (w3.setCell ⟨K, 0, none⟩ v') := by
  have hne : v.ownBlock ≠ some K := fun e => by
    obtain ⟨_, cc, fr, hh⟩ := ownsRow_tag h.row e
    rw [h.heap] at hh
    exact absurd (tag_eq hh) (by decide)
  have hne' : v'.ownBlock ≠ some K := fun e => by
    rcases hn with hn | hn
    · rw [hn] at e; exact hne e
    · have := hn K e; have := heap_lt h.heap; omega
  have h3 : w3.heap[K]? = some (.cells #[v, .int .i64 nd] 124 (0, 0)) := (hg.block K (heap_lt h.heap) (fun e => hne e.symm)).trans h.heap
  have hb : ∀ k, k < w.heap.size → k ≠ K → v.ownBlock ≠ some k → (w3.setCell ⟨K, 0, none⟩ v').heap[k]? = w.heap[k]? := fun k hk hc hd => by
    rw [heap_setCell_other w3 ⟨K, 0, none⟩ k v' hc]
    exact hg.block k hk (fun e => hd e.symm)
  have hs : Solid w (w3.setCell ⟨K, 0, none⟩ v') := fun b cur fr hh => by
    rw [hb b (heap_lt hh) (fun e => ?_) (fun e => ?_)]
    · exact hh
    · subst e
      rw [h.heap] at hh
      exact absurd (tag_eq hh) (by decide)
    · obtain ⟨_, cc, fr', hd⟩ := ownsRow_tag h.row e
      rw [hd] at hh
      exact absurd (tag_eq hh) (by decide)
  have hT : Tch (fun k => k = K ∨ v.ownBlock = some k) w (w3.setCell ⟨K, 0, none⟩ v') := ⟨hg.os, hg.tape, hg.output, by simpa using hg.size, fun k hk hn => hb k hk (fun e => hn (Or.inl e)) (fun e => hn (Or.inr e)), hs⟩
  have hoff : ∀ {F : Nat → Prop} {C : Nat} {c : M.Cop}, CpIs base w F C c R → Off F (fun k => k = K ∨ v.ownBlock = some k) := fun hc b hF e => by
    rcases e with rfl | e
    · exact hc.other h.heap (by decide) (by decide) (by decide) (by decide) hF
    · obtain ⟨_, cc, fr', hd⟩ := ownsRow_tag h.row e
      exact hc.other hd (by decide) (by decide) (by decide) (by decide) hF
  refine ⟨⟨h.lo, ?_, ?_, fun i hi => ?_, fun a b ha hb' hab => ?_⟩, hT.below (fun k hk => ?_) h.base_le⟩
  · rw [heap_setCell_same w3 K 0 _ _ _ h3]; rfl
  · rw [List.length_append, ptrs_snoc]
    exact hr.kept (grownBy_setCell w3 ⟨K, 0, none⟩ v') (Or.inr hne')
  · by_cases e : i = Cs.length
    · subst e
      rw [upd_same, upd_same, List.getElem_append_right (Nat.le_refl _)]
      simp only [Nat.sub_self, List.getElem_cons_zero]
      exact hC.keep hT (hoff hC)
    · have hi' : i < Cs.length := by rw [List.length_append] at hi; simp at hi; omega
      rw [upd_other e, upd_other e, List.getElem_append_left hi']
      exact (h.cps i hi').keep hT (hoff (h.cps i hi'))
  · rw [List.length_append] at ha hb'
    simp at ha hb'
    by_cases e1 : a = Cs.length
    · subst e1
      rw [upd_same, upd_other (fun e => hab e.symm)]
      exact hF b (by omega)
    · by_cases e2 : b = Cs.length
      · subst e2
        rw [upd_same, upd_other e1]
        exact (hF a (by omega)).symm
      · rw [upd_other e1, upd_other e2]; exact h.off a b (by omega) (by omega) hab
  · rcases hk with rfl | hk
    · exact h.lo
    · exact (ownsRow_tag h.row hk).1
end

/-- a crowd of n copies, each of them c, by the rules R, in the blocks F -/
structure CwIs (base : Nat) (w : World) (F : Nat → Prop) (K n : Nat) (c : M.Cop) (R : List M.Rul) : Prop where
  ok : c.Ok
  fine : M.rulE R = 0
  one : 1 ≤ n
  seven : n ≤ 7
  is : ∃ v Cs Fs, Cs.length = n ∧ F = cwF K v n Fs ∧ Cw base w K v (M.need n) Cs Fs (fun _ => c) R
section
variable {base : Nat} {w w' : World} {F G : Nat → Prop} {K n : Nat} {c : M.Cop} {R : List M.Rul}
theorem CwIs.lows (h : CwIs base w F K n c R) : ∀ i, F i → base ≤ i := by
  obtain ⟨v, Cs, Fs, rfl, rfl, hc⟩ := h.is
  exact hc.lows
theorem CwIs.highs (h : CwIs base w F K n c R) : ∀ i, F i → i < w.heap.size := by
  obtain ⟨v, Cs, Fs, rfl, rfl, hc⟩ := h.is
  exact hc.highs
theorem CwIs.quiet (h : CwIs base w F K n c R) (hb : Below w.heap.size w w') : CwIs base w' F K n c R := by
  obtain ⟨v, Cs, Fs, rfl, rfl, hc⟩ := h.is
  exact ⟨h.ok, h.fine, h.one, h.seven, v, Cs, Fs, rfl, rfl, hc.quiet hb⟩
theorem CwIs.keep (h : CwIs base w F K n c R) (ht : Tch G w w') (hd : Off F G) : CwIs base w' F K n c R := by
  obtain ⟨v, Cs, Fs, rfl, rfl, hc⟩ := h.is
  exact ⟨h.ok, h.fine, h.one, h.seven, v, Cs, Fs, rfl, rfl, hc.keep ht hd⟩
end

end Go.Proofs.YtlefhfmckimlaakGreatDoor
