/-
  What the document's own space does: Put, First, Count of package tupleref1, each as one law of its call.
  Plain facts on a list of what was done: the last of somebody's. No program is walked here.
  The document's copy in memory of a law's own: a struct that leads to the document's space and to a list of what was done; what a call on it leaves as it was.
-/
import Derived.Test.YtlefhfmckimlaaiGreatDoorJ28A
import Derived.Test.YtlefhfmckimlaaiGreatDoorRefTup
import Derived.Test.YtlefhfmckimlaaiGreatDoorJ15A
import Derived.Test.YtlefhfmckimlaaiGreatDoorJ2A
import Derived.Test.YtlefhfmckimlaaiGreatDoorJ9A
namespace Go.Proofs.YtlefhfmckimlaaiGreatDoor
open Go.RowKit

/-- the document's space of a law that came in with w0: its tuples came in -/
abbrev Ref (w0 w : World) (R : Nat) (u : Value) (L : List (List M.Val)) : Prop := Sp 46 (IsVals w0) w0.heap.size w R u L

theorem rput_bad (R : Nat) (t : Value) (l : List M.Val) (w : World) (ht : IsVals w t l) (hf : M.tupF l ≠ 0) :
    Calls Tryz.prog 28 #[.pointer (some ⟨R, 0, none⟩), t] w fun e w' => e = .returned (.int .i64 (M.tupF l)) ∧ Below w.heap.size w w' := by
  have HC := hide (rtuple t l w ht)
  generalize M.tupF l = c at *
  have hb : (c == 0) = false := by simpa using hf
  clear ht
  go_enter Tryz.func28, Tryz.ntmps28
  go_wp2_with fail
  refine (unhide HC).mono ?_
  rintro e w1 ⟨rfl, hb1⟩
  go_wp2_with fail
  go_ret
  exact ⟨rfl, hb1⟩

theorem rput_full (R n cap : Nat) (ao : Option Addr) (t : Value) (l : List M.Val) (w : World) (ht : IsVals w t l) (hf : M.tupF l = 0) (hS : R < w.heap.size) (hc : w.cell? ⟨R, 0, none⟩ = some (.slice ao n cap)) (hn : 20 ≤ n) (hm : n ≤ maxLen) :
    Calls Tryz.prog 28 #[.pointer (some ⟨R, 0, none⟩), t] w fun e w' => e = .returned (.int .i64 4) ∧ Below w.heap.size w w' := by
  unfold maxLen at hm
  have HC : Hid (Calls Tryz.prog 48 #[t] w fun e w' => e = .returned (.int .i64 0) ∧ Below w.heap.size w w') := hide (by have := rtuple t l w ht; rwa [hf] at this)
  have h20 : (20 : Int) ≤ (n : Int) := by omega
  have HS := hide hS
  have HCe := hide hc
  clear hf ht hc
  go_enter Tryz.func28, Tryz.ntmps28
  go_wp2_with fail
  refine (unhide HC).mono ?_
  rintro e w1 ⟨rfl, hb1⟩
  have c1 : w1.cell? ⟨R, 0, none⟩ = some (.slice ao n cap) := (hb1.cell (p := ⟨R, 0, none⟩) HS.out).trans HCe.out
  go_wp2_with fail
  go_ret
  exact ⟨rfl, hb1⟩

set_option maxRecDepth 100000 in
theorem rput_ok (w0 : World) (R n cap m k : Nat) (ao a2 : Option Addr) (l : List M.Val) (L : List (List M.Val)) (w : World) (hs : Ref w0 w R (.slice ao n cap) L) (ht : IsVals w0 (.slice a2 m k) l) (hbw : Below w0.heap.size w0 w) (hf : M.tupF l = 0) (hL : n = L.length) (hn : n < 20) :
    Calls Tryz.prog 28 #[.pointer (some ⟨R, 0, none⟩), .slice a2 m k] w fun e w' => e = .returned (.int .i64 0) ∧ ∃ u', Ref w0 w' R u' (L ++ [l]) ∧ Touch R (.slice ao n cap) w w' ∧ Near w (.slice ao n cap) u' := by
  obtain ⟨i0, hi, hz0, hz1, hz2⟩ := info_parts infoT
  have HI := hide (And.intro hi (And.intro hz0 (And.intro hz1 hz2)))
  have HC : Hid (Calls Tryz.prog 48 #[.slice a2 m k] w fun e w' => e = .returned (.int .i64 0) ∧ Below w.heap.size w w') := hide (by have := rtuple _ l w (ht.stays hbw (Nat.le_refl _)); rwa [hf] at this)
  have h20 : ¬ (20 : Int) ≤ (n : Int) := by omega
  have HP := hide hs
  have HT := hide ht
  have HL := hide hL
  clear hf ht hs hL hi hz0 hz1 hz2 hbw
  go_enter Tryz.func28, Tryz.ntmps28
  go_wp2_with fail
  refine (unhide HC).mono ?_
  rintro e w1 ⟨rfl, hb1⟩
  have HP1 : Hid (Ref w0 w1 R (.slice ao n cap) L) := hide (Sp.quiet HP.out hb1)
  have HA : Hid (Ref w0 (w1.alloc (.cells #[.slice a2 m k] 35)) R (.slice ao n cap) L) := hide (Sp.quiet HP1.out ((Below.refl _ _).alloc (Nat.le_refl _) _))
  obtain ⟨c1, f1, s1⟩ := HP1.out.cell
  have hne := hide (HP1.out.row_ne (by decide))
  obtain ⟨xs, hx1, hx2⟩ := HA.out.row
  rw [← HL.out] at hx1
  have HX := hide hx1
  have HX2 := hide hx2
  have HB1 := hide hb1
  have HWS := hide (Nat.le_trans HA.out.lo (Nat.le_of_lt HA.out.cell.2.2))
  have HNW : Hid (∀ j u, [Value.slice a2 m k][j]? = some u → (w1.alloc (.cells #[.slice a2 m k] 35)).cell? ((⟨w1.heap.size, 0, none⟩ : Addr).add j) = some u) := hide (World.news_of_block (heap_alloc_new w1 _))
  clear hb1 hx1 hx2
  go_wp2_with (at_builtin; refine wpList_append_lies _ rfl (.tmp 24) (.tmp 26) 43 rfl w0.heap.size 35 i0 (.slice none 0 0) 1 24 Tryz.underlying43 HI.out.1 HI.out.2.1 HI.out.2.2.1 HI.out.2.2.2 rfl (by decide) (.slice ao n cap) n xs rfl HX.out ⟨w1.heap.size, 0, none⟩ 1 1 [.slice a2 m k] rfl rfl HNW.out (by intro u hu; simp at hu; subst hu; rfl) (by decide) (by unfold maxLen; omega) (by omega) HWS.out (w1.heap.size + 1) (by simp) ?_)
  intro g3 k3 w3 hown3 hgrow3 hat3 hlt3
  have c4 : w3.cell? ⟨R, 0, none⟩ = some (.slice ao n cap) := hgrow3.cell HA.out.cell.1 (fun e => hne.out e.symm)
  have f4 : w3.frozen? ⟨R, 0, none⟩ = false := (World.frozen?_of_block (hgrow3.block R HA.out.cell.2.2 (fun e => hne.out e.symm))).trans HA.out.cell.2.1
  have HO3 := hide hown3
  have HG3 := hide hgrow3
  have HAT := hide hat3
  clear hown3 hgrow3 hat3
  go_wp2
  go_ret
  have hn3 := near_lies (w := w1.alloc (.cells #[.slice a2 m k] 35)) (n := n + 1) (c := k3) HAT.out (by simp)
  obtain ⟨h1, h2⟩ := Sp.stored (by decide) HA.out HG3.out (RowOf.more (HL.out ▸ HX.out) HX2.out (HL.out ▸ HO3.out) HT.out) hn3
  exact ⟨rfl, _, h1, (h2.after ((Below.refl _ _).alloc (Nat.le_refl _) _)).after HB1.out, hn3.mono (Nat.le_trans HB1.out.size (by simp))⟩

theorem rput (w0 : World) (R : Nat) (u t : Value) (l : List M.Val) (L : List (List M.Val)) (w : World) (hs : Ref w0 w R u L) (hL : M.Fine L) (ht : IsVals w0 t l) (hbw : Below w0.heap.size w0 w) :
    Calls Tryz.prog 28 #[.pointer (some ⟨R, 0, none⟩), t] w fun e w' => e = .returned (.int .i64 (M.putF L l)) ∧ ∃ u', Ref w0 w' R u' (M.putL L l) ∧ Touch R u w w' ∧ Near w u u' := by
  have htw := ht.stays hbw (Nat.le_refl _)
  by_cases hf : M.tupF l = 0
  · obtain ⟨ao, cap, rfl⟩ := hs.row.shape
    obtain ⟨hc, _, hS⟩ := hs.cell
    by_cases hn : L.length < 20
    · rw [putF_ok hf hn, putL_yes (putF_ok hf hn)]
      obtain ⟨a2, c2, rfl, _⟩ := ht.shape
      exact rput_ok w0 R L.length cap _ c2 ao a2 l L w hs ht hbw hf rfl hn
    · have e4 := putF_full (L := L) hf (by omega)
      rw [e4, putL_no (by rw [e4]; decide)]
      refine (rput_full R L.length cap ao t l w htw hf hS hc (by omega) (by have := hL.2; unfold maxLen; omega)).mono ?_
      rintro e w' ⟨rfl, hb⟩
      exact ⟨rfl, _, Sp.quiet hs hb, Touch.of_below hb, Near.refl _ _⟩
  · rw [putF_bad hf, putL_no (by rw [putF_bad hf]; exact hf)]
    refine (rput_bad R t l w htw hf).mono ?_
    rintro e w' ⟨rfl, hb⟩
    exact ⟨rfl, _, Sp.quiet hs hb, Touch.of_below hb, Near.refl _ _⟩

end Go.Proofs.YtlefhfmckimlaaiGreatDoor

namespace Go.Proofs.YtlefhfmckimlaaiGreatDoor.M

/-- what was done by somebody -/
structure Dn where
  who : Int
  seq : Int
  ans : ByteArray
def lastD (D : List Dn) (k : Int) : Int × ByteArray := D.foldl (fun r d => if d.who = k then (d.seq, d.ans) else r) (0, sNo)
theorem lastD_nil : lastD [] = fun _ => (0, sNo) := rfl
theorem lastD_snoc (D : List Dn) (a : Ask) (s : ByteArray) : lastD (D ++ [⟨a.who, a.seq, s⟩]) = upG (lastD D) a s := by
  funext k
  unfold lastD upG
  rw [List.foldl_append]
  simp only [List.foldl_cons, List.foldl_nil]
  by_cases h : k = a.who
  · rw [if_pos h.symm, if_pos h]
  · rw [if_neg (fun e => h e.symm), if_neg h]
theorem fold_skip (k : Int) : ∀ (l : List Dn) (r : Int × ByteArray), (∀ d ∈ l, d.who ≠ k) → l.foldl (fun r d => if d.who = k then (d.seq, d.ans) else r) r = r
  | [], _, _ => rfl
  | d :: l, r, h => by
    rw [List.foldl_cons, if_neg (h d (by simp))]
    exact fold_skip k l r (fun x hx => h x (by simp [hx]))
theorem lastD_none {D : List Dn} {k : Int} (h : ∀ j (hj : j < D.length), D[j].who ≠ k) : lastD D k = (0, sNo) := fold_skip k D _ fun d hd => by
  obtain ⟨i, hi, rfl⟩ := List.getElem_of_mem hd
  exact h i hi
theorem lastD_at {D : List Dn} {k : Int} {i : Nat} (hi : i < D.length) (h : D[i].who = k) (hj : ∀ j (hj : j < D.length), i < j → D[j].who ≠ k) : lastD D k = (D[i].seq, D[i].ans) := by
  have key : ∀ (x : Dn) (A B : List Dn), x.who = k → (∀ d ∈ B, d.who ≠ k) → lastD (A ++ x :: B) k = (x.seq, x.ans) := fun x A B hx hB => by
    unfold lastD
    rw [List.foldl_append, List.foldl_cons, if_pos hx]
    exact fold_skip k _ _ hB
  have e : D.take i ++ D[i] :: D.drop (i + 1) = D := by simp
  have h2 := key D[i] (D.take i) (D.drop (i + 1)) h (fun d hd => by
    obtain ⟨j, hj', rfl⟩ := List.getElem_of_mem hd
    rw [List.length_drop] at hj'
    rw [List.getElem_drop]
    exact hj _ (by omega) (by omega))
  rwa [e] at h2

end Go.Proofs.YtlefhfmckimlaaiGreatDoor.M

set_option linter.unusedVariables false
namespace Go.Proofs.YtlefhfmckimlaaiGreatDoor
open Go.RowKit

/-- the cells of what was done, in a row -/
def cellsD : List M.Dn → List Value
  | [] => []
  | d :: l => .int .i64 d.who :: .int .i64 d.seq :: .string d.ans :: cellsD l
theorem cellsD_len : ∀ l : List M.Dn, (cellsD l).length = l.length * 3
  | [] => rfl
  | v :: l => by simp only [cellsD, List.length_cons, cellsD_len l]; omega
theorem cellsD_append : ∀ a b : List M.Dn, cellsD (a ++ b) = cellsD a ++ cellsD b
  | [], b => rfl
  | v :: a, b => by simp only [List.cons_append, cellsD, cellsD_append a b]
theorem cellsD_at : ∀ (l : List M.Dn) (i : Nat) (h : i < l.length), (cellsD l)[i * 3]? = some (.int .i64 l[i].who) ∧ (cellsD l)[i * 3 + 1]? = some (.int .i64 l[i].seq) ∧ (cellsD l)[i * 3 + 2]? = some (.string l[i].ans)
  | [], i, h => by simp at h
  | v :: l, 0, _ => by simp [cellsD]
  | v :: l, i + 1, h => by
    have ih := cellsD_at l i (by simpa using h)
    have e : (i + 1) * 3 = i * 3 + 3 := by omega
    rw [e]
    simpa [cellsD] using ih
theorem cellsD_one : ∀ (l : List M.Dn), ∀ u ∈ cellsD l, u.oneCell' = true
  | [], u, h => by cases h
  | d :: l, u, h => by
    simp only [cellsD, List.mem_cons] at h
    rcases h with rfl | rfl | rfl | h
    · rfl
    · rfl
    · rfl
    · exact cellsD_one l u h

/-- the document's copy of a law that came in with w0 -/
structure Rc (w0 w : World) (C S : Nat) (u dv rv : Value) (K : List (List M.Val)) (D : List M.Dn) (n : Int) : Prop where
  lo : w0.heap.size ≤ C
  heap : w.heap[C]? = some (.cells #[rv, .pointer (some ⟨S, 0, none⟩), dv, .int .i64 n] 50 (0, 0))
  sp : Ref w0 w S u K
  row : w.ownsRow w0.heap.size 84 3 dv D.length (cellsD D)
  bel : Below w0.heap.size w0 w
/-- its blocks -/
def rcF (C S : Nat) (u dv : Value) (k : Nat) : Prop := k = C ∨ k = S ∨ u.ownBlock = some k ∨ dv.ownBlock = some k
section
variable {w0 w w' : World} {C S : Nat} {u u' dv dv' rv : Value} {K K' : List (List M.Val)} {D D' : List M.Dn} {n n' : Int}
theorem Rc.cells (h : Rc w0 w C S u dv rv K D n) : w.cell? ⟨C, 0, none⟩ = some rv ∧ w.cell? ⟨C, 1, none⟩ = some (.pointer (some ⟨S, 0, none⟩)) ∧ w.cell? ⟨C, 2, none⟩ = some dv ∧ w.cell? ⟨C, 3, none⟩ = some (.int .i64 n) ∧ C < w.heap.size ∧ ∀ j, w.frozen? ⟨C, j, none⟩ = false := by
  refine ⟨?_, ?_, ?_, ?_, heap_lt h.heap, fun j => frozen_of_row w C j _ _ h.heap⟩
  · rw [cell_of_row w C 0 _ _ (0, 0) h.heap]; rfl
  · rw [cell_of_row w C 1 _ _ (0, 0) h.heap]; rfl
  · rw [cell_of_row w C 2 _ _ (0, 0) h.heap]; rfl
  · rw [cell_of_row w C 3 _ _ (0, 0) h.heap]; rfl
theorem Rc.lows (h : Rc w0 w C S u dv rv K D n) : ∀ k, rcF C S u dv k → w0.heap.size ≤ k := fun k hk => by
  rcases hk with rfl | rfl | hk | hk
  · exact h.lo
  · exact h.sp.lo
  · exact (h.sp.row.lt k hk).1
  · exact (ownsRow_tag h.row hk).1
theorem Rc.highs (h : Rc w0 w C S u dv rv K D n) : ∀ k, rcF C S u dv k → k < w.heap.size := fun k hk => by
  rcases hk with rfl | rfl | hk | hk
  · exact heap_lt h.heap
  · exact heap_lt h.sp.heap
  · exact (h.sp.row.lt k hk).2
  · obtain ⟨_, c, fr, hh⟩ := ownsRow_tag h.row hk
    exact heap_lt hh
theorem Rc.kept (h : Rc w0 w C S u dv rv K D n) (hk : Kept w0.heap.size (rcF C S u dv) w w') : Rc w0 w' C S u dv rv K D n :=
  ⟨h.lo, (hk.block C (Or.inl rfl)).trans h.heap, h.sp.at (hk.block S (Or.inr (Or.inl rfl))) (fun g hg => hk.block g (Or.inr (Or.inr (Or.inl hg)))), ownsRow_at h.row (fun g hg => hk.block g (Or.inr (Or.inr (Or.inr hg)))), h.bel.trans hk.below⟩
theorem Rc.quiet (h : Rc w0 w C S u dv rv K D n) (hb : Below w.heap.size w w') : Rc w0 w' C S u dv rv K D n := h.kept (Kept.of_below h.highs h.bel.size hb)
theorem Rc.thing (h : Rc w0 w C S u dv rv K D n) : Thing w0.heap.size (rcF C S u dv) (fun w' => Rc w0 w' C S u dv rv K D n) w := ⟨h.lows, h.highs, h.bel.size, fun _ hk => h.kept hk⟩
/-- behind a call on its space -/
theorem Rc.space (h : Rc w0 w C S u dv rv K D n) (hs : Ref w0 w' S u' K') (ht : Touch S u w w') (hn : Near w u u') : Rc w0 w' C S u' dv rv K' D n ∧ Tch (rcF C S u dv) w w' ∧ Grows w (rcF C S u dv) (rcF C S u' dv) := by
  obtain ⟨c1, c2⟩ := h.sp.other h.heap (by decide) (by decide)
  refine ⟨⟨h.lo, (ht.block C (heap_lt h.heap) c1 c2).trans h.heap, hs, ownsRow_at h.row (fun g hg => ?_), h.bel.trans (Sp.below h.sp ht (Nat.le_refl _))⟩, (h.sp.tch (by decide) ht).mono (fun k hk => ?_), fun k hk => ?_⟩
  · obtain ⟨_, c, fr, hh⟩ := ownsRow_tag h.row hg
    obtain ⟨d1, d2⟩ := h.sp.other hh (by decide) (by decide)
    exact ht.block g (heap_lt hh) d1 d2
  · rcases hk with rfl | hk
    · exact Or.inr (Or.inl rfl)
    · exact Or.inr (Or.inr (Or.inl hk))
  · rcases hk with rfl | rfl | hk | hk
    · exact Or.inl (Or.inl rfl)
    · exact Or.inl (Or.inr (Or.inl rfl))
    · rcases hn.grows hk with g | g
      · exact Or.inl (Or.inr (Or.inr (Or.inl g)))
      · exact Or.inr g
    · exact Or.inl (Or.inr (Or.inr (Or.inr hk)))
/-- a block of values is none of its own -/
theorem Rc.solid (h : Rc w0 w C S u dv rv K D n) (hb : ∀ k, k < w.heap.size → k ≠ C → dv.ownBlock ≠ some k → w'.heap[k]? = w.heap[k]?) : Solid w w' := fun b cur fr hh => by
  rw [hb b (heap_lt hh) (fun e => ?_) (fun e => ?_)]
  · exact hh
  · subst e
    rw [h.heap] at hh
    exact absurd (tag_eq hh) (by decide)
  · obtain ⟨_, c, fr', hd⟩ := ownsRow_tag h.row e
    rw [hd] at hh
    exact absurd (tag_eq hh) (by decide)
/-- behind a writing of its own struct's number -/
theorem Rc.many (h : Rc w0 w C S u dv rv K D n) : Rc w0 (w.setCell ⟨C, 3, none⟩ (.int .i64 n')) C S u dv rv K D n' ∧ Tch (rcF C S u dv) w (w.setCell ⟨C, 3, none⟩ (.int .i64 n')) := by
  have hg := grownBy_setCell w ⟨C, 3, none⟩ (.int .i64 n')
  have hb : ∀ k, k < w.heap.size → k ≠ C → (w.setCell ⟨C, 3, none⟩ (.int .i64 n')).heap[k]? = w.heap[k]? := fun k hk hc => hg.block k hk (fun e => hc (by cases e; rfl))
  obtain ⟨c1, c2⟩ := h.sp.other h.heap (by decide) (by decide)
  have hT : Tch (rcF C S u dv) w (w.setCell ⟨C, 3, none⟩ (.int .i64 n')) := ⟨hg.os, hg.tape, hg.output, hg.size, fun k hk hn => hb k hk (fun e => hn (Or.inl e)), h.solid (fun k hk hc _ => hb k hk hc)⟩
  refine ⟨⟨h.lo, ?_, h.sp.at (hb S (heap_lt h.sp.heap) c1.symm) (fun g hg' => hb g (h.sp.row.lt g hg').2 (fun e => c2 (e ▸ hg'))), ownsRow_at h.row (fun g hg' => ?_), h.bel.trans (hT.below h.lows h.bel.size)⟩, hT⟩
  · rw [heap_setCell_same w C 3 _ _ _ h.heap]; rfl
  · obtain ⟨_, c, fr, hh⟩ := ownsRow_tag h.row hg'
    refine hb g (heap_lt hh) (fun e => ?_)
    subst e
    rw [h.heap] at hh
    exact absurd (tag_eq hh) (by decide)
/-- behind an append to its list, and the store of what came of it -/
theorem Rc.done {w3 : World} (h : Rc w0 w C S u dv rv K D n) (hg : w.grownBy w3 dv.ownBlock) (hr : w3.ownsRow w0.heap.size 84 3 dv' D'.length (cellsD D')) (hn : Near w dv dv') :
    Rc w0 (w3.setCell ⟨C, 2, none⟩ dv') C S u dv' rv K D' n ∧ Tch (rcF C S u dv) w (w3.setCell ⟨C, 2, none⟩ dv') ∧ Grows w (rcF C S u dv) (rcF C S u dv') := by
  have hne : dv.ownBlock ≠ some C := fun e => by
    obtain ⟨_, c, fr, hh⟩ := ownsRow_tag h.row e
    rw [h.heap] at hh
    exact absurd (tag_eq hh) (by decide)
  have hne' : dv'.ownBlock ≠ some C := fun e => by
    rcases hn with hn | hn
    · rw [hn] at e; exact hne e
    · have := hn C e; have := heap_lt h.heap; omega
  have h3 : w3.heap[C]? = some (.cells #[rv, .pointer (some ⟨S, 0, none⟩), dv, .int .i64 n] 50 (0, 0)) := (hg.block C (heap_lt h.heap) (fun e => hne e.symm)).trans h.heap
  have hb : ∀ k, k < w.heap.size → k ≠ C → dv.ownBlock ≠ some k → (w3.setCell ⟨C, 2, none⟩ dv').heap[k]? = w.heap[k]? := fun k hk hc hd => by
    rw [heap_setCell_other w3 ⟨C, 2, none⟩ k dv' hc]
    exact hg.block k hk (fun e => hd e.symm)
  obtain ⟨c1, c2⟩ := h.sp.other h.heap (by decide) (by decide)
  have hT : Tch (rcF C S u dv) w (w3.setCell ⟨C, 2, none⟩ dv') := ⟨hg.os, hg.tape, hg.output, by simpa using hg.size, fun k hk hn => hb k hk (fun e => hn (Or.inl e)) (fun e => hn (Or.inr (Or.inr (Or.inr e)))), h.solid hb⟩
  refine ⟨⟨h.lo, ?_, h.sp.at (hb S (heap_lt h.sp.heap) c1.symm (fun e => ?_)) (fun g hg' => hb g (h.sp.row.lt g hg').2 (fun e => c2 (e ▸ hg')) (fun e => ?_)), hr.kept (grownBy_setCell w3 ⟨C, 2, none⟩ dv') (Or.inr hne'), h.bel.trans (hT.below h.lows h.bel.size)⟩, hT, fun k hk => ?_⟩
  · rw [heap_setCell_same w3 C 2 _ _ _ h3]; rfl
  · obtain ⟨_, c, fr, hh⟩ := ownsRow_tag h.row e
    exact (h.sp.other hh (by decide) (by decide)).1 rfl
  · obtain ⟨_, c, fr, hh⟩ := ownsRow_tag h.row e
    exact (h.sp.other hh (by decide) (by decide)).2 hg'
  · rcases hk with rfl | rfl | hk | hk
    · exact Or.inl (Or.inl rfl)
    · exact Or.inl (Or.inr (Or.inl rfl))
    · exact Or.inl (Or.inr (Or.inr (Or.inl hk)))
    · rcases hn.grows hk with g | g
      · exact Or.inl (Or.inr (Or.inr (Or.inr g)))
      · exact Or.inr g
end

end Go.Proofs.YtlefhfmckimlaaiGreatDoor
