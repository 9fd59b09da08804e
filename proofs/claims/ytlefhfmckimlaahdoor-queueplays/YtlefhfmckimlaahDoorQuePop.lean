/-
  What Pop of package queue does, as one law of its call.
-/
import Derived.Test.YtlefhfmckimlaahDoorQuePush
import Derived.Test.YtlefhfmckimlaahDoorQueDel
set_option linter.unusedVariables false
namespace Go.Proofs.YtlefhfmckimlaahDoor
open Go.RowKit

theorem qpop_none {base S B : Nat} {w : World} {v : Value} {n : Nat} {f : Int → Int} (h : Qs base w S B v [] n f) :
    Calls Tryd.prog 16 #[.pointer (some ⟨S, 0, none⟩)] w fun e w' => e = .returned (.tuple #[aggA 0 0 0 none 0 0, errV 5]) ∧ Below w.heap.size w w' := by
  obtain ⟨ao, cap, rfl⟩ := h.shape
  have c0 := h.c0
  have hl := h.lt
  simp only [List.length_nil] at c0
  clear h
  go_enter Tryd.func16, Tryd.ntmps16
  go_wp2
  refine bodyPost_ret (v := .tuple #[aggA 0 0 0 none 0 0, .iface 53 (.int .i64 5)]) (by simp [results, Tryd.results16, go_sem]) rfl ⟨rfl, (Below.refl _ _).alloc (Nat.le_refl _) _⟩

theorem cellsQ_one : ∀ (l : List QEnt), ∀ u ∈ cellsQ l, u.oneCell' = true
  | [], u, h => by cases h
  | e :: l, u, h => by
    simp only [cellsQ, List.mem_cons] at h
    rcases h with rfl | rfl | rfl | rfl | h
    · rfl
    · rfl
    · rfl
    · rfl
    · exact cellsQ_one l u h

theorem grown_trans {a b c : World} {r : Option Nat} (h : a.grownBy b r) (k : b.grownBy c r) : a.grownBy c r :=
  ⟨k.os.trans h.os, k.tape.trans h.tape, k.output.trans h.output, Nat.le_trans h.size k.size, fun i hi hne => (k.block i (Nat.lt_of_lt_of_le hi h.size) hne).trans (h.block i hi hne)⟩
theorem grown_four (w : World) (N : Nat) (u0 u1 u2 u3 : Value) : w.grownBy ((((w.setCell ⟨N, 0, none⟩ u0).setCell ⟨N, 1, none⟩ u1).setCell ⟨N, 2, none⟩ u2).setCell ⟨N, 3, none⟩ u3) (some N) :=
  grown_trans (grown_trans (grown_trans (grownBy_setCell w ⟨N, 0, none⟩ u0) (grownBy_setCell _ ⟨N, 1, none⟩ u1)) (grownBy_setCell _ ⟨N, 2, none⟩ u2)) (grownBy_setCell _ ⟨N, 3, none⟩ u3)
theorem solid_boxG {w w' : World} {N : Nat} {c : Array Value} {fr : Nat × Nat} (hN : w.heap[N]? = some (.cells c 41 fr)) (hg : w.grownBy w' (some N)) : Solid w w' := fun b cur fr' hb => by
  rw [hg.block b (heap_lt hb) (fun e => ?_)]
  · exact hb
  · cases e
    rw [hN] at hb
    exact absurd (tag_eq hb) (by decide)
/-- a queue stays while a box is written, however -/
theorem Qs.boxG {base S B N : Nat} {w w' : World} {v : Value} {E : List QEnt} {n : Nat} {f : Int → Int} {c : Array Value} {fr : Nat × Nat} (h : Qs base w S B v E n f) (hN : w.heap[N]? = some (.cells c 41 fr)) (hr : v.ownBlock ≠ some N) (hg : w.grownBy w' (some N)) : Qs base w' S B v E n f := by
  obtain ⟨n1, n2⟩ := h.boxed hN
  obtain ⟨D, hD, hf⟩ := h.map
  exact ⟨h.lo, h.lob, (hg.block S h.lt (fun e => n1 (by cases e; rfl))).trans h.heap, h.row.kept hg (fun g hv e => hr (by cases e; exact hv)), fun x hx => (h.own x hx).solid (solid_boxG hN hg), D, hD.kept hg (fun e => n2 (by cases e; rfl)), hf⟩
theorem TouchQ.far {S B N : Nat} {v : Value} {a b c : World} (h : TouchQ S B v a b) (hN : a.heap.size ≤ N) (hg : b.grownBy c (some N)) : TouchQ S B v a c :=
  ⟨hg.os.trans h.os, hg.tape.trans h.tape, hg.output.trans h.output, Nat.le_trans h.size hg.size, fun k hk h1 h2 h3 => (hg.block k (Nat.lt_of_lt_of_le hk h.size) (fun e => by cases e; omega)).trans (h.block k hk h1 h2 h3)⟩

set_option maxRecDepth 100000 in
theorem qpop_ok {base S B : Nat} {w : World} {v : Value} {x : QEnt} {E : List QEnt} {n : Nat} {f : Int → Int} (h : Qs base w S B v (x :: E) n f) (hn : E.length < 100) :
    Calls Tryd.prog 16 #[.pointer (some ⟨S, 0, none⟩)] w fun e w' => e = .returned (.tuple #[aggA x.a.who x.a.seq x.a.deed x.x x.n x.c, .nilIface]) ∧ ∃ v', Qs base w' S B v' E n f ∧ OwnT base w' x.v x.a.t ∧ TouchQ S B v w w' ∧ Near w v v' := by
  obtain ⟨g, o, cap, rfl, hgb, hgl, hnc, hcm⟩ := h.row.form (by simp)
  simp only [List.length_cons] at hnc
  obtain ⟨m, hm⟩ : ∃ m, m = E.length := ⟨_, rfl⟩
  have HM := hide hm
  have hrow := h.row
  simp only [List.length_cons] at hrow
  have e0 : w.cell? ⟨g, o + 0, none⟩ = some (.int .i64 x.a.who) := (hrow.cellAt (j := 0) (by omega)).trans rfl
  have e1 : w.cell? ⟨g, o + 1, none⟩ = some (.int .i64 x.a.seq) := (hrow.cellAt (j := 1) (by omega)).trans rfl
  have e2 : w.cell? ⟨g, o + 2, none⟩ = some (.int .i64 x.a.deed) := (hrow.cellAt (j := 2) (by omega)).trans rfl
  have e3 : w.cell? ⟨g, o + 3, none⟩ = some (.slice x.x x.n x.c) := (hrow.cellAt (j := 3) (by omega)).trans rfl
  rw [Nat.add_zero] at e0
  rw [← hm] at hn hnc
  have c0 := h.c0
  simp only [List.length_cons] at c0
  rw [← hm] at c0
  have hl := h.lt
  have HH : Hid (Qs base w S B (.slice (some ⟨g, o, none⟩) (m + 1) cap) (x :: E) n f) := hide (by have := h; simp only [List.length_cons] at this; rwa [← hm] at this)
  have hne : g ≠ S := fun e => h.row_ne (by rw [e]; rfl)
  have h01 : ¬ (((m : Int) + 1) = 0) := by omega
  have h02 : (0 : Int) < (m : Int) + 1 := by omega
  simp only [List.length_cons]
  rw [← hm]
  clear h hrow hm
  have HBB : Hid (Below w.heap.size w ((w.alloc (.cells #[.int .i64 0, .int .i64 0, .int .i64 0, .slice none 0 0] 41)).alloc (.cells #[.int .i64 x.a.who, .int .i64 x.a.seq, .int .i64 x.a.deed, .slice x.x x.n x.c] 41))) := hide (((Below.refl _ _).alloc (Nat.le_refl _) _).alloc (by simp) _)
  have HQB := hide (HH.out.below HBB.out)
  have HD : Hid (Calls Tryd.prog 25 #[.slice (some ⟨g, o, none⟩) (m + 1) cap, .int .i64 0, .int .i64 1] ((w.alloc (.cells #[.int .i64 0, .int .i64 0, .int .i64 0, .slice none 0 0] 41)).alloc (.cells #[.int .i64 x.a.who, .int .i64 x.a.seq, .int .i64 x.a.deed, .slice x.x x.n x.c] 41)) fun e w' => e = .returned (.slice (some ⟨g, o, none⟩) m cap) ∧ winRow w' base 41 4 (.slice (some ⟨g, o, none⟩) m cap) m (cellsQ E) ∧ World.grownBy ((w.alloc (.cells #[.int .i64 0, .int .i64 0, .int .i64 0, .slice none 0 0] 41)).alloc (.cells #[.int .i64 x.a.who, .int .i64 x.a.seq, .int .i64 x.a.deed, .slice x.x x.n x.c] 41)) w' (some g)) := hide (by
    have hr := HQB.out.row
    simp only [List.length_cons] at hr
    rw [← HM.out] at hr
    exact qdel hr (cellsQ_one _) (by omega))
  have HX1 : Hid (((w.alloc (.cells #[.int .i64 0, .int .i64 0, .int .i64 0, .slice none 0 0] 41)).alloc (.cells #[.int .i64 x.a.who, .int .i64 x.a.seq, .int .i64 x.a.deed, .slice x.x x.n x.c] 41)).heap[w.heap.size]? = some (.cells #[.int .i64 0, .int .i64 0, .int .i64 0, .slice none 0 0] 41 (0, 0))) := hide ((Below.heap_alloc _ _ _ (by simp)).trans (heap_alloc_new w _))
  have HX2 : Hid (((w.alloc (.cells #[.int .i64 0, .int .i64 0, .int .i64 0, .slice none 0 0] 41)).alloc (.cells #[.int .i64 x.a.who, .int .i64 x.a.seq, .int .i64 x.a.deed, .slice x.x x.n x.c] 41)).heap[w.heap.size + 1]? = some (.cells #[.int .i64 x.a.who, .int .i64 x.a.seq, .int .i64 x.a.deed, .slice x.x x.n x.c] 41 (0, 0))) := hide (by
    have := heap_alloc_new (w.alloc (.cells #[.int .i64 0, .int .i64 0, .int .i64 0, .slice none 0 0] 41)) (.cells #[.int .i64 x.a.who, .int .i64 x.a.seq, .int .i64 x.a.deed, .slice x.x x.n x.c] 41)
    simpa using this)
  go_enter Tryd.func16, Tryd.ntmps16
  go_wp2_with fail
  refine (unhide HD).mono ?_
  rintro e w2 ⟨rfl, hwin, hgrow⟩
  have HS3 := hide (HQB.out.stored (v' := .slice (some ⟨g, o, none⟩) m cap) (E' := E) hgrow (by rw [← HM.out]; exact hwin) (fun y hy => HQB.out.own y (List.mem_cons_of_mem _ hy)) (Or.inl rfl))
  have HOX := hide (HQB.out.own x (List.mem_cons_self ..))
  have hgN : g ≠ w.heap.size := by omega
  have hgN1 : g ≠ w.heap.size + 1 := by omega
  have HY1 : Hid (w2.heap[w.heap.size]? = _) := hide ((hgrow.block _ (heap_lt HX1.out) (fun e => hgN (by cases e; rfl))).trans HX1.out)
  have HY2 : Hid (w2.heap[w.heap.size + 1]? = _) := hide ((hgrow.block _ (heap_lt HX2.out) (fun e => hgN1 (by cases e; rfl))).trans HX2.out)
  have k0 : w2.cell? ⟨S, 0, none⟩ = some (.slice (some ⟨g, o, none⟩) (m + 1) cap) := hgrow.cell HQB.out.c0 (fun e => hne (by cases e; rfl))
  have z0 : w2.frozen? ⟨S, 0, none⟩ = false := (World.frozen?_of_block (hgrow.block S HQB.out.lt (fun e => hne (by cases e; rfl)))).trans (HQB.out.fz 0)
  have a0 : w2.cell? ⟨w.heap.size + 1, 0, none⟩ = some (.int .i64 x.a.who) := by rw [cell_of_row w2 _ 0 _ _ (0, 0) HY2.out]; rfl
  have a1 : w2.cell? ⟨w.heap.size + 1, 1, none⟩ = some (.int .i64 x.a.seq) := by rw [cell_of_row w2 _ 1 _ _ (0, 0) HY2.out]; rfl
  have a2 : w2.cell? ⟨w.heap.size + 1, 2, none⟩ = some (.int .i64 x.a.deed) := by rw [cell_of_row w2 _ 2 _ _ (0, 0) HY2.out]; rfl
  have a3 : w2.cell? ⟨w.heap.size + 1, 3, none⟩ = some (.slice x.x x.n x.c) := by rw [cell_of_row w2 _ 3 _ _ (0, 0) HY2.out]; rfl
  have b0 : w2.cell? ⟨w.heap.size, 0, none⟩ = some (.int .i64 0) := by rw [cell_of_row w2 _ 0 _ _ (0, 0) HY1.out]; rfl
  have b1 : w2.cell? ⟨w.heap.size, 1, none⟩ = some (.int .i64 0) := by rw [cell_of_row w2 _ 1 _ _ (0, 0) HY1.out]; rfl
  have b2 : w2.cell? ⟨w.heap.size, 2, none⟩ = some (.int .i64 0) := by rw [cell_of_row w2 _ 2 _ _ (0, 0) HY1.out]; rfl
  have b3 : w2.cell? ⟨w.heap.size, 3, none⟩ = some (.slice none 0 0) := by rw [cell_of_row w2 _ 3 _ _ (0, 0) HY1.out]; rfl
  have zN : ∀ j, w2.frozen? ⟨w.heap.size, j, none⟩ = false := fun j => frozen_of_row w2 _ j _ _ HY1.out
  have hs2 : S < w2.heap.size := Nat.lt_of_lt_of_le HQB.out.lt hgrow.size
  have hSN : w.heap.size ≠ S := by omega
  have hSN1 : w.heap.size + 1 ≠ S := by omega
  have sz := heap_lt HY2.out
  have HGR := hide hgrow
  clear hwin hgrow
  go_wp2_with fail
  refine bodyPost_ret (v := .tuple #[aggA x.a.who x.a.seq x.a.deed x.x x.n x.c, .nilIface]) (by simp [results, Tryd.results16, go_sem, b0, b1, b2, b3]) rfl ⟨rfl, ?_⟩
  have HY3 : (w2.setCell ⟨S, 0, none⟩ (.slice (some ⟨g, o, none⟩) m cap)).heap[w.heap.size]? = some (.cells #[.int .i64 0, .int .i64 0, .int .i64 0, .slice none 0 0] 41 (0, 0)) := (heap_setCell_other w2 ⟨S, 0, none⟩ w.heap.size _ hSN).trans HY1.out
  have hG4 := grown_four (w2.setCell ⟨S, 0, none⟩ (.slice (some ⟨g, o, none⟩) m cap)) w.heap.size (.int .i64 x.a.who) (.int .i64 x.a.seq) (.int .i64 x.a.deed) (.slice x.x x.n x.c)
  exact ⟨_, HS3.out.1.boxG HY3 (fun e => hgN (by simpa [Value.ownBlock] using e)) hG4, (HOX.out.solid (HQB.out.solid HS3.out.2)).solid (solid_boxG HY3 hG4), (HS3.out.2.after HBB.out).far (Nat.le_refl _) hG4, Or.inl rfl⟩

end Go.Proofs.YtlefhfmckimlaahDoor
