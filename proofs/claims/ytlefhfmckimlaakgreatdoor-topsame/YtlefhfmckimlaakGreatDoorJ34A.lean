/-
  What Pop of package queue does, as one law of its call.
  Push of package queue, whatever comes in, as one law of its call.
  Memory and plain facts for the Go function TopSame: a queue, a copy, a crowd and a log side by side, each in blocks of its own; what each answers of what the queue lets through.
  The state of a law of the whole that has one space, what each call makes of it, and the law's closed fact: what is put is taken.
-/
import Derived.Test.YtlefhfmckimlaakGreatDoorJ33A
import Derived.Test.YtlefhfmckimlaakGreatDoorLogCalls
import Derived.Test.YtlefhfmckimlaakGreatDoorJ31A
import Derived.Test.YtlefhfmckimlaakGreatDoorJ16A
import Derived.Test.YtlefhfmckimlaakGreatDoorJ17A
set_option linter.unusedVariables false
namespace Go.Proofs.YtlefhfmckimlaakGreatDoor
open Go.RowKit

theorem qpop_none {base S B : Nat} {w : World} {v : Value} {n : Nat} {f : Int → Int} (h : Qs base w S B v [] n f) :
    Calls Tryz.prog 27 #[.pointer (some ⟨S, 0, none⟩)] w fun e w' => e = .returned (.tuple #[aggA 0 0 0 none 0 0, errV 5]) ∧ Below w.heap.size w w' := by
  obtain ⟨ao, cap, rfl⟩ := h.shape
  have c0 := h.c0
  have hl := h.lt
  simp only [List.length_nil] at c0
  clear h
  go_enter Tryz.func27, Tryz.ntmps27
  go_wp2
  refine bodyPost_ret (v := .tuple #[aggA 0 0 0 none 0 0, .iface 87 (.int .i64 5)]) (by simp [results, Tryz.results27, go_sem]) rfl ⟨rfl, (Below.refl _ _).alloc (Nat.le_refl _) _⟩

theorem cellsQ_one : ∀ (l : List QEnt), ∀ u ∈ cellsQ l, u.oneCell' = true
  | [], u, h => by cases h
  | e :: l, u, h => by
    simp only [cellsQ, List.mem_cons] at h
    rcases h with rfl | rfl | rfl | rfl | h
    · rfl
    · rfl
    · rfl
    · rfl
    · exact cellsQ_one l u h

theorem grown_trans {a b c : World} {r : Option Nat} (h : a.grownBy b r) (k : b.grownBy c r) : a.grownBy c r :=
  ⟨k.os.trans h.os, k.tape.trans h.tape, k.output.trans h.output, Nat.le_trans h.size k.size, fun i hi hne => (k.block i (Nat.lt_of_lt_of_le hi h.size) hne).trans (h.block i hi hne)⟩
theorem grown_four (w : World) (N : Nat) (u0 u1 u2 u3 : Value) : w.grownBy ((((w.setCell ⟨N, 0, none⟩ u0).setCell ⟨N, 1, none⟩ u1).setCell ⟨N, 2, none⟩ u2).setCell ⟨N, 3, none⟩ u3) (some N) :=
  grown_trans (grown_trans (grown_trans (grownBy_setCell w ⟨N, 0, none⟩ u0) (grownBy_setCell _ ⟨N, 1, none⟩ u1)) (grownBy_setCell _ ⟨N, 2, none⟩ u2)) (grownBy_setCell _ ⟨N, 3, none⟩ u3)
theorem solid_boxG {w w' : World} {N : Nat} {c : Array Value} {fr : Nat × Nat} (hN : w.heap[N]? = some (.cells c 38 fr)) (hg : w.grownBy w' (some N)) : Solid w w' := fun b cur fr' hb => by
  rw [hg.block b (heap_lt hb) (fun e => ?_)]
  · exact hb
  · cases e
    rw [hN] at hb
    exact absurd (tag_eq hb) (by decide)
/-- a queue stays while a box is written, however -/
theorem Qs.boxG {base S B N : Nat} {w w' : World} {v : Value} {E : List QEnt} {n : Nat} {f : Int → Int} {c : Array Value} {fr : Nat × Nat} (h : Qs base w S B v E n f) (hN : w.heap[N]? = some (.cells c 38 fr)) (hr : v.ownBlock ≠ some N) (hg : w.grownBy w' (some N)) : Qs base w' S B v E n f := by
  obtain ⟨n1, n2⟩ := h.boxed hN
  obtain ⟨D, hD, hf⟩ := h.map
  exact ⟨h.lo, h.lob, (hg.block S h.lt (fun e => n1 (by cases e; rfl))).trans h.heap, h.row.kept hg (fun g hv e => hr (by cases e; exact hv)), fun x hx => (h.own x hx).solid (solid_boxG hN hg), D, hD.kept hg (fun e => n2 (by cases e; rfl)), hf⟩
theorem TouchQ.far {S B N : Nat} {v : Value} {a b c : World} (h : TouchQ S B v a b) (hN : a.heap.size ≤ N) (hg : b.grownBy c (some N)) : TouchQ S B v a c :=
  ⟨hg.os.trans h.os, hg.tape.trans h.tape, hg.output.trans h.output, Nat.le_trans h.size hg.size, fun k hk h1 h2 h3 => (hg.block k (Nat.lt_of_lt_of_le hk h.size) (fun e => by cases e; omega)).trans (h.block k hk h1 h2 h3)⟩

set_option maxRecDepth 100000 in
theorem qpop_ok {base S B : Nat} {w : World} {v : Value} {x : QEnt} {E : List QEnt} {n : Nat} {f : Int → Int} (h : Qs base w S B v (x :: E) n f) (hn : E.length < 100) :
    Calls Tryz.prog 27 #[.pointer (some ⟨S, 0, none⟩)] w fun e w' => e = .returned (.tuple #[aggA x.a.who x.a.seq x.a.deed x.x x.n x.c, .nilIface]) ∧ ∃ v', Qs base w' S B v' E n f ∧ OwnT base w' x.v x.a.t ∧ TouchQ S B v w w' ∧ Near w v v' := by
  obtain ⟨g, o, cap, rfl, hgb, hgl, hnc, hcm⟩ := h.row.form (by simp)
  simp only [List.length_cons] at hnc
  obtain ⟨m, hm⟩ : ∃ m, m = E.length := ⟨_, rfl⟩
  have HM := hide hm
  have hrow := h.row
  simp only [List.length_cons] at hrow
  have e0 : w.cell? ⟨g, o + 0, none⟩ = some (.int .i64 x.a.who) := (hrow.cellAt (j := 0) (by omega)).trans rfl
  have e1 : w.cell? ⟨g, o + 1, none⟩ = some (.int .i64 x.a.seq) := (hrow.cellAt (j := 1) (by omega)).trans rfl
  have e2 : w.cell? ⟨g, o + 2, none⟩ = some (.int .i64 x.a.deed) := (hrow.cellAt (j := 2) (by omega)).trans rfl
  have e3 : w.cell? ⟨g, o + 3, none⟩ = some (.slice x.x x.n x.c) := (hrow.cellAt (j := 3) (by omega)).trans rfl
  rw [Nat.add_zero] at e0
  rw [← hm] at hn hnc
  have c0 := h.c0
  simp only [List.length_cons] at c0
  rw [← hm] at c0
  have hl := h.lt
  have HH : Hid (Qs base w S B (.slice (some ⟨g, o, none⟩) (m + 1) cap) (x :: E) n f) := hide (by have := h; simp only [List.length_cons] at this; rwa [← hm] at this)
  have hne : g ≠ S := fun e => h.row_ne (by rw [e]; rfl)
  have h01 : ¬ (((m : Int) + 1) = 0) := by omega
  have h02 : (0 : Int) < (m : Int) + 1 := by omega
  simp only [List.length_cons]
  rw [← hm]
  clear h hrow hm
  have HBB : Hid (Below w.heap.size w ((w.alloc (.cells #[.int .i64 0, .int .i64 0, .int .i64 0, .slice none 0 0] 38)).alloc (.cells #[.int .i64 x.a.who, .int .i64 x.a.seq, .int .i64 x.a.deed, .slice x.x x.n x.c] 38))) := hide (((Below.refl _ _).alloc (Nat.le_refl _) _).alloc (by simp) _)
  have HQB := hide (HH.out.below HBB.out)
  have HD : Hid (Calls Tryz.prog 59 #[.slice (some ⟨g, o, none⟩) (m + 1) cap, .int .i64 0, .int .i64 1] ((w.alloc (.cells #[.int .i64 0, .int .i64 0, .int .i64 0, .slice none 0 0] 38)).alloc (.cells #[.int .i64 x.a.who, .int .i64 x.a.seq, .int .i64 x.a.deed, .slice x.x x.n x.c] 38)) fun e w' => e = .returned (.slice (some ⟨g, o, none⟩) m cap) ∧ winRow w' base 38 4 (.slice (some ⟨g, o, none⟩) m cap) m (cellsQ E) ∧ World.grownBy ((w.alloc (.cells #[.int .i64 0, .int .i64 0, .int .i64 0, .slice none 0 0] 38)).alloc (.cells #[.int .i64 x.a.who, .int .i64 x.a.seq, .int .i64 x.a.deed, .slice x.x x.n x.c] 38)) w' (some g)) := hide (by
    have hr := HQB.out.row
    simp only [List.length_cons] at hr
    rw [← HM.out] at hr
    exact qdel hr (cellsQ_one _) (by omega))
  have HX1 : Hid (((w.alloc (.cells #[.int .i64 0, .int .i64 0, .int .i64 0, .slice none 0 0] 38)).alloc (.cells #[.int .i64 x.a.who, .int .i64 x.a.seq, .int .i64 x.a.deed, .slice x.x x.n x.c] 38)).heap[w.heap.size]? = some (.cells #[.int .i64 0, .int .i64 0, .int .i64 0, .slice none 0 0] 38 (0, 0))) := hide ((Below.heap_alloc _ _ _ (by simp)).trans (heap_alloc_new w _))
  have HX2 : Hid (((w.alloc (.cells #[.int .i64 0, .int .i64 0, .int .i64 0, .slice none 0 0] 38)).alloc (.cells #[.int .i64 x.a.who, .int .i64 x.a.seq, .int .i64 x.a.deed, .slice x.x x.n x.c] 38)).heap[w.heap.size + 1]? = some (.cells #[.int .i64 x.a.who, .int .i64 x.a.seq, .int .i64 x.a.deed, .slice x.x x.n x.c] 38 (0, 0))) := hide (by
    have := heap_alloc_new (w.alloc (.cells #[.int .i64 0, .int .i64 0, .int .i64 0, .slice none 0 0] 38)) (.cells #[.int .i64 x.a.who, .int .i64 x.a.seq, .int .i64 x.a.deed, .slice x.x x.n x.c] 38)
    simpa using this)
  go_enter Tryz.func27, Tryz.ntmps27
  go_wp2_with fail
  refine (unhide HD).mono ?_
  rintro e w2 ⟨rfl, hwin, hgrow⟩
  have HS3 := hide (HQB.out.stored (v' := .slice (some ⟨g, o, none⟩) m cap) (E' := E) hgrow (by rw [← HM.out]; exact hwin) (fun y hy => HQB.out.own y (List.mem_cons_of_mem _ hy)) (Or.inl rfl))
  have HOX := hide (HQB.out.own x (List.mem_cons_self ..))
  have hgN : g ≠ w.heap.size := by omega
  have hgN1 : g ≠ w.heap.size + 1 := by omega
  have HY1 : Hid (w2.heap[w.heap.size]? = _) := hide ((hgrow.block _ (heap_lt HX1.out) (fun e => hgN (by cases e; rfl))).trans HX1.out)
  have HY2 : Hid (w2.heap[w.heap.size + 1]? = _) := hide ((hgrow.block _ (heap_lt HX2.out) (fun e => hgN1 (by cases e; rfl))).trans HX2.out)
  have k0 : w2.cell? ⟨S, 0, none⟩ = some (.slice (some ⟨g, o, none⟩) (m + 1) cap) := hgrow.cell HQB.out.c0 (fun e => hne (by cases e; rfl))
  have z0 : w2.frozen? ⟨S, 0, none⟩ = false := (World.frozen?_of_block (hgrow.block S HQB.out.lt (fun e => hne (by cases e; rfl)))).trans (HQB.out.fz 0)
  have a0 : w2.cell? ⟨w.heap.size + 1, 0, none⟩ = some (.int .i64 x.a.who) := by rw [cell_of_row w2 _ 0 _ _ (0, 0) HY2.out]; rfl
  have a1 : w2.cell? ⟨w.heap.size + 1, 1, none⟩ = some (.int .i64 x.a.seq) := by rw [cell_of_row w2 _ 1 _ _ (0, 0) HY2.out]; rfl
  have a2 : w2.cell? ⟨w.heap.size + 1, 2, none⟩ = some (.int .i64 x.a.deed) := by rw [cell_of_row w2 _ 2 _ _ (0, 0) HY2.out]; rfl
  have a3 : w2.cell? ⟨w.heap.size + 1, 3, none⟩ = some (.slice x.x x.n x.c) := by rw [cell_of_row w2 _ 3 _ _ (0, 0) HY2.out]; rfl
  have b0 : w2.cell? ⟨w.heap.size, 0, none⟩ = some (.int .i64 0) := by rw [cell_of_row w2 _ 0 _ _ (0, 0) HY1.out]; rfl
  have b1 : w2.cell? ⟨w.heap.size, 1, none⟩ = some (.int .i64 0) := by rw [cell_of_row w2 _ 1 _ _ (0, 0) HY1.out]; rfl
  have b2 : w2.cell? ⟨w.heap.size, 2, none⟩ = some (.int .i64 0) := by rw [cell_of_row w2 _ 2 _ _ (0, 0) HY1.out]; rfl
  have b3 : w2.cell? ⟨w.heap.size, 3, none⟩ = some (.slice none 0 0) := by rw [cell_of_row w2 _ 3 _ _ (0, 0) HY1.out]; rfl
  have zN : ∀ j, w2.frozen? ⟨w.heap.size, j, none⟩ = false := fun j => frozen_of_row w2 _ j _ _ HY1.out
  have hs2 : S < w2.heap.size := Nat.lt_of_lt_of_le HQB.out.lt hgrow.size
  have hSN : w.heap.size ≠ S := by omega
  have hSN1 : w.heap.size + 1 ≠ S := by omega
  have sz := heap_lt HY2.out
  have HGR := hide hgrow
  clear hwin hgrow
  go_wp2_with fail
  refine bodyPost_ret (v := .tuple #[aggA x.a.who x.a.seq x.a.deed x.x x.n x.c, .nilIface]) (by simp [results, Tryz.results27, go_sem, b0, b1, b2, b3]) rfl ⟨rfl, ?_⟩
  have HY3 : (w2.setCell ⟨S, 0, none⟩ (.slice (some ⟨g, o, none⟩) m cap)).heap[w.heap.size]? = some (.cells #[.int .i64 0, .int .i64 0, .int .i64 0, .slice none 0 0] 38 (0, 0)) := (heap_setCell_other w2 ⟨S, 0, none⟩ w.heap.size _ hSN).trans HY1.out
  have hG4 := grown_four (w2.setCell ⟨S, 0, none⟩ (.slice (some ⟨g, o, none⟩) m cap)) w.heap.size (.int .i64 x.a.who) (.int .i64 x.a.seq) (.int .i64 x.a.deed) (.slice x.x x.n x.c)
  exact ⟨_, HS3.out.1.boxG HY3 (fun e => hgN (by simpa [Value.ownBlock] using e)) hG4, (HOX.out.solid (HQB.out.solid HS3.out.2)).solid (solid_boxG HY3 hG4), (HS3.out.2.after HBB.out).far (Nat.le_refl _) hG4, Or.inl rfl⟩

end Go.Proofs.YtlefhfmckimlaakGreatDoor

set_option linter.unusedVariables false
namespace Go.Proofs.YtlefhfmckimlaakGreatDoor
open Go.RowKit

theorem qpush {base S B : Nat} {v : Value} {E : List QEnt} {m : Nat} {f : Int → Int} (who seq deed : Int) (a : Option Addr) (n c : Nat) (l : List M.Val) (w : World) (h : Qs base w S B v E m f) (hv : IsVals w (.slice a n c) l) (hfk : ∀ k, 0 ≤ f k ∧ f k ≤ 1000000) (hn : E.length ≤ 30) (hm : m < 1000) :
    Calls Tryz.prog 26 #[.pointer (some ⟨S, 0, none⟩), aggA who seq deed a n c] w fun e w' => e = .returned (errV (M.pushE f E.length ⟨who, seq, deed, l⟩)) ∧
      ((M.pushE f E.length ⟨who, seq, deed, l⟩ ≠ 0 ∧ Below w.heap.size w w') ∨ (M.pushE f E.length ⟨who, seq, deed, l⟩ = 0 ∧ ∃ v' x, Qs base w' S B v' (E ++ [x]) (m + 1) (M.upF f ⟨who, seq, deed, l⟩) ∧ x.a = ⟨who, seq, deed, l⟩ ∧ TouchQ S B v w w' ∧ Near w v v')) := by
  by_cases hf : M.askF ⟨who, seq, deed, l⟩ = 0
  · rcases Int.lt_trichotomy seq (f who + 1) with h1 | h1 | h1
    · have e := M.pushE_clash (f := f) (n := E.length) hf h1
      rw [e]
      refine (qpush_late who seq deed a n c l w h hv hf (hfk who) (by omega)).mono ?_
      rintro e w' ⟨rfl, hb⟩
      rw [if_pos h1]
      exact ⟨rfl, Or.inl ⟨by decide, hb⟩⟩
    · by_cases h30 : 30 ≤ E.length
      · have e := M.pushE_full (f := f) hf h1 h30
        rw [e]
        refine (qpush_full who seq deed a n c l w h hv hf (hfk who) h1 h30 hn).mono ?_
        rintro e w' ⟨rfl, hb⟩
        exact ⟨rfl, Or.inl ⟨by decide, hb⟩⟩
      · have e := M.pushE_goes (f := f) hf h1 h30
        rw [e]
        refine (qpush_ok who seq deed a n c l w h hv hf (hfk who) h1 (by omega) hm).mono ?_
        rintro e w' ⟨rfl, hx⟩
        exact ⟨rfl, Or.inr ⟨rfl, hx⟩⟩
    · have e := M.pushE_state (f := f) (n := E.length) hf h1
      rw [e]
      refine (qpush_late who seq deed a n c l w h hv hf (hfk who) (by omega)).mono ?_
      rintro e w' ⟨rfl, hb⟩
      rw [if_neg (by omega)]
      exact ⟨rfl, Or.inl ⟨by decide, hb⟩⟩
  · rw [M.pushE_bad hf]
    refine (qpush_bad S who seq deed a n c l w hv hf).mono ?_
    rintro e w' ⟨rfl, hb⟩
    exact ⟨rfl, Or.inl ⟨hf, hb⟩⟩

/-- one value written down -/
theorem lit_q (w : World) (v : M.Val) (hs : v.s.size ≤ maxLen) : IsVals (w.alloc (.cells #[.int .i64 v.k, .int .i64 v.n, .string v.s] 31)) (.slice (some ⟨w.heap.size, 0, none⟩) 1 1) [v] := by
  refine Or.inr (Or.inr ⟨w.heap.size, 0, 1, by simp, rfl, by simp, by unfold maxLen; decide, lie_of_cells (fun x hx => by simp at hx; subst hx; exact hs) fun j u hu => ?_⟩)
  exact World.news_of_block (heap_alloc_new w _) j u hu

end Go.Proofs.YtlefhfmckimlaakGreatDoor

set_option linter.unusedVariables false
namespace Go.Proofs.YtlefhfmckimlaakGreatDoor.topSame
open Go.RowKit

/-- the blocks of a queue -/
def qF (S B : Nat) (v : Value) (k : Nat) : Prop := k = S ∨ k = B ∨ v.ownBlock = some k
/-- a queue in the blocks F -/
structure QIs (base : Nat) (w : World) (F : Nat → Prop) (S : Nat) (E : List QEnt) (m : Nat) (f : Int → Int) : Prop where
  is : ∃ B v, F = qF S B v ∧ Qs base w S B v E m f
  num : ∀ k, 0 ≤ f k ∧ f k ≤ m
section
variable {base : Nat} {w w' : World} {F G : Nat → Prop} {S B : Nat} {v v' : Value} {E : List QEnt} {m : Nat} {f : Int → Int} {a : Option Addr} {n c : Nat}
theorem QIs.lows (h : QIs base w F S E m f) : ∀ i, F i → base ≤ i := by
  obtain ⟨B, v, rfl, hq⟩ := h.is
  rintro i (rfl | rfl | hi)
  · exact hq.lo
  · exact hq.lob
  · exact (hq.row.lt i hi).1
theorem QIs.highs (h : QIs base w F S E m f) : ∀ i, F i → i < w.heap.size := by
  obtain ⟨B, v, rfl, hq⟩ := h.is
  rintro i (rfl | rfl | hi)
  · exact hq.lt
  · exact hq.ltB
  · exact (hq.row.lt i hi).2
theorem QIs.quiet (h : QIs base w F S E m f) (hb : Below w.heap.size w w') : QIs base w' F S E m f := by
  obtain ⟨B, v, rfl, hq⟩ := h.is
  exact ⟨⟨B, v, rfl, hq.below hb⟩, h.num⟩
theorem win_at {e : TypeId} {k : Nat} {xs : List Value} {n : Nat} (h : winRow w base e k v n xs) (hk : ∀ g, v.ownBlock = some g → w'.heap[g]? = w.heap[g]?) : winRow w' base e k v n xs := by
  refine ⟨h.1, ?_⟩
  rcases h.2 with q | ⟨g, o, cap, cur, q1, q2, q3, q4⟩
  · exact Or.inl q
  · exact Or.inr ⟨g, o, cap, cur, q1, q2, (hk g (by rw [q1]; rfl)).trans q3, q4⟩
theorem QIs.keep (h : QIs base w F S E m f) (ht : Tch G w w') (hd : Off F G) : QIs base w' F S E m f := by
  obtain ⟨B, v, rfl, hq⟩ := h.is
  have hk : ∀ i, qF S B v i → w'.heap[i]? = w.heap[i]? := fun i hi => ht.block i (h.highs i hi) (hd i hi)
  obtain ⟨D, ⟨es, cl, hb, r⟩, hl⟩ := hq.map
  exact ⟨⟨B, v, rfl, hq.lo, hq.lob, (hk S (Or.inl rfl)).trans hq.heap, win_at hq.row (fun g hg => hk g (Or.inr (Or.inr hg))), fun x hx => (hq.own x hx).solid ht.vals, D, ⟨es, cl, (hk B (Or.inr (Or.inl rfl))).trans hb, r⟩, hl⟩, h.num⟩
theorem tch_of (h : Qs base w S B v E m f) (ht : TouchQ S B v w w') : Tch (qF S B v) w w' :=
  ⟨ht.os, ht.tape, ht.output, ht.size, fun k hk hn => ht.block k hk (fun e => hn (Or.inl e)) (fun e => hn (Or.inr (Or.inl e))) (fun e => hn (Or.inr (Or.inr e))), h.solid ht⟩
theorem grows_of (hn : Near w v v') : Grows w (qF S B v) (qF S B v') := by
  rintro k (rfl | rfl | hk)
  · exact Or.inl (Or.inl rfl)
  · exact Or.inl (Or.inr (Or.inl rfl))
  · rcases hn with e | e
    · exact Or.inl (Or.inr (Or.inr (by rw [← e]; exact hk)))
    · exact Or.inr (e k hk)
theorem QIs.push (x : M.Ask) (h : QIs base w F S [] m f) (hv : IsVals w (.slice a n c) x.t) (hm : m < 1000) :
    Calls Tryz.prog 26 #[.pointer (some ⟨S, 0, none⟩), aggA x.who x.seq x.deed a n c] w fun e w' => e = .returned (errV (M.pushE f 0 x)) ∧ ((M.pushE f 0 x ≠ 0 ∧ Below w.heap.size w w') ∨ (M.pushE f 0 x = 0 ∧ ∃ F' y, QIs base w' F' S [y] (m + 1) (M.upF f x) ∧ y.a = x ∧ Tch F w w' ∧ Grows w F F')) := by
  obtain ⟨B, v, rfl, hq⟩ := h.is
  obtain ⟨who, seq, deed, l⟩ := x
  refine (qpush who seq deed a n c l w hq hv (fun k => ⟨(h.num k).1, by have := (h.num k).2; omega⟩) (by simp) hm).mono ?_
  rintro e w' ⟨rfl, hw⟩
  refine ⟨rfl, ?_⟩
  rcases hw with ⟨h1, h2⟩ | ⟨h1, v', y, h2, h3, h4, h5⟩
  · exact Or.inl ⟨h1, h2⟩
  · refine Or.inr ⟨h1, qF S B v', y, ⟨⟨B, v', rfl, h2⟩, fun k => ?_⟩, h3, tch_of hq h4, grows_of h5⟩
    obtain ⟨_, hs, _⟩ := M.pushE_ok h1
    unfold M.upF
    by_cases hk : k = who
    · rw [if_pos hk]
      have := h.num who
      simp only at hs
      show 0 ≤ seq ∧ seq ≤ ((m + 1 : Nat) : Int)
      omega
    · rw [if_neg hk]
      have := h.num k
      omega
theorem QIs.pop {y : QEnt} (h : QIs base w F S [y] m f) :
    Calls Tryz.prog 27 #[.pointer (some ⟨S, 0, none⟩)] w fun e w' => e = .returned (.tuple #[aggA y.a.who y.a.seq y.a.deed y.x y.n y.c, .nilIface]) ∧ ∃ F', QIs base w' F' S [] m f ∧ OwnT base w' y.v y.a.t ∧ Tch F w w' ∧ Grows w F F' := by
  obtain ⟨B, v, rfl, hq⟩ := h.is
  refine (qpop_ok hq (by simp)).mono ?_
  rintro e w' ⟨rfl, v', h1, h2, h3, h4⟩
  exact ⟨rfl, qF S B v', ⟨⟨B, v', rfl, h1⟩, h.num⟩, h2, tch_of hq h3, grows_of h4⟩
end

/-- all four side by side, in a law that came in with w0 -/
structure Sm (w0 w : World) (Q C K J : Nat) (E : List QEnt) (m : Nat) (f : Int → Int) (c1 c2 : M.Cop) (g : M.Lg) (R : List M.Rul) : Prop where
  ex : ∃ FQ FC FK FJ, QIs w0.heap.size w FQ Q E m f ∧ CpIs w0.heap.size w FC C c1 R ∧ CwIs w0.heap.size w FK K 4 c2 R ∧ LgIs w0.heap.size w FJ J g R ∧ (Off FQ FC ∧ Off FQ FK ∧ Off FQ FJ) ∧ (Off FC FK ∧ Off FC FJ) ∧ Off FK FJ
  bel : Below w0.heap.size w0 w
/-- a box of what is asked stays -/
def BoxStay (w w' : World) : Prop := ∀ N who seq deed a n c, AskBox w N who seq deed a n c → AskBox w' N who seq deed a n c
section
variable {w0 w w' : World} {Q C K J : Nat} {E : List QEnt} {m : Nat} {f : Int → Int} {c1 c2 : M.Cop} {g : M.Lg} {R : List M.Rul} {a : Option Addr} {n c : Nat}
theorem Sm.quiet (h : Sm w0 w Q C K J E m f c1 c2 g R) (hb : Below w.heap.size w w') : Sm w0 w' Q C K J E m f c1 c2 g R := by
  obtain ⟨FQ, FC, FK, FJ, h1, h2, h3, h4, o⟩ := h.ex
  exact ⟨⟨FQ, FC, FK, FJ, h1.quiet hb, h2.quiet hb, h3.quiet hb, h4.quiet hb, o⟩, h.bel.trans (hb.mono h.bel.size)⟩
theorem Sm.tab (h : Sm w0 w Q C K J E m f c1 c2 g R) (ht : Tab w0) : TabFrom w0.heap.size w := fun wx hx => ht.stays (h.bel.trans hx) (Nat.le_refl _)
theorem Sm.push (x : M.Ask) (h : Sm w0 w Q C K J [] m f c1 c2 g R) (hv : IsVals w (.slice a n c) x.t) (hm : m < 1000) :
    Calls Tryz.prog 26 #[.pointer (some ⟨Q, 0, none⟩), aggA x.who x.seq x.deed a n c] w fun e w' => e = .returned (errV (M.pushE f 0 x)) ∧ ((M.pushE f 0 x ≠ 0 ∧ Sm w0 w' Q C K J [] m f c1 c2 g R) ∨ (M.pushE f 0 x = 0 ∧ ∃ y, y.a = x ∧ Sm w0 w' Q C K J [y] (m + 1) (M.upF f x) c1 c2 g R)) := by
  obtain ⟨FQ, FC, FK, FJ, h1, h2, h3, h4, ⟨o1, o2, o3⟩, o4, o5⟩ := h.ex
  refine (h1.push x hv hm).mono ?_
  rintro e w' ⟨rfl, hw⟩
  refine ⟨rfl, ?_⟩
  rcases hw with ⟨q1, q2⟩ | ⟨q1, F', y, q2, q3, q4, q5⟩
  · exact Or.inl ⟨q1, h.quiet q2⟩
  · exact Or.inr ⟨q1, y, q3, ⟨F', FC, FK, FJ, q2, h2.keep q4 o1.symm, h3.keep q4 o2.symm, h4.keep q4 o3.symm, ⟨o1.grows h2.highs q5, o2.grows h3.highs q5, o3.grows h4.highs q5⟩, o4, o5⟩, h.bel.trans (q4.below h1.lows h.bel.size)⟩
theorem Sm.pop {y : QEnt} (h : Sm w0 w Q C K J [y] m f c1 c2 g R) :
    Calls Tryz.prog 27 #[.pointer (some ⟨Q, 0, none⟩)] w fun e w' => e = .returned (.tuple #[aggA y.a.who y.a.seq y.a.deed y.x y.n y.c, .nilIface]) ∧ Sm w0 w' Q C K J [] m f c1 c2 g R ∧ OwnT w0.heap.size w' y.v y.a.t := by
  obtain ⟨FQ, FC, FK, FJ, h1, h2, h3, h4, ⟨o1, o2, o3⟩, o4, o5⟩ := h.ex
  refine h1.pop.mono ?_
  rintro e w' ⟨rfl, F', q2, q3, q4, q5⟩
  exact ⟨rfl, ⟨⟨F', FC, FK, FJ, q2, h2.keep q4 o1.symm, h3.keep q4 o2.symm, h4.keep q4 o3.symm, ⟨o1.grows h2.highs q5, o2.grows h3.highs q5, o3.grows h4.highs q5⟩, o4, o5⟩, h.bel.trans (q4.below h1.lows h.bel.size)⟩, q3⟩
theorem Sm.cdo (x : M.Ask) (h : Sm w0 w Q C K J E m f c1 c2 g R) (hv : IsVals w (.slice a n c) x.t) (hn : c1.n < 1000) (ht : Tab w0) :
    Calls Tryz.prog 28 #[.pointer (some ⟨C, 0, none⟩), aggA x.who x.seq x.deed a n c] w fun e w' => e = .returned (.tuple #[.string (M.doR R c1 x).2.1, errV (M.doR R c1 x).1]) ∧ Sm w0 w' Q C K J E m f (M.doR R c1 x).2.2 c2 g R ∧ Solid w w' ∧ BoxStay w w' := by
  obtain ⟨FQ, FC, FK, FJ, h1, h2, h3, h4, ⟨o1, o2, o3⟩, ⟨o4, o5⟩, o6⟩ := h.ex
  refine (mDo x h2 hv hn (h.tab ht)).mono ?_
  rintro e w' ⟨rfl, F', q2, q4, q5⟩
  exact ⟨rfl, ⟨⟨FQ, F', FK, FJ, h1.keep q4 o1, q2, h3.keep q4 o4.symm, h4.keep q4 o5.symm, ⟨(o1.symm.grows h1.highs q5).symm, o2, o3⟩, ⟨o4.grows h3.highs q5, o5.grows h4.highs q5⟩, o6⟩, h.bel.trans (q4.below h2.lows h.bel.size)⟩, q4.vals, fun N who seq deed a' n' c' hb => (q4.block N (heap_lt hb) (h2.other hb (by decide) (by decide) (by decide) (by decide))).trans hb⟩
theorem Sm.jdo (x : M.Ask) (h : Sm w0 w Q C K J E m f c1 c2 g R) (hv : IsVals w (.slice a n c) x.t) (ht : Tab w0) :
    Calls Tryz.prog 9 #[.pointer (some ⟨J, 0, none⟩), aggA x.who x.seq x.deed a n c] w fun e w' => ∃ k, 2 ≤ k ∧ e = .returned (.tuple #[.string (M.lgDo R g x k).2.1, errV (M.lgDo R g x k).1]) ∧ Sm w0 w' Q C K J E m f c1 c2 (M.lgDo R g x k).2.2 R := by
  obtain ⟨FQ, FC, FK, FJ, h1, h2, h3, h4, ⟨o1, o2, o3⟩, ⟨o4, o5⟩, o6⟩ := h.ex
  refine (lDo x h4 hv (h.tab ht)).mono ?_
  rintro e w' ⟨k, hk, _, rfl, F', q2, q4, q5⟩
  exact ⟨k, hk, rfl, ⟨FQ, FC, FK, F', h1.keep q4 o3, h2.keep q4 o5, h3.keep q4 o6, q2, ⟨o1, o2, (o3.symm.grows h1.highs q5).symm⟩, ⟨o4, (o5.symm.grows h2.highs q5).symm⟩, (o6.symm.grows h3.highs q5).symm⟩, h.bel.trans (q4.below h4.lows h.bel.size)⟩
theorem Sm.sync (h : Sm w0 w Q C K J E m f c1 c2 g R) :
    Calls Tryz.prog 10 #[.pointer (some ⟨J, 0, none⟩)] w fun e w' => e = .returned (errV (M.lgSync g).1) ∧ Sm w0 w' Q C K J E m f c1 c2 (M.lgSync g).2 R := by
  obtain ⟨FQ, FC, FK, FJ, h1, h2, h3, h4, ⟨o1, o2, o3⟩, ⟨o4, o5⟩, o6⟩ := h.ex
  refine (lSync h4).mono ?_
  rintro e w' ⟨rfl, F', q2, q4, q5⟩
  exact ⟨rfl, ⟨FQ, FC, FK, F', h1.keep q4 o3, h2.keep q4 o5, h3.keep q4 o6, q2, ⟨o1, o2, (o3.symm.grows h1.highs q5).symm⟩, ⟨o4, (o5.symm.grows h2.highs q5).symm⟩, (o6.symm.grows h3.highs q5).symm⟩, h.bel.trans (q4.below h4.lows h.bel.size)⟩
theorem Sm.crash (p : Int) (h : Sm w0 w Q C K J E m f c1 c2 g R) (ht : Tab w0) :
    Calls Tryz.prog 11 #[.pointer (some ⟨J, 0, none⟩), .int .i64 p] w fun e w' => e = .returned (.tuple #[]) ∧ Sm w0 w' Q C K J E m f c1 c2 (M.lgCrash g p) R := by
  obtain ⟨FQ, FC, FK, FJ, h1, h2, h3, h4, ⟨o1, o2, o3⟩, ⟨o4, o5⟩, o6⟩ := h.ex
  refine (lCrash p h4 (h.tab ht)).mono ?_
  rintro e w' ⟨rfl, F', q2, q4, q5⟩
  exact ⟨rfl, ⟨FQ, FC, FK, F', h1.keep q4 o3, h2.keep q4 o5, h3.keep q4 o6, q2, ⟨o1, o2, (o3.symm.grows h1.highs q5).symm⟩, ⟨o4, (o5.symm.grows h2.highs q5).symm⟩, (o6.symm.grows h3.highs q5).symm⟩, h.bel.trans (q4.below h4.lows h.bel.size)⟩
theorem Sm.cmark (h : Sm w0 w Q C K J E m f c1 c2 g R) (ht : Tab w0) :
    Calls Tryz.prog 30 #[.pointer (some ⟨C, 0, none⟩)] w fun e w' => e = .returned (.tuple #[.int .i64 c1.n, .int .i64 (M.mark c1.l)]) ∧ Sm w0 w' Q C K J E m f c1 c2 g R := by
  obtain ⟨FQ, FC, FK, FJ, h1, h2, h3, h4, o⟩ := h.ex
  exact (mMark h2 (h.tab ht)).mono fun _ _ he => ⟨he.1, h.quiet he.2⟩
theorem Sm.gmark (h : Sm w0 w Q C K J E m f c1 c2 g R) (i : Nat) (hi : i < 4) (ht : Tab w0) :
    Calls Tryz.prog 31 #[.pointer (some ⟨K, 0, none⟩), .int .i64 i] w fun e w' => e = .returned (.tuple #[.int .i64 c2.n, .int .i64 (M.mark c2.l), .nilIface]) ∧ Sm w0 w' Q C K J E m f c1 c2 g R := by
  obtain ⟨FQ, FC, FK, FJ, h1, h2, h3, h4, o⟩ := h.ex
  exact (crMark_ok h3 i hi (h.tab ht)).mono fun _ _ he => ⟨he.1, h.quiet he.2⟩
theorem Sm.jmark (h : Sm w0 w Q C K J E m f c1 c2 g R) (ht : Tab w0) :
    Calls Tryz.prog 12 #[.pointer (some ⟨J, 0, none⟩)] w fun e w' => e = .returned (.tuple #[.int .i64 g.cop.n, .int .i64 (M.mark g.cop.l)]) ∧ Sm w0 w' Q C K J E m f c1 c2 g R := by
  obtain ⟨FQ, FC, FK, FJ, h1, h2, h3, h4, o⟩ := h.ex
  exact (lMark h4 (h.tab ht)).mono fun _ _ he => ⟨he.1, h.quiet he.2⟩
/-- the crowd's call: its lies lie in a block of the law's own -/
abbrev Lv (lie : ByteArray) : Obj := .cells #[.string ⟨#[]⟩, .string ⟨#[]⟩, .string lie] 9
theorem one_lie (lie : ByteArray) : M.lieN 4 [M.sNo, M.sNo, lie] ≤ 1 := by
  have h := M.lieN_set 4 [M.sNo, M.sNo, M.sNo] 2 lie
  have e : M.lieN 4 [M.sNo, M.sNo, M.sNo] = 0 := by decide
  have s : [M.sNo, M.sNo, M.sNo].set 2 lie = [M.sNo, M.sNo, lie] := rfl
  rw [s, e] at h
  exact h
theorem Sm.gdo (x : M.Ask) (lie : ByteArray) (hlie : lie.size ≤ reachBytes) (h : Sm w0 w Q C K J E m f c1 c2 g R) (hv : OwnT w0.heap.size w (.slice a n c) x.t) (hn : c2.n < 1000) (ht : Tab w0) :
    Calls Tryz.prog 29 #[.pointer (some ⟨K, 0, none⟩), aggA x.who x.seq x.deed a n c, .slice (some ⟨w.heap.size, 0, none⟩) 3 3] (w.alloc (Lv lie)) fun e w' => e = .returned (.tuple #[.string (M.doR R c2 x).2.1, errV (M.doR R c2 x).1]) ∧ Sm w0 w' Q C K J E m f c1 (M.doR R c2 x).2.2 g R ∧ Solid w w' ∧ BoxStay w w' := by
  have hb : Below w.heap.size w (w.alloc (Lv lie)) := (Below.refl _ _).alloc (Nat.le_refl _) _
  have hl : (w.alloc (Lv lie)).heap[w.heap.size]? = some (.cells #[.string ⟨#[]⟩, .string ⟨#[]⟩, .string lie] 9 (0, 0)) := heap_alloc_new w _
  have hs := h.quiet hb
  obtain ⟨FQ, FC, FK, FJ, h1, h2, h3, h4, ⟨o1, o2, o3⟩, ⟨o4, o5⟩, o6⟩ := hs.ex
  have few := M.crR_few (R := R) (c := c2) (n := 4) (lie := [M.sNo, M.sNo, lie]) (x := x) (by decide) (by decide) (by simp) (one_lie lie)
  refine (crDo x h3 (lie := [M.sNo, M.sNo, lie]) (lm := 3) (lc := 3) (la := some ⟨w.heap.size, 0, none⟩) (fun wx hT => ((hv.solid (Solid.below hb)).solid hT.vals).vals) (fun wx hT => ?_) rfl (by unfold maxLen; decide) hn (hs.tab ht)).mono ?_
  · intro _
    refine ⟨w.heap.size, 0, rfl, fun i hi => ?_⟩
    have hk : wx.heap[w.heap.size]? = some (.cells #[.string ⟨#[]⟩, .string ⟨#[]⟩, .string lie] 9 (0, 0)) := (hT.block _ (heap_lt hl) (h3.other hl (by decide) (by decide) (by decide) (by decide) (by decide) (by decide))).trans hl
    have hi3 : i = 0 ∨ i = 1 ∨ i = 2 := by simp at hi; omega
    rcases hi3 with rfl | rfl | rfl
    · exact ⟨by rw [cell_of_row wx _ _ _ _ (0, 0) hk]; rfl, by show (0 : Nat) ≤ _; exact Nat.zero_le _⟩
    · exact ⟨by rw [cell_of_row wx _ _ _ _ (0, 0) hk]; rfl, by show (0 : Nat) ≤ _; exact Nat.zero_le _⟩
    · exact ⟨by rw [cell_of_row wx _ _ _ _ (0, 0) hk]; rfl, hlie⟩
  · rintro e w' ⟨rfl, F', q2, q4, q5⟩
    rw [few] at q2 ⊢
    exact ⟨rfl, ⟨⟨FQ, FC, F', FJ, h1.keep q4 o2, h2.keep q4 o4, q2, h4.keep q4 o6.symm, ⟨o1, (o2.symm.grows h1.highs q5).symm, o3⟩, ⟨(o4.symm.grows h2.highs q5).symm, o5⟩, o6.grows h4.highs q5⟩, hs.bel.trans (q4.below h3.lows hs.bel.size)⟩, (Solid.below hb).trans q4.vals, fun N who seq deed a' n' c' hx => by
      have hx2 := hx.below hb
      exact (q4.block N (heap_lt hx2) (h3.other hx2 (by decide) (by decide) (by decide) (by decide) (by decide) (by decide))).trans hx2⟩
end

/-- what the queue lets through is never the last one again -/
def Iv (f : Int → Int) (c : M.Cop) : Prop := ∀ k, (c.g k).1 ≤ f k
/-- a log that goes on, with this copy -/
structure Gd (c : M.Cop) (g : M.Lg) : Prop where
  st : g.stop = false
  left : g.left = -1
  cop : g.cop = c
section
variable {R : List M.Rul} {f : Int → Int} {c : M.Cop} {g : M.Lg} {x : M.Ask}
theorem Iv.new : Iv (fun _ => 0) M.Cop.new := fun _ => Int.le_refl _
theorem Gd.new : Gd M.Cop.new M.Lg.new := ⟨rfl, rfl, rfl⟩
theorem pass (hi : Iv f c) (hp : M.pushE f 0 x = 0) : Iv (M.upF f x) (M.doR R c x).2.2 ∧ (((M.doR R c x).1 ≠ 0 ∧ (M.doR R c x).2.2 = c) ∨ ((M.doR R c x).1 = 0 ∧ (M.doR R c x).2.2.n = c.n + 1)) := by
  obtain ⟨p1, p2, _⟩ := M.pushE_ok hp
  have hw := hi x.who
  have up : ∀ k, f k ≤ M.upF f x k := fun k => by
    unfold M.upF
    by_cases hk : k = x.who
    · rw [if_pos hk, hk]; omega
    · rw [if_neg hk]; exact Int.le_refl _
  have hna : M.againB c.g x = false := M.again_not (fun q => by have := q.1; omega)
  by_cases hd : (M.doR R c x).1 = 0
  · rcases M.doR_ways R c x with q | ⟨q1, q2⟩ | ⟨q1, q2, q3⟩ | ⟨q1, q2, q3, q4⟩ | ⟨q1, q2, q3, q4⟩
    · exact absurd p1 q
    · rw [hna] at q2; cases q2
    · rw [M.doR_state q1 q2 q3] at hd; exact absurd hd (by simp)
    · rw [M.doR_did q1 q2 q3 q4]
      refine ⟨fun k => ?_, Or.inr ⟨rfl, rfl⟩⟩
      show (M.upG c.g x (M.deedS c.l x) k).1 ≤ _
      by_cases hk : k = x.who
      · subst hk
        rw [M.upG_same]
        unfold M.upF
        rw [if_pos rfl]
        exact Int.le_refl _
      · rw [M.upG_other hk]; exact Int.le_trans (hi k) (up k)
    · rw [M.doR_denied q1 q2 q3 q4] at hd; exact absurd hd (by simp)
  · obtain ⟨e1, _⟩ := M.doR_err hd
    rw [e1]
    exact ⟨fun k => Int.le_trans (hi k) (up k), Or.inl ⟨hd, rfl⟩⟩
theorem Gd.act (hg : g.Ok R) (h : Gd c g) (hn : c.n < 30) (hx : (M.doR R c x).1 ≠ 0 ∨ (M.doR R c x).2.2.n = c.n + 1) (k : Nat) : (M.lgDo R g x k).1 = (M.doR R c x).1 ∧ (M.lgDo R g x k).2.1 = (M.doR R c x).2.1 ∧ Gd (M.doR R c x).2.2 (M.lgDo R g x k).2.2 := by
  have hl := hg.cop_ok.2
  rw [h.cop] at hl
  by_cases hd : (M.doR R c x).1 = 0
  · have h2 : (M.doR R c x).2.2.n ≠ c.n := by
      rcases hx with q | q
      · exact absurd hd q
      · omega
    rw [M.lgDo_did h.st (by rw [h.cop]; exact hd) (by rw [h.cop]; exact h2) (by omega) (by rw [h.left]; decide), h.cop]
    refine ⟨hd.symm, rfl, h.st, ?_, ?_⟩
    · show M.lessS g.left = -1; rw [h.left]; rfl
    · show (g.cs ++ [_]).getLastD M.Cop.new = _; rw [List.getLastD_concat]
  · obtain ⟨e1, e2⟩ := M.doR_err hd
    rw [M.lgDo_bad h.st (by rw [h.cop]; exact hd), h.cop, e1, e2]
    exact ⟨rfl, rfl, h⟩
/-- all is safe: nothing is lost -/
theorem Gd.kept (hg : g.Ok R) (h : Gd c g) (keep : Int) : (M.lgSync g).1 = 0 ∧ (M.lgCrash (M.lgSync g).2 keep).cop = c := by
  have e : M.lgSync g = (0, { g with safe := g.bytes, left := M.lessS g.left }) := by
    unfold M.lgSync
    rw [if_neg (by simp [h.st]), if_neg (by rw [h.left]; decide)]
  have ho := hg.sync
  rw [e] at ho ⊢
  refine ⟨rfl, ?_⟩
  have := ho.safe_all rfl keep
  unfold M.Lg.cop
  rw [this]
  exact h.cop
end

end Go.Proofs.YtlefhfmckimlaakGreatDoor.topSame

namespace Go.Proofs.YtlefhfmckimlaakGreatDoor
open Go.RowKit

/-- one space at S with the tuples L, of a law that came in with w -/
structure Sole (w wr : World) (S : Nat) (v : Value) (L : List (List M.Val)) : Prop where
  sp : Space w.heap.size wr S v L
  fine : M.Fine L
  bel : Below w.heap.size w wr

section
variable {w wr w1 : World} {S : Nat} {v v' x t : Value} {a l : List M.Val} {L L' : List (List M.Val)}
theorem Sole.quiet (h : Sole w wr S v L) (hb : Below wr.heap.size wr w1) : Sole w w1 S v L := ⟨Space.stays h.sp hb, h.fine, h.bel.trans (hb.mono h.bel.size)⟩
theorem Sole.on (h : Sole w wr S v L) (hs : Space w.heap.size w1 S v' L') (ht : Touch S v wr w1) (hf : M.Fine L') : Sole w w1 S v' L' ∧ Solid wr w1 :=
  ⟨⟨hs, hf, h.bel.trans (Sp.below h.sp ht (Nat.le_refl _))⟩, Sp.solid h.sp (by decide) ht⟩
theorem Sole.start (hb : Below w.heap.size w wr) : Sole w (wr.alloc (.cells #[.slice none 0 0] 162)) wr.heap.size (.slice none 0 0) [] :=
  ⟨⟨hb.size, heap_alloc_new wr _, RowOf.nil _ _ _⟩, Fine.nil, hb.alloc hb.size _⟩
theorem Sole.put (h : Sole w wr S v L) (ht : IsVals wr t l) :
    Calls Tryz.prog 53 #[.pointer (some ⟨S, 0, none⟩), t] wr fun e w' => e = .returned (errV (M.putF L l)) ∧ ∃ v', Sole w w' S v' (M.putL L l) ∧ Solid wr w' :=
  (Go.Proofs.YtlefhfmckimlaakGreatDoor.put w.heap.size S v t l L wr h.sp ht).mono fun _ _ ⟨h1, v', h2, h3, _⟩ => ⟨h1, v', h.on h2 h3 (Fine.put h.fine)⟩
theorem Sole.take (h : Sole w wr S v L) (hx : IsVals wr x a) :
    Calls Tryz.prog 54 #[.pointer (some ⟨S, 0, none⟩), x] wr fun e w' => ∃ r v', e = .returned (.tuple #[r, errV (M.getF a L)]) ∧ OwnT w.heap.size w' r (M.getV a L) ∧ Sole w w' S v' (M.lessL a L) ∧ Solid wr w' :=
  (Go.Proofs.YtlefhfmckimlaakGreatDoor.take w.heap.size S v x a L wr h.sp h.fine hx).mono fun _ _ ⟨r, v', h1, h0, h2, h3, _⟩ => ⟨r, v', h1, h0, h.on h2 h3 (Fine.less h.fine)⟩
theorem Sole.read (h : Sole w wr S v L) (hx : IsVals wr x a) :
    Calls Tryz.prog 102 #[.pointer (some ⟨S, 0, none⟩), x] wr fun e w' => ∃ r, e = .returned (.tuple #[r, errV (M.getF a L)]) ∧ OwnT wr.heap.size w' r (M.getV a L) ∧ Below wr.heap.size wr w' :=
  Go.Proofs.YtlefhfmckimlaakGreatDoor.read w.heap.size S v x a L wr h.sp h.fine hx
end

theorem lit_val (w : World) (v : M.Val) (hs : v.s.size ≤ maxLen) : IsVals (w.alloc (.cells #[.int .i64 v.k, .int .i64 v.n, .string v.s] 31)) (.slice (some ⟨w.heap.size, 0, none⟩) 1 1) [v] := by
  refine Or.inr (Or.inr ⟨w.heap.size, 0, 1, by simp, rfl, by simp, by unfold maxLen; decide, lie_of_cells (fun x hx => by simp at hx; subst hx; exact hs) fun j u hu => ?_⟩)
  exact World.news_of_block (heap_alloc_new w _) j u hu
def M.num4 : M.Val := ⟨0, 4, ⟨#[]⟩⟩
def M.all1 : M.Val := ⟨2, 0, ⟨#[]⟩⟩
theorem get_alone {a x : List M.Val} (ha : M.likeF a = 0) (h : M.fitAll a x = true) : M.getF a [x] = 0 ∧ M.getV a [x] = x ∧ M.lessL a [x] = [] := by
  have hs : M.spot a [x] = 0 := spot_hit (by simp) (fun j hj => absurd hj (by omega)) (by simpa using h)
  have hl : M.spot a [x] < [x].length := by rw [hs]; simp
  refine ⟨getF_hit ha hl, ?_, ?_⟩
  · rw [getV_hit ha hl]; simp [hs]
  · rw [lessL_hit ha hl, hs]; rfl

section
variable {w wr : World} {S : Nat} {v : Value}
theorem Sole.put4 (h : Sole w wr S v []) :
    Calls Tryz.prog 53 #[.pointer (some ⟨S, 0, none⟩), .slice (some ⟨wr.heap.size, 0, none⟩) 1 1] (wr.alloc (.cells #[.int .i64 0, .int .i64 4, .string ⟨#[]⟩] 31)) fun e w' => e = .returned .nilIface ∧ ∃ v', Sole w w' S v' [[M.num4]] := by
  have := (h.quiet ((Below.refl _ _).alloc (Nat.le_refl _) _)).put (lit_val wr M.num4 (by decide))
  have e : M.putF [] [M.num4] = 0 := by decide
  rw [putL_yes e, e] at this
  exact this.mono fun _ _ ⟨h1, v', h2, _⟩ => ⟨h1, v', h2⟩
theorem Sole.take4 (h : Sole w wr S v [[M.num4]]) :
    Calls Tryz.prog 54 #[.pointer (some ⟨S, 0, none⟩), .slice (some ⟨wr.heap.size, 0, none⟩) 1 1] (wr.alloc (.cells #[.int .i64 2, .int .i64 0, .string ⟨#[]⟩] 31)) fun e w' => ∃ g c, e = .returned (.tuple #[.slice (some ⟨g, 0, none⟩) 1 c, .nilIface]) ∧ w'.cell? ⟨g, 1, none⟩ = some (.int .i64 4) ∧ Below w.heap.size w w' := by
  have := (h.quiet ((Below.refl _ _).alloc (Nat.le_refl _) _)).take (lit_val wr M.all1 (by decide))
  obtain ⟨e1, e2, e3⟩ := get_alone (a := [M.all1]) (x := [M.num4]) (by decide) (by simp [M.fitAll, M.fit1, M.all1])
  rw [e1, e2, e3] at this
  refine this.mono ?_
  rintro e w' ⟨r, v', rfl, h1, h2, _⟩
  obtain ⟨g, c, rfl, _⟩ := h1.1.form (by decide)
  refine ⟨g, c, rfl, ?_, h2.bel⟩
  rw [h1.1.cellAt 1 (by decide)]; rfl
end

/-- the law's closed fact: what is put is taken -/
theorem tOne (w : World) : Calls Tryz.prog 22 #[] w fun e w' => e = .returned (.bool true) ∧ Below w.heap.size w w' := by
  go_enter Tryz.func22, Tryz.ntmps22
  go_wp2_with fail
  refine (new _).mono ?_
  rintro e w0 ⟨rfl, hw0⟩
  have HO0 : Hid (Sole w w0 w.heap.size (.slice none 0 0) []) := hide (by rw [hw0]; exact Sole.start (Below.refl _ _))
  clear hw0
  go_wp2_with fail
  refine (HO0.out.put4).mono ?_
  rintro e w1 ⟨rfl, v1, h1⟩
  have HO1 := hide h1
  clear h1 HO0
  go_wp2_with fail
  refine (HO1.out.take4).mono ?_
  rintro e w2 ⟨g, c, rfl, hc, hb⟩
  have HB := hide hb
  clear hb HO1
  go_wp2_with fail
  go_ret
  exact ⟨rfl, HB.out⟩

end Go.Proofs.YtlefhfmckimlaakGreatDoor
