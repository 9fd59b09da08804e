/-
  Where the Go function QueueOnce stands: behind its own first pushes, and in its first loop.
-/
import Derived.Test.YtlefhfmckimlaahDoorQueState
import Derived.Deep.RegionWith
import Derived.Deep.DeepCutAuto
import Derived.Deep.CutBlock
set_option linter.unusedVariables false
namespace Go.Proofs.YtlefhfmckimlaahDoor.queueOnce
open Go.RowKit
attribute [local go_sem ↓] Go.wp_at_zero Go.wp_at_succ

/-- the law's own first pushes -/
def oneV : List M.Val := [⟨0, 1, ⟨#[]⟩⟩]
def oneA : M.Ask := ⟨5, 1, 0, oneV⟩
theorem oneA_ok : M.askF oneA = 0 := by decide +kernel
abbrev L1 : Obj := .cells #[.int .i64 0, .int .i64 1, .string ⟨#[]⟩] 38
abbrev X1 (L : Nat) : Obj := .cells #[.int .i64 5, .int .i64 1, .int .i64 0, .slice (some ⟨L, 0, none⟩) 1 1] 41
/-- behind the first push -/
structure One (w w2 : World) (L S B : Nat) : Prop where
  bel : Below w.heap.size w w2
  box : w2.heap[L + 1]? = some (.cells #[.int .i64 5, .int .i64 1, .int .i64 0, .slice (some ⟨L, 0, none⟩) 1 1] 41 (0, 0))
  vals : IsVals w2 (.slice (some ⟨L, 0, none⟩) 1 1) oneV
  qs : ∃ v x, Qs w.heap.size w2 S B v [x] 1 (M.upF (fun _ => 0) oneA)
theorem One.quiet {w w2 w3 : World} {L S B : Nat} (h : One w w2 L S B) (hb : Below w2.heap.size w2 w3) : One w w3 L S B := by
  obtain ⟨v, x, hq⟩ := h.qs
  exact ⟨h.bel.trans (hb.mono h.bel.size), (hb.block _ (heap_lt h.box)).trans h.box, h.vals.stays hb (Nat.le_refl _), v, x, hq.below hb⟩

theorem own_q (w : World) : OwnT w.heap.size (w.alloc L1) (.slice (some ⟨w.heap.size, 0, none⟩) 1 1) oneV :=
  ⟨World.ownsRow_lit (base := w.heap.size) (e := 38) (size := 3) w #[.int .i64 0, .int .i64 1, .string ⟨#[]⟩] 1 (Nat.le_refl _) (by unfold maxLen; decide) rfl, fun x hx => by
    have : x = ⟨0, 1, ⟨#[]⟩⟩ := by simpa [oneV] using hx
    subst this
    unfold maxLen
    decide⟩

theorem push1 (w w1 : World) (S B : Nat) (hb1 : Below w.heap.size w w1) (hq1 : Qs w.heap.size w1 S B (.slice none 0 0) [] 0 (fun _ => 0)) :
    Calls Tryd.prog 13 #[.pointer (some ⟨S, 0, none⟩), aggA 5 1 0 (some ⟨w1.heap.size, 0, none⟩) 1 1] ((w1.alloc L1).alloc (X1 w1.heap.size)) fun e w' => e = .returned .nilIface ∧ One w w' w1.heap.size S B := by
  have ha : Below w1.heap.size w1 ((w1.alloc L1).alloc (X1 w1.heap.size)) := ((Below.refl _ _).alloc (Nat.le_refl _) _).alloc (by simp) _
  have hl : OwnT w1.heap.size ((w1.alloc L1).alloc (X1 w1.heap.size)) (.slice (some ⟨w1.heap.size, 0, none⟩) 1 1) oneV := (own_q w1).solid (Solid.below ((Below.refl _ _).alloc (Nat.le_refl _) _))
  have hx : ((w1.alloc L1).alloc (X1 w1.heap.size)).heap[w1.heap.size + 1]? = some (.cells #[.int .i64 5, .int .i64 1, .int .i64 0, .slice (some ⟨w1.heap.size, 0, none⟩) 1 1] 41 (0, 0)) := by
    have := heap_alloc_new (w1.alloc L1) (X1 w1.heap.size)
    simpa using this
  have hq2 := hq1.below ha
  refine (qpush_ok 5 1 0 (some ⟨w1.heap.size, 0, none⟩) 1 1 oneV _ hq2 hl.vals oneA_ok (by decide) rfl (by simp) (by decide)).mono ?_
  rintro e w' ⟨rfl, v', x, hQ, _, hT, _⟩
  obtain ⟨n1, n2⟩ := hq2.boxed hx
  refine ⟨rfl, (hb1.trans (ha.mono hb1.size)).trans (hq2.touchBelow hT (Nat.le_refl _)), (hT.block _ (heap_lt hx) n1 n2 (fun e => by cases e)).trans hx, (hl.solid (hq2.solid hT)).vals, v', x, hQ⟩

theorem push2 {w w2 : World} {L S B : Nat} (h : One w w2 L S B) :
    Calls Tryd.prog 13 #[.pointer (some ⟨S, 0, none⟩), aggA 5 1 0 (some ⟨L, 0, none⟩) 1 1] w2 fun e w' => e = .returned (.iface 53 (.int .i64 7)) ∧ One w w' L S B := by
  obtain ⟨v, x, hq⟩ := h.qs
  refine (qpush_late 5 1 0 (some ⟨L, 0, none⟩) 1 1 oneV _ hq h.vals oneA_ok (by decide) (by decide)).mono ?_
  rintro e w' ⟨rfl, hb⟩
  exact ⟨rfl, h.quiet hb⟩
theorem next1 {w w2 : World} {L S B : Nat} (h : One w w2 L S B) :
    Calls Tryd.prog 14 #[.pointer (some ⟨S, 0, none⟩), .int .i64 5] w2 fun e w' => e = .returned (.tuple #[.int .i64 2, .nilIface]) ∧ One w w' L S B := by
  obtain ⟨v, x, hq⟩ := h.qs
  refine (qnext_ok hq 5 (by decide) (by decide) (by decide)).mono ?_
  rintro e w' ⟨rfl, rfl⟩
  exact ⟨rfl, h⟩
theorem count1 {w w2 : World} {L S B : Nat} (h : One w w2 L S B) :
    Calls Tryd.prog 15 #[.pointer (some ⟨S, 0, none⟩)] w2 fun e w' => e = .returned (.int .i64 1) ∧ One w w' L S B := by
  obtain ⟨v, x, hq⟩ := h.qs
  refine (qcount hq).mono ?_
  rintro e w' ⟨rfl, rfl⟩
  exact ⟨rfl, h⟩
theorem same1 {w w2 : World} {L S B : Nat} (h : One w w2 L S B) (hg : Hand w) :
    Calls Tryd.prog 8 #[.iface 53 (.int .i64 7), .int .i64 7] w2 fun e w' => e = .returned (.bool true) ∧ One w w' L S B := by
  refine (sameErr 7 7 w2 (hg.stays h.bel (Nat.le_refl _))).mono ?_
  rintro e w' ⟨rfl, hb⟩
  exact ⟨rfl, h.quiet hb⟩

/-- where the first loop stands -/
structure Put (w wr : World) (S B : Nat) (v : Value) (E : List QEnt) (f : Int → Int) (pv : Value) (P : List QEnt) : Prop where
  ob : Ob w wr S B v E P.length f pv P
  same : E.map (·.a) = P.map (·.a)
  last : ∀ j, f j = M.his j (P.map (·.a))
  turn : M.Turn (P.map (·.a))
  len : P.length ≤ 30
theorem Put.lenE {w wr : World} {S B : Nat} {v : Value} {E : List QEnt} {f : Int → Int} {pv : Value} {P : List QEnt} (h : Put w wr S B v E f pv P) : E.length = P.length := by
  have := congrArg List.length h.same
  simpa using this
theorem Put.few {w wr : World} {S B : Nat} {v : Value} {E : List QEnt} {f : Int → Int} {pv : Value} {P : List QEnt} (h : Put w wr S B v E f pv P) : ∀ j, 0 ≤ f j ∧ f j ≤ 1000000 := fun j => by
  have h1 := M.his_le j (P.map (·.a))
  have h2 := h.len
  rw [List.length_map] at h1
  rw [h.last j]
  omega
/-- behind a push that goes, and the append to the law's own list -/
theorem Put.more {w wr w2 w3 : World} {S B g o c : Nat} {v v' : Value} {E : List QEnt} {f : Int → Int} {pv : Value} {P : List QEnt} {x y : QEnt} (h : Put w wr S B v E f pv P) (hp : M.pushE f E.length y.a = 0) (h2 : Ob w w2 S B v' (E ++ [x]) (P.length + 1) (M.upF f y.a) pv P) (hx : x.a = y.a) (hy : IsVals w y.v y.a.t)
    (hw : winRow w3 w.heap.size 41 4 (.slice (some ⟨g, o, none⟩) (P.length + 1) c) (P.length + 1) (cellsQ P ++ [.int .i64 y.a.who, .int .i64 y.a.seq, .int .i64 y.a.deed, .slice y.x y.n y.c])) (hg : w2.grownBy w3 pv.ownBlock) {H : Nat} (hat : pv.ownBlock = some g ∨ g = H) (hH : w2.heap.size ≤ H) :
    Put w w3 S B v' (E ++ [x]) (M.upF f y.a) (.slice (some ⟨g, o, none⟩) (P.length + 1) c) (P ++ [y]) := by
  obtain ⟨_, hs, h30⟩ := M.pushE_ok hp
  have hl := h.lenE
  have ho := h2.more hy hw hg hat hH
  refine ⟨?_, ?_, ?_, ?_, ?_⟩
  · rw [List.length_append]; exact ho
  · rw [List.map_append, List.map_append, h.same, List.map_cons, List.map_cons, hx]
  · rw [List.map_append]; exact M.upF_his h.last hs
  · rw [List.map_append]
    refine h.turn.snoc ?_
    rw [hs, h.last]
  · rw [List.length_append, List.length_singleton]; omega

/-- where the second loop stands: i were popped -/
structure Got (w wr : World) (S B : Nat) (v : Value) (E : List QEnt) (f : Int → Int) (pv : Value) (P : List QEnt) (i : Nat) : Prop where
  ob : Ob w wr S B v E P.length f pv P
  rest : E.map (·.a) = (P.map (·.a)).drop i
theorem Put.got {w wr : World} {S B : Nat} {v : Value} {E : List QEnt} {f : Int → Int} {pv : Value} {P : List QEnt} (h : Put w wr S B v E f pv P) : Got w wr S B v E f pv P 0 := ⟨h.ob, by rw [List.drop_zero]; exact h.same⟩
theorem Got.split {w wr : World} {S B : Nat} {v : Value} {E : List QEnt} {f : Int → Int} {pv : Value} {P : List QEnt} {i : Nat} (h : Got w wr S B v E f pv P i) (hi : i < P.length) : ∃ x E', E = x :: E' ∧ x.a = P[i].a ∧ E'.map (·.a) = (P.map (·.a)).drop (i + 1) := by
  have hr := h.rest
  rw [List.drop_eq_getElem_cons (by rw [List.length_map]; exact hi)] at hr
  match E, hr with
  | x :: E', hr =>
    rw [List.map_cons] at hr
    injection hr with h1 h2
    exact ⟨x, E', rfl, by rw [h1, List.getElem_map], h2⟩
theorem Got.none {w wr : World} {S B : Nat} {v : Value} {E : List QEnt} {f : Int → Int} {pv : Value} {P : List QEnt} {i : Nat} (h : Got w wr S B v E f pv P i) (hi : P.length ≤ i) : E = [] := by
  have hr := h.rest
  rw [List.drop_eq_nil_of_le (by rw [List.length_map]; exact hi)] at hr
  exact List.map_eq_nil_iff.1 hr
theorem Got.few {w wr : World} {S B : Nat} {v : Value} {E : List QEnt} {f : Int → Int} {pv : Value} {P : List QEnt} {i : Nat} (h : Got w wr S B v E f pv P i) : E.length ≤ P.length := by
  have := congrArg List.length h.rest
  simp only [List.length_map, List.length_drop] at this
  omega
/-- a cell of the law's own list -/
theorem Ob.cells {w wr : World} {S B g o p c : Nat} {v : Value} {E : List QEnt} {n : Nat} {f : Int → Int} {P : List QEnt} (h : Ob w wr S B v E n f (.slice (some ⟨g, o, none⟩) p c) P) (hp : p = P.length) {i : Nat} (hi : i < P.length) :
    wr.cell? ⟨g, o + i * 4, none⟩ = some (.int .i64 P[i].a.who) ∧ wr.cell? ⟨g, o + i * 4 + 1, none⟩ = some (.int .i64 P[i].a.seq) ∧ wr.cell? ⟨g, o + i * 4 + 2, none⟩ = some (.int .i64 P[i].a.deed) ∧ wr.cell? ⟨g, o + i * 4 + 3, none⟩ = some (.slice P[i].x P[i].n P[i].c) := by
  subst hp
  obtain ⟨h1, h2, h3, h4⟩ := cellsQ_at P i hi
  have hr := h.row
  exact ⟨(hr.cellAt (by omega)).trans h1, (by rw [Nat.add_assoc]; exact (hr.cellAt (by omega)).trans h2), (by rw [Nat.add_assoc]; exact (hr.cellAt (by omega)).trans h3), (by rw [Nat.add_assoc]; exact (hr.cellAt (by omega)).trans h4)⟩
theorem his_next {l : List M.Ask} {k : Nat} (h : k < l.length) (j : Int) : M.his j (l.take (k + 1)) = M.his j (l.take k) + if l[k].who = j then 1 else 0 := by
  rw [List.take_succ_eq_append_getElem h, M.his_snoc]

end Go.Proofs.YtlefhfmckimlaahDoor.queueOnce
