/-
  Where the Go function QueuePlays stands: the program's queue, the law's own list and its own numbers beside it.
-/
import Derived.Test.YtlefhfmckimlaahDoorQueState
import Derived.Test.YtlefhfmckimlaahDoorRefAsk
import Derived.Deep.OwnRows
set_option linter.unusedVariables false
namespace Go.Proofs.YtlefhfmckimlaahDoor.queuePlays
open Go.RowKit

/-- the law's own four numbers -/
def four (f : Int → Int) : Array Value := #[.int .i64 (f 0), .int .i64 (f 1), .int .i64 (f 2), .int .i64 (f 3)]
theorem infoI : (Tryd.prog.info? 3).map (fun i => (i.zero, i.size, i.bytes)) = some (some (.int .i64 0), 1, 8) := by kernel_rfl
theorem made4 : madeCells #[.int .i64 0] 4 = four (fun _ => 0) := by kernel_rfl
theorem make4 (w : World) : (Instr.makeSlice 49 (.int .i64 4) (.int .i64 4)).run Tryd.prog w = .ok (.slice (some ⟨w.heap.size, 0, none⟩) 4 4) (w.alloc (.cells (four fun _ => 0) 3)) := by
  have h := run_make_row' (P := Tryd.prog) 49 3 (.int .i64 0) 8 Tryd.underlying49 infoI rfl .i64 .i64 4 (by decide) (by decide) w
  rw [made4] at h
  exact h
/-- the program's queue, the law's own list, and its numbers (F) in block L -/
structure Pl (w0 w : World) (S B L : Nat) (v : Value) (E : List QEnt) (n : Nat) (f : Int → Int) (pv : Value) (P : List QEnt) (F : Int → Int) : Prop where
  ob : Ob w0 w S B v E n f pv P
  few : E.length ≤ 30
  last : ∀ k, 0 ≤ f k ∧ f k ≤ 1000
  lo : w0.heap.size ≤ L
  nums : w.heap[L]? = some (.cells (four F) 3 (0, 0))

section
variable {w0 w w' : World} {S B L : Nat} {v v' pv : Value} {E E' P : List QEnt} {n n' : Nat} {f f' F : Int → Int}

theorem Pl.quiet (h : Pl w0 w S B L v E n f pv P F) (hb : Below w.heap.size w w') : Pl w0 w' S B L v E n f pv P F :=
  ⟨h.ob.quiet hb, h.few, h.last, h.lo, (hb.block L (heap_lt h.nums)).trans h.nums⟩
theorem Pl.fk (h : Pl w0 w S B L v E n f pv P F) : ∀ k, 0 ≤ f k ∧ f k ≤ 1000000 := fun k => by have := h.last k; omega
theorem Pl.numAt (h : Pl w0 w S B L v E n f pv P F) {k : Nat} (hk : k < 4) : w.cell? ⟨L, k, none⟩ = some (.int .i64 (F k)) := by
  rw [cell_of_row w L k _ _ (0, 0) h.nums]
  match k, hk with
  | 0, _ => rfl
  | 1, _ => rfl
  | 2, _ => rfl
  | 3, _ => rfl
/-- a queue's call keeps the law's own numbers, and every box -/
theorem Pl.touch (h : Pl w0 w S B L v E n f pv P F) (ho : Ob w0 w' S B v' E' n' f' pv P) (ht : TouchQ S B v w w') (he : E'.length ≤ 30) (hl : ∀ k, 0 ≤ f' k ∧ f' k ≤ 1000) : Pl w0 w' S B L v' E' n' f' pv P F :=
  ⟨ho, he, hl, h.lo, h.ob.qs.keeps ht (by decide) (by decide) h.nums⟩
end

/-- what is asked, in a box of the law's own that is none of the two lists' blocks -/
structure Box (w : World) (N : Nat) (v pv : Value) (who seq deed : Int) (a : Option Addr) (n c : Nat) : Prop where
  at_ : w.heap[N]? = some (.cells #[.int .i64 who, .int .i64 seq, .int .i64 deed, .slice a n c] 41 (0, 0))
  nv : v.ownBlock ≠ some N
  np : pv.ownBlock ≠ some N

section
variable {w0 w w' : World} {S B L N : Nat} {v v' pv pv' : Value} {E E' P : List QEnt} {n n' : Nat} {f f' F : Int → Int} {who seq deed : Int} {a : Option Addr} {m c : Nat}

theorem Box.quiet (h : Box w N v pv who seq deed a m c) (hb : Below w.heap.size w w') : Box w' N v pv who seq deed a m c := ⟨(hb.block N (heap_lt h.at_)).trans h.at_, h.nv, h.np⟩
theorem Box.touch {base : Nat} (h : Box w N v pv who seq deed a m c) (hq : Qs base w S B v E n f) (ht : TouchQ S B v w w') (hn : Near w v v') : Box w' N v' pv who seq deed a m c := by
  obtain ⟨n1, n2⟩ := hq.boxed h.at_
  refine ⟨(ht.block N (heap_lt h.at_) n1 n2 h.nv).trans h.at_, fun e => ?_, h.np⟩
  rcases hn with hn | hn
  · rw [hn] at e; exact h.nv e
  · have := hn N e
    have := heap_lt h.at_
    omega
/-- a new box -/
theorem Box.new {base b2 k k2 : Nat} {xs ys : List Value} (hv : winRow w base 41 k v n xs) (hp : winRow w b2 41 k2 pv n' ys) (who seq deed : Int) (a : Option Addr) (m c : Nat) : Box (w.alloc (.cells #[.int .i64 who, .int .i64 seq, .int .i64 deed, .slice a m c] 41)) w.heap.size v pv who seq deed a m c :=
  ⟨heap_alloc_new w _, fun e => absurd (hv.lt _ e).2 (Nat.lt_irrefl _), fun e => absurd (hp.lt _ e).2 (Nat.lt_irrefl _)⟩
theorem Box.c0 (h : Box w N v pv who seq deed a m c) : w.cell? ⟨N, 0, none⟩ = some (.int .i64 who) := by rw [cell_of_row w N 0 _ _ (0, 0) h.at_]; rfl
theorem Box.c1 (h : Box w N v pv who seq deed a m c) : w.cell? ⟨N, 1, none⟩ = some (.int .i64 seq) := by rw [cell_of_row w N 1 _ _ (0, 0) h.at_]; rfl
theorem Box.c2 (h : Box w N v pv who seq deed a m c) : w.cell? ⟨N, 2, none⟩ = some (.int .i64 deed) := by rw [cell_of_row w N 2 _ _ (0, 0) h.at_]; rfl
theorem Box.c3 (h : Box w N v pv who seq deed a m c) : w.cell? ⟨N, 3, none⟩ = some (.slice a m c) := by rw [cell_of_row w N 3 _ _ (0, 0) h.at_]; rfl
theorem Box.fz (h : Box w N v pv who seq deed a m c) (j : Nat) : w.frozen? ⟨N, j, none⟩ = false := frozen_of_row w N j _ _ h.at_
/-- the box's own first cell is written -/
theorem Box.setWho (h : Box w N v pv who seq deed a m c) (x : Int) : Box (w.setCell ⟨N, 0, none⟩ (.int .i64 x)) N v pv x seq deed a m c := ⟨by rw [heap_setCell_same w N 0 _ _ _ h.at_]; rfl, h.nv, h.np⟩
theorem Pl.setWho (h : Pl w0 w S B L v E n f pv P F) (hb : Box w N v pv who seq deed a m c) (hN : w0.heap.size ≤ N) (x : Int) : Pl w0 (w.setCell ⟨N, 0, none⟩ (.int .i64 x)) S B L v E n f pv P F := by
  have hg := grownBy_setCell w ⟨N, 0, none⟩ (.int .i64 x)
  refine ⟨⟨h.ob.qs.boxG hb.at_ hb.nv hg, h.ob.bel.setCell hN _, h.ob.row.kept hg (fun g hg' e => hb.np (by cases e; exact hg')), h.ob.src, h.ob.ap⟩, h.few, h.last, h.lo, ?_⟩
  refine (hg.block L (heap_lt h.nums) (fun e => ?_)).trans h.nums
  cases e
  have := hb.at_
  rw [h.nums] at this
  exact absurd (tag_eq this) (by decide)

/-- a queue stays while a block of another type is written -/
theorem qs_far {base : Nat} {T : TypeId} {cs : Array Value} {fr : Nat × Nat} (h : Qs base w S B v E n f) (h1 : T ≠ 59) (h2 : T ≠ 41) (h3 : T ≠ 38) (hL : w.heap[L]? = some (.cells cs T fr)) (hg : w.grownBy w' (some L)) : Qs base w' S B v E n f := by
  obtain ⟨es, c', hm⟩ := h.mapHeap
  obtain ⟨D, hD, hf⟩ := h.map
  refine ⟨h.lo, h.lob, (hg.block S h.lt (fun e => ?_)).trans h.heap, h.row.kept hg (fun g hv e => h.row.tag h2.symm hL (by cases e; exact hv)), fun x hx => (h.own x hx).solid (fun b cur fr' hb => (hg.block b (heap_lt hb) (fun e => ?_)).trans hb), D, hD.kept hg (fun e => ?_), hf⟩
  · cases e
    rw [h.heap] at hL
    exact h1 (tag_eq hL).symm
  · cases e
    rw [hL] at hb
    exact h3 (tag_eq hb)
  · cases e
    rw [hm] at hL
    cases hL
theorem four_set (f : Int → Int) {k : Nat} (hk : k < 4) (seq deed : Int) (l : List M.Val) : (four f).setIfInBounds k (.int .i64 seq) = four (M.upF f ⟨k, seq, deed, l⟩) := by
  match k, hk with
  | 0, _ => rfl
  | 1, _ => rfl
  | 2, _ => rfl
  | 3, _ => rfl
/-- a number of the law's own is written -/
theorem Pl.setNum (h : Pl w0 w S B L v E n f pv P F) {k : Nat} (hk : k < 4) (seq deed : Int) (l : List M.Val) : Pl w0 (w.setCell ⟨L, k, none⟩ (.int .i64 seq)) S B L v E n f pv P (M.upF F ⟨k, seq, deed, l⟩) := by
  have hg := grownBy_setCell w ⟨L, k, none⟩ (.int .i64 seq)
  refine ⟨⟨qs_far h.ob.qs (by decide) (by decide) (by decide) h.nums hg, h.ob.bel.setCell h.lo _, h.ob.row.kept hg (fun g hg' e => h.ob.row.tag (by decide) h.nums (by cases e; exact hg')), h.ob.src, h.ob.ap⟩, h.few, h.last, h.lo, ?_⟩
  rw [heap_setCell_same w L k _ _ _ h.nums, four_set F hk seq deed l]
theorem Box.setNum (h : Box w N v pv who seq deed a m c) {cs : Array Value} (hL : w.heap[L]? = some (.cells cs 3 (0, 0))) (k : Nat) (u : Value) : Box (w.setCell ⟨L, k, none⟩ u) N v pv who seq deed a m c := by
  refine ⟨((grownBy_setCell w ⟨L, k, none⟩ u).block N (heap_lt h.at_) (fun e => ?_)).trans h.at_, h.nv, h.np⟩
  cases e
  have := h.at_
  rw [hL] at this
  exact absurd (tag_eq this) (by decide)
/-- one more in the law's own list -/
theorem Pl.more {w1 : World} {g o k : Nat} {z : QEnt} (h : Pl w0 w S B L v E n f pv P F) (hz : IsVals w0 z.v z.a.t) (hw : winRow w1 w0.heap.size 41 4 (.slice (some ⟨g, o, none⟩) (P.length + 1) k) (P.length + 1) (cellsQ P ++ [.int .i64 z.a.who, .int .i64 z.a.seq, .int .i64 z.a.deed, .slice z.x z.n z.c]))
    (hg : w.grownBy w1 pv.ownBlock) {H : Nat} (hat : pv.ownBlock = some g ∨ g = H) (hH : w.heap.size ≤ H) : Pl w0 w1 S B L v E n f (.slice (some ⟨g, o, none⟩) (P.length + 1) k) (P ++ [z]) F :=
  ⟨h.ob.more hz hw hg hat hH, h.few, h.last, h.lo, (hg.block L (heap_lt h.nums) (fun e => h.ob.row.tag (by decide) h.nums e.symm)).trans h.nums⟩
theorem Box.more {w1 : World} {g o k p : Nat} (h : Box w N v pv who seq deed a m c) (hg : w.grownBy w1 pv.ownBlock) {H : Nat} (hat : pv.ownBlock = some g ∨ g = H) (hH : w.heap.size ≤ H) : Box w1 N v (.slice (some ⟨g, o, none⟩) p k) who seq deed a m c := by
  refine ⟨(hg.block N (heap_lt h.at_) (fun e => h.np e.symm)).trans h.at_, h.nv, fun e => ?_⟩
  have hgk : g = N := by simpa [Value.ownBlock] using e
  subst hgk
  rcases hat with hat | hat
  · exact h.np hat
  · have := heap_lt h.at_
    omega

/-- where a round begins: k rounds are done -/
structure Rd (w0 w : World) (S B L k : Nat) (v : Value) (E : List QEnt) (n : Nat) (f : Int → Int) (pv : Value) (P : List QEnt) : Prop where
  pl : Pl w0 w S B L v E n f pv P f
  same : E.map (·.a) = P.map (·.a)
  small : n ≤ k
  low : ∀ j, f j ≤ k
theorem Rd.quiet {k : Nat} (h : Rd w0 w S B L k v E n f pv P) (hb : Below w.heap.size w w') : Rd w0 w' S B L k v E n f pv P := ⟨h.pl.quiet hb, h.same, h.small, h.low⟩
theorem Rd.lenE {k : Nat} (h : Rd w0 w S B L k v E n f pv P) : E.length = P.length := by
  have := congrArg List.length h.same
  simpa using this
/-- a pop -/
theorem Pl.pop {x : QEnt} (h : Pl w0 w S B L v (x :: E) n f pv P F) : Calls Tryd.prog 16 #[.pointer (some ⟨S, 0, none⟩)] w fun e w' => e = .returned (.tuple #[aggA x.a.who x.a.seq x.a.deed x.x x.n x.c, errV 0]) ∧ ∃ v', Pl w0 w' S B L v' E n f pv P F ∧ IsVals w' x.v x.a.t ∧ TouchQ S B v w w' ∧ Near w v v' := by
  have hf := h.few
  simp only [List.length_cons] at hf
  refine (qpop_ok h.ob.qs (by omega)).mono ?_
  rintro e w' ⟨rfl, v', hQ, hO, hT, hN⟩
  exact ⟨rfl, v', h.touch (h.ob.touch hQ hT hN) hT (by omega) h.last, hO.vals, hT, hN⟩
/-- the first is taken off the law's own list -/
theorem Pl.tail {g o p c : Nat} {z : QEnt} (h : Pl w0 w S B L v E n f (.slice (some ⟨g, o, none⟩) (p + 1) c) (z :: P) F) (hp : p = P.length) : Pl w0 w S B L v E n f (.slice (if c = 1 then some ⟨g, o, none⟩ else some ⟨g, o + 4, none⟩) p (c - 1)) P F := by
  have hr := h.ob.row
  simp only [List.length_cons] at hr
  rw [← hp] at hr
  have ht := hr.tail
  rw [cellsQ_tail] at ht
  refine ⟨⟨h.ob.qs, h.ob.bel, by rw [← hp]; exact ht, fun x hx => h.ob.src x (List.mem_cons_of_mem _ hx), fun k hk => h.ob.ap k ?_⟩, h.few, h.last, h.lo, h.nums⟩
  rw [← hk]
  by_cases hc : c = 1
  · rw [if_pos hc]; rfl
  · rw [if_neg hc]; rfl
theorem Box.tail {g o p q c d : Nat} (h : Box w N v (.slice (some ⟨g, o, none⟩) p c) who seq deed a m d) : Box w N v (.slice (if c = 1 then some ⟨g, o, none⟩ else some ⟨g, o + 4, none⟩) q (c - 1)) who seq deed a m d := by
  refine ⟨h.at_, h.nv, fun e => h.np ?_⟩
  rw [← e]
  by_cases hc : c = 1
  · rw [if_pos hc]; rfl
  · rw [if_neg hc]; rfl
/-- a push, behind which a round is done: the law's own list and numbers are ahead of it -/
theorem pushRd {k : Nat} {P2 : List QEnt} {F2 : Int → Int} {l : List M.Val} (h : Pl w0 w S B L v E n f pv P2 F2) (hv : IsVals w0 (.slice a m c) l) (hs : E.map (·.a) = P.map (·.a)) (hn : n ≤ k) (hlow : ∀ j, f j ≤ k) (hk : k ≤ 90) {ke : Int} (hke : M.pushE f P.length ⟨who, seq, deed, l⟩ = ke)
    (hc : (ke ≠ 0 ∧ P2 = P ∧ F2 = f) ∨ (ke = 0 ∧ (∃ z : QEnt, z.a = ⟨who, seq, deed, l⟩ ∧ P2 = P ++ [z]) ∧ F2 = M.upF f ⟨who, seq, deed, l⟩)) :
    Calls Tryd.prog 13 #[.pointer (some ⟨S, 0, none⟩), aggA who seq deed a m c] w fun e w' => e = .returned (errV ke) ∧ ∃ v' E' n', Rd w0 w' S B L (k + 1) v' E' n' F2 pv P2 := by
  have hl : E.length = P.length := by
    have := congrArg List.length hs
    simpa using this
  rw [← hl] at hke
  refine (qpush who seq deed a m c l w h.ob.qs (hv.stays h.ob.bel (Nat.le_refl _)) h.fk h.few (by omega)).mono ?_
  rintro e w' ⟨rfl, hq⟩
  rw [hke] at hq ⊢
  refine ⟨rfl, ?_⟩
  rcases hc with ⟨h0, rfl, rfl⟩ | ⟨h0, ⟨z, hz, rfl⟩, rfl⟩
  · rcases hq with ⟨_, hb⟩ | ⟨h1, _⟩
    · exact ⟨v, E, n, h.quiet hb, hs, by omega, fun j => by have := hlow j; omega⟩
    · exact absurd h1 h0
  · rcases hq with ⟨h1, _⟩ | ⟨_, v', x, hQ, hx, hT, hN⟩
    · exact absurd h0 h1
    · subst h0
      obtain ⟨_, hseq, h30⟩ := M.pushE_ok hke
      simp only at hseq
      have hb : ∀ j, 0 ≤ M.upF f ⟨who, seq, deed, l⟩ j ∧ M.upF f ⟨who, seq, deed, l⟩ j ≤ k + 1 := fun j => by
        have h1 := h.last j
        have h2 := hlow j
        have h3 := h.last who
        have h4 := hlow who
        unfold M.upF
        simp only
        split <;> omega
      refine ⟨v', E ++ [x], n + 1, h.touch (h.ob.touch hQ hT hN) hT (by rw [List.length_append, List.length_singleton]; omega) (fun j => by have := hb j; omega), ?_, by omega, fun j => by have := hb j; simpa using this.2⟩
      rw [List.map_append, List.map_append, hs, List.map_cons, List.map_cons, hx, hz]
theorem Rd.count {k : Nat} (h : Rd w0 w S B L k v E n f pv P) {p : Nat} (hp : p = P.length) : Calls Tryd.prog 15 #[.pointer (some ⟨S, 0, none⟩)] w fun e w' => e = .returned (.int .i64 p) ∧ w' = w := by
  have := qcount h.pl.ob.qs
  rwa [h.lenE, ← hp] at this
end

end Go.Proofs.YtlefhfmckimlaahDoor.queuePlays
