/-
  The state of the laws on a queue: the program's queue, and the law's own list of what was pushed beside it, with a law a call.
-/
import Derived.Test.YtlefhfmckimlaahDoorQueCalls
import Derived.Test.YtlefhfmckimlaahDoorAsks
import Derived.Test.YtlefhfmckimlaahDoorErrTold
import Derived.Test.YtlefhfmckimlaahDoorTupSame
set_option linter.unusedVariables false
namespace Go.Proofs.YtlefhfmckimlaahDoor
open Go.RowKit Go.WideMaps Go.Maps

/-- a queue stays while another row of what is asked is written -/
theorem Qs.grownAsks {base S B b k m : Nat} {w w' : World} {v u : Value} {E : List QEnt} {n : Nat} {f : Int → Int} {xs : List Value} (h : Qs base w S B v E n f) (hr : winRow w b 41 k u m xs) (ha : Apart u v) (hg : w.grownBy w' u.ownBlock) : Qs base w' S B v E n f := by
  obtain ⟨es, c, hm⟩ := h.mapHeap
  obtain ⟨D, hD, hf⟩ := h.map
  have hs : Solid w w' := fun i cur fr hi => (hg.block i (heap_lt hi) (fun e => hr.tag (by decide) hi e.symm)).trans hi
  exact ⟨h.lo, h.lob, (hg.block S h.lt (fun e => hr.tag (by decide) h.heap e.symm)).trans h.heap, h.row.kept hg (fun g hv e => ha g e hv), fun x hx => (h.own x hx).solid hs, D, hD.kept hg (fun e => hr.map hm e.symm), hf⟩

/-- the program's queue, and the law's own list: its tuples are as they were handed in -/
structure Ob (w0 w : World) (S B : Nat) (v : Value) (E : List QEnt) (n : Nat) (f : Int → Int) (pv : Value) (P : List QEnt) : Prop where
  qs : Qs w0.heap.size w S B v E n f
  bel : Below w0.heap.size w0 w
  row : winRow w w0.heap.size 41 4 pv P.length (cellsQ P)
  src : ∀ x ∈ P, IsVals w0 x.v x.a.t
  ap : Apart pv v

section
variable {w0 w w' : World} {S B : Nat} {v v' pv : Value} {E E' P : List QEnt} {n n' : Nat} {f f' : Int → Int}

theorem Ob.quiet (h : Ob w0 w S B v E n f pv P) (hb : Below w.heap.size w w') : Ob w0 w' S B v E n f pv P :=
  ⟨h.qs.below hb, h.bel.trans (hb.mono h.bel.size), h.row.below hb, h.src, h.ap⟩
theorem Ob.touch (h : Ob w0 w S B v E n f pv P) (hq : Qs w0.heap.size w' S B v' E' n' f') (ht : TouchQ S B v w w') (hn : Near w v v') : Ob w0 w' S B v' E' n' f' pv P :=
  ⟨hq, h.bel.trans (h.qs.touchBelow ht (Nat.le_refl _)), h.qs.keepsAsks ht h.row h.ap, h.src, h.ap.near (fun k hk => (h.row.lt k hk).2) hn⟩
/-- behind an append to the law's own list -/
theorem Ob.more {w1 : World} {g o c : Nat} {x : QEnt} (h : Ob w0 w S B v E n f pv P) (hx : IsVals w0 x.v x.a.t) (hw : winRow w1 w0.heap.size 41 4 (.slice (some ⟨g, o, none⟩) (P.length + 1) c) (P.length + 1) (cellsQ P ++ [.int .i64 x.a.who, .int .i64 x.a.seq, .int .i64 x.a.deed, .slice x.x x.n x.c]))
    (hg : w.grownBy w1 pv.ownBlock) {H : Nat} (hat : pv.ownBlock = some g ∨ g = H) (hH : w.heap.size ≤ H) : Ob w0 w1 S B v E n f (.slice (some ⟨g, o, none⟩) (P.length + 1) c) (P ++ [x]) := by
  refine ⟨h.qs.grownAsks h.row h.ap hg, h.bel.grown hg h.bel.size (fun k hk => (h.row.lt k hk).1), ?_, fun y hy => ?_, fun k hk => ?_⟩
  · rw [cellsQ_append, List.length_append]
    exact hw
  · rcases List.mem_append.1 hy with hy | hy
    · exact h.src y hy
    · rw [List.mem_singleton.1 hy]; exact hx
  · have hgk : g = k := by simpa [Value.ownBlock] using hk
    subst hgk
    rcases hat with hat | hat
    · exact h.ap g hat
    · exact fun e => by have := (h.qs.row.lt g e).2; omega
theorem Ob.start (hb : Below w0.heap.size w0 w) : Ob w0 ((w.alloc (.map #[] 0)).alloc (.cells #[.slice none 0 0, .map (some w.heap.size)] 59)) (w.heap.size + 1) w.heap.size (.slice none 0 0) [] 0 (fun _ => 0) (.slice none 0 0) [] :=
  ⟨Qs.new w hb.size, (hb.alloc hb.size _).alloc (Nat.le_trans hb.size (by simp)) _, winRow_nil _ _ _ _, (fun x hx => by cases hx), Apart.nil _⟩

theorem Ob.push (h : Ob w0 w S B v E n f pv P) {who seq deed : Int} {a : Option Addr} {m c : Nat} {l : List M.Val} (hv : IsVals w0 (.slice a m c) l) (hfk : ∀ k, 0 ≤ f k ∧ f k ≤ 1000000) (hn : E.length ≤ 30) (hm : n < 1000) {k : Int} (hk : M.pushE f E.length ⟨who, seq, deed, l⟩ = k) :
    Calls Tryd.prog 13 #[.pointer (some ⟨S, 0, none⟩), aggA who seq deed a m c] w fun e w' => e = .returned (errV k) ∧ ((k ≠ 0 ∧ Ob w0 w' S B v E n f pv P) ∨ (k = 0 ∧ ∃ v' x, Ob w0 w' S B v' (E ++ [x]) (n + 1) (M.upF f ⟨who, seq, deed, l⟩) pv P ∧ x.a = ⟨who, seq, deed, l⟩)) := by
  subst hk
  refine (qpush who seq deed a m c l w h.qs (hv.stays h.bel (Nat.le_refl _)) hfk hn hm).mono ?_
  rintro e w' ⟨rfl, hc⟩
  refine ⟨rfl, ?_⟩
  rcases hc with ⟨h0, hb⟩ | ⟨h0, v', x, hQ, hx, hT, hN⟩
  · exact Or.inl ⟨h0, h.quiet hb⟩
  · exact Or.inr ⟨h0, v', x, h.touch hQ hT hN, hx⟩
theorem Ob.popNone (h : Ob w0 w S B v [] n f pv P) : Calls Tryd.prog 16 #[.pointer (some ⟨S, 0, none⟩)] w fun e w' => e = .returned (.tuple #[aggA 0 0 0 none 0 0, errV 5]) ∧ Ob w0 w' S B v [] n f pv P := by
  refine (qpop_none h.qs).mono ?_
  rintro e w' ⟨rfl, hb⟩
  exact ⟨rfl, h.quiet hb⟩
theorem Ob.pop {x : QEnt} (h : Ob w0 w S B v (x :: E) n f pv P) (hn : E.length < 100) : Calls Tryd.prog 16 #[.pointer (some ⟨S, 0, none⟩)] w fun e w' => e = .returned (.tuple #[aggA x.a.who x.a.seq x.a.deed x.x x.n x.c, errV 0]) ∧ ∃ v', Ob w0 w' S B v' E n f pv P ∧ IsVals w' x.v x.a.t := by
  refine (qpop_ok h.qs hn).mono ?_
  rintro e w' ⟨rfl, v', hQ, hO, hT, hN⟩
  exact ⟨rfl, v', h.touch hQ hT hN, hO.vals⟩
theorem Ob.next (h : Ob w0 w S B v E n f pv P) {k : Int} (h1 : 0 ≤ k) (h2 : k ≤ 1000000) (hf : 0 ≤ f k ∧ f k ≤ 1000000) {c : Int} (hc : f k + 1 = c) :
    Calls Tryd.prog 14 #[.pointer (some ⟨S, 0, none⟩), .int .i64 k] w fun e w' => e = .returned (.tuple #[.int .i64 c, .nilIface]) ∧ Ob w0 w' S B v E n f pv P := by
  subst hc
  refine (qnext_ok h.qs k h1 h2 hf).mono ?_
  rintro e w' ⟨rfl, hw⟩
  exact ⟨rfl, hw ▸ h⟩
theorem Ob.count (h : Ob w0 w S B v E n f pv P) : Calls Tryd.prog 15 #[.pointer (some ⟨S, 0, none⟩)] w fun e w' => e = .returned (.int .i64 E.length) ∧ Ob w0 w' S B v E n f pv P := by
  refine (qcount h.qs).mono ?_
  rintro e w' ⟨rfl, hw⟩
  exact ⟨rfl, hw ▸ h⟩
theorem Ob.same (h : Ob w0 w S B v E n f pv P) (hg : Hand w0) (c d : Int) : Calls Tryd.prog 8 #[errV c, .int .i64 d] w fun e w' => e = .returned (.bool (c == d)) ∧ Ob w0 w' S B v E n f pv P ∧ Below w.heap.size w w' := by
  refine (sameErr c d w (hg.stays h.bel (Nat.le_refl _))).mono ?_
  rintro e w' ⟨rfl, hb⟩
  exact ⟨rfl, h.quiet hb, hb⟩
theorem Ob.tuple (h : Ob w0 w S B v E n f pv P) {r x : Value} {l : List M.Val} (hr : IsVals w r l) (hx : IsVals w x l) : Calls Tryd.prog 17 #[r, x] w fun e w' => e = .returned (.bool true) ∧ Ob w0 w' S B v E n f pv P ∧ Below w.heap.size w w' := by
  have := tsame r x l l w hr hx
  rw [sameAll_self] at this
  refine this.mono ?_
  rintro e w' ⟨rfl, hb⟩
  exact ⟨rfl, h.quiet hb, hb⟩
end

end Go.Proofs.YtlefhfmckimlaahDoor
