/-
  The state of a law that has a space and two lists of argument tuples beside it, and what each step makes of it.
-/
import Derived.Test.YtlefhfmckimlaabDoorKeepFact
namespace Go.Proofs.YtlefhfmckimlaabDoor
open Go.RowKit

/-- a space at S whose list is v, and two lists u and z of tuples that came in with w -/
structure K2 (w wr : World) (S : Nat) (v u z : Value) (L R Z : List (List M.Val)) : Prop where
  sp : Space w.heap.size wr S v L
  ru : RowOf (IsVals w) w.heap.size wr u R
  rz : RowOf (IsVals w) w.heap.size wr z Z
  uv : Apart u v
  zv : Apart z v
  uz : Apart u z
  fine : M.Fine L
  bel : Below w.heap.size w wr

theorem K2.start {w w4 : World} (hb : Below w.heap.size w w4) : K2 w (w4.alloc (.cells #[.slice none 0 0] 52)) w4.heap.size (.slice none 0 0) (.slice none 0 0) (.slice none 0 0) [] [] [] :=
  ⟨⟨hb.size, heap_alloc_new w4 _, RowOf.nil _ _ _⟩, RowOf.nil _ _ _, RowOf.nil _ _ _, Apart.nil _, Apart.nil _, Apart.nil _, Fine.nil, hb.alloc hb.size _⟩
theorem K2.swap {w wr : World} {S : Nat} {v z : Value} {L Z : List (List M.Val)} (h : K2 w wr S v (.slice none 0 0) z L [] Z) : K2 w wr S v z (.slice none 0 0) L Z [] :=
  ⟨h.sp, h.rz, RowOf.nil _ _ _, h.zv, Apart.nil _, (Apart.nil _).symm, h.fine, h.bel⟩
theorem K2.quiet {w wr w1 : World} {S : Nat} {v u z : Value} {L R Z : List (List M.Val)} (h : K2 w wr S v u z L R Z) (hb : Below wr.heap.size wr w1) : K2 w w1 S v u z L R Z :=
  ⟨Space.stays h.sp hb, h.ru.below hb, h.rz.below hb, h.uv, h.zv, h.uz, h.fine, h.bel.trans (hb.mono h.bel.size)⟩
theorem K2.touched {w wr w1 : World} {S : Nat} {v v' u z : Value} {L L' R Z : List (List M.Val)} (h : K2 w wr S v u z L R Z) (hs : Space w.heap.size w1 S v' L') (ht : Touch S v wr w1) (hn : Near wr v v') (hf : M.Fine L') : K2 w w1 S v' u z L' R Z :=
  ⟨hs, h.ru.touch h.sp.heap (by decide) ht h.uv, h.rz.touch h.sp.heap (by decide) ht h.zv, h.uv.near (fun k hk => (h.ru.lt k hk).2) hn, h.zv.near (fun k hk => (h.rz.lt k hk).2) hn, h.uz, hf, h.bel.trans (Sp.below h.sp ht (Nat.le_refl _))⟩
theorem K2.more {w wA w3 : World} {S : Nat} {v u z z' x : Value} {L R Z : List (List M.Val)} {l : List M.Val} {xs : List Value} (h : K2 w wA S v u z L R Z) (hx1 : wA.ownsRow w.heap.size 23 1 z Z.length xs) (hx2 : ∀ i (h1 : i < xs.length) (h2 : i < Z.length), IsVals w xs[i] Z[i])
    (hx : IsVals w x l) (ho : w3.ownsRow w.heap.size 23 1 z' (Z.length + 1) (xs ++ [x])) (hg : wA.grownBy w3 z.ownBlock) (hn : Near wA z z') : K2 w w3 S v u z' L R (Z ++ [l]) := by
  have hvz : Apart v z := h.zv.symm
  refine ⟨Space.grown h.sp hx1 hvz hg, h.ru.grown h.uz hg, RowOf.more hx1 hx2 ho hx, h.uv, ?_, h.uz.near (fun k hk => (h.ru.lt k hk).2) hn, h.fine, h.bel.grown hg h.bel.size (fun k hk => (hx1.lt k hk).1)⟩
  exact (hvz.near (fun k hk => (h.sp.row.lt k hk).2) hn).symm

theorem K2.put {w wr : World} {S : Nat} {v u z x : Value} {L R Z : List (List M.Val)} {l : List M.Val} (h : K2 w wr S v u z L R Z) (hx : IsVals w x l) :
    Calls Tryd.prog 7 #[.pointer (some ⟨S, 0, none⟩), x] wr fun e w' => e = .returned (errV (M.putF L l)) ∧ ∃ v', K2 w w' S v' u z (M.putL L l) R Z := by
  refine (Go.Proofs.YtlefhfmckimlaabDoor.put w.heap.size S v x l L wr h.sp (hx.stays h.bel (Nat.le_refl _))).mono ?_
  rintro e w' ⟨rfl, v', h1, h2, h3⟩
  exact ⟨rfl, v', h.touched h1 h2 h3 (Fine.put h.fine)⟩
theorem K2.take {w wr : World} {S : Nat} {v u z x : Value} {L R Z : List (List M.Val)} {a : List M.Val} (h : K2 w wr S v u z L R Z) (hx : IsVals w x a) :
    Calls Tryd.prog 8 #[.pointer (some ⟨S, 0, none⟩), x] wr fun e w' => ∃ r v', e = .returned (.tuple #[r, errV (M.getF a L)]) ∧ IsVals w' r (M.getV a L) ∧ K2 w w' S v' u z (M.lessL a L) R Z ∧ Solid wr w' := by
  refine (Go.Proofs.YtlefhfmckimlaabDoor.take w.heap.size S v x a L wr h.sp h.fine (hx.stays h.bel (Nat.le_refl _))).mono ?_
  rintro e w' ⟨r, v', rfl, h0, h1, h2, h3⟩
  exact ⟨r, v', rfl, h0.vals, h.touched h1 h2 h3 (Fine.less h.fine), Sp.solid h.sp (by decide) h2⟩

end Go.Proofs.YtlefhfmckimlaabDoor
