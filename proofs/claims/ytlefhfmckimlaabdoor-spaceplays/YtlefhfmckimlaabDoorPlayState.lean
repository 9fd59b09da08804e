/-
  The state of a law that has a space of the program and one of the document beside each other, and what each call makes of it.
-/
import Derived.Test.YtlefhfmckimlaabDoorSpRef3
import Derived.Test.YtlefhfmckimlaabDoorErrTold
namespace Go.Proofs.YtlefhfmckimlaabDoor
open Go.RowKit

/-- the program's space at S with the tuples L, the document's at R with the tuples K -/
structure P2 (w wr : World) (S R : Nat) (v u : Value) (L K : List (List M.Val)) : Prop where
  sp : Space w.heap.size wr S v L
  rp : Ref w wr R u K
  uv : Apart u v
  fine : M.Fine L
  kine : M.Fine K
  bel : Below w.heap.size w wr

theorem P2.quiet {w wr w1 : World} {S R : Nat} {v u : Value} {L K : List (List M.Val)} (h : P2 w wr S R v u L K) (hb : Below wr.heap.size wr w1) : P2 w w1 S R v u L K :=
  ⟨Space.stays h.sp hb, Sp.quiet h.rp hb, h.uv, h.fine, h.kine, h.bel.trans (hb.mono h.bel.size)⟩
theorem P2.sput {w wr w1 : World} {S R : Nat} {v v' u : Value} {L L' K : List (List M.Val)} (h : P2 w wr S R v u L K) (hs : Space w.heap.size w1 S v' L') (ht : Touch S v wr w1) (hn : Near wr v v') (hf : M.Fine L') : P2 w w1 S R v' u L' K :=
  ⟨hs, Sp.touch h.rp h.sp (by decide) (by decide) (by decide) ht h.uv, h.uv.near (fun k hk => (h.rp.row.lt k hk).2) hn, hf, h.kine, h.bel.trans (Sp.below h.sp ht (Nat.le_refl _))⟩
theorem P2.mput {w wr w1 : World} {S R : Nat} {v u u' : Value} {L K K' : List (List M.Val)} (h : P2 w wr S R v u L K) (hs : Ref w w1 R u' K') (ht : Touch R u wr w1) (hn : Near wr u u') (hf : M.Fine K') : P2 w w1 S R v u' L K' :=
  ⟨(Sp.touch h.sp h.rp (by decide) (by decide) (by decide) ht h.uv.symm).mono (fun _ _ ho => ho.solid (Sp.solid h.rp (by decide) ht)), hs, (h.uv.symm.near (fun k hk => (h.sp.row.lt k hk).2) hn).symm, h.fine, hf, h.bel.trans (Sp.below h.rp ht (Nat.le_refl _))⟩
theorem P2.start (w : World) : P2 w ((w.alloc (.cells #[.slice none 0 0] 52)).alloc (.cells #[.slice none 0 0] 46)) w.heap.size (w.heap.size + 1) (.slice none 0 0) (.slice none 0 0) [] [] := by
  have hb : Below w.heap.size w (w.alloc (.cells #[.slice none 0 0] 52)) := (Below.refl _ _).alloc (Nat.le_refl _) _
  have h1 : Space w.heap.size (w.alloc (.cells #[.slice none 0 0] 52)) w.heap.size (.slice none 0 0) [] := ⟨Nat.le_refl _, heap_alloc_new w _, RowOf.nil _ _ _⟩
  refine ⟨Space.stays h1 ((Below.refl _ _).alloc (Nat.le_refl _) _), ⟨Nat.le_succ _, ?_, RowOf.nil _ _ _⟩, Apart.nil _, Fine.nil, Fine.nil, hb.alloc hb.size _⟩
  have := heap_alloc_new (w.alloc (.cells #[.slice none 0 0] 52)) (.cells #[.slice none 0 0] 46)
  simpa using this

section
variable {w wr : World} {S R : Nat} {v u x : Value} {L K : List (List M.Val)} {a : List M.Val}
theorem P2.put (h : P2 w wr S R v u L K) (hx : IsVals w x a) :
    Calls Tryd.prog 7 #[.pointer (some ⟨S, 0, none⟩), x] wr fun e w' => e = .returned (errV (M.putF L a)) ∧ ∃ v', P2 w w' S R v' u (M.putL L a) K := by
  refine (Go.Proofs.YtlefhfmckimlaabDoor.put w.heap.size S v x a L wr h.sp (hx.stays h.bel (Nat.le_refl _))).mono ?_
  rintro e w' ⟨rfl, v', h1, h2, h3⟩
  exact ⟨rfl, v', h.sput h1 h2 h3 (Fine.put h.fine)⟩
theorem P2.rput (h : P2 w wr S R v u L K) (hx : IsVals w x a) :
    Calls Tryd.prog 20 #[.pointer (some ⟨R, 0, none⟩), x] wr fun e w' => e = .returned (.int .i64 (M.putF K a)) ∧ ∃ u', P2 w w' S R v u' L (M.putL K a) := by
  refine (Go.Proofs.YtlefhfmckimlaabDoor.rput w R u x a K wr h.rp h.kine hx h.bel).mono ?_
  rintro e w' ⟨rfl, u', h1, h2, h3⟩
  exact ⟨rfl, u', h.mput h1 h2 h3 (Fine.put h.kine)⟩
theorem P2.read (h : P2 w wr S R v u L K) (hx : IsVals w x a) :
    Calls Tryd.prog 13 #[.pointer (some ⟨S, 0, none⟩), x] wr fun e w' => ∃ r, e = .returned (.tuple #[r, errV (M.getF a L)]) ∧ IsVals w' r (M.getV a L) ∧ P2 w w' S R v u L K := by
  refine (Go.Proofs.YtlefhfmckimlaabDoor.read w.heap.size S v x a L wr h.sp h.fine (hx.stays h.bel (Nat.le_refl _))).mono ?_
  rintro e w' ⟨r, rfl, h1, h2⟩
  exact ⟨r, rfl, h1.vals, h.quiet h2⟩
theorem P2.take (h : P2 w wr S R v u L K) (hx : IsVals w x a) :
    Calls Tryd.prog 8 #[.pointer (some ⟨S, 0, none⟩), x] wr fun e w' => ∃ r v', e = .returned (.tuple #[r, errV (M.getF a L)]) ∧ IsVals w' r (M.getV a L) ∧ P2 w w' S R v' u (M.lessL a L) K := by
  refine (Go.Proofs.YtlefhfmckimlaabDoor.take w.heap.size S v x a L wr h.sp h.fine (hx.stays h.bel (Nat.le_refl _))).mono ?_
  rintro e w' ⟨r, v', rfl, h0, h1, h2, h3⟩
  exact ⟨r, v', rfl, h0.vals, h.sput h1 h2 h3 (Fine.less h.fine)⟩
theorem P2.get0 (h : P2 w wr S R v u L K) (hx : IsVals w x a) :
    Calls Tryd.prog 17 #[.pointer (some ⟨R, 0, none⟩), x, .bool false] wr fun e w' => ∃ r, e = .returned (.tuple #[r, .int .i64 (M.getF a K)]) ∧ IsVals w r (M.getV a K) ∧ P2 w w' S R v u L K := by
  refine (rget0 w R u x a K wr h.rp h.kine h.bel hx).mono ?_
  rintro e w' ⟨r, rfl, h1, h2⟩
  exact ⟨r, rfl, h1, h.quiet h2⟩
theorem P2.get1 (h : P2 w wr S R v u L K) (hx : IsVals w x a) :
    Calls Tryd.prog 17 #[.pointer (some ⟨R, 0, none⟩), x, .bool true] wr fun e w' => ∃ r u', e = .returned (.tuple #[r, .int .i64 (M.getF a K)]) ∧ IsVals w r (M.getV a K) ∧ P2 w w' S R v u' L (M.lessL a K) := by
  refine (rget1 w R u x a K wr h.rp h.kine h.bel hx).mono ?_
  rintro e w' ⟨r, u', rfl, h0, h1, h2, h3⟩
  exact ⟨r, u', rfl, h0, h.mput h1 h2 h3 (Fine.less h.kine)⟩
theorem P2.like (h : P2 w wr S R v u L K) (hx : IsVals w x a) : Calls Tryd.prog 18 #[x] wr fun e w' => e = .returned (.int .i64 (M.likeF a)) ∧ P2 w w' S R v u L K := by
  refine (rlike x a wr (hx.stays h.bel (Nat.le_refl _))).mono ?_
  rintro e w' ⟨rfl, h2⟩
  exact ⟨rfl, h.quiet h2⟩
theorem P2.rcount (h : P2 w wr S R v u L K) (hx : IsVals w x a) (ha : M.likeF a = 0) : Calls Tryd.prog 19 #[.pointer (some ⟨R, 0, none⟩), x] wr fun e w' => e = .returned (.int .i64 (M.many a K)) ∧ P2 w w' S R v u L K := by
  refine (Go.Proofs.YtlefhfmckimlaabDoor.rcount w R u x a K wr h.rp h.kine h.bel hx ha).mono ?_
  rintro e w' ⟨rfl, h2⟩
  exact ⟨rfl, h.quiet h2⟩
theorem P2.count (h : P2 w wr S R v u L K) (hx : IsVals w x a) : Calls Tryd.prog 10 #[.pointer (some ⟨S, 0, none⟩), x] wr fun e w' => e = .returned (.tuple #[.int .i64 (M.cnt a L), errV (M.likeF a)]) ∧ P2 w w' S R v u L K := by
  refine (Go.Proofs.YtlefhfmckimlaabDoor.count w.heap.size S v x a L wr h.sp h.fine (hx.stays h.bel (Nat.le_refl _))).mono ?_
  rintro e w' ⟨rfl, h2⟩
  exact ⟨rfl, h.quiet h2⟩
theorem P2.same (h : P2 w wr S R v u L K) (hg : Hand w) (c : Int) : Calls Tryd.prog 15 #[errV c, .int .i64 c] wr fun e w' => e = .returned (.bool true) ∧ P2 w w' S R v u L K ∧ Below wr.heap.size wr w' := by
  have := sameErr c c wr (hg.stays h.bel (Nat.le_refl _))
  rw [show (c == c) = true by simp] at this
  refine this.mono ?_
  rintro e w' ⟨rfl, h2⟩
  exact ⟨rfl, h.quiet h2, h2⟩
theorem P2.tuple {r t : Value} {l : List M.Val} (h : P2 w wr S R v u L K) (hr : IsVals wr r l) (ht : IsVals w t l) : Calls Tryd.prog 14 #[r, t] wr fun e w' => e = .returned (.bool true) ∧ P2 w w' S R v u L K := by
  have := tsame r t l l wr hr (ht.stays h.bel (Nat.le_refl _))
  rw [sameAll_self] at this
  refine this.mono ?_
  rintro e w' ⟨rfl, h2⟩
  exact ⟨rfl, h.quiet h2⟩
theorem P2.all (h : P2 w wr S R v u L K) : Calls Tryd.prog 9 #[.pointer (some ⟨S, 0, none⟩)] wr fun e w' => ∃ ao cap, e = .returned (.slice ao L.length cap) ∧ IsTups w' (.slice ao L.length cap) L ∧ P2 w w' S R v u L K := by
  refine (Go.Proofs.YtlefhfmckimlaabDoor.all w.heap.size S v L wr h.sp h.fine).mono ?_
  rintro e w' ⟨ao, cap, rfl, h1, h2⟩
  exact ⟨ao, cap, rfl, h1, h.quiet h2⟩
theorem P2.tuples {z : Value} (h : P2 w wr S R v u L L) (hz : IsTups wr z L) : Calls Tryd.prog 16 #[z, u] wr fun e w' => e = .returned (.bool true) ∧ P2 w w' S R v u L L := by
  refine (sameTups z u L wr hz (h.rp.row.tups fun _ _ hq => hq.stays h.bel (Nat.le_refl _))).mono ?_
  rintro e w' ⟨rfl, h2⟩
  exact ⟨rfl, h.quiet h2⟩
end

end Go.Proofs.YtlefhfmckimlaabDoor
