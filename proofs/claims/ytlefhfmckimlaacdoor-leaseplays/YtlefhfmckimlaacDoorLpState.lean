/-
  The state of LeasePlays: the program's leases, and the law's own lists beside them, with a law a call.
-/
import Derived.Test.YtlefhfmckimlaacDoorLePut
import Derived.Test.YtlefhfmckimlaacDoorLeCalls
import Derived.Test.YtlefhfmckimlaacDoorLeMore
import Derived.Test.YtlefhfmckimlaacDoorTupSame
import Derived.Test.YtlefhfmckimlaacDoorErrTold
import Derived.Test.YtlefhfmckimlaacDoorRefTup
namespace Go.Proofs.YtlefhfmckimlaacDoor
open Go.RowKit

def ints (l : List Int) : List Value := l.map fun x => .int .i64 x
theorem ints_len (l : List Int) : (ints l).length = l.length := by simp [ints]
theorem ints_at {l : List Int} {j : Nat} (h : j < l.length) : (ints l)[j]? = some (.int .i64 l[j]) := by simp [ints, h]
theorem ints_snoc (l : List Int) (x : Int) : ints (l ++ [x]) = ints l ++ [.int .i64 x] := by simp [ints]
theorem ints_set (l : List Int) (j : Nat) (x : Int) : ints (l.set j x) = (ints l).set j (.int .i64 x) := by simp [ints, List.map_set]

/-- a row stays while one of another type is written -/
theorem row_other {w w' : World} {b b2 k k2 n m : Nat} {T U : TypeId} {v u : Value} {xs ys : List Value} (h : w.ownsRow b T k v n xs) (hu : w.ownsRow b2 U k2 u m ys) (hT : T ≠ U) (hg : w.grownBy w' u.ownBlock) : w'.ownsRow b T k v n xs := by
  refine ⟨h.1, ?_⟩
  rcases h.2 with h3 | ⟨g, cap, cur, hv, hgb, hh, r⟩
  · exact Or.inl h3
  · exact Or.inr ⟨g, cap, cur, hv, hgb, (hg.block g (heap_lt hh) (fun e => row_tag hu hT.symm hh e.symm)).trans hh, r⟩
theorem row_apart {w w' : World} {b k n : Nat} {T : TypeId} {v u : Value} {xs : List Value} (h : w.ownsRow b T k v n xs) (ha : Apart v u) (hg : w.grownBy w' u.ownBlock) : w'.ownsRow b T k v n xs := by
  refine h.kept hg ?_
  rcases hv : v.ownBlock with _ | g
  · exact Or.inl rfl
  · exact Or.inr (fun e => ha g hv e.symm)
theorem Solid.grown {w w' : World} {b k n : Nat} {U : TypeId} {u : Value} {ys : List Value} (hu : w.ownsRow b U k u n ys) (hU : U ≠ 50) (hg : w.grownBy w' u.ownBlock) : Solid w w' := fun _ _ _ hh => (hg.block _ (heap_lt hh) (fun e => row_tag hu hU hh e.symm)).trans hh
theorem Ls.grown {base S b k n : Nat} {w w' : World} {tm gv : Int} {v u : Value} {E : List Ent} {U : TypeId} {ys : List Value} (h : Ls base w S tm gv v E) (hu : w.ownsRow b U k u n ys) (h1 : U ≠ 75) (h2 : U ≠ 78) (h3 : U ≠ 50) (hg : w.grownBy w' u.ownBlock) : Ls base w' S tm gv v E :=
  ⟨h.lo, (hg.block S h.lt (fun e => row_tag hu h1 h.heap e.symm)).trans h.heap, row_other h.held.row hu h2.symm hg, fun x hx => (h.held.own x hx).solid (Solid.grown hu h3 hg)⟩
theorem rowOf_other {Q : Value → List M.Val → Prop} {w w' : World} {b b2 k m : Nat} {U : TypeId} {v u : Value} {A : List (List M.Val)} {ys : List Value} (h : RowOf Q b w v A) (hu : w.ownsRow b2 U k u m ys) (hT : U ≠ 30) (hg : w.grownBy w' u.ownBlock) : RowOf Q b w' v A := by
  obtain ⟨xs, h1, h2⟩ := h
  exact ⟨xs, row_other h1 hu hT.symm hg, h2⟩
theorem rowOf_at {Q : Value → List M.Val → Prop} {base : Nat} {w : World} {u : Value} {L : List (List M.Val)} (h : RowOf Q base w u L) (h0 : 0 < L.length) : ∃ g cap, u = .slice (some ⟨g, 0, none⟩) L.length cap ∧ ∀ j (hj : j < L.length), ∃ x, w.cell? ⟨g, j, none⟩ = some x ∧ Q x L[j] := by
  obtain ⟨xs, h1, h2⟩ := h
  obtain ⟨g, cap, rfl, _, _⟩ := h1.form h0
  have hl : xs.length = L.length := by have := h1.1; omega
  refine ⟨g, cap, rfl, fun j hj => ⟨xs[j]'(by omega), ?_, h2 j (by omega) hj⟩⟩
  rw [h1.cellAt j (by omega), List.getElem?_eq_getElem (by omega)]

/-- the program's leases, and the law's own lists: their numbers, their times, their tuples; and blocks of three numbers that are known (K) -/
structure Lp (K : Nat → Array Value → Prop) (w0 w : World) (S : Nat) (tm gv : Int) (v : Value) (E : List Ent) (vi vu va : Value) (I U : List Int) (A : List (List M.Val)) : Prop where
  ls : Ls w0.heap.size w S tm gv v E
  bel : Below w0.heap.size w0 w
  ids : w.ownsRow w0.heap.size 3 1 vi I.length (ints I)
  unt : w.ownsRow w0.heap.size 3 1 vu U.length (ints U)
  all : RowOf (IsVals w0) w0.heap.size w va A
  ap : Apart vi vu
  good : Good E
  len : E.length ≤ 20
  arr : ∀ b c, K b c → w.heap[b]? = some (.cells c 58 (0, 0))

section
variable {K : Nat → Array Value → Prop} {w0 w w' : World} {S : Nat} {tm gv tm' gv' : Int} {v v' vi vu va : Value} {E E' : List Ent} {I U : List Int} {A : List (List M.Val)}

theorem Lp.quiet (h : Lp K w0 w S tm gv v E vi vu va I U A) (hb : Below w.heap.size w w') : Lp K w0 w' S tm gv v E vi vu va I U A :=
  ⟨h.ls.below hb, h.bel.trans (hb.mono h.bel.size), ownsRow_below h.ids hb, ownsRow_below h.unt hb, h.all.below hb, h.ap, h.good, h.len, fun b c hc => (hb.block b (heap_lt (h.arr b c hc))).trans (h.arr b c hc)⟩
theorem Lp.touch (h : Lp K w0 w S tm gv v E vi vu va I U A) (hl : Ls w0.heap.size w' S tm' gv' v' E') (ht : Touch S v w w') (hg : Good E') (hn : E'.length ≤ 20) : Lp K w0 w' S tm' gv' v' E' vi vu va I U A := by
  refine ⟨hl, h.bel.trans (h.ls.touchBelow ht (Nat.le_refl _)), h.ls.keepsRow ht (by decide) (by decide) h.ids, h.ls.keepsRow ht (by decide) (by decide) h.unt, ?_, h.ap, hg, hn, fun b c hc => h.ls.keeps ht (by decide) (by decide) (h.arr b c hc)⟩
  obtain ⟨xs, h1, h2⟩ := h.all
  exact ⟨xs, h.ls.keepsRow ht (by decide) (by decide) h1, h2⟩
theorem Lp.known (h : Lp K w0 w S tm gv v E vi vu va I U A) {K' : Nat → Array Value → Prop} (hK : ∀ b c, K' b c → w.heap[b]? = some (.cells c 58 (0, 0))) : Lp K' w0 w S tm gv v E vi vu va I U A := ⟨h.ls, h.bel, h.ids, h.unt, h.all, h.ap, h.good, h.len, hK⟩
theorem Lp.drew (h : Lp K w0 w S tm gv v E vi vu va I U A) : Lp K w0 w.drew S tm gv v E vi vu va I U A := h.quiet (Below.refl _ _).drew

theorem Lp.count (h : Lp K w0 w S tm gv v E vi vu va I U A) :
    Calls Tryd.prog 23 #[.pointer (some ⟨S, 0, none⟩)] w fun e w' => e = .returned (.int .i64 E.length) ∧ Lp K w0 w' S tm gv v E vi vu va I U A := by
  refine (lcount h.ls).mono ?_
  rintro e w' ⟨rfl, hb⟩
  exact ⟨rfl, h.quiet hb⟩
theorem Lp.same (h : Lp K w0 w S tm gv v E vi vu va I U A) (hg : Hand w0) (c d : Int) :
    Calls Tryd.prog 13 #[errV c, .int .i64 d] w fun e w' => e = .returned (.bool (c == d)) ∧ Lp K w0 w' S tm gv v E vi vu va I U A ∧ Below w.heap.size w w' := by
  refine (sameErr c d w (hg.stays h.bel (Nat.le_refl _))).mono ?_
  rintro e w' ⟨rfl, hb⟩
  exact ⟨rfl, h.quiet hb, hb⟩
theorem Lp.like (h : Lp K w0 w S tm gv v E vi vu va I U A) {t : Value} {l : List M.Val} (ht : IsVals w0 t l) {c : Int} (hc : M.likeF l = c) :
    Calls Tryd.prog 8 #[t] w fun e w' => e = .returned (.int .i64 c) ∧ Lp K w0 w' S tm gv v E vi vu va I U A := by
  subst hc
  refine (rlike t l w (ht.stays h.bel (Nat.le_refl _))).mono ?_
  rintro e w' ⟨rfl, hb⟩
  exact ⟨rfl, h.quiet hb⟩
theorem Lp.tup (h : Lp K w0 w S tm gv v E vi vu va I U A) {t : Value} {l : List M.Val} (ht : IsVals w0 t l) {c : Int} (hc : M.tupF l = c) :
    Calls Tryd.prog 9 #[t] w fun e w' => e = .returned (.int .i64 c) ∧ Lp K w0 w' S tm gv v E vi vu va I U A := by
  subst hc
  refine (rtuple t l w (ht.stays h.bel (Nat.le_refl _))).mono ?_
  rintro e w' ⟨rfl, hb⟩
  exact ⟨rfl, h.quiet hb⟩
theorem Lp.fits (h : Lp K w0 w S tm gv v E vi vu va I U A) {t x : Value} {l a : List M.Val} (ht : IsVals w0 t a) (hx : IsVals w0 x l) (ha : M.likeF a = 0) :
    Calls Tryd.prog 27 #[t, x] w fun e w' => e = .returned (.bool (M.fitAll a l)) ∧ Lp K w0 w' S tm gv v E vi vu va I U A := by
  refine (rfits t x a l w (ht.stays h.bel (Nat.le_refl _)) (hx.stays h.bel (Nat.le_refl _)) ha).mono ?_
  rintro e w' ⟨rfl, hb⟩
  exact ⟨rfl, h.quiet hb⟩
theorem Lp.tuple (h : Lp K w0 w S tm gv v E vi vu va I U A) {r x : Value} {l : List M.Val} (hr : IsVals w r l) (hx : IsVals w x l) :
    Calls Tryd.prog 14 #[r, x] w fun e w' => e = .returned (.bool true) ∧ Lp K w0 w' S tm gv v E vi vu va I U A := by
  have := tsame r x l l w hr hx
  rw [sameAll_self] at this
  refine this.mono ?_
  rintro e w' ⟨rfl, hb⟩
  exact ⟨rfl, h.quiet hb⟩

theorem Lp.renewNone (h : Lp K w0 w S tm gv v E vi vu va I U A) {id u : Int} (hn : ¬ M.numb id E < E.length) :
    Calls Tryd.prog 25 #[.pointer (some ⟨S, 0, none⟩), .int .i64 id, .int .i64 u] w fun e w' => e = .returned (errV 5) ∧ Lp K w0 w' S tm gv v E vi vu va I U A := by
  refine (lrenew_none w0.heap.size S tm gv id u v E w h.ls h.len hn).mono ?_
  rintro e w' ⟨rfl, hb⟩
  exact ⟨rfl, h.quiet hb⟩
theorem Lp.renewBad (h : Lp K w0 w S tm gv v E vi vu va I U A) {id u : Int} (hn : M.numb id E < E.length) (hu : ¬ (M.may tm u = true ∧ E[M.numb id E].u ≤ u)) :
    Calls Tryd.prog 25 #[.pointer (some ⟨S, 0, none⟩), .int .i64 id, .int .i64 u] w fun e w' => e = .returned (errV 1) ∧ Lp K w0 w' S tm gv v E vi vu va I U A := by
  refine (lrenew_bad w0.heap.size S tm gv id u v E w h.ls h.len hn hu).mono ?_
  rintro e w' ⟨rfl, hb⟩
  exact ⟨rfl, h.quiet hb⟩
theorem Good.set {k : Nat} {x : Ent} (h : Good E) (hx : M.tupF x.t = 0) : Good (E.set k x) := fun y hy => by
  rcases List.mem_or_eq_of_mem_set hy with hy | hy
  · exact h y hy
  · rw [hy]; exact hx
theorem Lp.renewOk (h : Lp K w0 w S tm gv v E vi vu va I U A) {id u : Int} (hn : M.numb id E < E.length) (hm : M.may tm u = true) (hu : E[M.numb id E].u ≤ u) :
    Calls Tryd.prog 25 #[.pointer (some ⟨S, 0, none⟩), .int .i64 id, .int .i64 u] w fun e w' => e = .returned (errV 0) ∧ Lp K w0 w' S tm gv v (E.set (M.numb id E) (E[M.numb id E].till u)) vi vu va I U A := by
  refine (lrenew_ok w0.heap.size S tm gv id u v E w h.ls h.len hn hm hu).mono ?_
  rintro e w' ⟨rfl, k1, k2⟩
  exact ⟨rfl, h.touch k1 k2 (h.good.set (show M.tupF (E[M.numb id E].till u).t = 0 from h.good E[M.numb id E] (List.getElem_mem hn))) (by rw [List.length_set]; exact h.len)⟩
theorem Lp.nowBad (h : Lp K w0 w S tm gv v E vi vu va I U A) {x : Int} (hx : x < tm ∨ 10000 < x) :
    Calls Tryd.prog 22 #[.pointer (some ⟨S, 0, none⟩), .int .i64 x] w fun e w' => e = .returned (.tuple #[.int .i64 0, errV 1]) ∧ Lp K w0 w' S tm gv v E vi vu va I U A := by
  refine (lnow_bad S tm x w h.ls.c0 hx).mono ?_
  rintro e w' ⟨rfl, hb⟩
  exact ⟨rfl, h.quiet hb⟩
theorem Lp.nowOk (h : Lp K w0 w S tm gv v E vi vu va I U A) {x : Int} (h1 : ¬ x < tm) (h2 : ¬ 10000 < x) :
    Calls Tryd.prog 22 #[.pointer (some ⟨S, 0, none⟩), .int .i64 x] w fun e w' => e = .returned (.tuple #[.int .i64 ((E.length : Int) - ((M.nowE E x).length : Int)), errV 0]) ∧ ∃ v', Lp K w0 w' S x gv v' (M.nowE E x) vi vu va I U A := by
  refine (lnow_ok w0.heap.size S tm gv x v E w h.ls h.len h1 h2).mono ?_
  rintro e w' ⟨rfl, v', k1, k2, _⟩
  exact ⟨rfl, v', h.touch k1 k2 (fun y hy => h.good y (nowE_sub y hy)) (Nat.le_trans (nowE_len E x) h.len)⟩
theorem Lp.putBad (h : Lp K w0 w S tm gv v E vi vu va I U A) {t : Value} {l : List M.Val} {u c : Int} (ht : IsVals w0 t l) (hf : M.tupF l = c) (hc : c ≠ 0) :
    Calls Tryd.prog 21 #[.pointer (some ⟨S, 0, none⟩), t, .int .i64 u] w fun e w' => e = .returned (.tuple #[.int .i64 0, errV c]) ∧ Lp K w0 w' S tm gv v E vi vu va I U A := by
  subst hf
  refine (lput_bad S t l u w (ht.stays h.bel (Nat.le_refl _)) hc).mono ?_
  rintro e w' ⟨rfl, hb⟩
  exact ⟨rfl, h.quiet hb⟩
theorem Lp.putLate (h : Lp K w0 w S tm gv v E vi vu va I U A) {t : Value} {l : List M.Val} {u : Int} (ht : IsVals w0 t l) (hf : M.tupF l = 0) (hu : M.may tm u = false) :
    Calls Tryd.prog 21 #[.pointer (some ⟨S, 0, none⟩), t, .int .i64 u] w fun e w' => e = .returned (.tuple #[.int .i64 0, errV 1]) ∧ Lp K w0 w' S tm gv v E vi vu va I U A := by
  refine (lput_late S t l tm u w (ht.stays h.bel (Nat.le_refl _)) hf h.ls.c0 hu).mono ?_
  rintro e w' ⟨rfl, hb⟩
  exact ⟨rfl, h.quiet hb⟩
theorem Lp.putFull (h : Lp K w0 w S tm gv v E vi vu va I U A) {t : Value} {l : List M.Val} {u : Int} (ht : IsVals w0 t l) (hf : M.tupF l = 0) (hu : M.may tm u = true) (hn : 20 ≤ E.length) :
    Calls Tryd.prog 21 #[.pointer (some ⟨S, 0, none⟩), t, .int .i64 u] w fun e w' => e = .returned (.tuple #[.int .i64 0, errV 4]) ∧ Lp K w0 w' S tm gv v E vi vu va I U A := by
  refine (lput_full w0.heap.size S t v l tm gv u E w h.ls h.len (ht.stays h.bel (Nat.le_refl _)) hf hu (Or.inl hn)).mono ?_
  rintro e w' ⟨rfl, hb⟩
  exact ⟨rfl, h.quiet hb⟩
theorem Lp.putOk (h : Lp K w0 w S tm gv v E vi vu va I U A) {t : Value} {l : List M.Val} {u : Int} (ht : IsVals w0 t l) (hf : M.tupF l = 0) (hu : M.may tm u = true) (hn : E.length < 20) (h0 : 0 ≤ gv) (hg : gv < 10000) :
    Calls Tryd.prog 21 #[.pointer (some ⟨S, 0, none⟩), t, .int .i64 u] w fun e w' => e = .returned (.tuple #[.int .i64 (gv + 1), errV 0]) ∧ ∃ v' x, Lp K w0 w' S tm (gv + 1) v' (E ++ [x]) vi vu va I U A ∧ x.i = gv + 1 ∧ x.u = u ∧ x.t = l := by
  obtain ⟨ao, cap, rfl⟩ := h.ls.shape
  refine (lput_ok w0.heap.size S E.length cap ao t l tm gv u E w h.ls rfl hn h0 hg (ht.stays h.bel (Nat.le_refl _)) hf hu).mono ?_
  rintro e w' ⟨rfl, v', x, k1, k2, k3, k4, k5, _⟩
  refine ⟨rfl, v', x, h.touch k1 k5 (fun y hy => ?_) (by simp; omega), k2, k3, k4⟩
  rcases List.mem_append.1 hy with hy | hy
  · exact h.good y hy
  · rw [List.mem_singleton.1 hy, k4]; exact hf
theorem Lp.readBad (h : Lp K w0 w S tm gv v E vi vu va I U A) {t : Value} {a : List M.Val} {c : Int} (ht : IsVals w0 t a) (ha : M.likeF a = c) (hc : c ≠ 0) :
    Calls Tryd.prog 26 #[.pointer (some ⟨S, 0, none⟩), t] w fun e w' => e = .returned (.tuple #[.slice none 0 0, errV c]) ∧ Lp K w0 w' S tm gv v E vi vu va I U A := by
  subst ha
  refine (lread_bad S t a w (ht.stays h.bel (Nat.le_refl _)) hc).mono ?_
  rintro e w' ⟨rfl, hb⟩
  exact ⟨rfl, h.quiet hb⟩
theorem isVals_slice {w : World} {v : Value} {l : List M.Val} (h : IsVals w v l) : ∃ a n c, v = .slice a n c := by
  rcases h with ⟨h, _⟩ | ⟨a, c, h, _⟩ | ⟨b, o, c, _, h, _⟩
  · exact ⟨_, _, _, h⟩
  · exact ⟨_, _, _, h⟩
  · exact ⟨_, _, _, h⟩
theorem Lp.readNone (h : Lp K w0 w S tm gv v E vi vu va I U A) {t : Value} {a : List M.Val} (ht : IsVals w0 t a) (ha : M.likeF a = 0) (hn : ¬ M.oldest a E < E.length) :
    Calls Tryd.prog 26 #[.pointer (some ⟨S, 0, none⟩), t] w fun e w' => e = .returned (.tuple #[.slice none 0 0, errV 5]) ∧ Lp K w0 w' S tm gv v E vi vu va I U A := by
  obtain ⟨x, n, c, rfl⟩ := isVals_slice ht
  refine (lread_in w0.heap.size S tm gv x n c a v E w h.ls h.len h.good (ht.stays h.bel (Nat.le_refl _)) ha).mono ?_
  rintro e w' (⟨hk, _⟩ | ⟨_, rfl, hb⟩)
  · exact absurd hk hn
  · exact ⟨rfl, h.quiet hb⟩
theorem Lp.readOk (h : Lp K w0 w S tm gv v E vi vu va I U A) {t : Value} {a l : List M.Val} (ht : IsVals w0 t a) (ha : M.likeF a = 0) (hn : M.oldest a E < E.length) (hl : E[M.oldest a E].t = l) :
    Calls Tryd.prog 26 #[.pointer (some ⟨S, 0, none⟩), t] w fun e w' => ∃ r, e = .returned (.tuple #[r, errV 0]) ∧ IsVals w' r l ∧ Lp K w0 w' S tm gv v E vi vu va I U A := by
  obtain ⟨x, n, c, rfl⟩ := isVals_slice ht
  subst hl
  refine (lread_in w0.heap.size S tm gv x n c a v E w h.ls h.len h.good (ht.stays h.bel (Nat.le_refl _)) ha).mono ?_
  rintro e w' (⟨hk, r, rfl, h1, hb⟩ | ⟨hk, _⟩)
  · exact ⟨r, rfl, h1.vals, h.quiet hb⟩
  · exact absurd hn hk
/-- another block of the law's own is written -/
theorem Lp.grown (h : Lp K w0 w S tm gv v E vi vu va I U A) {b k n : Nat} {T : TypeId} {u : Value} {ys : List Value} (hu : w.ownsRow b T k u n ys) (hb : w0.heap.size ≤ b) (h1 : T ≠ 75) (h2 : T ≠ 78) (h3 : T ≠ 50) (h4 : T ≠ 3) (h5 : T ≠ 30) (hg : w.grownBy w' u.ownBlock) :
    Lp (fun _ _ => False) w0 w' S tm gv v E vi vu va I U A :=
  ⟨h.ls.grown hu h1 h2 h3 hg, h.bel.grown hg h.bel.size (fun k hk => Nat.le_trans hb (hu.lt k hk).1), row_other h.ids hu h4.symm hg, row_other h.unt hu h4.symm hg, rowOf_other h.all hu h5 hg, h.ap, h.good, h.len, fun _ _ hf => hf.elim⟩
/-- one of the numbers that are known is written -/
theorem Lp.setArr {B : Nat} {c : Array Value} (h : Lp (fun b d => b = B ∧ d = c) w0 w S tm gv v E vi vu va I U A) (hB : w0.heap.size ≤ B) (hc : c.size = 3) (j : Nat) (x : Value) :
    Lp (fun b d => b = B ∧ d = c.setIfInBounds j x) w0 (w.setCell ⟨B, j, none⟩ x) S tm gv v E vi vu va I U A := by
  have hh := h.arr B c ⟨rfl, rfl⟩
  have hu : w.ownsRow w0.heap.size 58 1 (.slice (some ⟨B, 0, none⟩) 3 3) 3 c.toList := ⟨by simpa using hc, Or.inr ⟨B, 3, c, rfl, hB, hh, Nat.le_refl _, by unfold maxLen; decide, by rw [hc], by rw [List.take_of_length_le (by simp [hc])]⟩⟩
  have hg : w.grownBy (w.setCell ⟨B, j, none⟩ x) (Value.slice (some ⟨B, 0, none⟩) 3 3).ownBlock := grownBy_setCell w ⟨B, j, none⟩ x
  refine (h.grown hu (Nat.le_refl _) (by decide) (by decide) (by decide) (by decide) (by decide) hg).known ?_
  rintro b d ⟨rfl, rfl⟩
  exact heap_setCell_same w b j c 58 x hh
theorem Lp.arr0 {B : Nat} {c : Array Value} (h : Lp (fun b d => b = B ∧ d = c) w0 w S tm gv v E vi vu va I U A) : (∀ j, w.cell? ⟨B, j, none⟩ = c[j]?) ∧ (∀ j, w.frozen? ⟨B, j, none⟩ = false) ∧ B < w.heap.size := by
  have hh := h.arr B c ⟨rfl, rfl⟩
  exact ⟨fun j => cell_of_row w B j c _ (0, 0) hh, fun j => frozen_of_row w B j c _ hh, heap_lt hh⟩

theorem arr_int (h : Lp K w0 w S tm gv v E vi vu va I U A) {b k n : Nat} {T : TypeId} {u : Value} {ys : List Value} (hu : w.ownsRow b T k u n ys) (hT : T ≠ 58) (hg : w.grownBy w' u.ownBlock) : ∀ b c, K b c → w'.heap[b]? = some (.cells c 58 (0, 0)) := fun b c hc =>
  (hg.block b (heap_lt (h.arr b c hc)) (fun e => row_tag hu hT (h.arr b c hc) e.symm)).trans (h.arr b c hc)
theorem apart_lies {H g n c : Nat} {u x : Value} (h : u.ownBlock = some g ∨ g = H) (ha : Apart u x) (hx : ∀ k, x.ownBlock = some k → k < H) : Apart (.slice (some ⟨g, 0, none⟩) n c) x := fun k hk e => by
  have hgk : g = k := by simpa [Value.ownBlock] using hk
  rcases h with h | h
  · exact ha k (by rw [h, hgk]) e
  · have := hx k e
    omega
/-- a number more -/
theorem Lp.appId (h : Lp K w0 w S tm gv v E vi vu va I U A) {x : Int} {g c H : Nat} (ho : w'.ownsRow w0.heap.size 3 1 (.slice (some ⟨g, 0, none⟩) (I.length + 1) c) (I.length + 1) (ints I ++ [.int .i64 x])) (hg : w.grownBy w' vi.ownBlock) (hat : vi.ownBlock = some g ∨ g = H) (hH : w.heap.size ≤ H) :
    Lp K w0 w' S tm gv v E (.slice (some ⟨g, 0, none⟩) (I.length + 1) c) vu va (I ++ [x]) U A :=
  ⟨h.ls.grown h.ids (by decide) (by decide) (by decide) hg, h.bel.grown hg h.bel.size (fun k hk => (h.ids.lt k hk).1), by rw [ints_snoc, List.length_append]; exact ho, row_apart h.unt h.ap.symm hg, rowOf_other h.all h.ids (by decide) hg, apart_lies hat h.ap (fun k hk => Nat.lt_of_lt_of_le (h.unt.lt k hk).2 hH), h.good, h.len, arr_int h h.ids (by decide) hg⟩
/-- a time more -/
theorem Lp.appUn (h : Lp K w0 w S tm gv v E vi vu va I U A) {x : Int} {g c H : Nat} (ho : w'.ownsRow w0.heap.size 3 1 (.slice (some ⟨g, 0, none⟩) (U.length + 1) c) (U.length + 1) (ints U ++ [.int .i64 x])) (hg : w.grownBy w' vu.ownBlock) (hat : vu.ownBlock = some g ∨ g = H) (hH : w.heap.size ≤ H) :
    Lp K w0 w' S tm gv v E vi (.slice (some ⟨g, 0, none⟩) (U.length + 1) c) va I (U ++ [x]) A :=
  ⟨h.ls.grown h.unt (by decide) (by decide) (by decide) hg, h.bel.grown hg h.bel.size (fun k hk => (h.unt.lt k hk).1), row_apart h.ids h.ap hg, by rw [ints_snoc, List.length_append]; exact ho, rowOf_other h.all h.unt (by decide) hg, (apart_lies hat h.ap.symm (fun k hk => Nat.lt_of_lt_of_le (h.ids.lt k hk).2 hH)).symm, h.good, h.len, arr_int h h.unt (by decide) hg⟩
/-- a tuple more -/
theorem Lp.appAll (h : Lp K w0 w S tm gv v E vi vu va I U A) {x : Value} {l : List M.Val} {xs : List Value} {g c : Nat} (hx1 : w.ownsRow w0.heap.size 30 1 va A.length xs) (hx2 : ∀ i (h1 : i < xs.length) (h2 : i < A.length), IsVals w0 xs[i] A[i]) (hx : IsVals w0 x l) (ho : w'.ownsRow w0.heap.size 30 1 (.slice (some ⟨g, 0, none⟩) (A.length + 1) c) (A.length + 1) (xs ++ [x])) (hg : w.grownBy w' va.ownBlock) :
    Lp K w0 w' S tm gv v E vi vu (.slice (some ⟨g, 0, none⟩) (A.length + 1) c) I U (A ++ [l]) :=
  ⟨h.ls.grown hx1 (by decide) (by decide) (by decide) hg, h.bel.grown hg h.bel.size (fun k hk => (hx1.lt k hk).1), row_other h.ids hx1 (by decide) hg, row_other h.unt hx1 (by decide) hg, RowOf.snoc hx2 (by have := hx1.1; omega) ho hx, h.ap, h.good, h.len, arr_int h hx1 (by decide) hg⟩
/-- a time written -/
theorem Lp.setUn {g n c : Nat} (h : Lp K w0 w S tm gv v E vi (.slice (some ⟨g, 0, none⟩) n c) va I U A) (hn : n = U.length) (k : Nat) (x : Int) :
    Lp K w0 (w.setCell ⟨g, k, none⟩ (.int .i64 x)) S tm gv v E vi (.slice (some ⟨g, 0, none⟩) n c) va I (U.set k x) A := by
  subst hn
  obtain ⟨h1, hg⟩ := h.unt.stored k (.int .i64 x)
  exact ⟨h.ls.grown h.unt (by decide) (by decide) (by decide) hg, h.bel.grown hg h.bel.size (fun k hk => (h.unt.lt k hk).1), row_apart h.ids h.ap hg, by rw [ints_set, List.length_set]; exact h1, rowOf_other h.all h.unt (by decide) hg, h.ap, h.good, h.len, arr_int h h.unt (by decide) hg⟩
theorem ownsRow_mono {w : World} {b b2 k n : Nat} {T : TypeId} {v : Value} {xs : List Value} (h : w.ownsRow b T k v n xs) (hb : b2 ≤ b) : w.ownsRow b2 T k v n xs := by
  refine ⟨h.1, ?_⟩
  rcases h.2 with h3 | ⟨g, cap, cur, hv, hg, r⟩
  · exact Or.inl h3
  · exact Or.inr ⟨g, cap, cur, hv, Nat.le_trans hb hg, r⟩
/-- new lists in the place of the old ones -/
theorem Lp.lists (h : Lp K w0 w S tm gv v E vi vu va I U A) (hb : Below w.heap.size w w') {a b c : Value} {I' U' : List Int} {A' : List (List M.Val)} (ha : w'.ownsRow w.heap.size 3 1 a I'.length (ints I')) (hu : w'.ownsRow w.heap.size 3 1 b U'.length (ints U')) (hc : RowOf (IsVals w0) w.heap.size w' c A') (hap : Apart a b) :
    Lp K w0 w' S tm gv v E a b c I' U' A' := by
  have hq := h.quiet hb
  refine ⟨hq.ls, hq.bel, ownsRow_mono ha h.bel.size, ownsRow_mono hu h.bel.size, ?_, hap, h.good, h.len, hq.arr⟩
  obtain ⟨xs, h1, h2⟩ := hc
  exact ⟨xs, ownsRow_mono h1 h.bel.size, h2⟩
end

end Go.Proofs.YtlefhfmckimlaacDoor
