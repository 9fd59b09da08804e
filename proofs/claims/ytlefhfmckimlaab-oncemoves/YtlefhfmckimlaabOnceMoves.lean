/-
  The walk of OnceMoves.
-/
import Derived.Test.YtlefhfmckimlaabOnceOne
import Derived.Test.YtlefhfmckimlaabOnceMove2
namespace Go.Proofs.Ytlefhfmckimlaab
open Go.RowKit

/-- two spaces at S and O with the tuples L and K, of a law that came in with w -/
structure Two (w wr : World) (S O : Nat) (v u : Value) (L K : List (List M.Val)) : Prop where
  p : Pair w.heap.size wr S O v u L K
  bel : Below w.heap.size w wr

section
variable {w wr w1 : World} {S O : Nat} {v u x t : Value} {a l : List M.Val} {L K : List (List M.Val)}
theorem Two.quiet (h : Two w wr S O v u L K) (hb : Below wr.heap.size wr w1) : Two w w1 S O v u L K := ⟨h.p.quiet hb, h.bel.trans (hb.mono h.bel.size)⟩
theorem Two.start (hb : Below w.heap.size w wr) : Two w ((wr.alloc (.cells #[.slice none 0 0] 49)).alloc (.cells #[.slice none 0 0] 49)) wr.heap.size (wr.heap.size + 1) (.slice none 0 0) (.slice none 0 0) [] [] := by
  have h1 := One.start hb
  generalize hA : wr.alloc (.cells #[.slice none 0 0] 49) = wA at *
  have hz : wA.heap.size = wr.heap.size + 1 := by rw [← hA]; simp
  have h2 := One.start h1.bel
  rw [hz] at h2
  exact ⟨⟨Space.stays h1.sp ((Below.refl _ _).alloc (Nat.le_refl _) _), h2.sp, by omega, Apart.nil _, Fine.nil, Fine.nil⟩, h2.bel⟩
theorem Two.put (h : Two w wr S O v u L K) (ht : IsVals w t l) :
    Calls Try.prog 15 #[.pointer (some ⟨S, 0, none⟩), t] wr fun e w' => e = .returned (errV (M.putF L l)) ∧ ∃ v', Two w w' S O v' u (M.putL L l) K :=
  (Go.Proofs.Ytlefhfmckimlaab.put w.heap.size S v t l L wr h.p.s (ht.stays h.bel (Nat.le_refl _))).mono fun _ _ ⟨h1, v', h2, h3, h4⟩ => ⟨h1, v', h.p.onS h2 h3 h4 (Fine.put h.p.fs), h.bel.trans (Sp.below h.p.s h3 (Nat.le_refl _))⟩
theorem Two.allS {n : Nat} (h : Two w wr S O v u L K) (hn : L.length = n) :
    Calls Try.prog 11 #[.pointer (some ⟨S, 0, none⟩)] wr fun e w' => ∃ ao cap, e = .returned (.slice ao n cap) ∧ Two w w' S O v u L K := by
  subst hn
  exact (Go.Proofs.Ytlefhfmckimlaab.all w.heap.size S v L wr h.p.s h.p.fs).mono fun _ _ ⟨ao, cap, h1, _, h2⟩ => ⟨ao, cap, h1, h.quiet h2⟩
theorem Two.allO {n : Nat} (h : Two w wr S O v u L K) (hn : K.length = n) :
    Calls Try.prog 11 #[.pointer (some ⟨O, 0, none⟩)] wr fun e w' => ∃ ao cap, e = .returned (.slice ao n cap) ∧ Two w w' S O v u L K := by
  subst hn
  exact (Go.Proofs.Ytlefhfmckimlaab.all w.heap.size O u K wr h.p.o h.p.fo).mono fun _ _ ⟨ao, cap, h1, _, h2⟩ => ⟨ao, cap, h1, h.quiet h2⟩
theorem Two.cntS {n : Nat} (h : Two w wr S O v u L K) (hx : IsVals w x a) (ha : M.likeF a = 0) (hn : M.many a L = n) :
    Calls Try.prog 13 #[.pointer (some ⟨S, 0, none⟩), x] wr fun e w' => e = .returned (.tuple #[.int .i64 n, .nilIface]) ∧ Two w w' S O v u L K := by
  subst hn
  exact (count_ok w.heap.size S v x a L wr h.p.s h.p.fs (hx.stays h.bel (Nat.le_refl _)) ha).mono fun _ _ ⟨h1, h2⟩ => ⟨h1, h.quiet h2⟩
theorem Two.cntO {n : Nat} (h : Two w wr S O v u L K) (hx : IsVals w x a) (ha : M.likeF a = 0) (hn : M.many a K = n) :
    Calls Try.prog 13 #[.pointer (some ⟨O, 0, none⟩), x] wr fun e w' => e = .returned (.tuple #[.int .i64 n, .nilIface]) ∧ Two w w' S O v u L K := by
  subst hn
  exact (count_ok w.heap.size O u x a K wr h.p.o h.p.fo (hx.stays h.bel (Nat.le_refl _)) ha).mono fun _ _ ⟨h1, h2⟩ => ⟨h1, h.quiet h2⟩
theorem Two.bad (h : Two w wr S O v u L K) (hx : IsVals w x a) (ha : M.likeF a ≠ 0) :
    Calls Try.prog 14 #[.pointer (some ⟨S, 0, none⟩), .pointer (some ⟨O, 0, none⟩), x] wr fun e w' => e = .returned (.tuple #[.int .i64 0, .iface 43 (.int .i64 (M.likeF a))]) ∧ Two w w' S O v u L K := by
  have := move_like h.p (hx.stays h.bel (Nat.le_refl _)) ha (.pointer (some ⟨O, 0, none⟩))
  rw [errV_bad ha] at this
  exact this.mono fun _ _ ⟨h1, h2⟩ => ⟨h1, h.quiet h2⟩
/-- all that fit are moved to an empty space -/
theorem Two.good (h : Two w wr S O v u L []) (hx : IsVals w x a) (ha : M.likeF a = 0) :
    Calls Try.prog 14 #[.pointer (some ⟨S, 0, none⟩), .pointer (some ⟨O, 0, none⟩), x] wr fun e w' => e = .returned (.tuple #[.int .i64 (M.many a L), .nilIface]) ∧ ∃ v' u' L' K', Two w w' S O v' u' L' K' ∧ M.many a L' = 0 ∧ M.many a K' = M.many a L ∧ K'.length = M.many a L ∧ L'.length + M.many a L = L.length := by
  have e1 : M.movN a L [] = M.many a L := by
    unfold M.movN
    rw [if_pos ha]
    have := many_le a L
    have := h.p.fs.2
    simp; omega
  have := move_ok h.p (Firm.arg hx h.bel) ha
  rw [e1, List.nil_append] at this
  refine this.mono ?_
  rintro e w' ⟨rfl, v', u', h2⟩
  refine ⟨rfl, v', u', _, _, ⟨h2.p, h.bel.trans (h.p.below h2.t)⟩, ?_, gotN_many ha _ (Nat.le_refl _), gotN_len _, lessN_len ha _ (Nat.le_refl _)⟩
  have := lessN_many (L := L) ha _ (Nat.le_refl _)
  omega
end

theorem likeNo (v : Value) (a : List M.Val) (w : World) (hv : IsVals w v a) (ha : M.likeF a ≠ 0) : Calls Try.prog 6 #[v] w fun e w' => e = .returned (.iface 43 (.int .i64 (M.likeF a))) ∧ Below w.heap.size w w' := by rw [← errV_bad ha]; exact like v a w hv
theorem Two.nil {w wr : World} {S O : Nat} {v u : Value} (h : Two w wr S O v u [] []) :
    Calls Try.prog 14 #[.pointer (some ⟨S, 0, none⟩), .pointer (some ⟨O, 0, none⟩), .slice none 0 0] wr fun e w' => e = .returned (.tuple #[.int .i64 0, .iface 43 (.int .i64 5)]) ∧ Two w w' S O v u [] [] :=
  h.bad (a := []) (Or.inl ⟨rfl, rfl⟩) (by decide)

end Go.Proofs.Ytlefhfmckimlaab
