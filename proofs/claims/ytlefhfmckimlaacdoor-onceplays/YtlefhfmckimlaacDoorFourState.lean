/-
  The state of a law that has two spaces of the program and two of the document beside each other, and what each call makes of it.
-/
import Derived.Test.YtlefhfmckimlaacDoorSpMore
import Derived.Test.YtlefhfmckimlaacDoorSpRef3
import Derived.Test.YtlefhfmckimlaacDoorErrTold
namespace Go.Proofs.YtlefhfmckimlaacDoor
open Go.RowKit

/-- the program's spaces at S and O with the tuples Ls and Lo, the document's at R and K with the tuples Lm and Lk -/
structure Q4 (w wr : World) (S O R K : Nat) (vs vo um uk : Value) (Ls Lo Lm Lk : List (List M.Val)) : Prop where
  s : Space w.heap.size wr S vs Ls
  o : Space w.heap.size wr O vo Lo
  m : Ref w wr R um Lm
  k : Ref w wr K uk Lk
  so : S ≠ O
  ref : R ≠ K
  sor : Apart vs vo
  sm : Apart vs um
  sk : Apart vs uk
  om : Apart vo um
  ok : Apart vo uk
  mr : Apart um uk
  fs : M.Fine Ls
  fo : M.Fine Lo
  fm : M.Fine Lm
  fk : M.Fine Lk
  bel : Below w.heap.size w wr

section
variable {w wr w1 : World} {S O R K : Nat} {vs vo um uk vs' vo' um' uk' x : Value} {Ls Lo Lm Lk Ls' Lo' Lm' Lk' : List (List M.Val)} {a : List M.Val}
theorem Q4.quiet (h : Q4 w wr S O R K vs vo um uk Ls Lo Lm Lk) (hb : Below wr.heap.size wr w1) : Q4 w w1 S O R K vs vo um uk Ls Lo Lm Lk :=
  ⟨Space.stays h.s hb, Space.stays h.o hb, Sp.quiet h.m hb, Sp.quiet h.k hb, h.so, h.ref, h.sor, h.sm, h.sk, h.om, h.ok, h.mr, h.fs, h.fo, h.fm, h.fk, h.bel.trans (hb.mono h.bel.size)⟩
theorem Q4.drew (h : Q4 w wr S O R K vs vo um uk Ls Lo Lm Lk) : Q4 w wr.drew S O R K vs vo um uk Ls Lo Lm Lk := h.quiet (Below.refl _ _).drew
theorem Q4.onS (h : Q4 w wr S O R K vs vo um uk Ls Lo Lm Lk) (hs : Space w.heap.size w1 S vs' Ls') (ht : Touch S vs wr w1) (hn : Near wr vs vs') (hf : M.Fine Ls') : Q4 w w1 S O R K vs' vo um uk Ls' Lo Lm Lk :=
  have hsol : Solid wr w1 := Sp.solid h.s (by decide) ht
  ⟨hs, (Sp.touchAt h.o h.s h.so.symm (by decide) (by decide) ht h.sor.symm).mono (fun _ _ ho => ho.solid hsol), Sp.touch h.m h.s (by decide) (by decide) (by decide) ht h.sm.symm, Sp.touch h.k h.s (by decide) (by decide) (by decide) ht h.sk.symm, h.so, h.ref,
    (h.sor.symm.near (fun i hi => (h.o.row.lt i hi).2) hn).symm, (h.sm.symm.near (fun i hi => (h.m.row.lt i hi).2) hn).symm, (h.sk.symm.near (fun i hi => (h.k.row.lt i hi).2) hn).symm, h.om, h.ok, h.mr, hf, h.fo, h.fm, h.fk, h.bel.trans (Sp.below h.s ht (Nat.le_refl _))⟩
theorem Q4.onO (h : Q4 w wr S O R K vs vo um uk Ls Lo Lm Lk) (hs : Space w.heap.size w1 O vo' Lo') (ht : Touch O vo wr w1) (hn : Near wr vo vo') (hf : M.Fine Lo') : Q4 w w1 S O R K vs vo' um uk Ls Lo' Lm Lk :=
  have hsol : Solid wr w1 := Sp.solid h.o (by decide) ht
  ⟨(Sp.touchAt h.s h.o h.so (by decide) (by decide) ht h.sor).mono (fun _ _ ho => ho.solid hsol), hs, Sp.touch h.m h.o (by decide) (by decide) (by decide) ht h.om.symm, Sp.touch h.k h.o (by decide) (by decide) (by decide) ht h.ok.symm, h.so, h.ref,
    h.sor.near (fun i hi => (h.s.row.lt i hi).2) hn, h.sm, h.sk, (h.om.symm.near (fun i hi => (h.m.row.lt i hi).2) hn).symm, (h.ok.symm.near (fun i hi => (h.k.row.lt i hi).2) hn).symm, h.mr, h.fs, hf, h.fm, h.fk, h.bel.trans (Sp.below h.o ht (Nat.le_refl _))⟩
theorem Q4.onM (h : Q4 w wr S O R K vs vo um uk Ls Lo Lm Lk) (hs : Ref w w1 R um' Lm') (ht : Touch R um wr w1) (hn : Near wr um um') (hf : M.Fine Lm') : Q4 w w1 S O R K vs vo um' uk Ls Lo Lm' Lk :=
  have hsol : Solid wr w1 := Sp.solid h.m (by decide) ht
  ⟨(Sp.touch h.s h.m (by decide) (by decide) (by decide) ht h.sm).mono (fun _ _ ho => ho.solid hsol), (Sp.touch h.o h.m (by decide) (by decide) (by decide) ht h.om).mono (fun _ _ ho => ho.solid hsol), hs, Sp.touchAt h.k h.m h.ref.symm (by decide) (by decide) ht h.mr.symm, h.so, h.ref,
    h.sor, h.sm.near (fun i hi => (h.s.row.lt i hi).2) hn, h.sk, h.om.near (fun i hi => (h.o.row.lt i hi).2) hn, h.ok, (h.mr.symm.near (fun i hi => (h.k.row.lt i hi).2) hn).symm, h.fs, h.fo, hf, h.fk, h.bel.trans (Sp.below h.m ht (Nat.le_refl _))⟩
theorem Q4.onK (h : Q4 w wr S O R K vs vo um uk Ls Lo Lm Lk) (hs : Ref w w1 K uk' Lk') (ht : Touch K uk wr w1) (hn : Near wr uk uk') (hf : M.Fine Lk') : Q4 w w1 S O R K vs vo um uk' Ls Lo Lm Lk' :=
  have hsol : Solid wr w1 := Sp.solid h.k (by decide) ht
  ⟨(Sp.touch h.s h.k (by decide) (by decide) (by decide) ht h.sk).mono (fun _ _ ho => ho.solid hsol), (Sp.touch h.o h.k (by decide) (by decide) (by decide) ht h.ok).mono (fun _ _ ho => ho.solid hsol), Sp.touchAt h.m h.k h.ref (by decide) (by decide) ht h.mr, hs, h.so, h.ref,
    h.sor, h.sm, h.sk.near (fun i hi => (h.s.row.lt i hi).2) hn, h.om, h.ok.near (fun i hi => (h.o.row.lt i hi).2) hn, h.mr.near (fun i hi => (h.m.row.lt i hi).2) hn, h.fs, h.fo, h.fm, hf, h.bel.trans (Sp.below h.k ht (Nat.le_refl _))⟩

theorem Q4.get (h : Q4 w wr S O R K vs vo um uk Ls Lo Lm Lk) (hx : IsVals w x a) :
    Calls Tryd.prog 10 #[.pointer (some ⟨R, 0, none⟩), x, .bool true] wr fun e w' => ∃ r u', e = .returned (.tuple #[r, .int .i64 (M.getF a Lm)]) ∧ IsVals w r (M.getV a Lm) ∧ Q4 w w' S O R K vs vo u' uk Ls Lo (M.lessL a Lm) Lk := by
  refine (rget1 w R um x a Lm wr h.m h.fm h.bel hx).mono ?_
  rintro e w' ⟨r, u', rfl, h0, h1, h2, h3⟩
  exact ⟨r, u', rfl, h0, h.onM h1 h2 h3 (Fine.less h.fm)⟩
theorem Q4.put (h : Q4 w wr S O R K vs vo um uk Ls Lo Lm Lk) (hx : IsVals w x a) :
    Calls Tryd.prog 11 #[.pointer (some ⟨R, 0, none⟩), x] wr fun e w' => e = .returned (.int .i64 (M.putF Lm a)) ∧ ∃ u', Q4 w w' S O R K vs vo u' uk Ls Lo (M.putL Lm a) Lk := by
  refine (rput w R um x a Lm wr h.m h.fm hx h.bel).mono ?_
  rintro e w' ⟨rfl, u', h1, h2, h3⟩
  exact ⟨rfl, u', h.onM h1 h2 h3 (Fine.put h.fm)⟩
theorem Q4.like (h : Q4 w wr S O R K vs vo um uk Ls Lo Lm Lk) (hx : IsVals w x a) : Calls Tryd.prog 8 #[x] wr fun e w' => e = .returned (.int .i64 (M.likeF a)) ∧ Q4 w w' S O R K vs vo um uk Ls Lo Lm Lk := by
  refine (rlike x a wr (hx.stays h.bel (Nat.le_refl _))).mono ?_
  rintro e w' ⟨rfl, h2⟩
  exact ⟨rfl, h.quiet h2⟩
theorem Q4.tup (h : Q4 w wr S O R K vs vo um uk Ls Lo Lm Lk) (hx : IsVals w x a) : Calls Tryd.prog 9 #[x] wr fun e w' => e = .returned (.int .i64 (M.tupF a)) ∧ Q4 w w' S O R K vs vo um uk Ls Lo Lm Lk := by
  refine (rtuple x a wr (hx.stays h.bel (Nat.le_refl _))).mono ?_
  rintro e w' ⟨rfl, h2⟩
  exact ⟨rfl, h.quiet h2⟩
theorem Q4.cnt (h : Q4 w wr S O R K vs vo um uk Ls Lo Lm Lk) (hx : IsVals w x a) (ha : M.likeF a = 0) : Calls Tryd.prog 16 #[.pointer (some ⟨R, 0, none⟩), x] wr fun e w' => e = .returned (.int .i64 (M.many a Lm)) ∧ Q4 w w' S O R K vs vo um uk Ls Lo Lm Lk := by
  refine (rcount w R um x a Lm wr h.m h.fm h.bel hx ha).mono ?_
  rintro e w' ⟨rfl, h2⟩
  exact ⟨rfl, h.quiet h2⟩
theorem Q4.same (h : Q4 w wr S O R K vs vo um uk Ls Lo Lm Lk) (hg : Hand w) (c : Int) : Calls Tryd.prog 13 #[errV c, .int .i64 c] wr fun e w' => e = .returned (.bool true) ∧ Q4 w w' S O R K vs vo um uk Ls Lo Lm Lk ∧ Below wr.heap.size wr w' := by
  have := sameErr c c wr (hg.stays h.bel (Nat.le_refl _))
  rw [show (c == c) = true by simp] at this
  refine this.mono ?_
  rintro e w' ⟨rfl, h2⟩
  exact ⟨rfl, h.quiet h2, h2⟩
theorem Q4.tuple {r t : Value} {l : List M.Val} (h : Q4 w wr S O R K vs vo um uk Ls Lo Lm Lk) (hr : IsVals wr r l) (ht : IsVals w t l) : Calls Tryd.prog 14 #[r, t] wr fun e w' => e = .returned (.bool true) ∧ Q4 w w' S O R K vs vo um uk Ls Lo Lm Lk := by
  have := tsame r t l l wr hr (ht.stays h.bel (Nat.le_refl _))
  rw [sameAll_self] at this
  refine this.mono ?_
  rintro e w' ⟨rfl, h2⟩
  exact ⟨rfl, h.quiet h2⟩
theorem Q4.allS (h : Q4 w wr S O R K vs vo um uk Ls Lo Lm Lk) : Calls Tryd.prog 19 #[.pointer (some ⟨S, 0, none⟩)] wr fun e w' => ∃ ao cap, e = .returned (.slice ao Ls.length cap) ∧ IsTups w' (.slice ao Ls.length cap) Ls ∧ Q4 w w' S O R K vs vo um uk Ls Lo Lm Lk := by
  refine (all w.heap.size S vs Ls wr h.s h.fs).mono ?_
  rintro e w' ⟨ao, cap, rfl, h1, h2⟩
  exact ⟨ao, cap, rfl, h1, h.quiet h2⟩
theorem Q4.allO (h : Q4 w wr S O R K vs vo um uk Ls Lo Lm Lk) : Calls Tryd.prog 19 #[.pointer (some ⟨O, 0, none⟩)] wr fun e w' => ∃ ao cap, e = .returned (.slice ao Lo.length cap) ∧ IsTups w' (.slice ao Lo.length cap) Lo ∧ Q4 w w' S O R K vs vo um uk Ls Lo Lm Lk := by
  refine (all w.heap.size O vo Lo wr h.o h.fo).mono ?_
  rintro e w' ⟨ao, cap, rfl, h1, h2⟩
  exact ⟨ao, cap, rfl, h1, h.quiet h2⟩
theorem Q4.tupsM {z : Value} (h : Q4 w wr S O R K vs vo um uk Ls Lo Lm Lk) (hz : IsTups wr z Lm) : Calls Tryd.prog 18 #[z, um] wr fun e w' => e = .returned (.bool true) ∧ Q4 w w' S O R K vs vo um uk Ls Lo Lm Lk := by
  refine (sameTups z um Lm wr hz (h.m.row.tups fun _ _ hq => hq.stays h.bel (Nat.le_refl _))).mono ?_
  rintro e w' ⟨rfl, h2⟩
  exact ⟨rfl, h.quiet h2⟩
theorem Q4.tupsK {z : Value} (h : Q4 w wr S O R K vs vo um uk Ls Lo Lm Lk) (hz : IsTups wr z Lk) : Calls Tryd.prog 18 #[z, uk] wr fun e w' => e = .returned (.bool true) ∧ Q4 w w' S O R K vs vo um uk Ls Lo Lm Lk := by
  refine (sameTups z uk Lk wr hz (h.k.row.tups fun _ _ hq => hq.stays h.bel (Nat.le_refl _))).mono ?_
  rintro e w' ⟨rfl, h2⟩
  exact ⟨rfl, h.quiet h2⟩
end

end Go.Proofs.YtlefhfmckimlaacDoor
