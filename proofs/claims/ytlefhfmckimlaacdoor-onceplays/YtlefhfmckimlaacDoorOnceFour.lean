/-
  What the calls of package once make of the state of a law that has two spaces of the program and two of the document beside each other.
-/
import Derived.Test.YtlefhfmckimlaacDoorFourState
import Derived.Test.YtlefhfmckimlaacDoorOnceMove2
namespace Go.Proofs.YtlefhfmckimlaacDoor
open Go.RowKit

section
variable {w wr w1 : World} {S O R K : Nat} {vs vo um uk vs' vo' um' uk' x t : Value} {Ls Lo Lm Lk Ls' Lo' : List (List M.Val)} {a l : List M.Val}
theorem Q4.pair (h : Q4 w wr S O R K vs vo um uk Ls Lo Lm Lk) : Pair w.heap.size wr S O vs vo Ls Lo := ⟨h.s, h.o, h.so, h.sor, h.fs, h.fo⟩
theorem Q4.onBoth (h : Q4 w wr S O R K vs vo um uk Ls Lo Lm Lk) (hm : Mv w.heap.size wr w1 S O vs vo vs' vo' x a Ls' Lo') : Q4 w w1 S O R K vs' vo' um uk Ls' Lo' Lm Lk :=
  ⟨hm.p.s, hm.p.o, Sp.touch2 h.m h.s h.o (by decide) (by decide) (by decide) hm.t h.sm.symm h.om.symm, Sp.touch2 h.k h.s h.o (by decide) (by decide) (by decide) hm.t h.sk.symm h.ok.symm, h.so, h.ref, hm.p.ap,
    (h.sm.symm.near (fun i hi => (h.m.row.lt i hi).2) hm.nv).symm, (h.sk.symm.near (fun i hi => (h.k.row.lt i hi).2) hm.nv).symm, (h.om.symm.near (fun i hi => (h.m.row.lt i hi).2) hm.nu).symm, (h.ok.symm.near (fun i hi => (h.k.row.lt i hi).2) hm.nu).symm,
    h.mr, hm.p.fs, hm.p.fo, h.fm, h.fk, h.bel.trans (h.pair.below hm.t)⟩
theorem Q4.oput (h : Q4 w wr S O R K vs vo um uk Ls Lo Lm Lk) (hx : IsVals w x a) (ht : IsVals w t l) :
    Calls Tryd.prog 17 #[.pointer (some ⟨S, 0, none⟩), x, t] wr fun e w' => e = .returned (.tuple #[.bool (M.onceB a Ls l), errV (M.onceF a Ls l)]) ∧ ∃ v', Q4 w w' S O R K v' vo um uk (M.onceL a Ls l) Lo Lm Lk :=
  (Go.Proofs.YtlefhfmckimlaacDoor.oput w.heap.size S vs x t a l Ls wr h.s h.fs (hx.stays h.bel (Nat.le_refl _)) (ht.stays h.bel (Nat.le_refl _))).mono fun _ _ ⟨h1, v', h2, h3, h4⟩ => ⟨h1, v', h.onS h2 h3 h4 (Fine.once h.fs)⟩
theorem Q4.och (h : Q4 w wr S O R K vs vo um uk Ls Lo Lm Lk) (hx : IsVals w x a) (ht : IsVals w t l) :
    Calls Tryd.prog 12 #[.pointer (some ⟨S, 0, none⟩), x, t] wr fun e w' => ∃ r v', e = .returned (.tuple #[r, errV (M.chF a Ls l)]) ∧ IsVals w' r (M.chV a Ls l) ∧ Q4 w w' S O R K v' vo um uk (M.chL a Ls l) Lo Lm Lk :=
  (Go.Proofs.YtlefhfmckimlaacDoor.och w.heap.size S vs x t a l Ls wr h.s h.fs (hx.stays h.bel (Nat.le_refl _)) (Firm.arg ht h.bel)).mono fun _ _ ⟨r, v', h1, h0, h2, h3, h4⟩ => ⟨r, v', h1, h0.vals, h.onS h2 h3 h4 (Fine.ch h.fs)⟩
theorem Q4.move (h : Q4 w wr S O R K vs vo um uk Ls Lo Lm Lk) (hx : IsVals w x a) :
    Calls Tryd.prog 15 #[.pointer (some ⟨S, 0, none⟩), .pointer (some ⟨O, 0, none⟩), x] wr fun e w' => e = .returned (.tuple #[.int .i64 (M.movN a Ls Lo), errV (M.likeF a)]) ∧ ∃ v' u', Q4 w w' S O R K v' u' um uk (M.lessN a Ls (M.movN a Ls Lo)) (Lo ++ M.gotN a Ls (M.movN a Ls Lo)) Lm Lk :=
  (Go.Proofs.YtlefhfmckimlaacDoor.move h.pair (Firm.arg hx h.bel)).mono fun _ _ ⟨h1, v', u', h2⟩ => ⟨h1, v', u', h.onBoth h2⟩
theorem Q4.moveSame (h : Q4 w wr S O R K vs vo um uk Ls Lo Lm Lk) (hx : IsVals w x a) :
    Calls Tryd.prog 15 #[.pointer (some ⟨S, 0, none⟩), .pointer (some ⟨S, 0, none⟩), x] wr fun e w' => e = .returned (.tuple #[.int .i64 0, errV (M.sameF a)]) ∧ Q4 w w' S O R K vs vo um uk Ls Lo Lm Lk :=
  (Go.Proofs.YtlefhfmckimlaacDoor.moveSame h.s h.fs (hx.stays h.bel (Nat.le_refl _))).mono fun _ _ ⟨h1, h2⟩ => ⟨h1, h.quiet h2⟩
end

end Go.Proofs.YtlefhfmckimlaacDoor
