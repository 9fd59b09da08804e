/-
  What Told of package plain and Error of package tuplesame answer for an error that is nil or a number of package api.
  Where the Go function CopyPlays stands: the program's copy and the document's beside each other, with a law a call.
-/
import Derived.Test.YtlefhfmckimlaaiGreatDoorErrAs
import Derived.Test.YtlefhfmckimlaaiGreatDoorJ29A
import Derived.Test.YtlefhfmckimlaaiGreatDoorJ38A
import Derived.Test.YtlefhfmckimlaaiGreatDoorJ28A
namespace Go.Proofs.YtlefhfmckimlaaiGreatDoor
open Go.RowKit

theorem Hand.stays {w w' : World} {B : Nat} (h : Hand w) (hb : Below B w w') (hB : w.heap.size ≤ B) : Hand w' := by
  unfold Hand at h ⊢
  have hlt : 0 < w.heap.size := by
    rcases Nat.lt_or_ge 0 w.heap.size with h' | h'
    · exact h'
    · simp [World.cell?, Array.getElem?_eq_none h'] at h
  rw [hb.cell (p := ⟨0, 0, none⟩) (Nat.lt_of_lt_of_le hlt hB)]; exact h

theorem told_nil (w : World) : Calls Tryz.prog 24 #[.nilIface] w fun e w' => e = .returned (.int .i64 0) ∧ Below w.heap.size w w' := by
  go_enter Tryz.func24, Tryz.ntmps24
  go_wp2
  go_ret
  exact ⟨rfl, Below.refl _ _⟩

theorem told_one (n : Int) (w : World) (hg : Hand w) : Calls Tryz.prog 24 #[.iface 74 (.int .i64 n)] w fun e w' => e = .returned (.int .i64 n) ∧ Below w.heap.size w w' := by
  have hA := hide (as_hit n ⟨w.heap.size, 0, none⟩ (.int .i64 0) (w.alloc (.cells #[.int .i64 0] 74)) (hg.stays ((Below.refl _ _).alloc (Nat.le_refl _) _) (Nat.le_refl _)) (by simp) (by simp))
  clear hg
  go_enter Tryz.func24, Tryz.ntmps24
  go_wp2_with fail
  refine (unhide hA).mono ?_
  rintro e w1 ⟨rfl, rfl⟩
  go_wp2_with fail
  go_ret
  exact ⟨rfl, (((((Below.refl _ _).alloc (Nat.le_refl _) _).alloc (by simp) _).alloc (by simp; omega) _).alloc (by simp; omega) _).alloc (by simp; omega) _⟩

theorem told (n : Int) (w : World) (hg : Hand w) : Calls Tryz.prog 24 #[errV n] w fun e w' => e = .returned (.int .i64 n) ∧ Below w.heap.size w w' := by
  by_cases h : n = 0
  · subst h; exact told_nil w
  · rw [errV_bad h]; exact told_one n w hg

theorem sameErr (n d : Int) (w : World) (hg : Hand w) : Calls Tryz.prog 7 #[errV n, .int .i64 d] w fun e w' => e = .returned (.bool (n == d)) ∧ Below w.heap.size w w' := by
  have HG := hide hg
  clear hg
  go_enter Tryz.func7, Tryz.ntmps7
  go_wp2_with fail
  refine (told n _ HG.out).mono ?_
  rintro e w1 ⟨rfl, hb⟩
  go_wp2_with fail
  go_ret
  exact ⟨rfl, hb⟩

end Go.Proofs.YtlefhfmckimlaaiGreatDoor

set_option linter.unusedVariables false
namespace Go.Proofs.YtlefhfmckimlaaiGreatDoor.copyPlays
open Go.RowKit

/-- the program's copy at C is c, the document's at E is d -/
structure CP (w0 w : World) (C E S : Nat) (c d : M.Cop) (R : List M.Rul) : Prop where
  is : ∃ F u dv ra rn rc D, CpIs w0.heap.size w F C c R ∧ RcIs w0 w E S u dv ra rn rc d D R ∧ Off F (rcF E S u dv)
  bel : Below w0.heap.size w0 w
  hand : Hand w0
  tab : Tab w0
section
variable {w0 w w' : World} {C E S : Nat} {c d : M.Cop} {R : List M.Rul} {a : Option Addr} {n cp : Nat}
theorem CP.quiet (h : CP w0 w C E S c d R) (hb : Below w.heap.size w w') : CP w0 w' C E S c d R := by
  obtain ⟨F, u, dv, ra, rn, rc, D, h1, h2, h3⟩ := h.is
  exact ⟨⟨F, u, dv, ra, rn, rc, D, h1.quiet hb, h2.quiet hb, h3⟩, h.bel.trans (hb.mono h.bel.size), h.hand, h.tab⟩
theorem CP.tabs (h : CP w0 w C E S c d R) : TabFrom w0.heap.size w := fun wx hb => h.tab.stays (h.bel.trans hb) (Nat.le_refl _)
theorem CP.do (x : M.Ask) (h : CP w0 w C E S c d R) (hv : IsVals w0 (.slice a n cp) x.t) (hn : c.n < 1000) :
    Calls Tryz.prog 10 #[.pointer (some ⟨C, 0, none⟩), aggA x.who x.seq x.deed a n cp] w fun e w' => e = .returned (.tuple #[.string (M.doR R c x).2.1, errV (M.doR R c x).1]) ∧ CP w0 w' C E S (M.doR R c x).2.2 d R := by
  obtain ⟨F, u, dv, ra, rn, rc, D, h1, h2, h3⟩ := h.is
  refine (mDo x h1 (hv.stays h.bel (Nat.le_refl _)) hn h.tabs).mono ?_
  rintro e w' ⟨rfl, F', k1, k2, k3⟩
  exact ⟨rfl, ⟨F', u, dv, ra, rn, rc, D, k1, ⟨h2.rc.kept (k2.kept h2.rc.highs h3.symm h1.lows h.bel.size), h2.last, h2.len, h2.ok, h2.rules, h2.many, h2.fine⟩, h3.grows h2.rc.highs k3⟩, h.bel.trans (k2.below h1.lows h.bel.size), h.hand, h.tab⟩
theorem CP.rdo (x : M.Ask) (h : CP w0 w C E S c d R) (hv : IsVals w0 (.slice a n cp) x.t) (hn : d.n < 1000) :
    Calls Tryz.prog 9 #[.pointer (some ⟨E, 0, none⟩), aggA x.who x.seq x.deed a n cp] w fun e w' => e = .returned (.tuple #[.string (M.doR R d x).2.1, .int .i64 (M.doR R d x).1]) ∧ CP w0 w' C E S c (M.doR R d x).2.2 R := by
  obtain ⟨F, u, dv, ra, rn, rc, D, h1, h2, h3⟩ := h.is
  refine (Go.Proofs.YtlefhfmckimlaaiGreatDoor.rDo x h2 hv hn).mono ?_
  rintro e w' ⟨rfl, u', dv', D', k1, k2, k3⟩
  exact ⟨rfl, ⟨F, u', dv', ra, rn, rc, D', h1.keep k2 h3, k1, (h3.symm.grows h1.highs k3).symm⟩, h.bel.trans (k2.below h2.rc.lows h.bel.size), h.hand, h.tab⟩
theorem CP.mark (h : CP w0 w C E S c d R) :
    Calls Tryz.prog 11 #[.pointer (some ⟨C, 0, none⟩)] w fun e w' => e = .returned (.tuple #[.int .i64 c.n, .int .i64 (M.mark c.l)]) ∧ CP w0 w' C E S c d R := by
  obtain ⟨F, u, dv, ra, rn, rc, D, h1, h2, h3⟩ := h.is
  refine (mMark h1 h.tabs).mono ?_
  rintro e w' ⟨rfl, hb⟩
  exact ⟨rfl, h.quiet hb⟩
theorem CP.rmark (h : CP w0 w C E S c d R) :
    Calls Tryz.prog 12 #[.pointer (some ⟨E, 0, none⟩)] w fun e w' => e = .returned (.tuple #[.int .i64 d.n, .int .i64 (M.mark d.l)]) ∧ CP w0 w' C E S c d R := by
  obtain ⟨F, u, dv, ra, rn, rc, D, h1, h2, h3⟩ := h.is
  refine (Go.Proofs.YtlefhfmckimlaaiGreatDoor.rMark h2).mono ?_
  rintro e w' ⟨rfl, hb⟩
  exact ⟨rfl, h.quiet hb⟩
theorem CP.space (h : CP w0 w C E S c d R) :
    Calls Tryz.prog 14 #[.pointer (some ⟨C, 0, none⟩)] w fun e w' => ∃ ao cap, e = .returned (.slice ao c.l.length cap) ∧ IsTups w' (.slice ao c.l.length cap) c.l ∧ CP w0 w' C E S c d R ∧ Below w.heap.size w w' := by
  obtain ⟨F, u, dv, ra, rn, rc, D, h1, h2, h3⟩ := h.is
  refine (mSpace h1).mono ?_
  rintro e w' ⟨ao, cap, rfl, k1, hb⟩
  exact ⟨ao, cap, rfl, k1, h.quiet hb, hb⟩
theorem CP.same (h : CP w0 w C E S c d R) (k : Int) : Calls Tryz.prog 7 #[errV k, .int .i64 k] w fun e w' => e = .returned (.bool true) ∧ CP w0 w' C E S c d R ∧ Below w.heap.size w w' := by
  have := sameErr k k w (h.hand.stays h.bel (Nat.le_refl _))
  rw [show (k == k) = true by simp] at this
  refine this.mono ?_
  rintro e w' ⟨rfl, h2⟩
  exact ⟨rfl, h.quiet h2, h2⟩
/-- where the document's tuples are -/
theorem CP.cells (h : CP w0 w C E S c d R) : ∃ u, w.cell? ⟨E, 1, none⟩ = some (.pointer (some ⟨S, 0, none⟩)) ∧ w.cell? ⟨S, 0, none⟩ = some u ∧ E < w.heap.size ∧ S < w.heap.size ∧ IsTups w u d.l ∧ ∃ ao cap, u = .slice ao d.l.length cap := by
  obtain ⟨F, u, dv, ra, rn, rc, D, h1, h2, h3⟩ := h.is
  have ht : IsTups w u d.l := h2.rc.sp.row.tups fun _ _ hq => hq.stays h2.rc.bel (Nat.le_refl _)
  obtain ⟨ao, cap, e, _⟩ := ht.shape
  exact ⟨u, h2.rc.cells.2.1, h2.rc.sp.cell.1, h2.rc.cells.2.2.2.2.1, h2.rc.sp.cell.2.2, ht, ao, cap, e⟩
end

end Go.Proofs.YtlefhfmckimlaaiGreatDoor.copyPlays
