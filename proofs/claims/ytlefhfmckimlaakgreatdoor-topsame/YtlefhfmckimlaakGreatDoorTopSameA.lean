/-
  Memory and plain facts for the Go function TopSame: a queue, a copy, a crowd and a log side by side, each in blocks of its own; what each answers of what the queue lets through.
-/
import Derived.Test.YtlefhfmckimlaakGreatDoorLogCalls
import Derived.Test.YtlefhfmckimlaakGreatDoorCrdCalls
import Derived.Test.YtlefhfmckimlaakGreatDoorCrdMark
import Derived.Test.YtlefhfmckimlaakGreatDoorJQueC
import Derived.Test.YtlefhfmckimlaakGreatDoorJQue
set_option linter.unusedVariables false
namespace Go.Proofs.YtlefhfmckimlaakGreatDoor.topSame
open Go.RowKit

/-- the blocks of a queue -/
def qF (S B : Nat) (v : Value) (k : Nat) : Prop := k = S ∨ k = B ∨ v.ownBlock = some k
/-- a queue in the blocks F -/
structure QIs (base : Nat) (w : World) (F : Nat → Prop) (S : Nat) (E : List QEnt) (m : Nat) (f : Int → Int) : Prop where
  is : ∃ B v, F = qF S B v ∧ Qs base w S B v E m f
  num : ∀ k, 0 ≤ f k ∧ f k ≤ m
section
variable {base : Nat} {w w' : World} {F G : Nat → Prop} {S B : Nat} {v v' : Value} {E : List QEnt} {m : Nat} {f : Int → Int} {a : Option Addr} {n c : Nat}
theorem QIs.lows (h : QIs base w F S E m f) : ∀ i, F i → base ≤ i := by
  obtain ⟨B, v, rfl, hq⟩ := h.is
  rintro i (rfl | rfl | hi)
  · exact hq.lo
  · exact hq.lob
  · exact (hq.row.lt i hi).1
theorem QIs.highs (h : QIs base w F S E m f) : ∀ i, F i → i < w.heap.size := by
  obtain ⟨B, v, rfl, hq⟩ := h.is
  rintro i (rfl | rfl | hi)
  · exact hq.lt
  · exact hq.ltB
  · exact (hq.row.lt i hi).2
theorem QIs.quiet (h : QIs base w F S E m f) (hb : Below w.heap.size w w') : QIs base w' F S E m f := by
  obtain ⟨B, v, rfl, hq⟩ := h.is
  exact ⟨⟨B, v, rfl, hq.below hb⟩, h.num⟩
theorem win_at {e : TypeId} {k : Nat} {xs : List Value} {n : Nat} (h : winRow w base e k v n xs) (hk : ∀ g, v.ownBlock = some g → w'.heap[g]? = w.heap[g]?) : winRow w' base e k v n xs := by
  refine ⟨h.1, ?_⟩
  rcases h.2 with q | ⟨g, o, cap, cur, q1, q2, q3, q4⟩
  · exact Or.inl q
  · exact Or.inr ⟨g, o, cap, cur, q1, q2, (hk g (by rw [q1]; rfl)).trans q3, q4⟩
theorem QIs.keep (h : QIs base w F S E m f) (ht : Tch G w w') (hd : Off F G) : QIs base w' F S E m f := by
  obtain ⟨B, v, rfl, hq⟩ := h.is
  have hk : ∀ i, qF S B v i → w'.heap[i]? = w.heap[i]? := fun i hi => ht.block i (h.highs i hi) (hd i hi)
  obtain ⟨D, ⟨es, cl, hb, r⟩, hl⟩ := hq.map
  exact ⟨⟨B, v, rfl, hq.lo, hq.lob, (hk S (Or.inl rfl)).trans hq.heap, win_at hq.row (fun g hg => hk g (Or.inr (Or.inr hg))), fun x hx => (hq.own x hx).solid ht.vals, D, ⟨es, cl, (hk B (Or.inr (Or.inl rfl))).trans hb, r⟩, hl⟩, h.num⟩
theorem tch_of (h : Qs base w S B v E m f) (ht : TouchQ S B v w w') : Tch (qF S B v) w w' :=
  ⟨ht.os, ht.tape, ht.output, ht.size, fun k hk hn => ht.block k hk (fun e => hn (Or.inl e)) (fun e => hn (Or.inr (Or.inl e))) (fun e => hn (Or.inr (Or.inr e))), h.solid ht⟩
theorem grows_of (hn : Near w v v') : Grows w (qF S B v) (qF S B v') := by
  rintro k (rfl | rfl | hk)
  · exact Or.inl (Or.inl rfl)
  · exact Or.inl (Or.inr (Or.inl rfl))
  · rcases hn with e | e
    · exact Or.inl (Or.inr (Or.inr (by rw [← e]; exact hk)))
    · exact Or.inr (e k hk)
theorem QIs.push (x : M.Ask) (h : QIs base w F S [] m f) (hv : IsVals w (.slice a n c) x.t) (hm : m < 1000) :
    Calls Tryz.prog 26 #[.pointer (some ⟨S, 0, none⟩), aggA x.who x.seq x.deed a n c] w fun e w' => e = .returned (errV (M.pushE f 0 x)) ∧ ((M.pushE f 0 x ≠ 0 ∧ Below w.heap.size w w') ∨ (M.pushE f 0 x = 0 ∧ ∃ F' y, QIs base w' F' S [y] (m + 1) (M.upF f x) ∧ y.a = x ∧ Tch F w w' ∧ Grows w F F')) := by
  obtain ⟨B, v, rfl, hq⟩ := h.is
  obtain ⟨who, seq, deed, l⟩ := x
  refine (qpush who seq deed a n c l w hq hv (fun k => ⟨(h.num k).1, by have := (h.num k).2; omega⟩) (by simp) hm).mono ?_
  rintro e w' ⟨rfl, hw⟩
  refine ⟨rfl, ?_⟩
  rcases hw with ⟨h1, h2⟩ | ⟨h1, v', y, h2, h3, h4, h5⟩
  · exact Or.inl ⟨h1, h2⟩
  · refine Or.inr ⟨h1, qF S B v', y, ⟨⟨B, v', rfl, h2⟩, fun k => ?_⟩, h3, tch_of hq h4, grows_of h5⟩
    obtain ⟨_, hs, _⟩ := M.pushE_ok h1
    unfold M.upF
    by_cases hk : k = who
    · rw [if_pos hk]
      have := h.num who
      simp only at hs
      show 0 ≤ seq ∧ seq ≤ ((m + 1 : Nat) : Int)
      omega
    · rw [if_neg hk]
      have := h.num k
      omega
theorem QIs.pop {y : QEnt} (h : QIs base w F S [y] m f) :
    Calls Tryz.prog 27 #[.pointer (some ⟨S, 0, none⟩)] w fun e w' => e = .returned (.tuple #[aggA y.a.who y.a.seq y.a.deed y.x y.n y.c, .nilIface]) ∧ ∃ F', QIs base w' F' S [] m f ∧ OwnT base w' y.v y.a.t ∧ Tch F w w' ∧ Grows w F F' := by
  obtain ⟨B, v, rfl, hq⟩ := h.is
  refine (qpop_ok hq (by simp)).mono ?_
  rintro e w' ⟨rfl, v', h1, h2, h3, h4⟩
  exact ⟨rfl, qF S B v', ⟨⟨B, v', rfl, h1⟩, h.num⟩, h2, tch_of hq h3, grows_of h4⟩
end

/-- all four side by side, in a law that came in with w0 -/
structure Sm (w0 w : World) (Q C K J : Nat) (E : List QEnt) (m : Nat) (f : Int → Int) (c1 c2 : M.Cop) (g : M.Lg) (R : List M.Rul) : Prop where
  ex : ∃ FQ FC FK FJ, QIs w0.heap.size w FQ Q E m f ∧ CpIs w0.heap.size w FC C c1 R ∧ CwIs w0.heap.size w FK K 4 c2 R ∧ LgIs w0.heap.size w FJ J g R ∧ (Off FQ FC ∧ Off FQ FK ∧ Off FQ FJ) ∧ (Off FC FK ∧ Off FC FJ) ∧ Off FK FJ
  bel : Below w0.heap.size w0 w
/-- a box of what is asked stays -/
def BoxStay (w w' : World) : Prop := ∀ N who seq deed a n c, AskBox w N who seq deed a n c → AskBox w' N who seq deed a n c
section
variable {w0 w w' : World} {Q C K J : Nat} {E : List QEnt} {m : Nat} {f : Int → Int} {c1 c2 : M.Cop} {g : M.Lg} {R : List M.Rul} {a : Option Addr} {n c : Nat}
theorem Sm.quiet (h : Sm w0 w Q C K J E m f c1 c2 g R) (hb : Below w.heap.size w w') : Sm w0 w' Q C K J E m f c1 c2 g R := by
  obtain ⟨FQ, FC, FK, FJ, h1, h2, h3, h4, o⟩ := h.ex
  exact ⟨⟨FQ, FC, FK, FJ, h1.quiet hb, h2.quiet hb, h3.quiet hb, h4.quiet hb, o⟩, h.bel.trans (hb.mono h.bel.size)⟩
theorem Sm.tab (h : Sm w0 w Q C K J E m f c1 c2 g R) (ht : Tab w0) : TabFrom w0.heap.size w := fun wx hx => ht.stays (h.bel.trans hx) (Nat.le_refl _)
theorem Sm.push (x : M.Ask) (h : Sm w0 w Q C K J [] m f c1 c2 g R) (hv : IsVals w (.slice a n c) x.t) (hm : m < 1000) :
    Calls Tryz.prog 26 #[.pointer (some ⟨Q, 0, none⟩), aggA x.who x.seq x.deed a n c] w fun e w' => e = .returned (errV (M.pushE f 0 x)) ∧ ((M.pushE f 0 x ≠ 0 ∧ Sm w0 w' Q C K J [] m f c1 c2 g R) ∨ (M.pushE f 0 x = 0 ∧ ∃ y, y.a = x ∧ Sm w0 w' Q C K J [y] (m + 1) (M.upF f x) c1 c2 g R)) := by
  obtain ⟨FQ, FC, FK, FJ, h1, h2, h3, h4, ⟨o1, o2, o3⟩, o4, o5⟩ := h.ex
  refine (h1.push x hv hm).mono ?_
  rintro e w' ⟨rfl, hw⟩
  refine ⟨rfl, ?_⟩
  rcases hw with ⟨q1, q2⟩ | ⟨q1, F', y, q2, q3, q4, q5⟩
  · exact Or.inl ⟨q1, h.quiet q2⟩
  · exact Or.inr ⟨q1, y, q3, ⟨F', FC, FK, FJ, q2, h2.keep q4 o1.symm, h3.keep q4 o2.symm, h4.keep q4 o3.symm, ⟨o1.grows h2.highs q5, o2.grows h3.highs q5, o3.grows h4.highs q5⟩, o4, o5⟩, h.bel.trans (q4.below h1.lows h.bel.size)⟩
theorem Sm.pop {y : QEnt} (h : Sm w0 w Q C K J [y] m f c1 c2 g R) :
    Calls Tryz.prog 27 #[.pointer (some ⟨Q, 0, none⟩)] w fun e w' => e = .returned (.tuple #[aggA y.a.who y.a.seq y.a.deed y.x y.n y.c, .nilIface]) ∧ Sm w0 w' Q C K J [] m f c1 c2 g R ∧ OwnT w0.heap.size w' y.v y.a.t := by
  obtain ⟨FQ, FC, FK, FJ, h1, h2, h3, h4, ⟨o1, o2, o3⟩, o4, o5⟩ := h.ex
  refine h1.pop.mono ?_
  rintro e w' ⟨rfl, F', q2, q3, q4, q5⟩
  exact ⟨rfl, ⟨⟨F', FC, FK, FJ, q2, h2.keep q4 o1.symm, h3.keep q4 o2.symm, h4.keep q4 o3.symm, ⟨o1.grows h2.highs q5, o2.grows h3.highs q5, o3.grows h4.highs q5⟩, o4, o5⟩, h.bel.trans (q4.below h1.lows h.bel.size)⟩, q3⟩
theorem Sm.cdo (x : M.Ask) (h : Sm w0 w Q C K J E m f c1 c2 g R) (hv : IsVals w (.slice a n c) x.t) (hn : c1.n < 1000) (ht : Tab w0) :
    Calls Tryz.prog 28 #[.pointer (some ⟨C, 0, none⟩), aggA x.who x.seq x.deed a n c] w fun e w' => e = .returned (.tuple #[.string (M.doR R c1 x).2.1, errV (M.doR R c1 x).1]) ∧ Sm w0 w' Q C K J E m f (M.doR R c1 x).2.2 c2 g R ∧ Solid w w' ∧ BoxStay w w' := by
  obtain ⟨FQ, FC, FK, FJ, h1, h2, h3, h4, ⟨o1, o2, o3⟩, ⟨o4, o5⟩, o6⟩ := h.ex
  refine (mDo x h2 hv hn (h.tab ht)).mono ?_
  rintro e w' ⟨rfl, F', q2, q4, q5⟩
  exact ⟨rfl, ⟨⟨FQ, F', FK, FJ, h1.keep q4 o1, q2, h3.keep q4 o4.symm, h4.keep q4 o5.symm, ⟨(o1.symm.grows h1.highs q5).symm, o2, o3⟩, ⟨o4.grows h3.highs q5, o5.grows h4.highs q5⟩, o6⟩, h.bel.trans (q4.below h2.lows h.bel.size)⟩, q4.vals, fun N who seq deed a' n' c' hb => (q4.block N (heap_lt hb) (h2.other hb (by decide) (by decide) (by decide) (by decide))).trans hb⟩
theorem Sm.jdo (x : M.Ask) (h : Sm w0 w Q C K J E m f c1 c2 g R) (hv : IsVals w (.slice a n c) x.t) (ht : Tab w0) :
    Calls Tryz.prog 9 #[.pointer (some ⟨J, 0, none⟩), aggA x.who x.seq x.deed a n c] w fun e w' => ∃ k, 2 ≤ k ∧ e = .returned (.tuple #[.string (M.lgDo R g x k).2.1, errV (M.lgDo R g x k).1]) ∧ Sm w0 w' Q C K J E m f c1 c2 (M.lgDo R g x k).2.2 R := by
  obtain ⟨FQ, FC, FK, FJ, h1, h2, h3, h4, ⟨o1, o2, o3⟩, ⟨o4, o5⟩, o6⟩ := h.ex
  refine (lDo x h4 hv (h.tab ht)).mono ?_
  rintro e w' ⟨k, hk, _, rfl, F', q2, q4, q5⟩
  exact ⟨k, hk, rfl, ⟨FQ, FC, FK, F', h1.keep q4 o3, h2.keep q4 o5, h3.keep q4 o6, q2, ⟨o1, o2, (o3.symm.grows h1.highs q5).symm⟩, ⟨o4, (o5.symm.grows h2.highs q5).symm⟩, (o6.symm.grows h3.highs q5).symm⟩, h.bel.trans (q4.below h4.lows h.bel.size)⟩
theorem Sm.sync (h : Sm w0 w Q C K J E m f c1 c2 g R) :
    Calls Tryz.prog 10 #[.pointer (some ⟨J, 0, none⟩)] w fun e w' => e = .returned (errV (M.lgSync g).1) ∧ Sm w0 w' Q C K J E m f c1 c2 (M.lgSync g).2 R := by
  obtain ⟨FQ, FC, FK, FJ, h1, h2, h3, h4, ⟨o1, o2, o3⟩, ⟨o4, o5⟩, o6⟩ := h.ex
  refine (lSync h4).mono ?_
  rintro e w' ⟨rfl, F', q2, q4, q5⟩
  exact ⟨rfl, ⟨FQ, FC, FK, F', h1.keep q4 o3, h2.keep q4 o5, h3.keep q4 o6, q2, ⟨o1, o2, (o3.symm.grows h1.highs q5).symm⟩, ⟨o4, (o5.symm.grows h2.highs q5).symm⟩, (o6.symm.grows h3.highs q5).symm⟩, h.bel.trans (q4.below h4.lows h.bel.size)⟩
theorem Sm.crash (p : Int) (h : Sm w0 w Q C K J E m f c1 c2 g R) (ht : Tab w0) :
    Calls Tryz.prog 11 #[.pointer (some ⟨J, 0, none⟩), .int .i64 p] w fun e w' => e = .returned (.tuple #[]) ∧ Sm w0 w' Q C K J E m f c1 c2 (M.lgCrash g p) R := by
  obtain ⟨FQ, FC, FK, FJ, h1, h2, h3, h4, ⟨o1, o2, o3⟩, ⟨o4, o5⟩, o6⟩ := h.ex
  refine (lCrash p h4 (h.tab ht)).mono ?_
  rintro e w' ⟨rfl, F', q2, q4, q5⟩
  exact ⟨rfl, ⟨FQ, FC, FK, F', h1.keep q4 o3, h2.keep q4 o5, h3.keep q4 o6, q2, ⟨o1, o2, (o3.symm.grows h1.highs q5).symm⟩, ⟨o4, (o5.symm.grows h2.highs q5).symm⟩, (o6.symm.grows h3.highs q5).symm⟩, h.bel.trans (q4.below h4.lows h.bel.size)⟩
theorem Sm.cmark (h : Sm w0 w Q C K J E m f c1 c2 g R) (ht : Tab w0) :
    Calls Tryz.prog 30 #[.pointer (some ⟨C, 0, none⟩)] w fun e w' => e = .returned (.tuple #[.int .i64 c1.n, .int .i64 (M.mark c1.l)]) ∧ Sm w0 w' Q C K J E m f c1 c2 g R := by
  obtain ⟨FQ, FC, FK, FJ, h1, h2, h3, h4, o⟩ := h.ex
  exact (mMark h2 (h.tab ht)).mono fun _ _ he => ⟨he.1, h.quiet he.2⟩
theorem Sm.gmark (h : Sm w0 w Q C K J E m f c1 c2 g R) (i : Nat) (hi : i < 4) (ht : Tab w0) :
    Calls Tryz.prog 31 #[.pointer (some ⟨K, 0, none⟩), .int .i64 i] w fun e w' => e = .returned (.tuple #[.int .i64 c2.n, .int .i64 (M.mark c2.l), .nilIface]) ∧ Sm w0 w' Q C K J E m f c1 c2 g R := by
  obtain ⟨FQ, FC, FK, FJ, h1, h2, h3, h4, o⟩ := h.ex
  exact (crMark_ok h3 i hi (h.tab ht)).mono fun _ _ he => ⟨he.1, h.quiet he.2⟩
theorem Sm.jmark (h : Sm w0 w Q C K J E m f c1 c2 g R) (ht : Tab w0) :
    Calls Tryz.prog 12 #[.pointer (some ⟨J, 0, none⟩)] w fun e w' => e = .returned (.tuple #[.int .i64 g.cop.n, .int .i64 (M.mark g.cop.l)]) ∧ Sm w0 w' Q C K J E m f c1 c2 g R := by
  obtain ⟨FQ, FC, FK, FJ, h1, h2, h3, h4, o⟩ := h.ex
  exact (lMark h4 (h.tab ht)).mono fun _ _ he => ⟨he.1, h.quiet he.2⟩
/-- the crowd's call: its lies lie in a block of the law's own -/
abbrev Lv (lie : ByteArray) : Obj := .cells #[.string ⟨#[]⟩, .string ⟨#[]⟩, .string lie] 9
theorem one_lie (lie : ByteArray) : M.lieN 4 [M.sNo, M.sNo, lie] ≤ 1 := by
  have h := M.lieN_set 4 [M.sNo, M.sNo, M.sNo] 2 lie
  have e : M.lieN 4 [M.sNo, M.sNo, M.sNo] = 0 := by decide
  have s : [M.sNo, M.sNo, M.sNo].set 2 lie = [M.sNo, M.sNo, lie] := rfl
  rw [s, e] at h
  exact h
theorem Sm.gdo (x : M.Ask) (lie : ByteArray) (hlie : lie.size ≤ reachBytes) (h : Sm w0 w Q C K J E m f c1 c2 g R) (hv : OwnT w0.heap.size w (.slice a n c) x.t) (hn : c2.n < 1000) (ht : Tab w0) :
    Calls Tryz.prog 29 #[.pointer (some ⟨K, 0, none⟩), aggA x.who x.seq x.deed a n c, .slice (some ⟨w.heap.size, 0, none⟩) 3 3] (w.alloc (Lv lie)) fun e w' => e = .returned (.tuple #[.string (M.doR R c2 x).2.1, errV (M.doR R c2 x).1]) ∧ Sm w0 w' Q C K J E m f c1 (M.doR R c2 x).2.2 g R ∧ Solid w w' ∧ BoxStay w w' := by
  have hb : Below w.heap.size w (w.alloc (Lv lie)) := (Below.refl _ _).alloc (Nat.le_refl _) _
  have hl : (w.alloc (Lv lie)).heap[w.heap.size]? = some (.cells #[.string ⟨#[]⟩, .string ⟨#[]⟩, .string lie] 9 (0, 0)) := heap_alloc_new w _
  have hs := h.quiet hb
  obtain ⟨FQ, FC, FK, FJ, h1, h2, h3, h4, ⟨o1, o2, o3⟩, ⟨o4, o5⟩, o6⟩ := hs.ex
  have few := M.crR_few (R := R) (c := c2) (n := 4) (lie := [M.sNo, M.sNo, lie]) (x := x) (by decide) (by decide) (by simp) (one_lie lie)
  refine (crDo x h3 (lie := [M.sNo, M.sNo, lie]) (lm := 3) (lc := 3) (la := some ⟨w.heap.size, 0, none⟩) (fun wx hT => ((hv.solid (Solid.below hb)).solid hT.vals).vals) (fun wx hT => ?_) rfl (by unfold maxLen; decide) hn (hs.tab ht)).mono ?_
  · intro _
    refine ⟨w.heap.size, 0, rfl, fun i hi => ?_⟩
    have hk : wx.heap[w.heap.size]? = some (.cells #[.string ⟨#[]⟩, .string ⟨#[]⟩, .string lie] 9 (0, 0)) := (hT.block _ (heap_lt hl) (h3.other hl (by decide) (by decide) (by decide) (by decide) (by decide) (by decide))).trans hl
    have hi3 : i = 0 ∨ i = 1 ∨ i = 2 := by simp at hi; omega
    rcases hi3 with rfl | rfl | rfl
    · exact ⟨by rw [cell_of_row wx _ _ _ _ (0, 0) hk]; rfl, by show (0 : Nat) ≤ _; exact Nat.zero_le _⟩
    · exact ⟨by rw [cell_of_row wx _ _ _ _ (0, 0) hk]; rfl, by show (0 : Nat) ≤ _; exact Nat.zero_le _⟩
    · exact ⟨by rw [cell_of_row wx _ _ _ _ (0, 0) hk]; rfl, hlie⟩
  · rintro e w' ⟨rfl, F', q2, q4, q5⟩
    rw [few] at q2 ⊢
    exact ⟨rfl, ⟨⟨FQ, FC, F', FJ, h1.keep q4 o2, h2.keep q4 o4, q2, h4.keep q4 o6.symm, ⟨o1, (o2.symm.grows h1.highs q5).symm, o3⟩, ⟨(o4.symm.grows h2.highs q5).symm, o5⟩, o6.grows h4.highs q5⟩, hs.bel.trans (q4.below h3.lows hs.bel.size)⟩, (Solid.below hb).trans q4.vals, fun N who seq deed a' n' c' hx => by
      have hx2 := hx.below hb
      exact (q4.block N (heap_lt hx2) (h3.other hx2 (by decide) (by decide) (by decide) (by decide) (by decide) (by decide))).trans hx2⟩
end

/-- what the queue lets through is never the last one again -/
def Iv (f : Int → Int) (c : M.Cop) : Prop := ∀ k, (c.g k).1 ≤ f k
/-- a log that goes on, with this copy -/
structure Gd (c : M.Cop) (g : M.Lg) : Prop where
  st : g.stop = false
  left : g.left = -1
  cop : g.cop = c
section
variable {R : List M.Rul} {f : Int → Int} {c : M.Cop} {g : M.Lg} {x : M.Ask}
theorem Iv.new : Iv (fun _ => 0) M.Cop.new := fun _ => Int.le_refl _
theorem Gd.new : Gd M.Cop.new M.Lg.new := ⟨rfl, rfl, rfl⟩
theorem pass (hi : Iv f c) (hp : M.pushE f 0 x = 0) : Iv (M.upF f x) (M.doR R c x).2.2 ∧ (((M.doR R c x).1 ≠ 0 ∧ (M.doR R c x).2.2 = c) ∨ ((M.doR R c x).1 = 0 ∧ (M.doR R c x).2.2.n = c.n + 1)) := by
  obtain ⟨p1, p2, _⟩ := M.pushE_ok hp
  have hw := hi x.who
  have up : ∀ k, f k ≤ M.upF f x k := fun k => by
    unfold M.upF
    by_cases hk : k = x.who
    · rw [if_pos hk, hk]; omega
    · rw [if_neg hk]; exact Int.le_refl _
  have hna : M.againB c.g x = false := M.again_not (fun q => by have := q.1; omega)
  by_cases hd : (M.doR R c x).1 = 0
  · rcases M.doR_ways R c x with q | ⟨q1, q2⟩ | ⟨q1, q2, q3⟩ | ⟨q1, q2, q3, q4⟩ | ⟨q1, q2, q3, q4⟩
    · exact absurd p1 q
    · rw [hna] at q2; cases q2
    · rw [M.doR_state q1 q2 q3] at hd; exact absurd hd (by simp)
    · rw [M.doR_did q1 q2 q3 q4]
      refine ⟨fun k => ?_, Or.inr ⟨rfl, rfl⟩⟩
      show (M.upG c.g x (M.deedS c.l x) k).1 ≤ _
      by_cases hk : k = x.who
      · subst hk
        rw [M.upG_same]
        unfold M.upF
        rw [if_pos rfl]
        exact Int.le_refl _
      · rw [M.upG_other hk]; exact Int.le_trans (hi k) (up k)
    · rw [M.doR_denied q1 q2 q3 q4] at hd; exact absurd hd (by simp)
  · obtain ⟨e1, _⟩ := M.doR_err hd
    rw [e1]
    exact ⟨fun k => Int.le_trans (hi k) (up k), Or.inl ⟨hd, rfl⟩⟩
theorem Gd.act (hg : g.Ok R) (h : Gd c g) (hn : c.n < 30) (hx : (M.doR R c x).1 ≠ 0 ∨ (M.doR R c x).2.2.n = c.n + 1) (k : Nat) : (M.lgDo R g x k).1 = (M.doR R c x).1 ∧ (M.lgDo R g x k).2.1 = (M.doR R c x).2.1 ∧ Gd (M.doR R c x).2.2 (M.lgDo R g x k).2.2 := by
  have hl := hg.cop_ok.2
  rw [h.cop] at hl
  by_cases hd : (M.doR R c x).1 = 0
  · have h2 : (M.doR R c x).2.2.n ≠ c.n := by
      rcases hx with q | q
      · exact absurd hd q
      · omega
    rw [M.lgDo_did h.st (by rw [h.cop]; exact hd) (by rw [h.cop]; exact h2) (by omega) (by rw [h.left]; decide), h.cop]
    refine ⟨hd.symm, rfl, h.st, ?_, ?_⟩
    · show M.lessS g.left = -1; rw [h.left]; rfl
    · show (g.cs ++ [_]).getLastD M.Cop.new = _; rw [List.getLastD_concat]
  · obtain ⟨e1, e2⟩ := M.doR_err hd
    rw [M.lgDo_bad h.st (by rw [h.cop]; exact hd), h.cop, e1, e2]
    exact ⟨rfl, rfl, h⟩
/-- all is safe: nothing is lost -/
theorem Gd.kept (hg : g.Ok R) (h : Gd c g) (keep : Int) : (M.lgSync g).1 = 0 ∧ (M.lgCrash (M.lgSync g).2 keep).cop = c := by
  have e : M.lgSync g = (0, { g with safe := g.bytes, left := M.lessS g.left }) := by
    unfold M.lgSync
    rw [if_neg (by simp [h.st]), if_neg (by rw [h.left]; decide)]
  have ho := hg.sync
  rw [e] at ho ⊢
  refine ⟨rfl, ?_⟩
  have := ho.safe_all rfl keep
  unfold M.Lg.cop
  rw [this]
  exact h.cop
end

end Go.Proofs.YtlefhfmckimlaakGreatDoor.topSame
