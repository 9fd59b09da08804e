/-
  Where the Go function CrowdPlays stands: the program's crowd and the document's copy beside each other, with a law a call.
  A slice of slices of texts that came in: what a walk is told of it, and that it stays while only new memory is written. For any program.
-/
import Derived.Test.YtlefhfmckimlaaiGreatDoorJ49A
import Derived.Test.YtlefhfmckimlaaiGreatDoorJ38A
import Derived.Test.YtlefhfmckimlaaiGreatDoorJ40A
import Derived.Test.YtlefhfmckimlaaiGreatDoorJ45A
set_option linter.unusedVariables false
namespace Go.Proofs.YtlefhfmckimlaaiGreatDoor.crowdPlays
open Go.RowKit

/-- the program's crowd at K is c, the document's copy at E is d -/
structure CQ (w0 w : World) (K E n : Nat) (c d : M.Cop) (R : List M.Rul) : Prop where
  is : ∃ F S u dv ra rn rc D, CwIs w0.heap.size w F K n c R ∧ RcIs w0 w E S u dv ra rn rc d D R ∧ Off F (rcF E S u dv)
  bel : Below w0.heap.size w0 w
  hand : Hand w0
  tab : Tab w0
section
variable {w0 w w' : World} {K E n : Nat} {c d : M.Cop} {R : List M.Rul} {a : Option Addr} {m cp : Nat} {la : Option Addr} {lm lc : Nat} {lie : List ByteArray}
theorem CQ.quiet (h : CQ w0 w K E n c d R) (hb : Below w.heap.size w w') : CQ w0 w' K E n c d R := by
  obtain ⟨F, S, u, dv, ra, rn, rc, D, h1, h2, h3⟩ := h.is
  exact ⟨⟨F, S, u, dv, ra, rn, rc, D, h1.quiet hb, h2.quiet hb, h3⟩, h.bel.trans (hb.mono h.bel.size), h.hand, h.tab⟩
theorem CQ.tabs (h : CQ w0 w K E n c d R) : TabFrom w0.heap.size w := fun wx hb => h.tab.stays (h.bel.trans hb) (Nat.le_refl _)
theorem CQ.do (x : M.Ask) (h : CQ w0 w K E n c d R) (hv : IsVals w0 (.slice a m cp) x.t) (hl : AtS w0 la lie) (hll : lm = lie.length) (hlm : lm ≤ maxLen) (hn : c.n < 1000) :
    Calls Tryz.prog 18 #[.pointer (some ⟨K, 0, none⟩), aggA x.who x.seq x.deed a m cp, .slice la lm lc] w fun e w' => e = .returned (.tuple #[.string (M.crR R c n lie x).2.1, errV (M.crR R c n lie x).1]) ∧ CQ w0 w' K E n (M.crR R c n lie x).2.2 d R := by
  obtain ⟨F, S, u, dv, ra, rn, rc, D, h1, h2, h3⟩ := h.is
  refine (crDo x h1 (fun wx ht => hv.stays (h.bel.trans (ht.below h1.lows h.bel.size)) (Nat.le_refl _)) (fun wx ht => hl.stays (h.bel.trans (ht.below h1.lows h.bel.size)) (Nat.le_refl _)) hll hlm hn h.tabs).mono ?_
  rintro e w' ⟨rfl, F', k1, k2, k3⟩
  exact ⟨rfl, ⟨F', S, u, dv, ra, rn, rc, D, k1, ⟨h2.rc.kept (k2.kept h2.rc.highs h3.symm h1.lows h.bel.size), h2.last, h2.len, h2.ok, h2.rules, h2.many, h2.fine⟩, h3.grows h2.rc.highs k3⟩, h.bel.trans (k2.below h1.lows h.bel.size), h.hand, h.tab⟩
theorem CQ.rdo (x : M.Ask) (h : CQ w0 w K E n c d R) (hv : IsVals w0 (.slice a m cp) x.t) (hn : d.n < 1000) :
    Calls Tryz.prog 9 #[.pointer (some ⟨E, 0, none⟩), aggA x.who x.seq x.deed a m cp] w fun e w' => e = .returned (.tuple #[.string (M.doR R d x).2.1, .int .i64 (M.doR R d x).1]) ∧ CQ w0 w' K E n c (M.doR R d x).2.2 R := by
  obtain ⟨F, S, u, dv, ra, rn, rc, D, h1, h2, h3⟩ := h.is
  refine (Go.Proofs.YtlefhfmckimlaaiGreatDoor.rDo x h2 hv hn).mono ?_
  rintro e w' ⟨rfl, u', dv', D', k1, k2, k3⟩
  exact ⟨rfl, ⟨F, S, u', dv', ra, rn, rc, D', h1.keep k2 h3, k1, (h3.symm.grows h1.highs k3).symm⟩, h.bel.trans (k2.below h2.rc.lows h.bel.size), h.hand, h.tab⟩
theorem CQ.mark_no (h : CQ w0 w K E n c d R) (i : Int) (hi : i < 0 ∨ (n : Int) ≤ i) :
    Calls Tryz.prog 19 #[.pointer (some ⟨K, 0, none⟩), .int .i64 i] w fun e w' => e = .returned (.tuple #[.int .i64 0, .int .i64 0, .iface 74 (.int .i64 1)]) ∧ CQ w0 w' K E n c d R := by
  obtain ⟨F, S, u, dv, ra, rn, rc, D, h1, h2, h3⟩ := h.is
  refine (crMark_no h1 i hi).mono ?_
  rintro e w' ⟨rfl, hb⟩
  exact ⟨rfl, h.quiet hb⟩
theorem CQ.mark_ok (h : CQ w0 w K E n c d R) (i : Nat) (hi : i < n) :
    Calls Tryz.prog 19 #[.pointer (some ⟨K, 0, none⟩), .int .i64 i] w fun e w' => e = .returned (.tuple #[.int .i64 c.n, .int .i64 (M.mark c.l), .nilIface]) ∧ CQ w0 w' K E n c d R := by
  obtain ⟨F, S, u, dv, ra, rn, rc, D, h1, h2, h3⟩ := h.is
  refine (crMark_ok h1 i hi h.tabs).mono ?_
  rintro e w' ⟨rfl, hb⟩
  exact ⟨rfl, h.quiet hb⟩
theorem CQ.rmark (h : CQ w0 w K E n c d R) :
    Calls Tryz.prog 12 #[.pointer (some ⟨E, 0, none⟩)] w fun e w' => e = .returned (.tuple #[.int .i64 d.n, .int .i64 (M.mark d.l)]) ∧ CQ w0 w' K E n c d R := by
  obtain ⟨F, S, u, dv, ra, rn, rc, D, h1, h2, h3⟩ := h.is
  refine (Go.Proofs.YtlefhfmckimlaaiGreatDoor.rMark h2).mono ?_
  rintro e w' ⟨rfl, hb⟩
  exact ⟨rfl, h.quiet hb⟩
theorem CQ.same (h : CQ w0 w K E n c d R) (k : Int) : Calls Tryz.prog 7 #[errV k, .int .i64 k] w fun e w' => e = .returned (.bool true) ∧ CQ w0 w' K E n c d R := by
  have := sameErr k k w (h.hand.stays h.bel (Nat.le_refl _))
  rw [show (k == k) = true by simp] at this
  refine this.mono ?_
  rintro e w' ⟨rfl, h2⟩
  exact ⟨rfl, h.quiet h2⟩
theorem CQ.need (h : CQ w0 w K E n c d R) : Calls Tryz.prog 16 #[.pointer (some ⟨K, 0, none⟩)] w fun e w' => e = .returned (.int .i64 (M.need n)) ∧ w' = w := by
  obtain ⟨F, S, u, dv, ra, rn, rc, D, h1, h2, h3⟩ := h.is
  exact crNeed h1
/-- a block of texts is none of theirs -/
theorem CQ.off (h : CQ w0 w K E n c d R) {g : Nat} {cc : Array Value} {fr : Nat × Nat} (hg : w.heap[g]? = some (.cells cc 9 fr)) : ∀ {F S u dv ra rn rc D}, CwIs w0.heap.size w F K n c R → RcIs w0 w E S u dv ra rn rc d D R → ¬ F g ∧ ¬ rcF E S u dv g := by
  intro F S u dv ra rn rc D h1 h2
  refine ⟨h1.other hg (by decide) (by decide) (by decide) (by decide) (by decide) (by decide), fun hi => ?_⟩
  rcases hi with rfl | rfl | hi | hi
  · have := h2.rc.heap
    rw [this] at hg; exact absurd (tag_eq hg) (by decide)
  · have := h2.rc.sp.heap
    rw [this] at hg; exact absurd (tag_eq hg) (by decide)
  · obtain ⟨xs, r1, _⟩ := h2.rc.sp.row
    obtain ⟨_, c', fr', hh⟩ := ownsRow_tag r1 hi
    rw [hh] at hg; exact absurd (tag_eq hg) (by decide)
  · obtain ⟨_, c', fr', hh⟩ := ownsRow_tag h2.rc.row hi
    rw [hh] at hg; exact absurd (tag_eq hg) (by decide)
/-- while a row of texts of the law's own grows -/
theorem CQ.grown {v : Value} {k : Nat} {xs : List Value} (h : CQ w0 w K E n c d R) (hr : w.ownsRow w0.heap.size 9 1 v k xs) (hg : w.grownBy w' v.ownBlock) : CQ w0 w' K E n c d R := by
  obtain ⟨F, S, u, dv, ra, rn, rc, D, h1, h2, h3⟩ := h.is
  have hno : ∀ i, v.ownBlock = some i → ¬ F i ∧ ¬ rcF E S u dv i := fun i hi => by
    obtain ⟨_, cc, fr, hh⟩ := ownsRow_tag hr hi
    exact h.off hh h1 h2
  have ht : Tch (fun i => v.ownBlock = some i) w w' := ⟨hg.os, hg.tape, hg.output, hg.size, fun i hi hn => hg.block i hi (fun e => hn e.symm), fun b cur fr hb => (hg.block b (heap_lt hb) (fun e => by
    obtain ⟨_, cc, fr', hh⟩ := ownsRow_tag hr e.symm
    rw [hh] at hb
    exact absurd (tag_eq hb) (by decide))).trans hb⟩
  have hlo : ∀ i, v.ownBlock = some i → w0.heap.size ≤ i := fun i hi => (ownsRow_tag hr hi).1
  exact ⟨⟨F, S, u, dv, ra, rn, rc, D, h1.keep ht (fun i hi e => (hno i e).1 hi), ⟨h2.rc.kept (ht.kept h2.rc.highs (fun i hi e => (hno i e).2 hi) hlo h.bel.size), h2.last, h2.len, h2.ok, h2.rules, h2.many, h2.fine⟩, h3⟩, h.bel.trans (ht.below hlo h.bel.size), h.hand, h.tab⟩
theorem CQ.range (h : CQ w0 w K E n c d R) : 1 ≤ n ∧ n ≤ 7 := by
  obtain ⟨F, S, u, dv, ra, rn, rc, D, h1, h2, h3⟩ := h.is
  exact ⟨h1.one, h1.seven⟩
end

/-- the document's way to what wins, in the crowd's words -/
theorem win_said {say : List ByteArray} {nd : Int} (h1 : 1 ≤ nd) (h7 : nd ≤ 7) (hl : say.length ≤ 7) {av : Option Addr} {m cap : Nat} {w : World} (hm : m = say.length) (ha : AtS w av say) :
    Calls Tryz.prog 17 #[.slice av m cap, .int .i64 nd] w fun e w' => ((M.winE say nd = 0 ∧ e = .returned (.tuple #[.string (M.winS say nd), .bool true])) ∨ (M.winE say nd = 5 ∧ M.winS say nd = ⟨#[]⟩ ∧ e = .returned (.tuple #[.string ⟨#[]⟩, .bool false]))) ∧ Below w.heap.size w w' := by
  refine (refWin av m cap say nd w hm (by omega) ha).mono ?_
  rintro e w' ⟨h | h, hb⟩
  · obtain ⟨g, rfl⟩ := h
    have e0 := M.winE_hit (l := say) (need := nd) (by omega) (by omega) g
    exact ⟨Or.inl ⟨e0, by rw [M.winS_hit e0 g]⟩, hb⟩
  · obtain ⟨g, rfl⟩ := h
    have e0 := M.winE_none (l := say) (need := nd) (by omega) (by omega) g
    exact ⟨Or.inr ⟨e0, M.winS_bad (by rw [e0]; decide), rfl⟩, hb⟩

end Go.Proofs.YtlefhfmckimlaaiGreatDoor.crowdPlays

namespace Go.Proofs.YtlefhfmckimlaaiGreatDoor
open Go.RowKit Go.Deep

/-- where a slice has its lists of texts: nowhere, if there are none -/
def AtL (w : World) (a : Option Addr) (L : List (List ByteArray)) : Prop := 0 < L.length → ∃ b off, a = some ⟨b, off, none⟩ ∧ ∀ i (h : i < L.length), ∃ x c, w.cell? ⟨b, off + i, none⟩ = some (.slice x L[i].length c) ∧ L[i].length ≤ maxLen ∧ AtS w x L[i]
theorem inner_slice {H : Type} {enc : TypeId × Value → H} {P : Program} {w : World} {t e : TypeId} {v : Value} {y : DataW H × List MemPlace} {n : Nat} (ht : P.underlying t = some (.slice e)) (h : DataW.trod enc P w 0 (fun _ => true) true n t [v] = some y) : ∃ a len cap, v = .slice a len cap := by
  rcases open_slice ht h with ⟨hc, _⟩ | ⟨x', l', c', _, _, _, _, hc, _⟩
  · exact ⟨none, 0, 0, by simpa using hc⟩
  · exact ⟨some x', l', c', by simpa using hc⟩
/-- an argument of type [][]string -/
theorem open_strss {H : Type} {enc : TypeId × Value → H} {P : Program} {w : World} {tt t e : TypeId} {a : Option Addr} {len cap : Nat} {d : DataW H} {p : List MemPlace}
    (htt : P.underlying tt = some (.slice t)) (ct : P.cellsOf t = 1) (ht : P.underlying t = some (.slice e)) (ce : P.cellsOf e = 1) (he : P.underlying e = some .string) (h : DataW.Trod enc P w 0 (fun _ => true) true tt (.slice a len cap) d p) (hw : ∀ m ∈ d.weights P tt, m ≤ reachBytes) :
    ∃ L : List (List ByteArray), len = L.length ∧ len ≤ cap ∧ cap ≤ maxLen ∧ AtL w a L := by
  obtain ⟨fuel, hf⟩ := h
  rcases open_slice1 htt ct hf with ⟨hcs, hd⟩ | ⟨x, len', cap', m, n, V, D, Pl, hcs, _, hl, hm, hmm, hd, hx⟩
  · simp [Value.cells] at hcs
    obtain ⟨rfl, rfl, rfl⟩ := hcs
    exact ⟨[], rfl, Nat.zero_le _, Nat.zero_le _, fun h => absurd h (by decide)⟩
  · simp [Value.cells] at hcs
    obtain ⟨rfl, rfl, rfl⟩ := hcs
    have hmc : m = cap := by rw [hmm]; simp
    have each : ∀ i, i < len → ∃ z : List ByteArray, ∃ y c, w.cell? (x.add i) = some (.slice y z.length c) ∧ z.length ≤ maxLen ∧ AtS w y z := by
      intro i hi
      obtain ⟨h1, h2⟩ := hx i (by omega)
      obtain ⟨y, l', c', hv⟩ := inner_slice ht h2
      rw [hv] at h1 h2
      obtain ⟨z, e1, e2, e3, e4, _⟩ := open_strs ht ce he (⟨n, by simpa [Value.cells] using h2⟩ : DataW.Trod enc P w 0 (fun _ => true) true t (.slice y l' c') (D i) (Pl i)) (fun k hk => hw k (by
        rw [(Prod.mk.inj hd).1]
        simp only [DataW.weights, htt, List.mem_cons, List.mem_append]
        exact Or.inr (Or.inl (weightsAll_mem (d := D i) (List.mem_map.2 ⟨i, List.mem_range.2 hi, rfl⟩) _ hk))))
      subst e1
      exact ⟨z, y, c', h1, Nat.le_trans e2 e3, e4⟩
    rcases Nat.eq_zero_or_pos len with h0 | h0
    · subst h0; exact ⟨[], rfl, hl, by omega, fun h => absurd h (by simp)⟩
    haveI : Inhabited (List ByteArray) := ⟨[]⟩
    obtain ⟨f, hfe⟩ := choose_lt each
    obtain ⟨b, off, spot⟩ := x
    have hspot : spot = none := by
      obtain ⟨y, c, g1, _⟩ := hfe 0 h0
      simpa [Addr.add] using World.cell?_spot g1
    subst hspot
    have hll : ((List.range len).map f).length = len := by simp
    refine ⟨(List.range len).map f, hll.symm, hl, by omega, fun _ => ⟨b, off, rfl, fun i hi => ?_⟩⟩
    have hi' : i < len := by rw [hll] at hi; exact hi
    have e : ((List.range len).map f)[i] = f i := by simp
    rw [e]
    obtain ⟨y, c, g1, g2, g3⟩ := hfe i hi'
    rw [WideShapes.add_plain] at g1
    exact ⟨y, c, g1, g2, g3⟩

end Go.Proofs.YtlefhfmckimlaaiGreatDoor
