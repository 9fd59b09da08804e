/-
  What Do and Mark of package crowd do, whatever comes in, each as one law of its call.
-/
import Derived.Test.YtlefhfmckimlaakGreatDoorCrdDo
set_option linter.unusedVariables false
namespace Go.Proofs.YtlefhfmckimlaakGreatDoor
open Go.RowKit
attribute [local go_sem ↓] Go.wp_at_zero Go.wp_at_succ

section
variable {base : Nat} {w : World} {F : Nat → Prop} {K n : Nat} {c : M.Cop} {R : List M.Rul} {a : Option Addr} {m cp : Nat} {la : Option Addr} {lm lc : Nat} {lie : List ByteArray}
/-- a block of another type is none of a crowd's -/
theorem CwIs.other (h : CwIs base w F K n c R) {b : Nat} {cs : Array Value} {T : TypeId} {fr : Nat × Nat} (hb : w.heap[b]? = some (.cells cs T fr)) (h1 : T ≠ 119) (h2 : T ≠ 162) (h3 : T ≠ 32) (h4 : T ≠ 34) (h5 : T ≠ 124) (h6 : T ≠ 60) : ¬ F b := by
  obtain ⟨v, Cs, Fs, rfl, rfl, hc⟩ := h.is
  intro hF
  rcases hF with rfl | hF | ⟨i, hi, hF⟩
  · rw [hc.heap] at hb; exact h5 (tag_eq hb).symm
  · obtain ⟨_, cc, fr', hh⟩ := ownsRow_tag hc.row hF
    rw [hh] at hb; exact h6 (tag_eq hb).symm
  · exact (hc.cps i hi).other hb h1 h2 h3 h4 hF
theorem CwIs.base_le (h : CwIs base w F K n c R) : base ≤ w.heap.size := by
  obtain ⟨v, Cs, Fs, _, _, hc⟩ := h.is
  exact hc.base_le

/-- Do, whatever comes in: the tuple and the lies stay while the crowd's blocks are written -/
theorem crDo (x : M.Ask) (h : CwIs base w F K n c R) (hv : ∀ wx, Tch F w wx → IsVals wx (.slice a m cp) x.t) (hl : ∀ wx, Tch F w wx → AtS wx la lie) (hll : lm = lie.length) (hlm : lm ≤ maxLen) (hn : c.n < 1000) (ht : TabFrom base w) :
    Calls Tryz.prog 29 #[.pointer (some ⟨K, 0, none⟩), aggA x.who x.seq x.deed a m cp, .slice la lm lc] w fun e w' => e = .returned (.tuple #[.string (M.crR R c n lie x).2.1, errV (M.crR R c n lie x).1]) ∧ ∃ F', CwIs base w' F' K n (M.crR R c n lie x).2.2 R ∧ Tch F w w' ∧ Grows w F F' := by
  obtain ⟨who, seq, deed, t⟩ := x
  simp only at hv ⊢
  by_cases h1 : n < lie.length
  · rw [M.crR_more h1]
    refine (crDo_more h (by omega) hlm).mono ?_
    rintro e w' ⟨rfl, hb⟩
    exact ⟨rfl, F, h.quiet hb, Tch.of_below hb, Grows.refl _ _⟩
  · by_cases h2 : (M.doR R c ⟨who, seq, deed, t⟩).1 = 0
    · rw [M.crR_ok h1 h2]
      exact crDo_ok h hv hl hll (by omega) hn ht h2
    · rw [M.crR_bad h1 h2]
      exact crDo_bad h hv (by omega) hn ht h2
end

end Go.Proofs.YtlefhfmckimlaakGreatDoor
