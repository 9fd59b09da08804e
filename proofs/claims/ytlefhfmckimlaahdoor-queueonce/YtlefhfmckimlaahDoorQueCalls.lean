/-
  Push of package queue, whatever comes in, as one law of its call.
-/
import Derived.Test.YtlefhfmckimlaahDoorQuePop
set_option linter.unusedVariables false
namespace Go.Proofs.YtlefhfmckimlaahDoor
open Go.RowKit

theorem qpush {base S B : Nat} {v : Value} {E : List QEnt} {m : Nat} {f : Int → Int} (who seq deed : Int) (a : Option Addr) (n c : Nat) (l : List M.Val) (w : World) (h : Qs base w S B v E m f) (hv : IsVals w (.slice a n c) l) (hfk : ∀ k, 0 ≤ f k ∧ f k ≤ 1000000) (hn : E.length ≤ 30) (hm : m < 1000) :
    Calls Tryd.prog 13 #[.pointer (some ⟨S, 0, none⟩), aggA who seq deed a n c] w fun e w' => e = .returned (errV (M.pushE f E.length ⟨who, seq, deed, l⟩)) ∧
      ((M.pushE f E.length ⟨who, seq, deed, l⟩ ≠ 0 ∧ Below w.heap.size w w') ∨ (M.pushE f E.length ⟨who, seq, deed, l⟩ = 0 ∧ ∃ v' x, Qs base w' S B v' (E ++ [x]) (m + 1) (M.upF f ⟨who, seq, deed, l⟩) ∧ x.a = ⟨who, seq, deed, l⟩ ∧ TouchQ S B v w w' ∧ Near w v v')) := by
  by_cases hf : M.askF ⟨who, seq, deed, l⟩ = 0
  · rcases Int.lt_trichotomy seq (f who + 1) with h1 | h1 | h1
    · have e := M.pushE_clash (f := f) (n := E.length) hf h1
      rw [e]
      refine (qpush_late who seq deed a n c l w h hv hf (hfk who) (by omega)).mono ?_
      rintro e w' ⟨rfl, hb⟩
      rw [if_pos h1]
      exact ⟨rfl, Or.inl ⟨by decide, hb⟩⟩
    · by_cases h30 : 30 ≤ E.length
      · have e := M.pushE_full (f := f) hf h1 h30
        rw [e]
        refine (qpush_full who seq deed a n c l w h hv hf (hfk who) h1 h30 hn).mono ?_
        rintro e w' ⟨rfl, hb⟩
        exact ⟨rfl, Or.inl ⟨by decide, hb⟩⟩
      · have e := M.pushE_goes (f := f) hf h1 h30
        rw [e]
        refine (qpush_ok who seq deed a n c l w h hv hf (hfk who) h1 (by omega) hm).mono ?_
        rintro e w' ⟨rfl, hx⟩
        exact ⟨rfl, Or.inr ⟨rfl, hx⟩⟩
    · have e := M.pushE_state (f := f) (n := E.length) hf h1
      rw [e]
      refine (qpush_late who seq deed a n c l w h hv hf (hfk who) (by omega)).mono ?_
      rintro e w' ⟨rfl, hb⟩
      rw [if_neg (by omega)]
      exact ⟨rfl, Or.inl ⟨by decide, hb⟩⟩
  · rw [M.pushE_bad hf]
    refine (qpush_bad S who seq deed a n c l w hv hf).mono ?_
    rintro e w' ⟨rfl, hb⟩
    exact ⟨rfl, Or.inl ⟨hf, hb⟩⟩

/-- one value written down -/
theorem lit_q (w : World) (v : M.Val) (hs : v.s.size ≤ maxLen) : IsVals (w.alloc (.cells #[.int .i64 v.k, .int .i64 v.n, .string v.s] 38)) (.slice (some ⟨w.heap.size, 0, none⟩) 1 1) [v] := by
  refine Or.inr (Or.inr ⟨w.heap.size, 0, 1, by simp, rfl, by simp, by unfold maxLen; decide, lie_of_cells (fun x hx => by simp at hx; subst hx; exact hs) fun j u hu => ?_⟩)
  exact World.news_of_block (heap_alloc_new w _) j u hu

end Go.Proofs.YtlefhfmckimlaahDoor
