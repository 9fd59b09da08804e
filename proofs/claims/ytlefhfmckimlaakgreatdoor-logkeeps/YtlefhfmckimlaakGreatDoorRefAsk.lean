/-
  What the document says is wrong with what is asked: Ask of package tupleref2, as one law of its call.
-/
import Derived.Test.YtlefhfmckimlaakGreatDoorJQue
import Derived.Test.YtlefhfmckimlaakGreatDoorJRef
set_option linter.unusedVariables false
namespace Go.Proofs.YtlefhfmckimlaakGreatDoor
open Go.RowKit

/-- what the document says is wrong with one -/
theorem rAsk (who seq deed : Int) (a : Option Addr) (n c : Nat) (l : List M.Val) (w : World) (hv : IsVals w (.slice a n c) l) :
    Calls Tryz.prog 45 #[aggA who seq deed a n c] w fun e w' => e = .returned (.int .i64 (M.askF ⟨who, seq, deed, l⟩)) ∧ Below w.heap.size w w' := by
  have HA : Hid (∀ o, Below w.heap.size w (w.alloc o)) := hide fun o => (Below.refl _ _).alloc (Nat.le_refl _) o
  have HL : Hid (∀ wx, Below w.heap.size w wx → Calls Tryz.prog 43 #[.slice a n c] wx fun e w' => e = .returned (.int .i64 (M.likeF l)) ∧ Below wx.heap.size wx w') := hide fun wx hb => rlike _ l wx (hv.stays hb (Nat.le_refl _))
  have HT : Hid (∀ wx, Below w.heap.size w wx → Calls Tryz.prog 77 #[.slice a n c] wx fun e w' => e = .returned (.int .i64 (M.tupF l)) ∧ Below wx.heap.size wx w') := hide fun wx hb => rtuple _ l wx (hv.stays hb (Nat.le_refl _))
  clear hv
  by_cases hr : who < 0 ∨ 1000000 < who ∨ deed < 0 ∨ 2 < deed
  · rw [M.askF_range (a := ⟨who, seq, deed, l⟩) hr]
    have hq : who < 0 ∨ (¬ who < 0 ∧ 1000000 < who) ∨ (¬ who < 0 ∧ ¬ 1000000 < who ∧ deed < 0) ∨ (¬ who < 0 ∧ ¬ 1000000 < who ∧ ¬ deed < 0 ∧ 2 < deed) := by omega
    clear hr HL HT
    rcases hq with q1 | ⟨q1, q2⟩ | ⟨q1, q2, q3⟩ | ⟨q1, q2, q3, q4⟩
    all_goals
      go_enter Tryz.func45, Tryz.ntmps45
      go_wp2
      go_ret
      exact ⟨rfl, HA.out _⟩
  · have q1 : ¬ who < 0 := by omega
    have q2 : ¬ 1000000 < who := by omega
    have q3 : ¬ deed < 0 := by omega
    have q4 : ¬ 2 < deed := by omega
    by_cases h0 : deed = 0
    · rw [M.askF_put (a := ⟨who, seq, deed, l⟩) hr h0]
      generalize M.tupF l = E at HT ⊢
      subst h0
      clear hr q3 q4 HL
      go_enter Tryz.func45, Tryz.ntmps45
      go_wp2_with fail
      refine (HT.out _ (HA.out _)).mono ?_
      rintro e w2 ⟨rfl, hb2⟩
      go_wp2_with fail
      go_ret
      exact ⟨rfl, (HA.out _).trans (hb2.mono (by simp))⟩
    · rw [M.askF_else (a := ⟨who, seq, deed, l⟩) hr h0]
      have hb0 : (deed == 0) = false := by simpa using h0
      generalize M.likeF l = E at HL ⊢
      clear hr h0 HT
      go_enter Tryz.func45, Tryz.ntmps45
      go_wp2_with fail
      refine (HL.out _ (HA.out _)).mono ?_
      rintro e w2 ⟨rfl, hb2⟩
      go_wp2_with fail
      go_ret
      exact ⟨rfl, (HA.out _).trans (hb2.mono (by simp))⟩

end Go.Proofs.YtlefhfmckimlaakGreatDoor
