/-
  The walk of the Go function RuleNone: it returns true, whatever comes in, if the library's error type reads as its text lays it.
-/
import Derived.Test.YtlefhfmckimlaagDoorRuleFind
import Derived.Test.YtlefhfmckimlaagDoorErrTold
set_option linter.unusedVariables false
namespace Go.Proofs.YtlefhfmckimlaagDoor.ruleNone
open Go.RowKit

theorem atR_nil (w : World) : AtR w none [] := fun h => absurd h (by decide)

set_option maxRecDepth 100000 in
theorem walk (tv : Value) (t : List M.Val) (who deed : Int) (w : World) (ht : IsVals w tv t) (hg : Hand w) :
    Calls Tryd.prog 8 #[.int .i64 who, .int .i64 deed, tv] w fun e w' => e = .returned (.bool true) ∧ Below w.heap.size w w' := by
  have hM := rMay none 0 0 [] who deed tv t w rfl (Nat.zero_le _) (atR_nil w) ht
  have hF : ∀ wx, Below w.heap.size w wx → Calls Tryd.prog 27 #[.slice none 0 0, .int .i64 who, .int .i64 deed, tv] wx fun e w' => e = .returned (.tuple #[.int .i64 (M.firR [] who deed t), errV (M.firE [] who deed t)]) ∧ Below wx.heap.size wx w' := fun wx hb =>
    rFirst none 0 0 [] who deed tv t wx rfl (Nat.zero_le _) (atR_nil wx) (ht.stays hb (Nat.le_refl _))
  rw [M.none_may] at hM
  by_cases hE : M.mayE [] who deed t = 0
  · rw [hE] at hM
    rw [M.none_first hE] at hF
    have HM : Hid (Calls Tryd.prog 25 #[.slice none 0 0, .int .i64 who, .int .i64 deed, tv] w fun e w' => e = .returned (.tuple #[.bool false, .nilIface]) ∧ Below w.heap.size w w') := hide hM
    have HF : Hid (∀ wx, Below w.heap.size w wx → Calls Tryd.prog 27 #[.slice none 0 0, .int .i64 who, .int .i64 deed, tv] wx fun e w' => e = .returned (.tuple #[.int .i64 (M.firR [] who deed t), .iface 64 (.int .i64 5)]) ∧ Below wx.heap.size wx w') := hide fun wx hb => by have := hF wx hb; rwa [errV_bad (by decide)] at this
    have HS : Hid (∀ wx, Below w.heap.size w wx → Calls Tryd.prog 21 #[.iface 64 (.int .i64 5), .int .i64 5] wx fun e w' => e = .returned (.bool true) ∧ Below wx.heap.size wx w') := hide fun wx hb => by
      have := sameErr 5 5 wx (hg.stays hb (Nat.le_refl _))
      rwa [errV_bad (by decide)] at this
    clear hM hF hE ht hg
    generalize M.firR [] who deed t = r at *
    go_enter Tryd.func8, Tryd.ntmps8
    go_wp2_with fail
    refine (unhide HM).mono ?_
    rintro e w1 ⟨rfl, hb1⟩
    have HB1 := hide hb1
    clear hb1
    go_wp2_with fail
    refine (HF.out _ HB1.out).mono ?_
    rintro e w2 ⟨rfl, hb2⟩
    have HB2 := hide (HB1.out.trans (hb2.mono HB1.out.size))
    clear hb2
    go_wp2_with fail
    refine (HS.out _ HB2.out).mono ?_
    rintro e w3 ⟨rfl, hb3⟩
    have HB3 := hide (HB2.out.trans (hb3.mono HB2.out.size))
    clear hb3
    go_wp2_with fail
    go_ret
    exact ⟨rfl, HB3.out⟩
  · rw [errV_bad hE] at hM
    rw [M.firE_bad hE, errV_bad hE] at hF
    have HM := hide hM
    have HF := hide hF
    clear hM hF hE ht hg
    generalize M.firR [] who deed t = r at *
    generalize M.mayE [] who deed t = E at *
    go_enter Tryd.func8, Tryd.ntmps8
    go_wp2_with fail
    refine (unhide HM).mono ?_
    rintro e w1 ⟨rfl, hb1⟩
    have HB1 := hide hb1
    clear hb1
    go_wp2_with fail
    refine (HF.out _ HB1.out).mono ?_
    rintro e w2 ⟨rfl, hb2⟩
    have HB2 := hide (HB1.out.trans (hb2.mono HB1.out.size))
    clear hb2
    go_wp2_with fail
    go_ret
    exact ⟨rfl, HB2.out⟩

end Go.Proofs.YtlefhfmckimlaagDoor.ruleNone
