/-
  The walk of the Go function ModOne: it returns true, whatever the two numbers.
-/
import Derived.Test.YtlefhfmckimlaadModWalks
namespace Go.Proofs.Ytlefhfmckimlaad.modOne
open Go.RowKit

theorem one_times {a : Int} (h0 : 0 ≤ a) (h1 : a < 257) : a * 1 % 257 = a := by omega
theorem plus_nought {a : Int} (h0 : 0 ≤ a) (h1 : a < 257) : (a + 0) % 257 = a := by omega

theorem walk (a b : Int) (w : World) : Calls Try.prog 4 #[.int .i64 a, .int .i64 b] w fun e w' => e = .returned (.bool true) ∧ w' = w := by
  by_cases h : 0 ≤ a ∧ a < 257
  · obtain ⟨h0, h1⟩ := h
    have HT : Hid (∀ w, Calls Try.prog 6 #[.int .i64 a, .int .i64 1] w fun e w' => e = .returned (.tuple #[.int .i64 a, .nilIface]) ∧ w' = w) := Md.hide fun w => by
      have := Md.timesOk a 1 w ⟨⟨h0, h1⟩, by decide, by decide⟩
      rwa [one_times h0 h1] at this
    have HA : Hid (∀ w, Calls Try.prog 8 #[.int .i64 a, .int .i64 0] w fun e w' => e = .returned (.tuple #[.int .i64 a, .nilIface]) ∧ w' = w) := Md.hide fun w => by
      have := Md.addOk a 0 w ⟨⟨h0, h1⟩, by decide, by decide⟩
      rwa [plus_nought h0 h1] at this
    have HP : Hid (∀ w, Calls Try.prog 7 #[.int .i64 a, .int .i64 0, .int .i64 257] w fun e w' => e = .returned (.tuple #[.int .i64 1, .nilIface]) ∧ w' = w) := Md.hide fun w => by
      have := Md.powOk a 0 257 w ⟨by decide, by decide, h0, h1, by decide, by decide⟩
      rwa [M.pwI_zero a (by decide)] at this
    by_cases hb : 2 ≤ b ∧ b ≤ 1000000
    · have HQ : Hid (∀ w, Calls Try.prog 7 #[.int .i64 1, .int .i64 5, .int .i64 b] w fun e w' => e = .returned (.tuple #[.int .i64 1, .nilIface]) ∧ w' = w) := Md.hide fun w => by
        have := Md.powOk 1 5 b w ⟨hb.1, hb.2, by decide, by omega, by decide, by decide⟩
        rwa [M.pwI_of_one 5 hb.1] at this
      obtain ⟨hb0, hb1⟩ := hb
      go_enter Try.func4, Try.ntmps4
      go_wp2_with fail
      refine (HT.out _).mono ?_
      rintro e w' ⟨rfl, rfl⟩
      go_wp2_with fail
      refine (HA.out _).mono ?_
      rintro e w' ⟨rfl, rfl⟩
      go_wp2_with fail
      refine (HP.out _).mono ?_
      rintro e w' ⟨rfl, rfl⟩
      go_wp2_with fail
      refine (HQ.out _).mono ?_
      rintro e w' ⟨rfl, rfl⟩
      go_wp2_with fail
      go_ret
      exact ⟨by simp, rfl⟩
    · have HQ : Hid (∀ w, Calls Try.prog 7 #[.int .i64 1, .int .i64 5, .int .i64 b] w fun e w' => e = .returned (.tuple #[.int .i64 0, .iface 31 (.int .i64 1)]) ∧ w' = w) := Md.hide fun w => Md.powBad 1 5 b w fun h => hb ⟨h.1, h.2.1⟩
      have hq : b < 2 ∨ ¬ b < 2 ∧ 1000000 < b := by omega
      clear hb
      rcases hq with hq | ⟨hq, hq2⟩
      all_goals
        go_enter Try.func4, Try.ntmps4
        go_wp2_with fail
        refine (HT.out _).mono ?_
        rintro e w' ⟨rfl, rfl⟩
        go_wp2_with fail
        refine (HA.out _).mono ?_
        rintro e w' ⟨rfl, rfl⟩
        go_wp2_with fail
        refine (HP.out _).mono ?_
        rintro e w' ⟨rfl, rfl⟩
        go_wp2_with fail
        refine (HQ.out _).mono ?_
        rintro e w' ⟨rfl, rfl⟩
        go_wp2_with fail
        go_ret
        exact ⟨by simp, rfl⟩
  · have HT : Hid (∀ w, Calls Try.prog 6 #[.int .i64 a, .int .i64 1] w fun e w' => e = .returned (.tuple #[.int .i64 0, .iface 31 (.int .i64 1)]) ∧ w' = w) := Md.hide fun w => Md.timesBad a 1 w fun h' => h h'.1
    have hq : a < 0 ∨ ¬ a < 0 ∧ 256 < a := by omega
    clear h
    rcases hq with hq | ⟨hq, hq2⟩
    all_goals
      go_enter Try.func4, Try.ntmps4
      go_wp2_with fail
      refine (HT.out _).mono ?_
      rintro e w' ⟨rfl, rfl⟩
      go_wp2_with fail
      go_ret
      exact ⟨rfl, rfl⟩

end Go.Proofs.Ytlefhfmckimlaad.modOne
