/-
  What the document's own In and Power do, each as one law of its call.
-/
import Derived.Test.YtlefhfmckimlaaeDoorModWalks
namespace Go.Proofs.YtlefhfmckimlaaeDoor.Md
open Go.RowKit

/-- a number of the chapter's -/
def inB (a : Int) : Bool := decide (0 ≤ a ∧ a < 257)
theorem inB_yes {a : Int} (h : inB a = true) : 0 ≤ a ∧ a < 257 := of_decide_eq_true h
theorem inB_no {a : Int} (h : inB a = false) : a < 0 ∨ 257 ≤ a := by have := of_decide_eq_false h; omega

theorem refIn (a : Int) (w : World) : Calls Tryd.prog 16 #[.int .i64 a] w fun e w' => e = .returned (.bool (inB a)) ∧ w' = w := by
  cases h : inB a
  · rcases inB_no h with h1 | h1
    · clear h
      go_enter Tryd.func16, Tryd.ntmps16
      go_wp2
      go_ret
      exact ⟨rfl, rfl⟩
    · clear h
      have h0 : 0 ≤ a := by omega
      go_enter Tryd.func16, Tryd.ntmps16
      go_wp2
      go_ret
      exact ⟨by simp; omega, rfl⟩
  · obtain ⟨h0, h1⟩ := inB_yes h
    clear h
    go_enter Tryd.func16, Tryd.ntmps16
    go_wp2
    go_ret
    exact ⟨by simp; omega, rfl⟩

set_option maxHeartbeats 1000000 in
theorem refPower (a b : Nat) (ha : a < b) (hb : 2 ≤ b) (hb1 : b ≤ 1000000) : ∀ (n : Nat) (w : World), n ≤ 1000000 →
    Calls Tryd.prog 27 #[.int .i64 a, .int .i64 n, .int .i64 b] w fun e w' => e = .returned (.int .i64 (M.pw a n b : Nat)) ∧ w' = w := by
  intro n
  induction n using Nat.strongRecOn with
  | ind n ih =>
    intro w hn
    by_cases h0 : n = 0
    · subst h0
      rw [M.pw_zero hb]
      clear ih
      go_enter Tryd.func27, Tryd.ntmps27
      go_wp2
      go_ret
      exact ⟨rfl, rfl⟩
    · have HI : Hid (∀ w, Calls Tryd.prog 27 #[.int .i64 a, .int .i64 ((n : Int) / 2), .int .i64 b] w fun e w' => e = .returned (.int .i64 (M.pw a (n / 2) b : Nat)) ∧ w' = w) := hide fun w => by
        rw [show (n : Int) / 2 = ((n / 2 : Nat) : Int) by omega]
        exact ih (n / 2) (by omega) w (by omega)
      obtain ⟨h, hh⟩ : ∃ h, h = M.pw a (n / 2) b := ⟨_, rfl⟩
      have hl : h < b := by rw [hh]; exact M.pw_lt (by omega)
      rw [← hh] at HI
      obtain ⟨q0, q1⟩ := sq_range hl hl hb1
      have hm : h * h % b < b := Nat.mod_lt _ (by omega)
      obtain ⟨s0, s1⟩ := sq_range hm ha hb1
      have em : (h : Int) * h % b = ((h * h % b : Nat) : Int) := by simp
      rw [← em] at s0 s1
      have hz : ((n : Int) == 0) = false := by simp; omega
      clear ih
      rcases Nat.mod_two_eq_zero_or_one n with h2 | h2
      · have HF : Hid (h * h % b = M.pw a n b) := hide (by rw [hh]; exact M.pw_half h2)
        have h2i : (n : Int) % 2 = 0 := by omega
        clear hh em h0
        go_enter Tryd.func27, Tryd.ntmps27
        go_wp2_with fail
        refine (HI.out _).mono ?_
        rintro e w' ⟨rfl, rfl⟩
        go_wp2_with fail
        go_ret
        exact ⟨by rw [← HF.out]; simp, rfl⟩
      · have HF : Hid (h * h % b * a % b = M.pw a n b) := hide (by rw [hh]; exact M.pw_half1 h2)
        have h2i : (n : Int) % 2 = 1 := by omega
        clear hh em h0
        go_enter Tryd.func27, Tryd.ntmps27
        go_wp2_with fail
        refine (HI.out _).mono ?_
        rintro e w' ⟨rfl, rfl⟩
        go_wp2_with fail
        go_ret
        exact ⟨by rw [← HF.out]; simp; rw [Int.mul_emod (_ % _), Int.emod_emod, ← Int.mul_emod], rfl⟩

theorem refPowerI (a n b : Int) (w : World) (h : Pow a n b) : Calls Tryd.prog 27 #[.int .i64 a, .int .i64 n, .int .i64 b] w fun e w' => e = .returned (.int .i64 (M.pwI a n b)) ∧ w' = w := by
  obtain ⟨h1, h2, h3, h4, h5, h6⟩ := h
  have := refPower a.toNat b.toNat (by omega) (by omega) (by omega) n.toNat w (by omega)
  rwa [Int.toNat_of_nonneg h3, Int.toNat_of_nonneg h5, Int.toNat_of_nonneg (by omega : 0 ≤ b)] at this

end Go.Proofs.YtlefhfmckimlaaeDoor.Md
