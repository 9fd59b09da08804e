/-
  Plain facts on powers modulo a number, and on the field of 257 numbers. No program is walked here.
  What the functions of package mod do, each as one law of its call.
-/
import Derived.WalkKit
import Derived.Test.YtlidoefbonklcajDoorRows
import Derived.WalkLawsBesides
import Derived.WalkSpells
import Derived.Below
import Derived.Deep.RegionWith
namespace Go.Proofs.YtlidoefbonklcajDoor.M

/-- a power, modulo b -/
def pw (a n b : Nat) : Nat := a ^ n % b

theorem pw_zero {a b : Nat} (h : 2 ≤ b) : pw a 0 b = 1 := by
  unfold pw; rw [Nat.pow_zero]; exact Nat.mod_eq_of_lt h
theorem pw_lt {a n b : Nat} (h : 0 < b) : pw a n b < b := Nat.mod_lt _ h
theorem pw_one {a b : Nat} (h : a < b) : pw a 1 b = a := by
  unfold pw; rw [Nat.pow_one]; exact Nat.mod_eq_of_lt h
theorem pw_of_one (n : Nat) {b : Nat} (h : 2 ≤ b) : pw 1 n b = 1 := by
  unfold pw; rw [Nat.one_pow]; exact Nat.mod_eq_of_lt h
/-- of two powers the product is that of both added up -/
theorem pw_add (a n m b : Nat) : pw a n b * pw a m b % b = pw a (n + m) b := by
  unfold pw; rw [Nat.pow_add, ← Nat.mul_mod]
theorem pw_succ (a n b : Nat) : pw a n b * a % b = pw a (n + 1) b := by
  unfold pw; rw [Nat.pow_succ, Nat.mul_mod (a ^ n) a, Nat.mul_mod, Nat.mod_mod]
theorem pw_half {a n b : Nat} (h : n % 2 = 0) : pw a (n / 2) b * pw a (n / 2) b % b = pw a n b := by
  rw [pw_add]; congr 1; omega
theorem pw_half1 {a n b : Nat} (h : n % 2 = 1) : pw a (n / 2) b * pw a (n / 2) b % b * a % b = pw a n b := by
  rw [pw_add, pw_succ]; congr 1; omega
/-- the other way round: the base squared -/
theorem pw_base (a n b : Nat) : pw (a % b) n b = pw a n b := by
  unfold pw; rw [← Nat.pow_mod]
theorem pw_sq (a k b : Nat) : pw (a * a % b) k b = pw a (2 * k) b := by
  rw [pw_base]; unfold pw; rw [← Nat.pow_two, ← Nat.pow_mul]

/-- the other half of a number that is not nought -/
def inv (a : Nat) : Nat := pw a 255 257
theorem inv_lt (a : Nat) : inv a < 257 := pw_lt (by decide)
theorem inv_is : ∀ a, a < 257 → a ≠ 0 → a * inv a % 257 = 1 := by decide +kernel
theorem fermat : ∀ a, a < 257 → pw a 257 257 = a := by decide +kernel
/-- it is the only one -/
theorem inv_only {a x : Nat} (ha : a < 257) (h0 : a ≠ 0) (hx : x < 257) (h : a * x % 257 = 1) : x = inv a := by
  have h1 := inv_is a ha h0
  have e1 : x * (a * inv a) % 257 = x := by
    rw [Nat.mul_mod, h1, Nat.mul_one, Nat.mod_mod, Nat.mod_eq_of_lt hx]
  have e2 : x * (a * inv a) % 257 = inv a := by
    rw [← Nat.mul_assoc, Nat.mul_comm x a, Nat.mul_mod, h, Nat.one_mul, Nat.mod_mod, Nat.mod_eq_of_lt (inv_lt a)]
  exact e1.symm.trans e2
theorem inv_pos {a : Nat} (ha : a < 257) (h0 : a ≠ 0) : inv a ≠ 0 := fun h => by
  have h1 := inv_is a ha h0
  rw [h, Nat.mul_zero] at h1
  exact absurd h1 (by decide)
/-- spread over sums -/
theorem spread (a b c : Nat) : a * ((b + c) % 257) % 257 = (a * b % 257 + a * c % 257) % 257 := by
  rw [Nat.mul_mod, Nat.mod_mod, ← Nat.mul_mod, Nat.mul_add, Nat.add_mod]

/-- a product's part below b -/
theorem step_odd (r x k b : Nat) (h : k % 2 = 1) : r * x % b * pw (x * x % b) (k / 2) b % b = r * pw x k b % b := by
  rw [pw_sq]
  have e : pw x k b = pw x (2 * (k / 2)) b * x % b := by rw [pw_succ]; congr 1; omega
  rw [e, Nat.mul_mod (r * x % b), Nat.mod_mod, ← Nat.mul_mod, Nat.mul_mod r (_ % b), Nat.mod_mod, ← Nat.mul_mod, Nat.mul_assoc, Nat.mul_comm x]
theorem step_even (r x k b : Nat) (h : k % 2 = 0) : r * pw (x * x % b) (k / 2) b % b = r * pw x k b % b := by
  rw [pw_sq]; congr 2; congr 1; omega

/-- the same on whole numbers -/
def pwI (a n b : Int) : Int := (pw a.toNat n.toNat b.toNat : Nat)
def invI (a : Int) : Int := (inv a.toNat : Nat)
theorem pwI_range (a n : Int) {b : Int} (h : 2 ≤ b) : 0 ≤ pwI a n b ∧ pwI a n b < b := by
  have := pw_lt (a := a.toNat) (n := n.toNat) (b := b.toNat) (by omega)
  unfold pwI; omega
theorem pwI_zero (a : Int) {b : Int} (h : 2 ≤ b) : pwI a 0 b = 1 := by
  unfold pwI; rw [show (0 : Int).toNat = 0 from rfl, pw_zero (by omega)]; rfl
theorem pwI_of_one (n : Int) {b : Int} (h : 2 ≤ b) : pwI 1 n b = 1 := by
  unfold pwI; rw [show (1 : Int).toNat = 1 from rfl, pw_of_one _ (by omega)]; rfl
theorem pwI_fermat {a : Int} (h0 : 0 ≤ a) (h1 : a < 257) : pwI a 257 257 = a := by
  have := fermat a.toNat (by omega)
  unfold pwI; rw [show (257 : Int).toNat = 257 from rfl, this]; omega
theorem pwI_add (a : Int) {n m : Int} (hn : 0 ≤ n) (hm : 0 ≤ m) : pwI a n 257 * pwI a m 257 % 257 = pwI a (n + m) 257 := by
  unfold pwI
  rw [show (n + m).toNat = n.toNat + m.toNat by omega, ← pw_add]; simp
theorem invI_range (a : Int) : 0 ≤ invI a ∧ invI a < 257 := by
  have := inv_lt a.toNat
  unfold invI; omega
theorem invI_is {a : Int} (h0 : 0 < a) (h1 : a < 257) : a * invI a % 257 = 1 := by
  have := inv_is a.toNat (by omega) (by omega)
  obtain ⟨k, rfl⟩ : ∃ k : Nat, a = k := ⟨a.toNat, by omega⟩
  unfold invI
  rw [Int.toNat_natCast] at this ⊢
  omega
theorem invI_two : invI 2 = 129 := by decide +kernel
/-- the first one that does it is it -/
theorem invI_only {a x : Int} (h0 : 0 < a) (h1 : a < 257) (hx : 0 ≤ x) (hx1 : x < 257) (h : x * a % 257 = 1) : x = invI a := by
  obtain ⟨k, rfl⟩ : ∃ k : Nat, a = k := ⟨a.toNat, by omega⟩
  obtain ⟨j, rfl⟩ : ∃ j : Nat, x = j := ⟨x.toNat, by omega⟩
  have := inv_only (a := k) (x := j) (by omega) (by omega) (by omega) (by rw [Nat.mul_comm]; omega)
  unfold invI; rw [Int.toNat_natCast, ← this]
theorem spreadI (a b c : Int) : a * ((b + c) % 257) % 257 = (a * b % 257 + a * c % 257) % 257 := by
  rw [← Int.add_emod, ← Int.mul_add, Int.mul_emod, Int.emod_emod, ← Int.mul_emod]

end Go.Proofs.YtlidoefbonklcajDoor.M

namespace Go.Proofs.YtlidoefbonklcajDoor.Md
open Go.RowKit

theorem hide {p : Prop} (h : p) : Hid p := h

theorem isYes (a : Int) (w : World) (h0 : 0 ≤ a) (h1 : a < 257) : Calls Tryd.prog 28 #[.int .i64 a] w fun e w' => e = .returned (.bool true) ∧ w' = w := by
  go_enter Tryd.func28, Tryd.ntmps28
  go_wp2
  go_ret
  exact ⟨rfl, rfl⟩
theorem isNo (a : Int) (w : World) (h : a < 0 ∨ 257 ≤ a) : Calls Tryd.prog 28 #[.int .i64 a] w fun e w' => e = .returned (.bool false) ∧ w' = w := by
  rcases h with h | h
  · go_enter Tryd.func28, Tryd.ntmps28
    go_wp2
    go_ret
    exact ⟨rfl, rfl⟩
  · have h0 : 0 ≤ a := by omega
    go_enter Tryd.func28, Tryd.ntmps28
    go_wp2
    go_ret
    exact ⟨by simp; omega, rfl⟩

/-- both are from 0 to 256 -/
def Two (a b : Int) : Prop := (0 ≤ a ∧ a < 257) ∧ (0 ≤ b ∧ b < 257)
theorem two_no {a b : Int} (h : ¬ Two a b) : (a < 0 ∨ 257 ≤ a) ∨ ((0 ≤ a ∧ a < 257) ∧ (b < 0 ∨ 257 ≤ b)) := by
  unfold Two at h; omega



theorem sq_range {x y b : Nat} (hx : x < b) (hy : y < b) (hb : b ≤ 1000000) : 0 ≤ (x : Int) * y ∧ (x : Int) * y ≤ 1000000000000 := by
  refine ⟨Int.mul_nonneg (by omega) (by omega), ?_⟩
  have := Int.mul_le_mul (show (x : Int) ≤ 1000000 by omega) (show (y : Int) ≤ 1000000 by omega) (by omega) (by decide)
  omega

set_option maxHeartbeats 1000000 in
theorem power (a n b : Nat) (w : World) (ha : a < b) (hb : 2 ≤ b) (hb1 : b ≤ 1000000) (hn : n ≤ 1000000) : Calls Tryd.prog 100 #[.int .i64 a, .int .i64 n, .int .i64 b] w fun e w' => e = .returned (.int .i64 (M.pw a n b : Nat)) ∧ w' = w := by
  go_enter Tryd.func100, Tryd.ntmps100
  go_wp2
  go_loop [0, 1, 7] (fun sx sk sr => ∃ (x k r : Nat), sx = .int .i64 x ∧ sk = .int .i64 k ∧ sr = .int .i64 r ∧ x < b ∧ r < b ∧ k ≤ 1000000 ∧ Hid (r * M.pw x k b % b = M.pw a n b)) (fun _ sk _ => (intOf sk).toNat)
  case atStart => exact ⟨a, n, 1, rfl, rfl, rfl, ha, hb, hn, hide (by rw [Nat.one_mul]; exact Nat.mod_eq_of_lt (M.pw_lt (by omega)))⟩
  case round =>
    obtain ⟨x, k, r, rfl, rfl, rfl, hx, hr, hk, HR⟩ := hrel
    by_cases h0 : 0 < k
    · obtain ⟨q0, q1⟩ := sq_range hx hx hb1
      obtain ⟨s0, s1⟩ := sq_range hr hx hb1
      rcases Nat.mod_two_eq_zero_or_one k with h2 | h2
      · have HS : Hid (r * M.pw (x * x % b) (k / 2) b % b = M.pw a n b) := hide (by rw [M.step_even _ _ _ _ h2]; exact HR.out)
        have h2i : (k : Int) % 2 = 0 := by omega
        go_wp2
        go_round
        case rel => exact ⟨x * x % b, k / 2, r, by go_num, by go_num, rfl, Nat.mod_lt _ (by omega), hr, by omega, HS⟩
        case measure => simp [intOf]; omega
      · have HS : Hid (r * x % b * M.pw (x * x % b) (k / 2) b % b = M.pw a n b) := hide (by rw [M.step_odd _ _ _ _ h2]; exact HR.out)
        have h2i : (k : Int) % 2 = 1 := by omega
        go_wp2
        go_round
        case rel => exact ⟨x * x % b, k / 2, r * x % b, by go_num, by go_num, by go_num, Nat.mod_lt _ (by omega), Nat.mod_lt _ (by omega), by omega, HS⟩
        case measure => simp [intOf]; omega
    · have hfin : Hid (r = M.pw a n b) := hide (by
        have h' := HR.out
        rw [show k = 0 by omega, M.pw_zero hb, Nat.mul_one, Nat.mod_eq_of_lt hr] at h'
        exact h')
      go_wp2
      go_ret
      exact ⟨by rw [← hfin.out]; rfl, rfl⟩

theorem powerI (a n b : Int) (w : World) (h0 : 0 ≤ a) (ha : a < b) (hb : 2 ≤ b) (hb1 : b ≤ 1000000) (hn : 0 ≤ n) (hn1 : n ≤ 1000000) : Calls Tryd.prog 100 #[.int .i64 a, .int .i64 n, .int .i64 b] w fun e w' => e = .returned (.int .i64 (M.pwI a n b)) ∧ w' = w := by
  have := power a.toNat n.toNat b.toNat w (by omega) (by omega) (by omega) (by omega)
  rwa [Int.toNat_of_nonneg h0, Int.toNat_of_nonneg hn, Int.toNat_of_nonneg (by omega : 0 ≤ b)] at this

/-- what Power takes -/
def Pow (a n b : Int) : Prop := 2 ≤ b ∧ b ≤ 1000000 ∧ 0 ≤ a ∧ a < b ∧ 0 ≤ n ∧ n ≤ 1000000

theorem powOk (a n b : Int) (w : World) (h : Pow a n b) : Calls Tryd.prog 71 #[.int .i64 a, .int .i64 n, .int .i64 b] w fun e w' => e = .returned (.tuple #[.int .i64 (M.pwI a n b), .nilIface]) ∧ w' = w := by
  obtain ⟨h1, h2, h3, h4, h5, h6⟩ := h
  go_enter Tryd.func71, Tryd.ntmps71
  go_wp2_with (go_at_call 100; refine (powerI _ _ _ _ (by assumption) (by assumption) (by assumption) (by assumption) (by assumption) (by assumption)).mono ?_; rintro e w' ⟨rfl, rfl⟩)
  go_ret2
  exact ⟨rfl, rfl⟩
theorem pow_no {a n b : Int} (h : ¬ Pow a n b) : b < 2 ∨ (2 ≤ b ∧ 1000000 < b) ∨ (2 ≤ b ∧ b ≤ 1000000 ∧ a < 0) ∨ (2 ≤ b ∧ b ≤ 1000000 ∧ 0 ≤ a ∧ b ≤ a) ∨ (2 ≤ b ∧ b ≤ 1000000 ∧ 0 ≤ a ∧ a < b ∧ n < 0) ∨ (2 ≤ b ∧ b ≤ 1000000 ∧ 0 ≤ a ∧ a < b ∧ 0 ≤ n ∧ 1000000 < n) := by
  unfold Pow at h; omega
theorem powBad (a n b : Int) (w : World) (h : ¬ Pow a n b) : Calls Tryd.prog 71 #[.int .i64 a, .int .i64 n, .int .i64 b] w fun e w' => e = .returned (.tuple #[.int .i64 0, .iface 66 (.int .i64 1)]) ∧ w' = w := by
  rcases pow_no h with h1 | ⟨h1, h2⟩ | ⟨h1, h2, h3⟩ | ⟨h1, h2, h3, h4⟩ | ⟨h1, h2, h3, h4, h5⟩ | ⟨h1, h2, h3, h4, h5, h6⟩
  all_goals
    clear h
    go_enter Tryd.func71, Tryd.ntmps71
    go_wp2
    go_ret2
    exact ⟨rfl, rfl⟩

theorem invOk (a : Int) (w : World) (h0 : 0 < a) (h1 : a < 257) : Calls Tryd.prog 119 #[.int .i64 a] w fun e w' => e = .returned (.tuple #[.int .i64 (M.invI a), .nilIface]) ∧ w' = w := by
  have HP : Hid (∀ w, Calls Tryd.prog 100 #[.int .i64 a, .int .i64 255, .int .i64 257] w fun e w' => e = .returned (.int .i64 (M.invI a)) ∧ w' = w) := hide fun w => powerI a 255 257 w (by omega) h1 (by decide) (by decide) (by decide) (by decide)
  have h2 : 0 ≤ a := by omega
  have h3 : (a == 0) = false := by simp; omega
  go_enter Tryd.func119, Tryd.ntmps119
  go_wp2_with (first | (go_at_call 28; refine (isYes _ _ (by assumption) (by assumption)).mono ?_; rintro e w' ⟨rfl, rfl⟩) | (go_at_call 100; refine (HP.out _).mono ?_; rintro e w' ⟨rfl, rfl⟩))
  go_ret2
  exact ⟨rfl, rfl⟩
theorem invNone (w : World) : Calls Tryd.prog 119 #[.int .i64 0] w fun e w' => e = .returned (.tuple #[.int .i64 0, .iface 66 (.int .i64 5)]) ∧ w' = w := by
  go_enter Tryd.func119, Tryd.ntmps119
  go_wp2_with (go_at_call 28; refine (isYes _ _ (by decide) (by decide)).mono ?_; rintro e w' ⟨rfl, rfl⟩)
  go_ret2
  exact ⟨rfl, rfl⟩
theorem invBad (a : Int) (w : World) (h : a < 0 ∨ 257 ≤ a) : Calls Tryd.prog 119 #[.int .i64 a] w fun e w' => e = .returned (.tuple #[.int .i64 0, .iface 66 (.int .i64 1)]) ∧ w' = w := by
  have H1 := hide h
  clear h
  go_enter Tryd.func119, Tryd.ntmps119
  go_wp2_with (go_at_call 28; refine (isNo _ _ H1.out).mono ?_; rintro e w' ⟨rfl, rfl⟩)
  go_ret2
  exact ⟨rfl, rfl⟩

end Go.Proofs.YtlidoefbonklcajDoor.Md
