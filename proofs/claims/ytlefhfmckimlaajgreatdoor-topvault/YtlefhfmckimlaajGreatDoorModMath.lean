/-
  Plain facts on powers modulo a number, and on the field of 257 numbers. No program is walked here.
-/
import Derived.WalkKit
namespace Go.Proofs.YtlefhfmckimlaajGreatDoor.M

/-- a power, modulo b -/
def pw (a n b : Nat) : Nat := a ^ n % b

theorem pw_zero {a b : Nat} (h : 2 ≤ b) : pw a 0 b = 1 := by
  unfold pw; rw [Nat.pow_zero]; exact Nat.mod_eq_of_lt h
theorem pw_lt {a n b : Nat} (h : 0 < b) : pw a n b < b := Nat.mod_lt _ h
theorem pw_one {a b : Nat} (h : a < b) : pw a 1 b = a := by
  unfold pw; rw [Nat.pow_one]; exact Nat.mod_eq_of_lt h
theorem pw_of_one (n : Nat) {b : Nat} (h : 2 ≤ b) : pw 1 n b = 1 := by
  unfold pw; rw [Nat.one_pow]; exact Nat.mod_eq_of_lt h
/-- of two powers the product is that of both added up -/
theorem pw_add (a n m b : Nat) : pw a n b * pw a m b % b = pw a (n + m) b := by
  unfold pw; rw [Nat.pow_add, ← Nat.mul_mod]
theorem pw_succ (a n b : Nat) : pw a n b * a % b = pw a (n + 1) b := by
  unfold pw; rw [Nat.pow_succ, Nat.mul_mod (a ^ n) a, Nat.mul_mod, Nat.mod_mod]
theorem pw_half {a n b : Nat} (h : n % 2 = 0) : pw a (n / 2) b * pw a (n / 2) b % b = pw a n b := by
  rw [pw_add]; congr 1; omega
theorem pw_half1 {a n b : Nat} (h : n % 2 = 1) : pw a (n / 2) b * pw a (n / 2) b % b * a % b = pw a n b := by
  rw [pw_add, pw_succ]; congr 1; omega
/-- the other way round: the base squared -/
theorem pw_base (a n b : Nat) : pw (a % b) n b = pw a n b := by
  unfold pw; rw [← Nat.pow_mod]
theorem pw_sq (a k b : Nat) : pw (a * a % b) k b = pw a (2 * k) b := by
  rw [pw_base]; unfold pw; rw [← Nat.pow_two, ← Nat.pow_mul]

/-- the other half of a number that is not nought -/
def inv (a : Nat) : Nat := pw a 255 257
theorem inv_lt (a : Nat) : inv a < 257 := pw_lt (by decide)
theorem inv_is : ∀ a, a < 257 → a ≠ 0 → a * inv a % 257 = 1 := by decide +kernel
theorem fermat : ∀ a, a < 257 → pw a 257 257 = a := by decide +kernel
/-- it is the only one -/
theorem inv_only {a x : Nat} (ha : a < 257) (h0 : a ≠ 0) (hx : x < 257) (h : a * x % 257 = 1) : x = inv a := by
  have h1 := inv_is a ha h0
  have e1 : x * (a * inv a) % 257 = x := by
    rw [Nat.mul_mod, h1, Nat.mul_one, Nat.mod_mod, Nat.mod_eq_of_lt hx]
  have e2 : x * (a * inv a) % 257 = inv a := by
    rw [← Nat.mul_assoc, Nat.mul_comm x a, Nat.mul_mod, h, Nat.one_mul, Nat.mod_mod, Nat.mod_eq_of_lt (inv_lt a)]
  exact e1.symm.trans e2
theorem inv_pos {a : Nat} (ha : a < 257) (h0 : a ≠ 0) : inv a ≠ 0 := fun h => by
  have h1 := inv_is a ha h0
  rw [h, Nat.mul_zero] at h1
  exact absurd h1 (by decide)
/-- spread over sums -/
theorem spread (a b c : Nat) : a * ((b + c) % 257) % 257 = (a * b % 257 + a * c % 257) % 257 := by
  rw [Nat.mul_mod, Nat.mod_mod, ← Nat.mul_mod, Nat.mul_add, Nat.add_mod]

/-- a product's part below b -/
theorem step_odd (r x k b : Nat) (h : k % 2 = 1) : r * x % b * pw (x * x % b) (k / 2) b % b = r * pw x k b % b := by
  rw [pw_sq]
  have e : pw x k b = pw x (2 * (k / 2)) b * x % b := by rw [pw_succ]; congr 1; omega
  rw [e, Nat.mul_mod (r * x % b), Nat.mod_mod, ← Nat.mul_mod, Nat.mul_mod r (_ % b), Nat.mod_mod, ← Nat.mul_mod, Nat.mul_assoc, Nat.mul_comm x]
theorem step_even (r x k b : Nat) (h : k % 2 = 0) : r * pw (x * x % b) (k / 2) b % b = r * pw x k b % b := by
  rw [pw_sq]; congr 2; congr 1; omega

/-- the same on whole numbers -/
def pwI (a n b : Int) : Int := (pw a.toNat n.toNat b.toNat : Nat)
def invI (a : Int) : Int := (inv a.toNat : Nat)
theorem pwI_range (a n : Int) {b : Int} (h : 2 ≤ b) : 0 ≤ pwI a n b ∧ pwI a n b < b := by
  have := pw_lt (a := a.toNat) (n := n.toNat) (b := b.toNat) (by omega)
  unfold pwI; omega
theorem pwI_zero (a : Int) {b : Int} (h : 2 ≤ b) : pwI a 0 b = 1 := by
  unfold pwI; rw [show (0 : Int).toNat = 0 from rfl, pw_zero (by omega)]; rfl
theorem pwI_of_one (n : Int) {b : Int} (h : 2 ≤ b) : pwI 1 n b = 1 := by
  unfold pwI; rw [show (1 : Int).toNat = 1 from rfl, pw_of_one _ (by omega)]; rfl
theorem pwI_fermat {a : Int} (h0 : 0 ≤ a) (h1 : a < 257) : pwI a 257 257 = a := by
  have := fermat a.toNat (by omega)
  unfold pwI; rw [show (257 : Int).toNat = 257 from rfl, this]; omega
theorem pwI_add (a : Int) {n m : Int} (hn : 0 ≤ n) (hm : 0 ≤ m) : pwI a n 257 * pwI a m 257 % 257 = pwI a (n + m) 257 := by
  unfold pwI
  rw [show (n + m).toNat = n.toNat + m.toNat by omega, ← pw_add]; simp
theorem invI_range (a : Int) : 0 ≤ invI a ∧ invI a < 257 := by
  have := inv_lt a.toNat
  unfold invI; omega
theorem invI_is {a : Int} (h0 : 0 < a) (h1 : a < 257) : a * invI a % 257 = 1 := by
  have := inv_is a.toNat (by omega) (by omega)
  obtain ⟨k, rfl⟩ : ∃ k : Nat, a = k := ⟨a.toNat, by omega⟩
  unfold invI
  rw [Int.toNat_natCast] at this ⊢
  omega
theorem invI_two : invI 2 = 129 := by decide +kernel
/-- the first one that does it is it -/
theorem invI_only {a x : Int} (h0 : 0 < a) (h1 : a < 257) (hx : 0 ≤ x) (hx1 : x < 257) (h : x * a % 257 = 1) : x = invI a := by
  obtain ⟨k, rfl⟩ : ∃ k : Nat, a = k := ⟨a.toNat, by omega⟩
  obtain ⟨j, rfl⟩ : ∃ j : Nat, x = j := ⟨x.toNat, by omega⟩
  have := inv_only (a := k) (x := j) (by omega) (by omega) (by omega) (by rw [Nat.mul_comm]; omega)
  unfold invI; rw [Int.toNat_natCast, ← this]
theorem spreadI (a b c : Int) : a * ((b + c) % 257) % 257 = (a * b % 257 + a * c % 257) % 257 := by
  rw [← Int.add_emod, ← Int.mul_add, Int.mul_emod, Int.emod_emod, ← Int.mul_emod]

end Go.Proofs.YtlefhfmckimlaajGreatDoor.M
