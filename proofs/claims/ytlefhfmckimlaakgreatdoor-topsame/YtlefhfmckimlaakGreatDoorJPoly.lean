/-
  Plain facts on powers modulo a number, and on the field of 257 numbers. No program is walked here.
  Plain facts on the field of 257 numbers and on polynomials over it: as many points as factors tell it all. No program is walked here.
  Plain facts on Lagrange's way and Neville's table in whole numbers, and on what is wrong with factors and with points. No program is walked here.
-/
import Derived.WalkKit
namespace Go.Proofs.YtlefhfmckimlaakGreatDoor.M

/-- a power, modulo b -/
def pw (a n b : Nat) : Nat := a ^ n % b

theorem pw_zero {a b : Nat} (h : 2 ≤ b) : pw a 0 b = 1 := by
  unfold pw; rw [Nat.pow_zero]; exact Nat.mod_eq_of_lt h
theorem pw_lt {a n b : Nat} (h : 0 < b) : pw a n b < b := Nat.mod_lt _ h
theorem pw_one {a b : Nat} (h : a < b) : pw a 1 b = a := by
  unfold pw; rw [Nat.pow_one]; exact Nat.mod_eq_of_lt h
theorem pw_of_one (n : Nat) {b : Nat} (h : 2 ≤ b) : pw 1 n b = 1 := by
  unfold pw; rw [Nat.one_pow]; exact Nat.mod_eq_of_lt h
/-- of two powers the product is that of both added up -/
theorem pw_add (a n m b : Nat) : pw a n b * pw a m b % b = pw a (n + m) b := by
  unfold pw; rw [Nat.pow_add, ← Nat.mul_mod]
theorem pw_succ (a n b : Nat) : pw a n b * a % b = pw a (n + 1) b := by
  unfold pw; rw [Nat.pow_succ, Nat.mul_mod (a ^ n) a, Nat.mul_mod, Nat.mod_mod]
theorem pw_half {a n b : Nat} (h : n % 2 = 0) : pw a (n / 2) b * pw a (n / 2) b % b = pw a n b := by
  rw [pw_add]; congr 1; omega
theorem pw_half1 {a n b : Nat} (h : n % 2 = 1) : pw a (n / 2) b * pw a (n / 2) b % b * a % b = pw a n b := by
  rw [pw_add, pw_succ]; congr 1; omega
/-- the other way round: the base squared -/
theorem pw_base (a n b : Nat) : pw (a % b) n b = pw a n b := by
  unfold pw; rw [← Nat.pow_mod]
theorem pw_sq (a k b : Nat) : pw (a * a % b) k b = pw a (2 * k) b := by
  rw [pw_base]; unfold pw; rw [← Nat.pow_two, ← Nat.pow_mul]

/-- the other half of a number that is not nought -/
def inv (a : Nat) : Nat := pw a 255 257
theorem inv_lt (a : Nat) : inv a < 257 := pw_lt (by decide)
theorem inv_is : ∀ a, a < 257 → a ≠ 0 → a * inv a % 257 = 1 := by decide +kernel
theorem fermat : ∀ a, a < 257 → pw a 257 257 = a := by decide +kernel
/-- it is the only one -/
theorem inv_only {a x : Nat} (ha : a < 257) (h0 : a ≠ 0) (hx : x < 257) (h : a * x % 257 = 1) : x = inv a := by
  have h1 := inv_is a ha h0
  have e1 : x * (a * inv a) % 257 = x := by
    rw [Nat.mul_mod, h1, Nat.mul_one, Nat.mod_mod, Nat.mod_eq_of_lt hx]
  have e2 : x * (a * inv a) % 257 = inv a := by
    rw [← Nat.mul_assoc, Nat.mul_comm x a, Nat.mul_mod, h, Nat.one_mul, Nat.mod_mod, Nat.mod_eq_of_lt (inv_lt a)]
  exact e1.symm.trans e2
theorem inv_pos {a : Nat} (ha : a < 257) (h0 : a ≠ 0) : inv a ≠ 0 := fun h => by
  have h1 := inv_is a ha h0
  rw [h, Nat.mul_zero] at h1
  exact absurd h1 (by decide)
/-- spread over sums -/
theorem spread (a b c : Nat) : a * ((b + c) % 257) % 257 = (a * b % 257 + a * c % 257) % 257 := by
  rw [Nat.mul_mod, Nat.mod_mod, ← Nat.mul_mod, Nat.mul_add, Nat.add_mod]

/-- a product's part below b -/
theorem step_odd (r x k b : Nat) (h : k % 2 = 1) : r * x % b * pw (x * x % b) (k / 2) b % b = r * pw x k b % b := by
  rw [pw_sq]
  have e : pw x k b = pw x (2 * (k / 2)) b * x % b := by rw [pw_succ]; congr 1; omega
  rw [e, Nat.mul_mod (r * x % b), Nat.mod_mod, ← Nat.mul_mod, Nat.mul_mod r (_ % b), Nat.mod_mod, ← Nat.mul_mod, Nat.mul_assoc, Nat.mul_comm x]
theorem step_even (r x k b : Nat) (h : k % 2 = 0) : r * pw (x * x % b) (k / 2) b % b = r * pw x k b % b := by
  rw [pw_sq]; congr 2; congr 1; omega

/-- the same on whole numbers -/
def pwI (a n b : Int) : Int := (pw a.toNat n.toNat b.toNat : Nat)
def invI (a : Int) : Int := (inv a.toNat : Nat)
theorem pwI_range (a n : Int) {b : Int} (h : 2 ≤ b) : 0 ≤ pwI a n b ∧ pwI a n b < b := by
  have := pw_lt (a := a.toNat) (n := n.toNat) (b := b.toNat) (by omega)
  unfold pwI; omega
theorem pwI_zero (a : Int) {b : Int} (h : 2 ≤ b) : pwI a 0 b = 1 := by
  unfold pwI; rw [show (0 : Int).toNat = 0 from rfl, pw_zero (by omega)]; rfl
theorem pwI_of_one (n : Int) {b : Int} (h : 2 ≤ b) : pwI 1 n b = 1 := by
  unfold pwI; rw [show (1 : Int).toNat = 1 from rfl, pw_of_one _ (by omega)]; rfl
theorem pwI_fermat {a : Int} (h0 : 0 ≤ a) (h1 : a < 257) : pwI a 257 257 = a := by
  have := fermat a.toNat (by omega)
  unfold pwI; rw [show (257 : Int).toNat = 257 from rfl, this]; omega
theorem pwI_add (a : Int) {n m : Int} (hn : 0 ≤ n) (hm : 0 ≤ m) : pwI a n 257 * pwI a m 257 % 257 = pwI a (n + m) 257 := by
  unfold pwI
  rw [show (n + m).toNat = n.toNat + m.toNat by omega, ← pw_add]; simp
theorem invI_range (a : Int) : 0 ≤ invI a ∧ invI a < 257 := by
  have := inv_lt a.toNat
  unfold invI; omega
theorem invI_is {a : Int} (h0 : 0 < a) (h1 : a < 257) : a * invI a % 257 = 1 := by
  have := inv_is a.toNat (by omega) (by omega)
  obtain ⟨k, rfl⟩ : ∃ k : Nat, a = k := ⟨a.toNat, by omega⟩
  unfold invI
  rw [Int.toNat_natCast] at this ⊢
  omega
theorem invI_two : invI 2 = 129 := by decide +kernel
/-- the first one that does it is it -/
theorem invI_only {a x : Int} (h0 : 0 < a) (h1 : a < 257) (hx : 0 ≤ x) (hx1 : x < 257) (h : x * a % 257 = 1) : x = invI a := by
  obtain ⟨k, rfl⟩ : ∃ k : Nat, a = k := ⟨a.toNat, by omega⟩
  obtain ⟨j, rfl⟩ : ∃ j : Nat, x = j := ⟨x.toNat, by omega⟩
  have := inv_only (a := k) (x := j) (by omega) (by omega) (by omega) (by rw [Nat.mul_comm]; omega)
  unfold invI; rw [Int.toNat_natCast, ← this]
theorem spreadI (a b c : Int) : a * ((b + c) % 257) % 257 = (a * b % 257 + a * c % 257) % 257 := by
  rw [← Int.add_emod, ← Int.mul_add, Int.mul_emod, Int.emod_emod, ← Int.mul_emod]

end Go.Proofs.YtlefhfmckimlaakGreatDoor.M

namespace Go.Proofs.YtlefhfmckimlaakGreatDoor.M

abbrev F := Fin 257

namespace F
/-- a whole number, round the prime -/
def of (z : Int) : F := ⟨(z % 257).toNat, by omega⟩
theorem val_of (z : Int) : ((of z).val : Int) = z % 257 := by
  show (((z % 257).toNat : Nat) : Int) = z % 257
  omega
theorem of_val {z : Int} (h0 : 0 ≤ z) (h1 : z < 257) : ((of z).val : Int) = z := by rw [val_of]; omega
theorem of_eq {a b : Int} (h : a % 257 = b % 257) : of a = of b := Fin.ext (by show (a % 257).toNat = (b % 257).toNat; rw [h])
theorem eq_of {a b : Int} (h : of a = of b) : a % 257 = b % 257 := by rw [← val_of, ← val_of, h]
theorem of_inj {a b : Int} (a0 : 0 ≤ a) (a1 : a < 257) (b0 : 0 ≤ b) (b1 : b < 257) (h : of a = of b) : a = b := by
  have := eq_of h; omega
theorem of_mod (z : Int) : of (z % 257) = of z := of_eq (by omega)
theorem of_add (a b : Int) : of (a + b) = of a + of b := by
  apply Fin.ext
  have h : ((of (a + b)).val : Int) = ((of a + of b).val : Int) := by
    rw [val_of, Fin.val_add, Int.natCast_emod, Int.natCast_add, val_of, val_of]
    show (a + b) % 257 = (a % 257 + b % 257) % 257
    omega
  omega
theorem of_mul (a b : Int) : of (a * b) = of a * of b := by
  apply Fin.ext
  have h : ((of (a * b)).val : Int) = ((of a * of b).val : Int) := by
    rw [val_of, Fin.val_mul, Int.natCast_emod, Int.natCast_mul, val_of, val_of]
    show a * b % 257 = (a % 257) * (b % 257) % 257
    exact Int.mul_emod a b 257
  omega
theorem of_zero : of 0 = 0 := rfl
theorem of_one : of 1 = 1 := rfl
theorem of_sub (a b : Int) : of (a - b) = of a - of b := by
  apply Fin.ext
  have ha := val_of a
  have hb := val_of b
  have hc := val_of (a - b)
  rw [Fin.sub_def]
  show (of (a - b)).val = (257 - (of b).val + (of a).val) % 257
  omega
theorem lift (x : F) : ∃ z : Int, x = of z := ⟨x.val, by
  apply Fin.ext
  have h := val_of (x.val : Int)
  have := x.isLt
  omega⟩
/-- a difference as it is reckoned: the prime added first -/
theorem of_diff (a b : Int) : of ((a - b + 257) % 257) = of a - of b := by
  rw [of_mod, ← of_sub]; exact of_eq (by omega)
theorem of_ne {a b : Int} (a0 : 0 ≤ a) (a1 : a < 257) (b0 : 0 ≤ b) (b1 : b < 257) (h : a ≠ b) : of a ≠ of b := fun e => h (of_inj a0 a1 b0 b1 e)

/-- the other half -/
def inv (a : F) : F := ⟨M.inv a.val, M.inv_lt _⟩
theorem mul_inv {a : F} (h : a ≠ 0) : a * inv a = 1 := by
  apply Fin.ext
  rw [Fin.val_mul]
  exact inv_is a.val a.isLt fun e => h (Fin.ext e)
/- what rings share, by way of whole numbers -/
theorem mul_one (a : F) : a * 1 = a := by
  obtain ⟨a, rfl⟩ := lift a
  rw [← of_one, ← of_mul, Int.mul_one]
theorem mul_zero (a : F) : a * 0 = 0 := by
  obtain ⟨a, rfl⟩ := lift a
  rw [← of_zero, ← of_mul, Int.mul_zero]
theorem add_zero (a : F) : a + 0 = a := by
  obtain ⟨a, rfl⟩ := lift a
  rw [← of_zero, ← of_add, Int.add_zero]
theorem zero_add (a : F) : 0 + a = a := by
  obtain ⟨a, rfl⟩ := lift a
  rw [← of_zero, ← of_add, Int.zero_add]
theorem mul_comm (a b : F) : a * b = b * a := by
  obtain ⟨a, rfl⟩ := lift a
  obtain ⟨b, rfl⟩ := lift b
  rw [← of_mul, ← of_mul, Int.mul_comm]
theorem mul_assoc (a b c : F) : a * b * c = a * (b * c) := by
  obtain ⟨a, rfl⟩ := lift a
  obtain ⟨b, rfl⟩ := lift b
  obtain ⟨c, rfl⟩ := lift c
  rw [← of_mul, ← of_mul, ← of_mul, ← of_mul, Int.mul_assoc]
theorem sub_self (a : F) : a - a = 0 := by
  obtain ⟨a, rfl⟩ := lift a
  rw [← of_sub, Int.sub_self]; rfl
theorem eq_of_sub {a b : F} (h : a - b = 0) : a = b := by
  obtain ⟨a, rfl⟩ := lift a
  obtain ⟨b, rfl⟩ := lift b
  rw [← of_sub, ← of_zero] at h
  exact of_eq (by have := eq_of h; omega)
theorem mul_add (a b c : F) : a * (b + c) = a * b + a * c := by
  obtain ⟨a, rfl⟩ := lift a
  obtain ⟨b, rfl⟩ := lift b
  obtain ⟨c, rfl⟩ := lift c
  simp only [← of_mul, ← of_add]
  rw [Int.mul_add]
/-- for the division by x - c -/
theorem r_quot (a b x c q : F) : a + x * (b + (x - c) * q) = a + c * b + (x - c) * (b + x * q) := by
  obtain ⟨a, rfl⟩ := lift a
  obtain ⟨b, rfl⟩ := lift b
  obtain ⟨x, rfl⟩ := lift x
  obtain ⟨c, rfl⟩ := lift c
  obtain ⟨q, rfl⟩ := lift q
  simp only [← of_mul, ← of_add, ← of_sub]
  congr 1
  simp only [Int.mul_add, Int.mul_sub, Int.mul_comm, Int.mul_left_comm]
  omega
/-- for sums of polynomials -/
theorem r_add (a b x p q : F) : a + b + x * (p + q) = a + x * p + (b + x * q) := by
  obtain ⟨a, rfl⟩ := lift a
  obtain ⟨b, rfl⟩ := lift b
  obtain ⟨x, rfl⟩ := lift x
  obtain ⟨p, rfl⟩ := lift p
  obtain ⟨q, rfl⟩ := lift q
  simp only [← of_mul, ← of_add]
  congr 1
  simp only [Int.mul_add]
  omega
theorem r_scale (c a x p : F) : c * a + x * (c * p) = c * (a + x * p) := by
  obtain ⟨c, rfl⟩ := lift c
  obtain ⟨a, rfl⟩ := lift a
  obtain ⟨x, rfl⟩ := lift x
  obtain ⟨p, rfl⟩ := lift p
  simp only [← of_mul, ← of_add]
  congr 1
  simp only [Int.mul_add, Int.mul_left_comm]
/-- one less, as a number -/
def neg (c : F) : F := 0 - c
theorem r_lin (x c f : F) : (x - c) * f = x * f + neg c * f := by
  unfold neg
  obtain ⟨x, rfl⟩ := lift x
  obtain ⟨c, rfl⟩ := lift c
  obtain ⟨f, rfl⟩ := lift f
  simp only [← of_zero, ← of_mul, ← of_add, ← of_sub]
  congr 1
  simp only [Int.sub_mul, Int.zero_mul]
  omega
theorem r_sub (f g : F) : f - g = f + neg 1 * g := by
  unfold neg
  obtain ⟨f, rfl⟩ := lift f
  obtain ⟨g, rfl⟩ := lift g
  simp only [← of_one, ← of_zero, ← of_mul, ← of_add, ← of_sub]
  congr 1
  simp only [Int.sub_mul, Int.zero_mul, Int.one_mul]
  omega
theorem r_nev (x a b f g i : F) : ((x - b) * f + (a - x) * g) * i = i * ((x - b) * f + neg 1 * ((x - a) * g)) := by
  unfold neg
  obtain ⟨x, rfl⟩ := lift x
  obtain ⟨a, rfl⟩ := lift a
  obtain ⟨b, rfl⟩ := lift b
  obtain ⟨f, rfl⟩ := lift f
  obtain ⟨g, rfl⟩ := lift g
  obtain ⟨i, rfl⟩ := lift i
  simp only [← of_one, ← of_zero, ← of_mul, ← of_add, ← of_sub]
  congr 1
  simp only [Int.mul_add, Int.sub_mul, Int.mul_sub, Int.mul_assoc, Int.mul_comm, Int.mul_left_comm, Int.mul_one]
  omega
/-- a point that both halves go through -/
theorem r_same (x a b f : F) : (x - b) * f + (a - x) * f = (a - b) * f := by
  obtain ⟨x, rfl⟩ := lift x
  obtain ⟨a, rfl⟩ := lift a
  obtain ⟨b, rfl⟩ := lift b
  obtain ⟨f, rfl⟩ := lift f
  simp only [← of_mul, ← of_add, ← of_sub]
  congr 1
  simp only [Int.sub_mul]
  omega
theorem zero_mul (a : F) : 0 * a = 0 := by rw [mul_comm, mul_zero]
theorem no_div {a b : F} (ha : a ≠ 0) (h : a * b = 0) : b = 0 := by
  have e : b * (a * inv a) = inv a * (a * b) := by
    rw [← mul_assoc, mul_comm (b * a), mul_comm b a]
  rw [mul_inv ha, h, mul_one, mul_zero] at e
  exact e
/-- times a number and its other half -/
theorem mul_back {d : F} (h : d ≠ 0) (b : F) : d * b * inv d = b := by
  rw [mul_comm d b, mul_assoc, mul_inv h, mul_one]
theorem of_inv (a : Int) (h0 : 0 ≤ a) (h1 : a < 257) : of (invI a) = inv (of a) := by
  apply Fin.ext
  show (invI a % 257).toNat = M.inv (of a).val
  have h := of_val h0 h1
  have e : (of a).val = a.toNat := by omega
  rw [e]
  have := invI_range a
  unfold invI at this ⊢
  omega
/-- the other half as a power -/
theorem of_pw (d : Int) (h0 : 0 ≤ d) (h1 : d < 257) : of (pwI d 255 257) = inv (of d) := of_inv d h0 h1
end F

/-- what a polynomial is at x: its factors from that of power 0 on -/
def eval : List F → F → F
  | [], _ => 0
  | c :: l, x => c + x * eval l x
theorem eval_nil (x : F) : eval [] x = 0 := rfl
theorem eval_cons (c : F) (l : List F) (x : F) : eval (c :: l) x = c + x * eval l x := rfl
/-- a power -/
def up (x : F) : Nat → F
  | 0 => 1
  | n + 1 => x * up x n
theorem eval_snoc (l : List F) (c x : F) : eval (l ++ [c]) x = eval l x + up x l.length * c := by
  induction l with
  | nil =>
    show c + x * 0 = 0 + 1 * c
    rw [F.mul_zero, F.add_zero, F.zero_add, F.mul_comm, F.mul_one]
  | cons a l ih =>
    rw [List.cons_append, eval_cons, eval_cons, ih]
    show _ = a + x * eval l x + x * up x l.length * c
    rw [F.mul_add, F.mul_assoc]
    obtain ⟨u, hu⟩ := F.lift (x * eval l x)
    obtain ⟨v, hv⟩ := F.lift (x * (up x l.length * c))
    obtain ⟨a, rfl⟩ := F.lift a
    rw [hu, hv]
    simp only [← F.of_add]
    congr 1
    omega

/-- divided by x - c -/
def quot : List F → F → List F
  | [], _ => []
  | [_], _ => []
  | _ :: b :: l, c => eval (b :: l) c :: quot (b :: l) c
theorem quot_len : ∀ (p : List F) (c : F), (quot p c).length = p.length - 1
  | [], _ => rfl
  | [_], _ => rfl
  | _ :: b :: l, c => by
    show (quot (b :: l) c).length + 1 = _
    rw [quot_len (b :: l) c]; simp
theorem quot_is : ∀ (p : List F) (c x : F), eval p x = eval p c + (x - c) * eval (quot p c) x
  | [], c, x => by simp only [quot, eval_nil, F.mul_zero, F.add_zero]
  | [a], c, x => by simp only [quot, eval_cons, eval_nil, F.mul_zero, F.add_zero]
  | a :: b :: l, c, x => by
    have ih := quot_is (b :: l) c x
    rw [show quot (a :: b :: l) c = eval (b :: l) c :: quot (b :: l) c from rfl, eval_cons a, eval_cons a, eval_cons (eval (b :: l) c), ih]
    exact F.r_quot _ _ _ _ _
theorem zero_all : ∀ (pts p : List F), pts.Nodup → p.length ≤ pts.length → (∀ c ∈ pts, eval p c = 0) → ∀ x, eval p x = 0
  | [], p, _, h, _, x => by
    cases p with
    | nil => rfl
    | cons a l => simp at h
  | c :: pts, p, hn, h, hz, x => by
    obtain ⟨hc, hn'⟩ := List.nodup_cons.1 hn
    have h0 := hz c (List.mem_cons_self ..)
    have hq : ∀ d ∈ pts, eval (quot p c) d = 0 := fun d hd => by
      have e := quot_is p c d
      rw [hz d (List.mem_cons_of_mem _ hd), h0, F.zero_add] at e
      have hne : d - c ≠ 0 := fun e' => hc (F.eq_of_sub e' ▸ hd)
      exact F.no_div hne e.symm
    have := zero_all pts (quot p c) hn' (by rw [quot_len]; simp at h; omega) hq x
    rw [quot_is p c x, h0, this, F.mul_zero, F.add_zero]

/-- a function that is a polynomial of n factors -/
def Pol (n : Nat) (f : F → F) : Prop := ∃ p : List F, p.length ≤ n ∧ ∀ x, f x = eval p x
theorem Pol.mono {n m : Nat} {f : F → F} (h : Pol n f) (hm : n ≤ m) : Pol m f := by
  obtain ⟨p, hp, e⟩ := h; exact ⟨p, Nat.le_trans hp hm, e⟩
theorem Pol.of_list (p : List F) : Pol p.length (eval p) := ⟨p, Nat.le_refl _, fun _ => rfl⟩
theorem Pol.zero (n : Nat) : Pol n fun _ => 0 := ⟨[], Nat.zero_le _, fun _ => rfl⟩
theorem Pol.const (c : F) : Pol 1 fun _ => c := ⟨[c], Nat.le_refl _, fun x => by rw [eval_cons, eval_nil, F.mul_zero, F.add_zero]⟩
theorem Pol.congr {n : Nat} {f g : F → F} (h : Pol n f) (e : ∀ x, g x = f x) : Pol n g := by
  obtain ⟨p, hp, e'⟩ := h; exact ⟨p, hp, fun x => (e x).trans (e' x)⟩
def addL : List F → List F → List F
  | [], q => q
  | p, [] => p
  | a :: p, b :: q => (a + b) :: addL p q
theorem addL_len : ∀ (p q : List F) (n : Nat), p.length ≤ n → q.length ≤ n → (addL p q).length ≤ n
  | [], _, _, _, h => h
  | a :: p, [], _, h, _ => h
  | a :: p, b :: q, 0, h, _ => by simp at h
  | a :: p, b :: q, n + 1, h, h' => by
    have := addL_len p q n (by simpa using h) (by simpa using h')
    show (addL p q).length + 1 ≤ n + 1
    omega
theorem addL_is : ∀ (p q : List F) (x : F), eval (addL p q) x = eval p x + eval q x
  | [], q, x => by rw [show addL [] q = q by cases q <;> rfl, eval_nil, F.zero_add]
  | a :: p, [], x => by rw [show addL (a :: p) [] = a :: p from rfl, eval_nil, F.add_zero]
  | a :: p, b :: q, x => by
    rw [show addL (a :: p) (b :: q) = (a + b) :: addL p q from rfl, eval_cons, eval_cons, eval_cons, addL_is p q x]; exact F.r_add _ _ _ _ _
theorem Pol.add {n : Nat} {f g : F → F} (hf : Pol n f) (hg : Pol n g) : Pol n fun x => f x + g x := by
  obtain ⟨p, hp, e⟩ := hf
  obtain ⟨q, hq, e'⟩ := hg
  exact ⟨addL p q, addL_len p q n hp hq, fun x => by rw [addL_is, ← e, ← e']⟩
theorem eval_scale (c : F) (p : List F) (x : F) : eval (p.map (c * ·)) x = c * eval p x := by
  induction p with
  | nil => simp only [List.map_nil, eval_nil, F.mul_zero]
  | cons a l ih => rw [List.map_cons, eval_cons, eval_cons, ih]; exact F.r_scale _ _ _ _
theorem Pol.scale {n : Nat} {f : F → F} (c : F) (hf : Pol n f) : Pol n fun x => c * f x := by
  obtain ⟨p, hp, e⟩ := hf
  exact ⟨p.map (c * ·), by simpa using hp, fun x => by rw [eval_scale, ← e]⟩
theorem Pol.shift {n : Nat} {f : F → F} (hf : Pol n f) : Pol (n + 1) fun x => x * f x := by
  obtain ⟨p, hp, e⟩ := hf
  exact ⟨0 :: p, by simpa using hp, fun x => by rw [eval_cons, ← e, F.zero_add]⟩
/-- times x - c -/
theorem Pol.lin {n : Nat} {f : F → F} (c : F) (hf : Pol n f) : Pol (n + 1) fun x => (x - c) * f x :=
  (hf.shift.add ((hf.scale (F.neg c)).mono (Nat.le_succ _))).congr fun x => F.r_lin x c (f x)
theorem Pol.sub {n : Nat} {f g : F → F} (hf : Pol n f) (hg : Pol n g) : Pol n fun x => f x - g x :=
  (hf.add (hg.scale (F.neg 1))).congr fun x => F.r_sub (f x) (g x)
/-- AS MANY POINTS AS FACTORS TELL IT ALL -/
theorem Pol.only {n : Nat} {f g : F → F} (hf : Pol n f) (hg : Pol n g) (pts : List F) (hn : pts.Nodup) (hl : n ≤ pts.length) (h : ∀ c ∈ pts, f c = g c) (x : F) : f x = g x := by
  obtain ⟨p, hp, e⟩ := hf.sub hg
  have := zero_all pts p hn (Nat.le_trans hp hl) (fun c hc => by rw [← e]; show f c - g c = 0; rw [h c hc, F.sub_self]) x
  have e' := e x
  rw [this] at e'
  exact F.eq_of_sub e'

/-- Neville's table: through the points i to i + k -/
def nev (a b : Nat → F) : Nat → Nat → F → F
  | 0, i, _ => b i
  | k + 1, i, x => ((x - a (i + (k + 1))) * nev a b k i x + (a i - x) * nev a b k (i + 1) x) * F.inv (a i - a (i + (k + 1)))
theorem nev_pol (a b : Nat → F) : ∀ (k i : Nat), Pol (k + 1) (nev a b k i)
  | 0, i => Pol.const (b i)
  | k + 1, i => by
    have h1 := (nev_pol a b k i).lin (a (i + (k + 1)))
    have h2 := ((nev_pol a b k (i + 1)).lin (a i)).scale (F.neg 1)
    refine ((h1.add h2).scale (F.inv (a i - a (i + (k + 1))))).congr fun x => ?_
    show ((x - a (i + (k + 1))) * nev a b k i x + (a i - x) * nev a b k (i + 1) x) * F.inv (a i - a (i + (k + 1))) = _
    exact F.r_nev _ _ _ _ _ _
theorem nev_at (a b : Nat → F) (n : Nat) (ha : ∀ i j, i < n → j < n → a i = a j → i = j) : ∀ (k i : Nat), i + k < n → ∀ j, i ≤ j → j ≤ i + k → nev a b k i (a j) = b j
  | 0, i, _, j, h1, h2 => by
    obtain rfl : i = j := by omega
    rfl
  | k + 1, i, hk, j, h1, h2 => by
    have hd : a i - a (i + (k + 1)) ≠ 0 := fun e => by
      have := ha i (i + (k + 1)) (by omega) (by omega) (F.eq_of_sub e)
      omega
    show ((a j - a (i + (k + 1))) * nev a b k i (a j) + (a i - a j) * nev a b k (i + 1) (a j)) * F.inv (a i - a (i + (k + 1))) = b j
    by_cases e1 : j = i
    · subst e1
      rw [nev_at a b n ha k j (by omega) j (by omega) (by omega), F.sub_self, F.zero_mul, F.add_zero, F.mul_back hd]
    · by_cases e2 : j = i + (k + 1)
      · rw [nev_at a b n ha k (i + 1) (by omega) j (by omega) (by omega)]
        subst e2
        rw [F.sub_self, F.zero_mul, F.zero_add, F.mul_back hd]
      · rw [nev_at a b n ha k i (by omega) j (by omega) (by omega), nev_at a b n ha k (i + 1) (by omega) j (by omega) (by omega)]
        rw [F.r_same, F.mul_back hd]

/-- the place of the i-th point, and what is there -/
def ptA (l : List (Int × Int)) (i : Nat) : F := F.of (l.getD i (0, 0)).1
def ptB (l : List (Int × Int)) (i : Nat) : F := F.of (l.getD i (0, 0)).2
/-- what goes through the points, at x -/
def next (l : List (Int × Int)) (x : Int) : Int := ((nev (ptA l) (ptB l) (l.length - 1) 0 (F.of x)).val : Int)
theorem next_range (l : List (Int × Int)) (x : Int) : 0 ≤ next l x ∧ next l x < 257 := by
  have := (nev (ptA l) (ptB l) (l.length - 1) 0 (F.of x)).isLt
  unfold next; omega
theorem of_next (l : List (Int × Int)) (x : Int) : F.of (next l x) = nev (ptA l) (ptB l) (l.length - 1) 0 (F.of x) := by
  obtain ⟨h0, h1⟩ := next_range l x
  apply Fin.ext
  have := F.of_val h0 h1
  unfold next at this ⊢
  omega

/-- points that are right: places and what is there from 0 to 256, no place twice -/
def Right (l : List (Int × Int)) : Prop := (∀ i (h : i < l.length), (0 ≤ l[i].1 ∧ l[i].1 < 257) ∧ (0 ≤ l[i].2 ∧ l[i].2 < 257)) ∧ ∀ i j (hi : i < l.length) (hj : j < l.length), l[i].1 = l[j].1 → i = j
theorem ptA_at {l : List (Int × Int)} {i : Nat} (h : i < l.length) : ptA l i = F.of l[i].1 := by
  unfold ptA; rw [List.getD_eq_getElem?_getD, List.getElem?_eq_getElem h]; rfl
theorem ptB_at {l : List (Int × Int)} {i : Nat} (h : i < l.length) : ptB l i = F.of l[i].2 := by
  unfold ptB; rw [List.getD_eq_getElem?_getD, List.getElem?_eq_getElem h]; rfl
theorem Right.apart {l : List (Int × Int)} (h : Right l) : ∀ i j, i < l.length → j < l.length → ptA l i = ptA l j → i = j := fun i j hi hj e => by
  rw [ptA_at hi, ptA_at hj] at e
  obtain ⟨⟨a0, a1⟩, _⟩ := h.1 i hi
  obtain ⟨⟨b0, b1⟩, _⟩ := h.1 j hj
  exact h.2 i j hi hj (F.of_inj a0 a1 b0 b1 e)
theorem Right.places {l : List (Int × Int)} (h : Right l) : ((List.range l.length).map (ptA l)).Nodup := by
  rw [List.nodup_iff_pairwise_ne, List.pairwise_map]
  refine List.Pairwise.imp_of_mem (R := fun i j => i ≠ j) ?_ List.nodup_range
  intro i j hi hj hij e
  exact hij (h.apart i j (List.mem_range.1 hi) (List.mem_range.1 hj) e)
/-- what goes through the points goes through each -/
theorem next_at {l : List (Int × Int)} (h : Right l) {i : Nat} (hi : i < l.length) : next l l[i].1 = l[i].2 := by
  obtain ⟨_, b0, b1⟩ := h.1 i hi
  obtain ⟨n0, n1⟩ := next_range l l[i].1
  refine F.of_inj n0 n1 b0 b1 ?_
  rw [of_next, ← ptA_at hi, nev_at _ _ l.length h.apart (l.length - 1) 0 (by omega) i (Nat.zero_le _) (by omega), ptB_at hi]
/-- whatever polynomial of as many factors goes through the points is it -/
theorem next_only {l : List (Int × Int)} (h : Right l) (hl : 0 < l.length) {f : F → F} (hf : Pol l.length f) (ht : ∀ i (hi : i < l.length), f (F.of l[i].1) = F.of l[i].2) (x : Int) : F.of (next l x) = f (F.of x) := by
  rw [of_next]
  refine Pol.only (n := l.length) ((nev_pol _ _ (l.length - 1) 0).mono (by omega)) hf _ h.places (by simp) ?_ _
  intro c hc
  obtain ⟨i, hi, rfl⟩ := List.mem_map.1 hc
  have hi' := List.mem_range.1 hi
  rw [nev_at _ _ l.length h.apart (l.length - 1) 0 (by omega) i (Nat.zero_le _) (by omega), ptA_at hi', ht i hi', ptB_at hi']

/-- what a polynomial of whole numbers is at x, round the prime -/
def ev (p : List Int) (x : Int) : Int := ((eval (p.map F.of) (F.of x)).val : Int)
/-- a power of x, round the prime -/
def upI (x : Int) (n : Nat) : Int := ((up (F.of x) n).val : Int)
theorem of_num (v : F) : F.of (v.val : Int) = v := by
  apply Fin.ext
  have h := F.val_of (v.val : Int)
  have := v.isLt
  omega
theorem num_of {z : Int} {v : F} (h : F.of z = v) : z % 257 = (v.val : Int) := by rw [← h, F.val_of]
theorem ev_range (p : List Int) (x : Int) : 0 ≤ ev p x ∧ ev p x < 257 := by
  have := (eval (p.map F.of) (F.of x)).isLt
  unfold ev; omega
theorem upI_range (x : Int) (n : Nat) : 0 ≤ upI x n ∧ upI x n < 257 := by
  have := (up (F.of x) n).isLt
  unfold upI; omega
theorem of_ev (p : List Int) (x : Int) : F.of (ev p x) = eval (p.map F.of) (F.of x) := of_num _
theorem of_upI (x : Int) (n : Nat) : F.of (upI x n) = up (F.of x) n := of_num _
theorem ev_nil (x : Int) : ev [] x = 0 := rfl
theorem upI_zero (x : Int) : upI x 0 = 1 := rfl
/-- from the last factor on -/
theorem ev_cons (c : Int) (p : List Int) (x : Int) : ev (c :: p) x = (c + x * ev p x) % 257 := by
  refine (num_of ?_).symm
  rw [F.of_add, F.of_mul, of_ev, List.map_cons, eval_cons]
/-- from the first factor on -/
theorem ev_snoc (p : List Int) (c x : Int) : ev (p ++ [c]) x = (ev p x + c * upI x p.length) % 257 := by
  refine (num_of ?_).symm
  rw [F.of_add, F.of_mul, of_ev, of_upI, List.map_append, List.map_cons, List.map_nil, eval_snoc, List.length_map, F.mul_comm (F.of c)]
theorem upI_succ (x : Int) (n : Nat) : upI x (n + 1) = upI x n * x % 257 := by
  refine (num_of ?_).symm
  rw [F.of_mul, of_upI, F.mul_comm]; rfl
/-- as many points as factors of a polynomial, wherever they are: each other one follows -/
theorem next_ev {l : List (Int × Int)} (h : Right l) (hl : 0 < l.length) (p : List Int) (hp : p.length ≤ l.length) (ht : ∀ i (hi : i < l.length), l[i].2 = ev p l[i].1) (x : Int) : next l x = ev p x := by
  obtain ⟨n0, n1⟩ := next_range l x
  obtain ⟨e0, e1⟩ := ev_range p x
  refine F.of_inj n0 n1 e0 e1 ?_
  rw [of_ev]
  refine next_only h hl (f := eval (p.map F.of)) ((Pol.of_list _).mono (by simpa using hp)) ?_ x
  intro i hi
  rw [ht i hi, of_ev]

end Go.Proofs.YtlefhfmckimlaakGreatDoor.M

namespace Go.Proofs.YtlefhfmckimlaakGreatDoor.M

/-- the first of some numbers that is not 0 -/
def first (f : Nat → Int) : Nat → Int
  | 0 => 0
  | k + 1 => if first f k ≠ 0 then first f k else f k
theorem first_next {f : Nat → Int} {k : Nat} (h : first f k = 0) : first f (k + 1) = f k := by
  show (if first f k ≠ 0 then first f k else f k) = _
  rw [if_neg (by simpa using h)]
theorem first_stays {f : Nat → Int} {k : Nat} (h : first f k ≠ 0) : ∀ m, first f (k + m) = first f k
  | 0 => rfl
  | m + 1 => by
    show (if first f (k + m) ≠ 0 then first f (k + m) else f (k + m)) = _
    rw [first_stays h m, if_pos h]
theorem first_bad {f : Nat → Int} {k n : Nat} (hk : k < n) (h0 : first f k = 0) (h : f k ≠ 0) : first f n = f k := by
  have e := first_next h0
  obtain ⟨m, rfl⟩ : ∃ m, n = k + 1 + m := ⟨n - (k + 1), by omega⟩
  rw [first_stays (by rw [e]; exact h), e]
theorem first_all {f : Nat → Int} : ∀ {n : Nat}, first f n = 0 → ∀ k, k < n → f k = 0
  | 0, _, k, hk => by omega
  | n + 1, h, k, hk => by
    have h' : (if first f n ≠ 0 then first f n else f n) = 0 := h
    by_cases h0 : first f n = 0
    · rw [if_neg (by simpa using h0)] at h'
      rcases Nat.lt_succ_iff_lt_or_eq.1 hk with g | g
      · exact first_all h0 k g
      · rw [g]; exact h'
    · rw [if_pos h0] at h'; exact absurd h' h0

/-- a number of the chapter's -/
def inR (a : Int) : Bool := decide (0 ≤ a ∧ a < 257)
theorem inR_yes {a : Int} (h : inR a = true) : 0 ≤ a ∧ a < 257 := of_decide_eq_true h
theorem inR_no {a : Int} (h : inR a = false) : a < 0 ∨ 257 ≤ a := by have := of_decide_eq_false h; omega
theorem inR_mk {a : Int} (h0 : 0 ≤ a) (h1 : a < 257) : inR a = true := decide_eq_true ⟨h0, h1⟩

/- factors -/
def facF (p : List Int) (i : Nat) : Int := if inR (p.getD i 0) = true then 0 else 1
def facE (p : List Int) : Int := if 7 < p.length then 4 else first (facF p) p.length
theorem facF_at {p : List Int} {i : Nat} (h : i < p.length) : facF p i = if inR p[i] = true then 0 else 1 := by
  unfold facF; rw [List.getD_eq_getElem?_getD, List.getElem?_eq_getElem h]; rfl
theorem facE_many {p : List Int} (h : 7 < p.length) : facE p = 4 := by unfold facE; rw [if_pos h]
theorem facE_few {p : List Int} (h : ¬ 7 < p.length) : facE p = first (facF p) p.length := by unfold facE; rw [if_neg h]
theorem facE_ok {p : List Int} (h : facE p = 0) : p.length ≤ 7 ∧ ∀ i (hi : i < p.length), 0 ≤ p[i] ∧ p[i] < 257 := by
  by_cases h7 : 7 < p.length
  · rw [facE_many h7] at h; exact absurd h (by decide)
  · rw [facE_few h7] at h
    refine ⟨by omega, fun i hi => ?_⟩
    have := first_all h i hi
    rw [facF_at hi] at this
    by_cases hr : inR p[i] = true
    · exact inR_yes hr
    · rw [if_neg hr] at this; exact absurd this (by decide)
theorem fac_first (p : List Int) : ∀ n, first (facF p) n = 0 ∨ first (facF p) n = 1
  | 0 => Or.inl rfl
  | n + 1 => by
    have ih := fac_first p n
    by_cases h : first (facF p) n = 0
    · rw [first_next h]
      unfold facF
      split
      · exact Or.inl rfl
      · exact Or.inr rfl
    · show (if first (facF p) n ≠ 0 then first (facF p) n else facF p n) = 0 ∨ (if first (facF p) n ≠ 0 then first (facF p) n else facF p n) = 1
      rw [if_pos h]; exact ih
/-- what At answers -/
def atE (p : List Int) (x : Int) : Int := if facE p ≠ 0 then facE p else if inR x = true then 0 else 1
def atR (p : List Int) (x : Int) : Int := if atE p x = 0 then ev p x else 0
theorem atE_ok {p : List Int} {x : Int} (h : atE p x = 0) : facE p = 0 ∧ inR x = true := by
  unfold atE at h
  by_cases h0 : facE p = 0
  · rw [if_neg (by simpa using h0)] at h
    by_cases hx : inR x = true
    · exact ⟨h0, hx⟩
    · rw [if_neg hx] at h; exact absurd h (by decide)
  · rw [if_pos h0] at h; exact absurd h h0
theorem atE_fac {p : List Int} {x : Int} (h : facE p ≠ 0) : atE p x = facE p := by unfold atE; rw [if_pos h]
theorem atE_x {p : List Int} {x : Int} (h : facE p = 0) (hx : inR x = false) : atE p x = 1 := by
  unfold atE; rw [if_neg (by simpa using h), hx]; rfl
theorem atE_0 {p : List Int} {x : Int} (h : facE p = 0) (hx : inR x = true) : atE p x = 0 := by
  unfold atE; rw [if_neg (by simpa using h), if_pos hx]
theorem atR_ok {p : List Int} {x : Int} (h : atE p x = 0) : atR p x = ev p x := by unfold atR; rw [if_pos h]
theorem atR_bad {p : List Int} {x : Int} (h : atE p x ≠ 0) : atR p x = 0 := by unfold atR; rw [if_neg h]

/- points -/
def pt (l : List (Int × Int)) (i : Nat) : Int × Int := l.getD i (0, 0)
theorem pt_at {l : List (Int × Int)} {i : Nat} (h : i < l.length) : pt l i = l[i] := by
  unfold pt; rw [List.getD_eq_getElem?_getD, List.getElem?_eq_getElem h]; rfl
/-- one ahead has that place -/
def ahead (l : List (Int × Int)) (i : Nat) (a : Int) : Bool := (l.take i).any fun q => q.1 == a
theorem ahead_zero (l : List (Int × Int)) (a : Int) : ahead l 0 a = false := by simp [ahead]
theorem ahead_succ {l : List (Int × Int)} {i : Nat} (h : i < l.length) (a : Int) : ahead l (i + 1) a = (ahead l i a || l[i].1 == a) := by
  unfold ahead; rw [List.take_succ_eq_append_getElem h, List.any_append]; simp
theorem ahead_hit {l : List (Int × Int)} {i j : Nat} (hj : j < i) (h : j < l.length) (a : Int) (e : l[j].1 = a) : ahead l i a = true := by
  unfold ahead
  rw [List.any_eq_true]
  exact ⟨l[j], List.mem_take_iff_getElem.2 ⟨j, by omega, rfl⟩, by simpa using e⟩
theorem ahead_mono {l : List (Int × Int)} {i j : Nat} (h : i ≤ j) {a : Int} (e : ahead l i a = true) : ahead l j a = true := by
  unfold ahead at e ⊢
  rw [List.any_eq_true] at e ⊢
  obtain ⟨q, hq, hqa⟩ := e
  exact ⟨q, (List.take_subset_take_left l h) hq, hqa⟩
def okP (l : List (Int × Int)) (i : Nat) : Bool := inR (pt l i).1 && inR (pt l i).2
def ptF (l : List (Int × Int)) (i : Nat) : Int := if okP l i = true then (if ahead l i (pt l i).1 = true then 7 else 0) else 1
def ptsE (l : List (Int × Int)) : Int := if l.length = 0 then 5 else if 7 < l.length then 4 else first (ptF l) l.length
theorem ptF_range {l : List (Int × Int)} {i : Nat} (h : okP l i = false) : ptF l i = 1 := by unfold ptF; rw [h]; rfl
theorem ptF_clash {l : List (Int × Int)} {i : Nat} (h : okP l i = true) (ha : ahead l i (pt l i).1 = true) : ptF l i = 7 := by unfold ptF; rw [if_pos h, if_pos ha]
theorem ptF_ok {l : List (Int × Int)} {i : Nat} (h : okP l i = true) (ha : ahead l i (pt l i).1 = false) : ptF l i = 0 := by unfold ptF; rw [if_pos h, ha]; rfl
theorem ptsE_none {l : List (Int × Int)} (h : l.length = 0) : ptsE l = 5 := by unfold ptsE; rw [if_pos h]
theorem ptsE_many {l : List (Int × Int)} (h : 7 < l.length) : ptsE l = 4 := by unfold ptsE; rw [if_neg (by omega), if_pos h]
theorem ptsE_some {l : List (Int × Int)} (h0 : 0 < l.length) (h : l.length ≤ 7) : ptsE l = first (ptF l) l.length := by unfold ptsE; rw [if_neg (by omega), if_neg (by omega)]
theorem ptsE_ok {l : List (Int × Int)} (h : ptsE l = 0) : 0 < l.length ∧ l.length ≤ 7 ∧ Right l := by
  by_cases h0 : l.length = 0
  · rw [ptsE_none h0] at h; exact absurd h (by decide)
  by_cases h7 : 7 < l.length
  · rw [ptsE_many h7] at h; exact absurd h (by decide)
  rw [ptsE_some (by omega) (by omega)] at h
  have hall := first_all h
  have hok : ∀ i, i < l.length → okP l i = true := fun i hi => by
    cases g : okP l i
    · have := hall i hi
      rw [ptF_range g] at this; exact absurd this (by decide)
    · rfl
  have hah : ∀ i (hi : i < l.length), ahead l i l[i].1 = false := fun i hi => by
    cases g : ahead l i l[i].1
    · rfl
    · have := hall i hi
      rw [ptF_clash (hok i hi) (by rw [pt_at hi]; exact g)] at this; exact absurd this (by decide)
  refine ⟨by omega, by omega, fun i hi => ?_, fun i j hi hj e => ?_⟩
  · have := hok i hi
    unfold okP at this
    rw [pt_at hi, Bool.and_eq_true] at this
    exact ⟨inR_yes this.1, inR_yes this.2⟩
  · rcases Nat.lt_trichotomy i j with g | g | g
    · have := ahead_hit g hi l[j].1 e
      rw [hah j hj] at this; exact Bool.noConfusion this
    · exact g
    · have := ahead_hit g hj l[i].1 e.symm
      rw [hah i hi] at this; exact Bool.noConfusion this
/-- what Next answers -/
def nxE (l : List (Int × Int)) (x : Int) : Int := if ptsE l ≠ 0 then ptsE l else if inR x = true then 0 else 1
def nxR (l : List (Int × Int)) (x : Int) : Int := if nxE l x = 0 then next l x else 0
theorem nxE_ok {l : List (Int × Int)} {x : Int} (h : nxE l x = 0) : ptsE l = 0 ∧ inR x = true := by
  unfold nxE at h
  by_cases h0 : ptsE l = 0
  · rw [if_neg (by simpa using h0)] at h
    by_cases hx : inR x = true
    · exact ⟨h0, hx⟩
    · rw [if_neg hx] at h; exact absurd h (by decide)
  · rw [if_pos h0] at h; exact absurd h h0
theorem nxE_pts {l : List (Int × Int)} {x : Int} (h : ptsE l ≠ 0) : nxE l x = ptsE l := by unfold nxE; rw [if_pos h]
theorem nxE_x {l : List (Int × Int)} {x : Int} (h : ptsE l = 0) (hx : inR x = false) : nxE l x = 1 := by
  unfold nxE; rw [if_neg (by simpa using h), hx]; rfl
theorem nxE_0 {l : List (Int × Int)} {x : Int} (h : ptsE l = 0) (hx : inR x = true) : nxE l x = 0 := by
  unfold nxE; rw [if_neg (by simpa using h), if_pos hx]
theorem nxE_zero (l : List (Int × Int)) : nxE l 0 = ptsE l := by
  by_cases h : ptsE l = 0
  · rw [nxE_0 h (by decide), h]
  · exact nxE_pts h
theorem nxR_ok {l : List (Int × Int)} {x : Int} (h : nxE l x = 0) : nxR l x = next l x := by unfold nxR; rw [if_pos h]
theorem nxR_bad {l : List (Int × Int)} {x : Int} (h : nxE l x ≠ 0) : nxR l x = 0 := by unfold nxR; rw [if_neg h]

/- Lagrange -/
/-- all of x - a j, j below k, but that of i, times each other -/
def prod (a : Nat → F) (i : Nat) : Nat → F → F
  | 0, _ => 1
  | k + 1, x => if k = i then prod a i k x else prod a i k x * (x - a k)
theorem prod_skip (a : Nat → F) (i : Nat) (x : F) : prod a i (i + 1) x = prod a i i x := by
  show (if i = i then prod a i i x else _) = _
  rw [if_pos rfl]
theorem prod_step (a : Nat → F) {i k : Nat} (h : k ≠ i) (x : F) : prod a i (k + 1) x = prod a i k x * (x - a k) := by
  show (if k = i then prod a i k x else _) = _
  rw [if_neg h]
theorem prod_pol (a : Nat → F) (i : Nat) : ∀ k, Pol (if i < k then k else k + 1) (prod a i k)
  | 0 => (Pol.const 1).congr fun _ => rfl
  | k + 1 => by
    have ih := prod_pol a i k
    by_cases h : k = i
    · subst h
      rw [if_neg (by omega)] at ih
      rw [if_pos (by omega)]
      exact ih.congr fun x => prod_skip a k x
    · have e : ∀ x, prod a i (k + 1) x = (x - a k) * prod a i k x := fun x => by rw [prod_step a h, F.mul_comm]
      by_cases g : i < k
      · rw [if_pos g] at ih
        rw [if_pos (by omega)]
        exact (ih.lin (a k)).congr e
      · rw [if_neg g] at ih
        rw [if_neg (by omega)]
        exact (ih.lin (a k)).congr e
theorem prod_zero (a : Nat → F) (i : Nat) {j : Nat} (hj : j ≠ i) : ∀ k, j < k → prod a i k (a j) = 0
  | 0, h => by omega
  | k + 1, h => by
    by_cases e : k = i
    · subst e
      rw [prod_skip]
      exact prod_zero a k hj k (by omega)
    · rw [prod_step a e]
      by_cases g : j = k
      · subst g; rw [F.sub_self, F.mul_zero]
      · rw [prod_zero a i hj k (by omega), F.zero_mul]
theorem prod_ne (a : Nat → F) (i n : Nat) (h : ∀ j, j < n → j ≠ i → a i ≠ a j) : ∀ k, k ≤ n → prod a i k (a i) ≠ 0
  | 0, _ => by show (1 : F) ≠ 0; decide
  | k + 1, hk => by
    by_cases e : k = i
    · subst e
      rw [prod_skip]
      exact prod_ne a k n h k (by omega)
    · rw [prod_step a e]
      intro z
      exact h k (by omega) e (F.eq_of_sub (F.no_div (prod_ne a i n h k (by omega)) z))
/-- the polynomial that is 1 at the i-th place, and 0 at all others -/
def wt (a : Nat → F) (n i : Nat) (x : F) : F := prod a i n x * F.inv (prod a i n (a i))
theorem wt_pol (a : Nat → F) {n i : Nat} (h : i < n) : Pol n (wt a n i) := by
  have := prod_pol a i n
  rw [if_pos h] at this
  exact (this.scale (F.inv (prod a i n (a i)))).congr fun x => F.mul_comm _ _
theorem wt_self (a : Nat → F) {n i : Nat} (h : ∀ j, j < n → j ≠ i → a i ≠ a j) : wt a n i (a i) = 1 := F.mul_inv (prod_ne a i n h n (Nat.le_refl _))
theorem wt_other (a : Nat → F) {n i j : Nat} (hj : j < n) (h : j ≠ i) : wt a n i (a j) = 0 := by
  unfold wt; rw [prod_zero a i h n hj, F.zero_mul]
def sum (a b : Nat → F) (n : Nat) : Nat → F → F
  | 0, _ => 0
  | k + 1, x => sum a b n k x + b k * wt a n k x
theorem sum_pol (a b : Nat → F) (n : Nat) : ∀ k, k ≤ n → Pol n (sum a b n k)
  | 0, _ => (Pol.zero n).congr fun _ => rfl
  | k + 1, h => ((sum_pol a b n k (by omega)).add ((wt_pol a (by omega : k < n)).scale (b k))).congr fun _ => rfl
theorem sum_at (a b : Nat → F) {n : Nat} (h : ∀ i j, i < n → j < n → a i = a j → i = j) {j : Nat} (hj : j < n) : ∀ k, k ≤ n → sum a b n k (a j) = if j < k then b j else 0
  | 0, _ => by rw [if_neg (by omega)]; rfl
  | k + 1, hk => by
    show sum a b n k (a j) + b k * wt a n k (a j) = _
    rw [sum_at a b h hj k (by omega)]
    by_cases e : j = k
    · subst e
      rw [if_neg (by omega), if_pos (by omega), wt_self a (fun i hi hne g => hne (h j i hj hi g).symm), F.mul_one, F.zero_add]
    · rw [wt_other a hj e, F.mul_zero, F.add_zero]
      by_cases g : j < k
      · rw [if_pos g, if_pos (by omega)]
      · rw [if_neg g, if_neg (by omega)]
theorem lag {l : List (Int × Int)} (h : Right l) (hl : 0 < l.length) (x : Int) : F.of (next l x) = sum (ptA l) (ptB l) l.length l.length (F.of x) := by
  refine next_only h hl (sum_pol _ _ _ _ (Nat.le_refl _)) ?_ x
  intro i hi
  rw [← ptA_at hi, sum_at (ptA l) (ptB l) h.apart hi _ (Nat.le_refl _), if_pos hi, ptB_at hi]

/- the same in whole numbers -/
def over (l : List (Int × Int)) (i : Nat) (x : Int) (k : Nat) : Int := ((prod (ptA l) i k (F.of x)).val : Int)
theorem over_range (l : List (Int × Int)) (i : Nat) (x : Int) (k : Nat) : 0 ≤ over l i x k ∧ over l i x k < 257 := by
  have := (prod (ptA l) i k (F.of x)).isLt
  unfold over; omega
theorem of_over (l : List (Int × Int)) (i : Nat) (x : Int) (k : Nat) : F.of (over l i x k) = prod (ptA l) i k (F.of x) := of_num _
theorem over_zero (l : List (Int × Int)) (i : Nat) (x : Int) : over l i x 0 = 1 := rfl
theorem over_skip (l : List (Int × Int)) (i : Nat) (x : Int) : over l i x (i + 1) = over l i x i := by unfold over; rw [prod_skip]
theorem over_step {l : List (Int × Int)} {i k : Nat} (h : k ≠ i) (hk : k < l.length) (x : Int) : over l i x (k + 1) = over l i x k * ((x - l[k].1 + 257) % 257) % 257 := by
  refine (num_of ?_).symm
  rw [F.of_mul, of_over, F.of_diff, prod_step _ h, ptA_at hk]
theorem under_ne {l : List (Int × Int)} (h : Right l) {i : Nat} (hi : i < l.length) : 0 < over l i l[i].1 l.length := by
  have g := prod_ne (ptA l) i l.length (fun j hj hne e => hne (h.apart i j hi hj e).symm) l.length (Nat.le_refl _)
  rw [ptA_at hi] at g
  have r := over_range l i l[i].1 l.length
  rcases Int.lt_or_eq_of_le r.1 with e | e
  · exact e
  · exfalso; apply g
    rw [← of_over, ← e]; rfl
def wtI (l : List (Int × Int)) (i : Nat) (x : Int) : Int := over l i x l.length * invI (over l i (pt l i).1 l.length) % 257
theorem wtI_range (l : List (Int × Int)) (i : Nat) (x : Int) : 0 ≤ wtI l i x ∧ wtI l i x < 257 := by unfold wtI; omega
theorem of_wtI {l : List (Int × Int)} {i : Nat} (hi : i < l.length) (x : Int) : F.of (wtI l i x) = wt (ptA l) l.length i (F.of x) := by
  have r := over_range l i l[i].1 l.length
  unfold wtI wt
  rw [pt_at hi, F.of_mod, F.of_mul, of_over, F.of_inv _ r.1 r.2, of_over, ptA_at hi]
def sumI (l : List (Int × Int)) (x : Int) (k : Nat) : Int := ((sum (ptA l) (ptB l) l.length k (F.of x)).val : Int)
theorem sumI_range (l : List (Int × Int)) (x : Int) (k : Nat) : 0 ≤ sumI l x k ∧ sumI l x k < 257 := by
  have := (sum (ptA l) (ptB l) l.length k (F.of x)).isLt
  unfold sumI; omega
theorem of_sumI (l : List (Int × Int)) (x : Int) (k : Nat) : F.of (sumI l x k) = sum (ptA l) (ptB l) l.length k (F.of x) := of_num _
theorem sumI_zero (l : List (Int × Int)) (x : Int) : sumI l x 0 = 0 := rfl
theorem sumI_step {l : List (Int × Int)} {k : Nat} (hk : k < l.length) (x : Int) : sumI l x (k + 1) = (sumI l x k + l[k].2 * wtI l k x) % 257 := by
  refine (num_of ?_).symm
  rw [F.of_add, F.of_mul, of_sumI, of_wtI hk, ← ptB_at hk]; rfl
theorem sumI_all {l : List (Int × Int)} (h : Right l) (hl : 0 < l.length) (x : Int) : sumI l x l.length = next l x := by
  obtain ⟨n0, n1⟩ := next_range l x
  obtain ⟨s0, s1⟩ := sumI_range l x l.length
  refine F.of_inj s0 s1 n0 n1 ?_
  rw [of_sumI, lag h hl]

/- Neville's table in whole numbers -/
def nevI (l : List (Int × Int)) (x : Int) (k i : Nat) : Int := ((nev (ptA l) (ptB l) k i (F.of x)).val : Int)
theorem nevI_range (l : List (Int × Int)) (x : Int) (k i : Nat) : 0 ≤ nevI l x k i ∧ nevI l x k i < 257 := by
  have := (nev (ptA l) (ptB l) k i (F.of x)).isLt
  unfold nevI; omega
theorem of_nevI (l : List (Int × Int)) (x : Int) (k i : Nat) : F.of (nevI l x k i) = nev (ptA l) (ptB l) k i (F.of x) := of_num _
theorem nevI_zero {l : List (Int × Int)} (h : Right l) (x : Int) {i : Nat} (hi : i < l.length) : nevI l x 0 i = l[i].2 := by
  obtain ⟨_, b0, b1⟩ := h.1 i hi
  obtain ⟨n0, n1⟩ := nevI_range l x 0 i
  refine F.of_inj n0 n1 b0 b1 ?_
  rw [of_nevI, ← ptB_at hi]; rfl
theorem nevI_step (l : List (Int × Int)) (x : Int) {k i : Nat} (h : i + (k + 1) < l.length) :
    nevI l x (k + 1) i = ((x - l[i + (k + 1)].1 + 257) % 257 * nevI l x k i + (l[i].1 - x + 257) % 257 * nevI l x k (i + 1)) % 257 * pwI ((l[i].1 - l[i + (k + 1)].1 + 257) % 257) 255 257 % 257 := by
  refine (num_of ?_).symm
  rw [F.of_mul, F.of_mod, F.of_add, F.of_mul, F.of_mul, of_nevI, of_nevI, F.of_diff, F.of_diff, F.of_pw _ (by omega) (by omega), F.of_diff, ← ptA_at h, ← ptA_at (by omega : i < l.length)]
  rfl
theorem nevI_all (l : List (Int × Int)) (x : Int) : nevI l x (l.length - 1) 0 = next l x := rfl

end Go.Proofs.YtlefhfmckimlaakGreatDoor.M
