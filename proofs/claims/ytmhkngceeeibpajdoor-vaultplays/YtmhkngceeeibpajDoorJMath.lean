/-
  Plain facts on powers modulo a number, and on the field of 257 numbers. No program is walked here.
  Plain facts on the field of 257 numbers and on polynomials over it: as many points as factors tell it all. No program is walked here.
  Plain facts on Lagrange's way and Neville's table in whole numbers, and on what is wrong with factors and with points. No program is walked here.
  Plain facts on shares: points of one polynomial at other places; any as many as it has factors tell what is at 0; of one fewer each other number might be there. No program is walked here.
  Plain facts on what is dealt and what is joined: their faults, and what each answers. No program is walked here.
  Plain facts on commits: 64 modulo 1543 comes round after 257 steps and not before; a product of commits, each to a power of the place, is 64 to what the polynomial is there. No program is walked here.
  Plain facts on a vault: what each call answers, and that so many honest are enough, whoever lies. No program is walked here.
-/
import Derived.WalkKit
namespace Go.Proofs.YtmhkngceeeibpajDoor.M

/-- a power, modulo b -/
def pw (a n b : Nat) : Nat := a ^ n % b

theorem pw_zero {a b : Nat} (h : 2 ≤ b) : pw a 0 b = 1 := by
  unfold pw; rw [Nat.pow_zero]; exact Nat.mod_eq_of_lt h
theorem pw_lt {a n b : Nat} (h : 0 < b) : pw a n b < b := Nat.mod_lt _ h
theorem pw_one {a b : Nat} (h : a < b) : pw a 1 b = a := by
  unfold pw; rw [Nat.pow_one]; exact Nat.mod_eq_of_lt h
theorem pw_of_one (n : Nat) {b : Nat} (h : 2 ≤ b) : pw 1 n b = 1 := by
  unfold pw; rw [Nat.one_pow]; exact Nat.mod_eq_of_lt h
/-- of two powers the product is that of both added up -/
theorem pw_add (a n m b : Nat) : pw a n b * pw a m b % b = pw a (n + m) b := by
  unfold pw; rw [Nat.pow_add, ← Nat.mul_mod]
theorem pw_succ (a n b : Nat) : pw a n b * a % b = pw a (n + 1) b := by
  unfold pw; rw [Nat.pow_succ, Nat.mul_mod (a ^ n) a, Nat.mul_mod, Nat.mod_mod]
theorem pw_half {a n b : Nat} (h : n % 2 = 0) : pw a (n / 2) b * pw a (n / 2) b % b = pw a n b := by
  rw [pw_add]; congr 1; omega
theorem pw_half1 {a n b : Nat} (h : n % 2 = 1) : pw a (n / 2) b * pw a (n / 2) b % b * a % b = pw a n b := by
  rw [pw_add, pw_succ]; congr 1; omega
/-- the other way round: the base squared -/
theorem pw_base (a n b : Nat) : pw (a % b) n b = pw a n b := by
  unfold pw; rw [← Nat.pow_mod]
theorem pw_sq (a k b : Nat) : pw (a * a % b) k b = pw a (2 * k) b := by
  rw [pw_base]; unfold pw; rw [← Nat.pow_two, ← Nat.pow_mul]

/-- the other half of a number that is not nought -/
def inv (a : Nat) : Nat := pw a 255 257
theorem inv_lt (a : Nat) : inv a < 257 := pw_lt (by decide)
theorem inv_is : ∀ a, a < 257 → a ≠ 0 → a * inv a % 257 = 1 := by decide +kernel
theorem fermat : ∀ a, a < 257 → pw a 257 257 = a := by decide +kernel
/-- it is the only one -/
theorem inv_only {a x : Nat} (ha : a < 257) (h0 : a ≠ 0) (hx : x < 257) (h : a * x % 257 = 1) : x = inv a := by
  have h1 := inv_is a ha h0
  have e1 : x * (a * inv a) % 257 = x := by
    rw [Nat.mul_mod, h1, Nat.mul_one, Nat.mod_mod, Nat.mod_eq_of_lt hx]
  have e2 : x * (a * inv a) % 257 = inv a := by
    rw [← Nat.mul_assoc, Nat.mul_comm x a, Nat.mul_mod, h, Nat.one_mul, Nat.mod_mod, Nat.mod_eq_of_lt (inv_lt a)]
  exact e1.symm.trans e2
theorem inv_pos {a : Nat} (ha : a < 257) (h0 : a ≠ 0) : inv a ≠ 0 := fun h => by
  have h1 := inv_is a ha h0
  rw [h, Nat.mul_zero] at h1
  exact absurd h1 (by decide)
/-- spread over sums -/
theorem spread (a b c : Nat) : a * ((b + c) % 257) % 257 = (a * b % 257 + a * c % 257) % 257 := by
  rw [Nat.mul_mod, Nat.mod_mod, ← Nat.mul_mod, Nat.mul_add, Nat.add_mod]

/-- a product's part below b -/
theorem step_odd (r x k b : Nat) (h : k % 2 = 1) : r * x % b * pw (x * x % b) (k / 2) b % b = r * pw x k b % b := by
  rw [pw_sq]
  have e : pw x k b = pw x (2 * (k / 2)) b * x % b := by rw [pw_succ]; congr 1; omega
  rw [e, Nat.mul_mod (r * x % b), Nat.mod_mod, ← Nat.mul_mod, Nat.mul_mod r (_ % b), Nat.mod_mod, ← Nat.mul_mod, Nat.mul_assoc, Nat.mul_comm x]
theorem step_even (r x k b : Nat) (h : k % 2 = 0) : r * pw (x * x % b) (k / 2) b % b = r * pw x k b % b := by
  rw [pw_sq]; congr 2; congr 1; omega

/-- the same on whole numbers -/
def pwI (a n b : Int) : Int := (pw a.toNat n.toNat b.toNat : Nat)
def invI (a : Int) : Int := (inv a.toNat : Nat)
theorem pwI_range (a n : Int) {b : Int} (h : 2 ≤ b) : 0 ≤ pwI a n b ∧ pwI a n b < b := by
  have := pw_lt (a := a.toNat) (n := n.toNat) (b := b.toNat) (by omega)
  unfold pwI; omega
theorem pwI_zero (a : Int) {b : Int} (h : 2 ≤ b) : pwI a 0 b = 1 := by
  unfold pwI; rw [show (0 : Int).toNat = 0 from rfl, pw_zero (by omega)]; rfl
theorem pwI_of_one (n : Int) {b : Int} (h : 2 ≤ b) : pwI 1 n b = 1 := by
  unfold pwI; rw [show (1 : Int).toNat = 1 from rfl, pw_of_one _ (by omega)]; rfl
theorem pwI_fermat {a : Int} (h0 : 0 ≤ a) (h1 : a < 257) : pwI a 257 257 = a := by
  have := fermat a.toNat (by omega)
  unfold pwI; rw [show (257 : Int).toNat = 257 from rfl, this]; omega
theorem pwI_add (a : Int) {n m : Int} (hn : 0 ≤ n) (hm : 0 ≤ m) : pwI a n 257 * pwI a m 257 % 257 = pwI a (n + m) 257 := by
  unfold pwI
  rw [show (n + m).toNat = n.toNat + m.toNat by omega, ← pw_add]; simp
theorem invI_range (a : Int) : 0 ≤ invI a ∧ invI a < 257 := by
  have := inv_lt a.toNat
  unfold invI; omega
theorem invI_is {a : Int} (h0 : 0 < a) (h1 : a < 257) : a * invI a % 257 = 1 := by
  have := inv_is a.toNat (by omega) (by omega)
  obtain ⟨k, rfl⟩ : ∃ k : Nat, a = k := ⟨a.toNat, by omega⟩
  unfold invI
  rw [Int.toNat_natCast] at this ⊢
  omega
theorem invI_two : invI 2 = 129 := by decide +kernel
/-- the first one that does it is it -/
theorem invI_only {a x : Int} (h0 : 0 < a) (h1 : a < 257) (hx : 0 ≤ x) (hx1 : x < 257) (h : x * a % 257 = 1) : x = invI a := by
  obtain ⟨k, rfl⟩ : ∃ k : Nat, a = k := ⟨a.toNat, by omega⟩
  obtain ⟨j, rfl⟩ : ∃ j : Nat, x = j := ⟨x.toNat, by omega⟩
  have := inv_only (a := k) (x := j) (by omega) (by omega) (by omega) (by rw [Nat.mul_comm]; omega)
  unfold invI; rw [Int.toNat_natCast, ← this]
theorem spreadI (a b c : Int) : a * ((b + c) % 257) % 257 = (a * b % 257 + a * c % 257) % 257 := by
  rw [← Int.add_emod, ← Int.mul_add, Int.mul_emod, Int.emod_emod, ← Int.mul_emod]

end Go.Proofs.YtmhkngceeeibpajDoor.M

namespace Go.Proofs.YtmhkngceeeibpajDoor.M

abbrev F := Fin 257

namespace F
/-- a whole number, round the prime -/
def of (z : Int) : F := ⟨(z % 257).toNat, by omega⟩
theorem val_of (z : Int) : ((of z).val : Int) = z % 257 := by
  show (((z % 257).toNat : Nat) : Int) = z % 257
  omega
theorem of_val {z : Int} (h0 : 0 ≤ z) (h1 : z < 257) : ((of z).val : Int) = z := by rw [val_of]; omega
theorem of_eq {a b : Int} (h : a % 257 = b % 257) : of a = of b := Fin.ext (by show (a % 257).toNat = (b % 257).toNat; rw [h])
theorem eq_of {a b : Int} (h : of a = of b) : a % 257 = b % 257 := by rw [← val_of, ← val_of, h]
theorem of_inj {a b : Int} (a0 : 0 ≤ a) (a1 : a < 257) (b0 : 0 ≤ b) (b1 : b < 257) (h : of a = of b) : a = b := by
  have := eq_of h; omega
theorem of_mod (z : Int) : of (z % 257) = of z := of_eq (by omega)
theorem of_add (a b : Int) : of (a + b) = of a + of b := by
  apply Fin.ext
  have h : ((of (a + b)).val : Int) = ((of a + of b).val : Int) := by
    rw [val_of, Fin.val_add, Int.natCast_emod, Int.natCast_add, val_of, val_of]
    show (a + b) % 257 = (a % 257 + b % 257) % 257
    omega
  omega
theorem of_mul (a b : Int) : of (a * b) = of a * of b := by
  apply Fin.ext
  have h : ((of (a * b)).val : Int) = ((of a * of b).val : Int) := by
    rw [val_of, Fin.val_mul, Int.natCast_emod, Int.natCast_mul, val_of, val_of]
    show a * b % 257 = (a % 257) * (b % 257) % 257
    exact Int.mul_emod a b 257
  omega
theorem of_zero : of 0 = 0 := rfl
theorem of_one : of 1 = 1 := rfl
theorem of_sub (a b : Int) : of (a - b) = of a - of b := by
  apply Fin.ext
  have ha := val_of a
  have hb := val_of b
  have hc := val_of (a - b)
  rw [Fin.sub_def]
  show (of (a - b)).val = (257 - (of b).val + (of a).val) % 257
  omega
theorem lift (x : F) : ∃ z : Int, x = of z := ⟨x.val, by
  apply Fin.ext
  have h := val_of (x.val : Int)
  have := x.isLt
  omega⟩
/-- a difference as it is reckoned: the prime added first -/
theorem of_diff (a b : Int) : of ((a - b + 257) % 257) = of a - of b := by
  rw [of_mod, ← of_sub]; exact of_eq (by omega)
theorem of_ne {a b : Int} (a0 : 0 ≤ a) (a1 : a < 257) (b0 : 0 ≤ b) (b1 : b < 257) (h : a ≠ b) : of a ≠ of b := fun e => h (of_inj a0 a1 b0 b1 e)

/-- the other half -/
def inv (a : F) : F := ⟨M.inv a.val, M.inv_lt _⟩
theorem mul_inv {a : F} (h : a ≠ 0) : a * inv a = 1 := by
  apply Fin.ext
  rw [Fin.val_mul]
  exact inv_is a.val a.isLt fun e => h (Fin.ext e)
/- what rings share, by way of whole numbers -/
theorem mul_one (a : F) : a * 1 = a := by
  obtain ⟨a, rfl⟩ := lift a
  rw [← of_one, ← of_mul, Int.mul_one]
theorem mul_zero (a : F) : a * 0 = 0 := by
  obtain ⟨a, rfl⟩ := lift a
  rw [← of_zero, ← of_mul, Int.mul_zero]
theorem add_zero (a : F) : a + 0 = a := by
  obtain ⟨a, rfl⟩ := lift a
  rw [← of_zero, ← of_add, Int.add_zero]
theorem zero_add (a : F) : 0 + a = a := by
  obtain ⟨a, rfl⟩ := lift a
  rw [← of_zero, ← of_add, Int.zero_add]
theorem mul_comm (a b : F) : a * b = b * a := by
  obtain ⟨a, rfl⟩ := lift a
  obtain ⟨b, rfl⟩ := lift b
  rw [← of_mul, ← of_mul, Int.mul_comm]
theorem mul_assoc (a b c : F) : a * b * c = a * (b * c) := by
  obtain ⟨a, rfl⟩ := lift a
  obtain ⟨b, rfl⟩ := lift b
  obtain ⟨c, rfl⟩ := lift c
  rw [← of_mul, ← of_mul, ← of_mul, ← of_mul, Int.mul_assoc]
theorem sub_self (a : F) : a - a = 0 := by
  obtain ⟨a, rfl⟩ := lift a
  rw [← of_sub, Int.sub_self]; rfl
theorem eq_of_sub {a b : F} (h : a - b = 0) : a = b := by
  obtain ⟨a, rfl⟩ := lift a
  obtain ⟨b, rfl⟩ := lift b
  rw [← of_sub, ← of_zero] at h
  exact of_eq (by have := eq_of h; omega)
theorem mul_add (a b c : F) : a * (b + c) = a * b + a * c := by
  obtain ⟨a, rfl⟩ := lift a
  obtain ⟨b, rfl⟩ := lift b
  obtain ⟨c, rfl⟩ := lift c
  simp only [← of_mul, ← of_add]
  rw [Int.mul_add]
/-- for the division by x - c -/
theorem r_quot (a b x c q : F) : a + x * (b + (x - c) * q) = a + c * b + (x - c) * (b + x * q) := by
  obtain ⟨a, rfl⟩ := lift a
  obtain ⟨b, rfl⟩ := lift b
  obtain ⟨x, rfl⟩ := lift x
  obtain ⟨c, rfl⟩ := lift c
  obtain ⟨q, rfl⟩ := lift q
  simp only [← of_mul, ← of_add, ← of_sub]
  congr 1
  simp only [Int.mul_add, Int.mul_sub, Int.mul_comm, Int.mul_left_comm]
  omega
/-- for sums of polynomials -/
theorem r_add (a b x p q : F) : a + b + x * (p + q) = a + x * p + (b + x * q) := by
  obtain ⟨a, rfl⟩ := lift a
  obtain ⟨b, rfl⟩ := lift b
  obtain ⟨x, rfl⟩ := lift x
  obtain ⟨p, rfl⟩ := lift p
  obtain ⟨q, rfl⟩ := lift q
  simp only [← of_mul, ← of_add]
  congr 1
  simp only [Int.mul_add]
  omega
theorem r_scale (c a x p : F) : c * a + x * (c * p) = c * (a + x * p) := by
  obtain ⟨c, rfl⟩ := lift c
  obtain ⟨a, rfl⟩ := lift a
  obtain ⟨x, rfl⟩ := lift x
  obtain ⟨p, rfl⟩ := lift p
  simp only [← of_mul, ← of_add]
  congr 1
  simp only [Int.mul_add, Int.mul_left_comm]
/-- one less, as a number -/
def neg (c : F) : F := 0 - c
theorem r_lin (x c f : F) : (x - c) * f = x * f + neg c * f := by
  unfold neg
  obtain ⟨x, rfl⟩ := lift x
  obtain ⟨c, rfl⟩ := lift c
  obtain ⟨f, rfl⟩ := lift f
  simp only [← of_zero, ← of_mul, ← of_add, ← of_sub]
  congr 1
  simp only [Int.sub_mul, Int.zero_mul]
  omega
theorem r_sub (f g : F) : f - g = f + neg 1 * g := by
  unfold neg
  obtain ⟨f, rfl⟩ := lift f
  obtain ⟨g, rfl⟩ := lift g
  simp only [← of_one, ← of_zero, ← of_mul, ← of_add, ← of_sub]
  congr 1
  simp only [Int.sub_mul, Int.zero_mul, Int.one_mul]
  omega
theorem r_nev (x a b f g i : F) : ((x - b) * f + (a - x) * g) * i = i * ((x - b) * f + neg 1 * ((x - a) * g)) := by
  unfold neg
  obtain ⟨x, rfl⟩ := lift x
  obtain ⟨a, rfl⟩ := lift a
  obtain ⟨b, rfl⟩ := lift b
  obtain ⟨f, rfl⟩ := lift f
  obtain ⟨g, rfl⟩ := lift g
  obtain ⟨i, rfl⟩ := lift i
  simp only [← of_one, ← of_zero, ← of_mul, ← of_add, ← of_sub]
  congr 1
  simp only [Int.mul_add, Int.sub_mul, Int.mul_sub, Int.mul_assoc, Int.mul_comm, Int.mul_left_comm, Int.mul_one]
  omega
/-- a point that both halves go through -/
theorem r_same (x a b f : F) : (x - b) * f + (a - x) * f = (a - b) * f := by
  obtain ⟨x, rfl⟩ := lift x
  obtain ⟨a, rfl⟩ := lift a
  obtain ⟨b, rfl⟩ := lift b
  obtain ⟨f, rfl⟩ := lift f
  simp only [← of_mul, ← of_add, ← of_sub]
  congr 1
  simp only [Int.sub_mul]
  omega
theorem zero_mul (a : F) : 0 * a = 0 := by rw [mul_comm, mul_zero]
theorem no_div {a b : F} (ha : a ≠ 0) (h : a * b = 0) : b = 0 := by
  have e : b * (a * inv a) = inv a * (a * b) := by
    rw [← mul_assoc, mul_comm (b * a), mul_comm b a]
  rw [mul_inv ha, h, mul_one, mul_zero] at e
  exact e
/-- times a number and its other half -/
theorem mul_back {d : F} (h : d ≠ 0) (b : F) : d * b * inv d = b := by
  rw [mul_comm d b, mul_assoc, mul_inv h, mul_one]
theorem of_inv (a : Int) (h0 : 0 ≤ a) (h1 : a < 257) : of (invI a) = inv (of a) := by
  apply Fin.ext
  show (invI a % 257).toNat = M.inv (of a).val
  have h := of_val h0 h1
  have e : (of a).val = a.toNat := by omega
  rw [e]
  have := invI_range a
  unfold invI at this ⊢
  omega
/-- the other half as a power -/
theorem of_pw (d : Int) (h0 : 0 ≤ d) (h1 : d < 257) : of (pwI d 255 257) = inv (of d) := of_inv d h0 h1
end F

/-- what a polynomial is at x: its factors from that of power 0 on -/
def eval : List F → F → F
  | [], _ => 0
  | c :: l, x => c + x * eval l x
theorem eval_nil (x : F) : eval [] x = 0 := rfl
theorem eval_cons (c : F) (l : List F) (x : F) : eval (c :: l) x = c + x * eval l x := rfl
/-- a power -/
def up (x : F) : Nat → F
  | 0 => 1
  | n + 1 => x * up x n
theorem eval_snoc (l : List F) (c x : F) : eval (l ++ [c]) x = eval l x + up x l.length * c := by
  induction l with
  | nil =>
    show c + x * 0 = 0 + 1 * c
    rw [F.mul_zero, F.add_zero, F.zero_add, F.mul_comm, F.mul_one]
  | cons a l ih =>
    rw [List.cons_append, eval_cons, eval_cons, ih]
    show _ = a + x * eval l x + x * up x l.length * c
    rw [F.mul_add, F.mul_assoc]
    obtain ⟨u, hu⟩ := F.lift (x * eval l x)
    obtain ⟨v, hv⟩ := F.lift (x * (up x l.length * c))
    obtain ⟨a, rfl⟩ := F.lift a
    rw [hu, hv]
    simp only [← F.of_add]
    congr 1
    omega

/-- divided by x - c -/
def quot : List F → F → List F
  | [], _ => []
  | [_], _ => []
  | _ :: b :: l, c => eval (b :: l) c :: quot (b :: l) c
theorem quot_len : ∀ (p : List F) (c : F), (quot p c).length = p.length - 1
  | [], _ => rfl
  | [_], _ => rfl
  | _ :: b :: l, c => by
    show (quot (b :: l) c).length + 1 = _
    rw [quot_len (b :: l) c]; simp
theorem quot_is : ∀ (p : List F) (c x : F), eval p x = eval p c + (x - c) * eval (quot p c) x
  | [], c, x => by simp only [quot, eval_nil, F.mul_zero, F.add_zero]
  | [a], c, x => by simp only [quot, eval_cons, eval_nil, F.mul_zero, F.add_zero]
  | a :: b :: l, c, x => by
    have ih := quot_is (b :: l) c x
    rw [show quot (a :: b :: l) c = eval (b :: l) c :: quot (b :: l) c from rfl, eval_cons a, eval_cons a, eval_cons (eval (b :: l) c), ih]
    exact F.r_quot _ _ _ _ _
theorem zero_all : ∀ (pts p : List F), pts.Nodup → p.length ≤ pts.length → (∀ c ∈ pts, eval p c = 0) → ∀ x, eval p x = 0
  | [], p, _, h, _, x => by
    cases p with
    | nil => rfl
    | cons a l => simp at h
  | c :: pts, p, hn, h, hz, x => by
    obtain ⟨hc, hn'⟩ := List.nodup_cons.1 hn
    have h0 := hz c (List.mem_cons_self ..)
    have hq : ∀ d ∈ pts, eval (quot p c) d = 0 := fun d hd => by
      have e := quot_is p c d
      rw [hz d (List.mem_cons_of_mem _ hd), h0, F.zero_add] at e
      have hne : d - c ≠ 0 := fun e' => hc (F.eq_of_sub e' ▸ hd)
      exact F.no_div hne e.symm
    have := zero_all pts (quot p c) hn' (by rw [quot_len]; simp at h; omega) hq x
    rw [quot_is p c x, h0, this, F.mul_zero, F.add_zero]

/-- a function that is a polynomial of n factors -/
def Pol (n : Nat) (f : F → F) : Prop := ∃ p : List F, p.length ≤ n ∧ ∀ x, f x = eval p x
theorem Pol.mono {n m : Nat} {f : F → F} (h : Pol n f) (hm : n ≤ m) : Pol m f := by
  obtain ⟨p, hp, e⟩ := h; exact ⟨p, Nat.le_trans hp hm, e⟩
theorem Pol.of_list (p : List F) : Pol p.length (eval p) := ⟨p, Nat.le_refl _, fun _ => rfl⟩
theorem Pol.zero (n : Nat) : Pol n fun _ => 0 := ⟨[], Nat.zero_le _, fun _ => rfl⟩
theorem Pol.const (c : F) : Pol 1 fun _ => c := ⟨[c], Nat.le_refl _, fun x => by rw [eval_cons, eval_nil, F.mul_zero, F.add_zero]⟩
theorem Pol.congr {n : Nat} {f g : F → F} (h : Pol n f) (e : ∀ x, g x = f x) : Pol n g := by
  obtain ⟨p, hp, e'⟩ := h; exact ⟨p, hp, fun x => (e x).trans (e' x)⟩
def addL : List F → List F → List F
  | [], q => q
  | p, [] => p
  | a :: p, b :: q => (a + b) :: addL p q
theorem addL_len : ∀ (p q : List F) (n : Nat), p.length ≤ n → q.length ≤ n → (addL p q).length ≤ n
  | [], _, _, _, h => h
  | a :: p, [], _, h, _ => h
  | a :: p, b :: q, 0, h, _ => by simp at h
  | a :: p, b :: q, n + 1, h, h' => by
    have := addL_len p q n (by simpa using h) (by simpa using h')
    show (addL p q).length + 1 ≤ n + 1
    omega
theorem addL_is : ∀ (p q : List F) (x : F), eval (addL p q) x = eval p x + eval q x
  | [], q, x => by rw [show addL [] q = q by cases q <;> rfl, eval_nil, F.zero_add]
  | a :: p, [], x => by rw [show addL (a :: p) [] = a :: p from rfl, eval_nil, F.add_zero]
  | a :: p, b :: q, x => by
    rw [show addL (a :: p) (b :: q) = (a + b) :: addL p q from rfl, eval_cons, eval_cons, eval_cons, addL_is p q x]; exact F.r_add _ _ _ _ _
theorem Pol.add {n : Nat} {f g : F → F} (hf : Pol n f) (hg : Pol n g) : Pol n fun x => f x + g x := by
  obtain ⟨p, hp, e⟩ := hf
  obtain ⟨q, hq, e'⟩ := hg
  exact ⟨addL p q, addL_len p q n hp hq, fun x => by rw [addL_is, ← e, ← e']⟩
theorem eval_scale (c : F) (p : List F) (x : F) : eval (p.map (c * ·)) x = c * eval p x := by
  induction p with
  | nil => simp only [List.map_nil, eval_nil, F.mul_zero]
  | cons a l ih => rw [List.map_cons, eval_cons, eval_cons, ih]; exact F.r_scale _ _ _ _
theorem Pol.scale {n : Nat} {f : F → F} (c : F) (hf : Pol n f) : Pol n fun x => c * f x := by
  obtain ⟨p, hp, e⟩ := hf
  exact ⟨p.map (c * ·), by simpa using hp, fun x => by rw [eval_scale, ← e]⟩
theorem Pol.shift {n : Nat} {f : F → F} (hf : Pol n f) : Pol (n + 1) fun x => x * f x := by
  obtain ⟨p, hp, e⟩ := hf
  exact ⟨0 :: p, by simpa using hp, fun x => by rw [eval_cons, ← e, F.zero_add]⟩
/-- times x - c -/
theorem Pol.lin {n : Nat} {f : F → F} (c : F) (hf : Pol n f) : Pol (n + 1) fun x => (x - c) * f x :=
  (hf.shift.add ((hf.scale (F.neg c)).mono (Nat.le_succ _))).congr fun x => F.r_lin x c (f x)
theorem Pol.sub {n : Nat} {f g : F → F} (hf : Pol n f) (hg : Pol n g) : Pol n fun x => f x - g x :=
  (hf.add (hg.scale (F.neg 1))).congr fun x => F.r_sub (f x) (g x)
/-- AS MANY POINTS AS FACTORS TELL IT ALL -/
theorem Pol.only {n : Nat} {f g : F → F} (hf : Pol n f) (hg : Pol n g) (pts : List F) (hn : pts.Nodup) (hl : n ≤ pts.length) (h : ∀ c ∈ pts, f c = g c) (x : F) : f x = g x := by
  obtain ⟨p, hp, e⟩ := hf.sub hg
  have := zero_all pts p hn (Nat.le_trans hp hl) (fun c hc => by rw [← e]; show f c - g c = 0; rw [h c hc, F.sub_self]) x
  have e' := e x
  rw [this] at e'
  exact F.eq_of_sub e'

/-- Neville's table: through the points i to i + k -/
def nev (a b : Nat → F) : Nat → Nat → F → F
  | 0, i, _ => b i
  | k + 1, i, x => ((x - a (i + (k + 1))) * nev a b k i x + (a i - x) * nev a b k (i + 1) x) * F.inv (a i - a (i + (k + 1)))
theorem nev_pol (a b : Nat → F) : ∀ (k i : Nat), Pol (k + 1) (nev a b k i)
  | 0, i => Pol.const (b i)
  | k + 1, i => by
    have h1 := (nev_pol a b k i).lin (a (i + (k + 1)))
    have h2 := ((nev_pol a b k (i + 1)).lin (a i)).scale (F.neg 1)
    refine ((h1.add h2).scale (F.inv (a i - a (i + (k + 1))))).congr fun x => ?_
    show ((x - a (i + (k + 1))) * nev a b k i x + (a i - x) * nev a b k (i + 1) x) * F.inv (a i - a (i + (k + 1))) = _
    exact F.r_nev _ _ _ _ _ _
theorem nev_at (a b : Nat → F) (n : Nat) (ha : ∀ i j, i < n → j < n → a i = a j → i = j) : ∀ (k i : Nat), i + k < n → ∀ j, i ≤ j → j ≤ i + k → nev a b k i (a j) = b j
  | 0, i, _, j, h1, h2 => by
    obtain rfl : i = j := by omega
    rfl
  | k + 1, i, hk, j, h1, h2 => by
    have hd : a i - a (i + (k + 1)) ≠ 0 := fun e => by
      have := ha i (i + (k + 1)) (by omega) (by omega) (F.eq_of_sub e)
      omega
    show ((a j - a (i + (k + 1))) * nev a b k i (a j) + (a i - a j) * nev a b k (i + 1) (a j)) * F.inv (a i - a (i + (k + 1))) = b j
    by_cases e1 : j = i
    · subst e1
      rw [nev_at a b n ha k j (by omega) j (by omega) (by omega), F.sub_self, F.zero_mul, F.add_zero, F.mul_back hd]
    · by_cases e2 : j = i + (k + 1)
      · rw [nev_at a b n ha k (i + 1) (by omega) j (by omega) (by omega)]
        subst e2
        rw [F.sub_self, F.zero_mul, F.zero_add, F.mul_back hd]
      · rw [nev_at a b n ha k i (by omega) j (by omega) (by omega), nev_at a b n ha k (i + 1) (by omega) j (by omega) (by omega)]
        rw [F.r_same, F.mul_back hd]

/-- the place of the i-th point, and what is there -/
def ptA (l : List (Int × Int)) (i : Nat) : F := F.of (l.getD i (0, 0)).1
def ptB (l : List (Int × Int)) (i : Nat) : F := F.of (l.getD i (0, 0)).2
/-- what goes through the points, at x -/
def next (l : List (Int × Int)) (x : Int) : Int := ((nev (ptA l) (ptB l) (l.length - 1) 0 (F.of x)).val : Int)
theorem next_range (l : List (Int × Int)) (x : Int) : 0 ≤ next l x ∧ next l x < 257 := by
  have := (nev (ptA l) (ptB l) (l.length - 1) 0 (F.of x)).isLt
  unfold next; omega
theorem of_next (l : List (Int × Int)) (x : Int) : F.of (next l x) = nev (ptA l) (ptB l) (l.length - 1) 0 (F.of x) := by
  obtain ⟨h0, h1⟩ := next_range l x
  apply Fin.ext
  have := F.of_val h0 h1
  unfold next at this ⊢
  omega

/-- points that are right: places and what is there from 0 to 256, no place twice -/
def Right (l : List (Int × Int)) : Prop := (∀ i (h : i < l.length), (0 ≤ l[i].1 ∧ l[i].1 < 257) ∧ (0 ≤ l[i].2 ∧ l[i].2 < 257)) ∧ ∀ i j (hi : i < l.length) (hj : j < l.length), l[i].1 = l[j].1 → i = j
theorem ptA_at {l : List (Int × Int)} {i : Nat} (h : i < l.length) : ptA l i = F.of l[i].1 := by
  unfold ptA; rw [List.getD_eq_getElem?_getD, List.getElem?_eq_getElem h]; rfl
theorem ptB_at {l : List (Int × Int)} {i : Nat} (h : i < l.length) : ptB l i = F.of l[i].2 := by
  unfold ptB; rw [List.getD_eq_getElem?_getD, List.getElem?_eq_getElem h]; rfl
theorem Right.apart {l : List (Int × Int)} (h : Right l) : ∀ i j, i < l.length → j < l.length → ptA l i = ptA l j → i = j := fun i j hi hj e => by
  rw [ptA_at hi, ptA_at hj] at e
  obtain ⟨⟨a0, a1⟩, _⟩ := h.1 i hi
  obtain ⟨⟨b0, b1⟩, _⟩ := h.1 j hj
  exact h.2 i j hi hj (F.of_inj a0 a1 b0 b1 e)
theorem Right.places {l : List (Int × Int)} (h : Right l) : ((List.range l.length).map (ptA l)).Nodup := by
  rw [List.nodup_iff_pairwise_ne, List.pairwise_map]
  refine List.Pairwise.imp_of_mem (R := fun i j => i ≠ j) ?_ List.nodup_range
  intro i j hi hj hij e
  exact hij (h.apart i j (List.mem_range.1 hi) (List.mem_range.1 hj) e)
/-- what goes through the points goes through each -/
theorem next_at {l : List (Int × Int)} (h : Right l) {i : Nat} (hi : i < l.length) : next l l[i].1 = l[i].2 := by
  obtain ⟨_, b0, b1⟩ := h.1 i hi
  obtain ⟨n0, n1⟩ := next_range l l[i].1
  refine F.of_inj n0 n1 b0 b1 ?_
  rw [of_next, ← ptA_at hi, nev_at _ _ l.length h.apart (l.length - 1) 0 (by omega) i (Nat.zero_le _) (by omega), ptB_at hi]
/-- whatever polynomial of as many factors goes through the points is it -/
theorem next_only {l : List (Int × Int)} (h : Right l) (hl : 0 < l.length) {f : F → F} (hf : Pol l.length f) (ht : ∀ i (hi : i < l.length), f (F.of l[i].1) = F.of l[i].2) (x : Int) : F.of (next l x) = f (F.of x) := by
  rw [of_next]
  refine Pol.only (n := l.length) ((nev_pol _ _ (l.length - 1) 0).mono (by omega)) hf _ h.places (by simp) ?_ _
  intro c hc
  obtain ⟨i, hi, rfl⟩ := List.mem_map.1 hc
  have hi' := List.mem_range.1 hi
  rw [nev_at _ _ l.length h.apart (l.length - 1) 0 (by omega) i (Nat.zero_le _) (by omega), ptA_at hi', ht i hi', ptB_at hi']

/-- what a polynomial of whole numbers is at x, round the prime -/
def ev (p : List Int) (x : Int) : Int := ((eval (p.map F.of) (F.of x)).val : Int)
/-- a power of x, round the prime -/
def upI (x : Int) (n : Nat) : Int := ((up (F.of x) n).val : Int)
theorem of_num (v : F) : F.of (v.val : Int) = v := by
  apply Fin.ext
  have h := F.val_of (v.val : Int)
  have := v.isLt
  omega
theorem num_of {z : Int} {v : F} (h : F.of z = v) : z % 257 = (v.val : Int) := by rw [← h, F.val_of]
theorem ev_range (p : List Int) (x : Int) : 0 ≤ ev p x ∧ ev p x < 257 := by
  have := (eval (p.map F.of) (F.of x)).isLt
  unfold ev; omega
theorem upI_range (x : Int) (n : Nat) : 0 ≤ upI x n ∧ upI x n < 257 := by
  have := (up (F.of x) n).isLt
  unfold upI; omega
theorem of_ev (p : List Int) (x : Int) : F.of (ev p x) = eval (p.map F.of) (F.of x) := of_num _
theorem of_upI (x : Int) (n : Nat) : F.of (upI x n) = up (F.of x) n := of_num _
theorem ev_nil (x : Int) : ev [] x = 0 := rfl
theorem upI_zero (x : Int) : upI x 0 = 1 := rfl
/-- from the last factor on -/
theorem ev_cons (c : Int) (p : List Int) (x : Int) : ev (c :: p) x = (c + x * ev p x) % 257 := by
  refine (num_of ?_).symm
  rw [F.of_add, F.of_mul, of_ev, List.map_cons, eval_cons]
/-- from the first factor on -/
theorem ev_snoc (p : List Int) (c x : Int) : ev (p ++ [c]) x = (ev p x + c * upI x p.length) % 257 := by
  refine (num_of ?_).symm
  rw [F.of_add, F.of_mul, of_ev, of_upI, List.map_append, List.map_cons, List.map_nil, eval_snoc, List.length_map, F.mul_comm (F.of c)]
theorem upI_succ (x : Int) (n : Nat) : upI x (n + 1) = upI x n * x % 257 := by
  refine (num_of ?_).symm
  rw [F.of_mul, of_upI, F.mul_comm]; rfl
/-- as many points as factors of a polynomial, wherever they are: each other one follows -/
theorem next_ev {l : List (Int × Int)} (h : Right l) (hl : 0 < l.length) (p : List Int) (hp : p.length ≤ l.length) (ht : ∀ i (hi : i < l.length), l[i].2 = ev p l[i].1) (x : Int) : next l x = ev p x := by
  obtain ⟨n0, n1⟩ := next_range l x
  obtain ⟨e0, e1⟩ := ev_range p x
  refine F.of_inj n0 n1 e0 e1 ?_
  rw [of_ev]
  refine next_only h hl (f := eval (p.map F.of)) ((Pol.of_list _).mono (by simpa using hp)) ?_ x
  intro i hi
  rw [ht i hi, of_ev]

end Go.Proofs.YtmhkngceeeibpajDoor.M

namespace Go.Proofs.YtmhkngceeeibpajDoor.M

/-- the first of some numbers that is not 0 -/
def first (f : Nat → Int) : Nat → Int
  | 0 => 0
  | k + 1 => if first f k ≠ 0 then first f k else f k
theorem first_next {f : Nat → Int} {k : Nat} (h : first f k = 0) : first f (k + 1) = f k := by
  show (if first f k ≠ 0 then first f k else f k) = _
  rw [if_neg (by simpa using h)]
theorem first_stays {f : Nat → Int} {k : Nat} (h : first f k ≠ 0) : ∀ m, first f (k + m) = first f k
  | 0 => rfl
  | m + 1 => by
    show (if first f (k + m) ≠ 0 then first f (k + m) else f (k + m)) = _
    rw [first_stays h m, if_pos h]
theorem first_bad {f : Nat → Int} {k n : Nat} (hk : k < n) (h0 : first f k = 0) (h : f k ≠ 0) : first f n = f k := by
  have e := first_next h0
  obtain ⟨m, rfl⟩ : ∃ m, n = k + 1 + m := ⟨n - (k + 1), by omega⟩
  rw [first_stays (by rw [e]; exact h), e]
theorem first_all {f : Nat → Int} : ∀ {n : Nat}, first f n = 0 → ∀ k, k < n → f k = 0
  | 0, _, k, hk => by omega
  | n + 1, h, k, hk => by
    have h' : (if first f n ≠ 0 then first f n else f n) = 0 := h
    by_cases h0 : first f n = 0
    · rw [if_neg (by simpa using h0)] at h'
      rcases Nat.lt_succ_iff_lt_or_eq.1 hk with g | g
      · exact first_all h0 k g
      · rw [g]; exact h'
    · rw [if_pos h0] at h'; exact absurd h' h0

/-- a number of the chapter's -/
def inR (a : Int) : Bool := decide (0 ≤ a ∧ a < 257)
theorem inR_yes {a : Int} (h : inR a = true) : 0 ≤ a ∧ a < 257 := of_decide_eq_true h
theorem inR_no {a : Int} (h : inR a = false) : a < 0 ∨ 257 ≤ a := by have := of_decide_eq_false h; omega
theorem inR_mk {a : Int} (h0 : 0 ≤ a) (h1 : a < 257) : inR a = true := decide_eq_true ⟨h0, h1⟩

/- factors -/
def facF (p : List Int) (i : Nat) : Int := if inR (p.getD i 0) = true then 0 else 1
def facE (p : List Int) : Int := if 7 < p.length then 4 else first (facF p) p.length
theorem facF_at {p : List Int} {i : Nat} (h : i < p.length) : facF p i = if inR p[i] = true then 0 else 1 := by
  unfold facF; rw [List.getD_eq_getElem?_getD, List.getElem?_eq_getElem h]; rfl
theorem facE_many {p : List Int} (h : 7 < p.length) : facE p = 4 := by unfold facE; rw [if_pos h]
theorem facE_few {p : List Int} (h : ¬ 7 < p.length) : facE p = first (facF p) p.length := by unfold facE; rw [if_neg h]
theorem facE_ok {p : List Int} (h : facE p = 0) : p.length ≤ 7 ∧ ∀ i (hi : i < p.length), 0 ≤ p[i] ∧ p[i] < 257 := by
  by_cases h7 : 7 < p.length
  · rw [facE_many h7] at h; exact absurd h (by decide)
  · rw [facE_few h7] at h
    refine ⟨by omega, fun i hi => ?_⟩
    have := first_all h i hi
    rw [facF_at hi] at this
    by_cases hr : inR p[i] = true
    · exact inR_yes hr
    · rw [if_neg hr] at this; exact absurd this (by decide)
theorem fac_first (p : List Int) : ∀ n, first (facF p) n = 0 ∨ first (facF p) n = 1
  | 0 => Or.inl rfl
  | n + 1 => by
    have ih := fac_first p n
    by_cases h : first (facF p) n = 0
    · rw [first_next h]
      unfold facF
      split
      · exact Or.inl rfl
      · exact Or.inr rfl
    · show (if first (facF p) n ≠ 0 then first (facF p) n else facF p n) = 0 ∨ (if first (facF p) n ≠ 0 then first (facF p) n else facF p n) = 1
      rw [if_pos h]; exact ih
/-- what At answers -/
def atE (p : List Int) (x : Int) : Int := if facE p ≠ 0 then facE p else if inR x = true then 0 else 1
def atR (p : List Int) (x : Int) : Int := if atE p x = 0 then ev p x else 0
theorem atE_ok {p : List Int} {x : Int} (h : atE p x = 0) : facE p = 0 ∧ inR x = true := by
  unfold atE at h
  by_cases h0 : facE p = 0
  · rw [if_neg (by simpa using h0)] at h
    by_cases hx : inR x = true
    · exact ⟨h0, hx⟩
    · rw [if_neg hx] at h; exact absurd h (by decide)
  · rw [if_pos h0] at h; exact absurd h h0
theorem atE_fac {p : List Int} {x : Int} (h : facE p ≠ 0) : atE p x = facE p := by unfold atE; rw [if_pos h]
theorem atE_x {p : List Int} {x : Int} (h : facE p = 0) (hx : inR x = false) : atE p x = 1 := by
  unfold atE; rw [if_neg (by simpa using h), hx]; rfl
theorem atE_0 {p : List Int} {x : Int} (h : facE p = 0) (hx : inR x = true) : atE p x = 0 := by
  unfold atE; rw [if_neg (by simpa using h), if_pos hx]
theorem atR_ok {p : List Int} {x : Int} (h : atE p x = 0) : atR p x = ev p x := by unfold atR; rw [if_pos h]
theorem atR_bad {p : List Int} {x : Int} (h : atE p x ≠ 0) : atR p x = 0 := by unfold atR; rw [if_neg h]

/- points -/
def pt (l : List (Int × Int)) (i : Nat) : Int × Int := l.getD i (0, 0)
theorem pt_at {l : List (Int × Int)} {i : Nat} (h : i < l.length) : pt l i = l[i] := by
  unfold pt; rw [List.getD_eq_getElem?_getD, List.getElem?_eq_getElem h]; rfl
/-- one ahead has that place -/
def ahead (l : List (Int × Int)) (i : Nat) (a : Int) : Bool := (l.take i).any fun q => q.1 == a
theorem ahead_zero (l : List (Int × Int)) (a : Int) : ahead l 0 a = false := by simp [ahead]
theorem ahead_succ {l : List (Int × Int)} {i : Nat} (h : i < l.length) (a : Int) : ahead l (i + 1) a = (ahead l i a || l[i].1 == a) := by
  unfold ahead; rw [List.take_succ_eq_append_getElem h, List.any_append]; simp
theorem ahead_hit {l : List (Int × Int)} {i j : Nat} (hj : j < i) (h : j < l.length) (a : Int) (e : l[j].1 = a) : ahead l i a = true := by
  unfold ahead
  rw [List.any_eq_true]
  exact ⟨l[j], List.mem_take_iff_getElem.2 ⟨j, by omega, rfl⟩, by simpa using e⟩
theorem ahead_mono {l : List (Int × Int)} {i j : Nat} (h : i ≤ j) {a : Int} (e : ahead l i a = true) : ahead l j a = true := by
  unfold ahead at e ⊢
  rw [List.any_eq_true] at e ⊢
  obtain ⟨q, hq, hqa⟩ := e
  exact ⟨q, (List.take_subset_take_left l h) hq, hqa⟩
def okP (l : List (Int × Int)) (i : Nat) : Bool := inR (pt l i).1 && inR (pt l i).2
def ptF (l : List (Int × Int)) (i : Nat) : Int := if okP l i = true then (if ahead l i (pt l i).1 = true then 7 else 0) else 1
def ptsE (l : List (Int × Int)) : Int := if l.length = 0 then 5 else if 7 < l.length then 4 else first (ptF l) l.length
theorem ptF_range {l : List (Int × Int)} {i : Nat} (h : okP l i = false) : ptF l i = 1 := by unfold ptF; rw [h]; rfl
theorem ptF_clash {l : List (Int × Int)} {i : Nat} (h : okP l i = true) (ha : ahead l i (pt l i).1 = true) : ptF l i = 7 := by unfold ptF; rw [if_pos h, if_pos ha]
theorem ptF_ok {l : List (Int × Int)} {i : Nat} (h : okP l i = true) (ha : ahead l i (pt l i).1 = false) : ptF l i = 0 := by unfold ptF; rw [if_pos h, ha]; rfl
theorem ptsE_none {l : List (Int × Int)} (h : l.length = 0) : ptsE l = 5 := by unfold ptsE; rw [if_pos h]
theorem ptsE_many {l : List (Int × Int)} (h : 7 < l.length) : ptsE l = 4 := by unfold ptsE; rw [if_neg (by omega), if_pos h]
theorem ptsE_some {l : List (Int × Int)} (h0 : 0 < l.length) (h : l.length ≤ 7) : ptsE l = first (ptF l) l.length := by unfold ptsE; rw [if_neg (by omega), if_neg (by omega)]
theorem ptsE_ok {l : List (Int × Int)} (h : ptsE l = 0) : 0 < l.length ∧ l.length ≤ 7 ∧ Right l := by
  by_cases h0 : l.length = 0
  · rw [ptsE_none h0] at h; exact absurd h (by decide)
  by_cases h7 : 7 < l.length
  · rw [ptsE_many h7] at h; exact absurd h (by decide)
  rw [ptsE_some (by omega) (by omega)] at h
  have hall := first_all h
  have hok : ∀ i, i < l.length → okP l i = true := fun i hi => by
    cases g : okP l i
    · have := hall i hi
      rw [ptF_range g] at this; exact absurd this (by decide)
    · rfl
  have hah : ∀ i (hi : i < l.length), ahead l i l[i].1 = false := fun i hi => by
    cases g : ahead l i l[i].1
    · rfl
    · have := hall i hi
      rw [ptF_clash (hok i hi) (by rw [pt_at hi]; exact g)] at this; exact absurd this (by decide)
  refine ⟨by omega, by omega, fun i hi => ?_, fun i j hi hj e => ?_⟩
  · have := hok i hi
    unfold okP at this
    rw [pt_at hi, Bool.and_eq_true] at this
    exact ⟨inR_yes this.1, inR_yes this.2⟩
  · rcases Nat.lt_trichotomy i j with g | g | g
    · have := ahead_hit g hi l[j].1 e
      rw [hah j hj] at this; exact Bool.noConfusion this
    · exact g
    · have := ahead_hit g hj l[i].1 e.symm
      rw [hah i hi] at this; exact Bool.noConfusion this
/-- what Next answers -/
def nxE (l : List (Int × Int)) (x : Int) : Int := if ptsE l ≠ 0 then ptsE l else if inR x = true then 0 else 1
def nxR (l : List (Int × Int)) (x : Int) : Int := if nxE l x = 0 then next l x else 0
theorem nxE_ok {l : List (Int × Int)} {x : Int} (h : nxE l x = 0) : ptsE l = 0 ∧ inR x = true := by
  unfold nxE at h
  by_cases h0 : ptsE l = 0
  · rw [if_neg (by simpa using h0)] at h
    by_cases hx : inR x = true
    · exact ⟨h0, hx⟩
    · rw [if_neg hx] at h; exact absurd h (by decide)
  · rw [if_pos h0] at h; exact absurd h h0
theorem nxE_pts {l : List (Int × Int)} {x : Int} (h : ptsE l ≠ 0) : nxE l x = ptsE l := by unfold nxE; rw [if_pos h]
theorem nxE_x {l : List (Int × Int)} {x : Int} (h : ptsE l = 0) (hx : inR x = false) : nxE l x = 1 := by
  unfold nxE; rw [if_neg (by simpa using h), hx]; rfl
theorem nxE_0 {l : List (Int × Int)} {x : Int} (h : ptsE l = 0) (hx : inR x = true) : nxE l x = 0 := by
  unfold nxE; rw [if_neg (by simpa using h), if_pos hx]
theorem nxE_zero (l : List (Int × Int)) : nxE l 0 = ptsE l := by
  by_cases h : ptsE l = 0
  · rw [nxE_0 h (by decide), h]
  · exact nxE_pts h
theorem nxR_ok {l : List (Int × Int)} {x : Int} (h : nxE l x = 0) : nxR l x = next l x := by unfold nxR; rw [if_pos h]
theorem nxR_bad {l : List (Int × Int)} {x : Int} (h : nxE l x ≠ 0) : nxR l x = 0 := by unfold nxR; rw [if_neg h]

/- Lagrange -/
/-- all of x - a j, j below k, but that of i, times each other -/
def prod (a : Nat → F) (i : Nat) : Nat → F → F
  | 0, _ => 1
  | k + 1, x => if k = i then prod a i k x else prod a i k x * (x - a k)
theorem prod_skip (a : Nat → F) (i : Nat) (x : F) : prod a i (i + 1) x = prod a i i x := by
  show (if i = i then prod a i i x else _) = _
  rw [if_pos rfl]
theorem prod_step (a : Nat → F) {i k : Nat} (h : k ≠ i) (x : F) : prod a i (k + 1) x = prod a i k x * (x - a k) := by
  show (if k = i then prod a i k x else _) = _
  rw [if_neg h]
theorem prod_pol (a : Nat → F) (i : Nat) : ∀ k, Pol (if i < k then k else k + 1) (prod a i k)
  | 0 => (Pol.const 1).congr fun _ => rfl
  | k + 1 => by
    have ih := prod_pol a i k
    by_cases h : k = i
    · subst h
      rw [if_neg (by omega)] at ih
      rw [if_pos (by omega)]
      exact ih.congr fun x => prod_skip a k x
    · have e : ∀ x, prod a i (k + 1) x = (x - a k) * prod a i k x := fun x => by rw [prod_step a h, F.mul_comm]
      by_cases g : i < k
      · rw [if_pos g] at ih
        rw [if_pos (by omega)]
        exact (ih.lin (a k)).congr e
      · rw [if_neg g] at ih
        rw [if_neg (by omega)]
        exact (ih.lin (a k)).congr e
theorem prod_zero (a : Nat → F) (i : Nat) {j : Nat} (hj : j ≠ i) : ∀ k, j < k → prod a i k (a j) = 0
  | 0, h => by omega
  | k + 1, h => by
    by_cases e : k = i
    · subst e
      rw [prod_skip]
      exact prod_zero a k hj k (by omega)
    · rw [prod_step a e]
      by_cases g : j = k
      · subst g; rw [F.sub_self, F.mul_zero]
      · rw [prod_zero a i hj k (by omega), F.zero_mul]
theorem prod_ne (a : Nat → F) (i n : Nat) (h : ∀ j, j < n → j ≠ i → a i ≠ a j) : ∀ k, k ≤ n → prod a i k (a i) ≠ 0
  | 0, _ => by show (1 : F) ≠ 0; decide
  | k + 1, hk => by
    by_cases e : k = i
    · subst e
      rw [prod_skip]
      exact prod_ne a k n h k (by omega)
    · rw [prod_step a e]
      intro z
      exact h k (by omega) e (F.eq_of_sub (F.no_div (prod_ne a i n h k (by omega)) z))
/-- the polynomial that is 1 at the i-th place, and 0 at all others -/
def wt (a : Nat → F) (n i : Nat) (x : F) : F := prod a i n x * F.inv (prod a i n (a i))
theorem wt_pol (a : Nat → F) {n i : Nat} (h : i < n) : Pol n (wt a n i) := by
  have := prod_pol a i n
  rw [if_pos h] at this
  exact (this.scale (F.inv (prod a i n (a i)))).congr fun x => F.mul_comm _ _
theorem wt_self (a : Nat → F) {n i : Nat} (h : ∀ j, j < n → j ≠ i → a i ≠ a j) : wt a n i (a i) = 1 := F.mul_inv (prod_ne a i n h n (Nat.le_refl _))
theorem wt_other (a : Nat → F) {n i j : Nat} (hj : j < n) (h : j ≠ i) : wt a n i (a j) = 0 := by
  unfold wt; rw [prod_zero a i h n hj, F.zero_mul]
def sum (a b : Nat → F) (n : Nat) : Nat → F → F
  | 0, _ => 0
  | k + 1, x => sum a b n k x + b k * wt a n k x
theorem sum_pol (a b : Nat → F) (n : Nat) : ∀ k, k ≤ n → Pol n (sum a b n k)
  | 0, _ => (Pol.zero n).congr fun _ => rfl
  | k + 1, h => ((sum_pol a b n k (by omega)).add ((wt_pol a (by omega : k < n)).scale (b k))).congr fun _ => rfl
theorem sum_at (a b : Nat → F) {n : Nat} (h : ∀ i j, i < n → j < n → a i = a j → i = j) {j : Nat} (hj : j < n) : ∀ k, k ≤ n → sum a b n k (a j) = if j < k then b j else 0
  | 0, _ => by rw [if_neg (by omega)]; rfl
  | k + 1, hk => by
    show sum a b n k (a j) + b k * wt a n k (a j) = _
    rw [sum_at a b h hj k (by omega)]
    by_cases e : j = k
    · subst e
      rw [if_neg (by omega), if_pos (by omega), wt_self a (fun i hi hne g => hne (h j i hj hi g).symm), F.mul_one, F.zero_add]
    · rw [wt_other a hj e, F.mul_zero, F.add_zero]
      by_cases g : j < k
      · rw [if_pos g, if_pos (by omega)]
      · rw [if_neg g, if_neg (by omega)]
theorem lag {l : List (Int × Int)} (h : Right l) (hl : 0 < l.length) (x : Int) : F.of (next l x) = sum (ptA l) (ptB l) l.length l.length (F.of x) := by
  refine next_only h hl (sum_pol _ _ _ _ (Nat.le_refl _)) ?_ x
  intro i hi
  rw [← ptA_at hi, sum_at (ptA l) (ptB l) h.apart hi _ (Nat.le_refl _), if_pos hi, ptB_at hi]

/- the same in whole numbers -/
def over (l : List (Int × Int)) (i : Nat) (x : Int) (k : Nat) : Int := ((prod (ptA l) i k (F.of x)).val : Int)
theorem over_range (l : List (Int × Int)) (i : Nat) (x : Int) (k : Nat) : 0 ≤ over l i x k ∧ over l i x k < 257 := by
  have := (prod (ptA l) i k (F.of x)).isLt
  unfold over; omega
theorem of_over (l : List (Int × Int)) (i : Nat) (x : Int) (k : Nat) : F.of (over l i x k) = prod (ptA l) i k (F.of x) := of_num _
theorem over_zero (l : List (Int × Int)) (i : Nat) (x : Int) : over l i x 0 = 1 := rfl
theorem over_skip (l : List (Int × Int)) (i : Nat) (x : Int) : over l i x (i + 1) = over l i x i := by unfold over; rw [prod_skip]
theorem over_step {l : List (Int × Int)} {i k : Nat} (h : k ≠ i) (hk : k < l.length) (x : Int) : over l i x (k + 1) = over l i x k * ((x - l[k].1 + 257) % 257) % 257 := by
  refine (num_of ?_).symm
  rw [F.of_mul, of_over, F.of_diff, prod_step _ h, ptA_at hk]
theorem under_ne {l : List (Int × Int)} (h : Right l) {i : Nat} (hi : i < l.length) : 0 < over l i l[i].1 l.length := by
  have g := prod_ne (ptA l) i l.length (fun j hj hne e => hne (h.apart i j hi hj e).symm) l.length (Nat.le_refl _)
  rw [ptA_at hi] at g
  have r := over_range l i l[i].1 l.length
  rcases Int.lt_or_eq_of_le r.1 with e | e
  · exact e
  · exfalso; apply g
    rw [← of_over, ← e]; rfl
def wtI (l : List (Int × Int)) (i : Nat) (x : Int) : Int := over l i x l.length * invI (over l i (pt l i).1 l.length) % 257
theorem wtI_range (l : List (Int × Int)) (i : Nat) (x : Int) : 0 ≤ wtI l i x ∧ wtI l i x < 257 := by unfold wtI; omega
theorem of_wtI {l : List (Int × Int)} {i : Nat} (hi : i < l.length) (x : Int) : F.of (wtI l i x) = wt (ptA l) l.length i (F.of x) := by
  have r := over_range l i l[i].1 l.length
  unfold wtI wt
  rw [pt_at hi, F.of_mod, F.of_mul, of_over, F.of_inv _ r.1 r.2, of_over, ptA_at hi]
def sumI (l : List (Int × Int)) (x : Int) (k : Nat) : Int := ((sum (ptA l) (ptB l) l.length k (F.of x)).val : Int)
theorem sumI_range (l : List (Int × Int)) (x : Int) (k : Nat) : 0 ≤ sumI l x k ∧ sumI l x k < 257 := by
  have := (sum (ptA l) (ptB l) l.length k (F.of x)).isLt
  unfold sumI; omega
theorem of_sumI (l : List (Int × Int)) (x : Int) (k : Nat) : F.of (sumI l x k) = sum (ptA l) (ptB l) l.length k (F.of x) := of_num _
theorem sumI_zero (l : List (Int × Int)) (x : Int) : sumI l x 0 = 0 := rfl
theorem sumI_step {l : List (Int × Int)} {k : Nat} (hk : k < l.length) (x : Int) : sumI l x (k + 1) = (sumI l x k + l[k].2 * wtI l k x) % 257 := by
  refine (num_of ?_).symm
  rw [F.of_add, F.of_mul, of_sumI, of_wtI hk, ← ptB_at hk]; rfl
theorem sumI_all {l : List (Int × Int)} (h : Right l) (hl : 0 < l.length) (x : Int) : sumI l x l.length = next l x := by
  obtain ⟨n0, n1⟩ := next_range l x
  obtain ⟨s0, s1⟩ := sumI_range l x l.length
  refine F.of_inj s0 s1 n0 n1 ?_
  rw [of_sumI, lag h hl]

/- Neville's table in whole numbers -/
def nevI (l : List (Int × Int)) (x : Int) (k i : Nat) : Int := ((nev (ptA l) (ptB l) k i (F.of x)).val : Int)
theorem nevI_range (l : List (Int × Int)) (x : Int) (k i : Nat) : 0 ≤ nevI l x k i ∧ nevI l x k i < 257 := by
  have := (nev (ptA l) (ptB l) k i (F.of x)).isLt
  unfold nevI; omega
theorem of_nevI (l : List (Int × Int)) (x : Int) (k i : Nat) : F.of (nevI l x k i) = nev (ptA l) (ptB l) k i (F.of x) := of_num _
theorem nevI_zero {l : List (Int × Int)} (h : Right l) (x : Int) {i : Nat} (hi : i < l.length) : nevI l x 0 i = l[i].2 := by
  obtain ⟨_, b0, b1⟩ := h.1 i hi
  obtain ⟨n0, n1⟩ := nevI_range l x 0 i
  refine F.of_inj n0 n1 b0 b1 ?_
  rw [of_nevI, ← ptB_at hi]; rfl
theorem nevI_step (l : List (Int × Int)) (x : Int) {k i : Nat} (h : i + (k + 1) < l.length) :
    nevI l x (k + 1) i = ((x - l[i + (k + 1)].1 + 257) % 257 * nevI l x k i + (l[i].1 - x + 257) % 257 * nevI l x k (i + 1)) % 257 * pwI ((l[i].1 - l[i + (k + 1)].1 + 257) % 257) 255 257 % 257 := by
  refine (num_of ?_).symm
  rw [F.of_mul, F.of_mod, F.of_add, F.of_mul, F.of_mul, of_nevI, of_nevI, F.of_diff, F.of_diff, F.of_pw _ (by omega) (by omega), F.of_diff, ← ptA_at h, ← ptA_at (by omega : i < l.length)]
  rfl
theorem nevI_all (l : List (Int × Int)) (x : Int) : nevI l x (l.length - 1) 0 = next l x := rfl

end Go.Proofs.YtmhkngceeeibpajDoor.M

namespace Go.Proofs.YtmhkngceeeibpajDoor.M

/-- at 0 a polynomial is its first factor -/
theorem ev_zero {s : Int} (h0 : 0 ≤ s) (h1 : s < 257) (r : List Int) : ev (s :: r) 0 = s := by
  rw [ev_cons]; omega

/-- points of a polynomial, at greater and greater places from 1 to 7 -/
def OnP (p : List Int) (L : List (Int × Int)) : Prop := (∀ i (h : i < L.length), L[i].2 = ev p L[i].1 ∧ 1 ≤ L[i].1 ∧ L[i].1 ≤ 7) ∧ ∀ i j (hi : i < L.length) (hj : j < L.length), i < j → L[i].1 < L[j].1
theorem OnP.nil (p : List Int) : OnP p [] := ⟨fun i h => by simp at h, fun i j h => by simp at h⟩
theorem OnP.snoc {p : List Int} {L : List (Int × Int)} (h : OnP p L) {a : Int} (h1 : 1 ≤ a) (h7 : a ≤ 7) (ha : ∀ i (hi : i < L.length), L[i].1 < a) : OnP p (L ++ [(a, ev p a)]) := by
  have last : ∀ i (hi : i < (L ++ [(a, ev p a)]).length), ¬ i < L.length → (L ++ [(a, ev p a)])[i] = (a, ev p a) := fun i hi g => by
    rw [List.getElem_append_right (by omega)]; simp
  refine ⟨fun i hi => ?_, fun i j hi hj hij => ?_⟩
  · by_cases g : i < L.length
    · rw [List.getElem_append_left g]; exact h.1 i g
    · rw [last i hi g]; exact ⟨rfl, h1, h7⟩
  · have hj' : j < L.length + 1 := by simpa using hj
    have gi : i < L.length := by omega
    rw [List.getElem_append_left gi]
    by_cases g : j < L.length
    · rw [List.getElem_append_left g]; exact h.2 i j gi g hij
    · rw [last j hj g]; exact ha i gi
theorem OnP.take {p : List Int} {L : List (Int × Int)} (h : OnP p L) (k : Nat) : OnP p (L.take k) := by
  refine ⟨fun i hi => ?_, fun i j hi hj hij => ?_⟩
  · rw [List.getElem_take]; exact h.1 i (by rw [List.length_take] at hi; omega)
  · rw [List.getElem_take, List.getElem_take]; exact h.2 i j (by rw [List.length_take] at hi; omega) (by rw [List.length_take] at hj; omega) hij
theorem OnP.right {p : List Int} {L : List (Int × Int)} (h : OnP p L) : Right L := by
  refine ⟨fun i hi => ?_, fun i j hi hj e => ?_⟩
  · obtain ⟨h1, h2, h3⟩ := h.1 i hi
    exact ⟨by omega, by rw [h1]; exact ev_range p _⟩
  · rcases Nat.lt_trichotomy i j with g | g | g
    · have := h.2 i j hi hj g; omega
    · exact g
    · have := h.2 j i hj hi g; omega
/-- as many as there are factors tell it all -/
theorem OnP.tells {p : List Int} {L : List (Int × Int)} (h : OnP p L) (h0 : 0 < L.length) (hl : p.length ≤ L.length) (x : Int) : next L x = ev p x :=
  next_ev h.right h0 p hl (fun i hi => (h.1 i hi).1) x

/-- points of what goes through other points, as many of them: what goes through these goes through those -/
theorem next_via {few L : List (Int × Int)} (hL : Right L) (h0 : 0 < few.length) (hl : L.length = few.length) (ht : ∀ i (hi : i < L.length), L[i].2 = next few L[i].1) (x : Int) : next L x = next few x := by
  obtain ⟨n0, n1⟩ := next_range L x
  obtain ⟨m0, m1⟩ := next_range few x
  refine F.of_inj n0 n1 m0 m1 ?_
  rw [of_next few x]
  refine next_only hL (by omega) (f := nev (ptA few) (ptB few) (few.length - 1) 0) ((nev_pol _ _ (few.length - 1) 0).mono (by omega)) ?_ x
  intro i hi
  rw [ht i hi, of_next]
/-- one fewer, and another number at 0 -/
theorem OnP.other {p : List Int} {L : List (Int × Int)} (h : OnP p L) {o : Int} (o0 : 0 ≤ o) (o1 : o < 257) : Right ((0, o) :: L) := by
  have hR := h.right
  refine ⟨fun i hi => ?_, fun i j hi hj e => ?_⟩
  · cases i with
    | zero => exact ⟨⟨Int.le_refl 0, by simp⟩, o0, o1⟩
    | succ i => exact hR.1 i (by simpa using hi)
  · cases i with
    | zero =>
      cases j with
      | zero => rfl
      | succ j =>
        have := h.1 j (by simpa using hj)
        simp only [List.getElem_cons_zero, List.getElem_cons_succ] at e
        omega
    | succ i =>
      cases j with
      | zero =>
        have := h.1 i (by simpa using hi)
        simp only [List.getElem_cons_zero, List.getElem_cons_succ] at e
        omega
      | succ j =>
        simp only [List.getElem_cons_succ] at e
        rw [hR.2 i j (by simpa using hi) (by simpa using hj) e]

/-- what is dealt: the polynomial at 1, 2, .. -/
def deal (p : List Int) (n : Nat) : List (Int × Int) := (List.range n).map fun (i : Nat) => ((i : Int) + 1, ev p ((i : Int) + 1))
theorem deal_len (p : List Int) (n : Nat) : (deal p n).length = n := by simp [deal]
theorem deal_succ (p : List Int) (n : Nat) : deal p (n + 1) = deal p n ++ [((n : Int) + 1, ev p ((n : Int) + 1))] := by simp [deal, List.range_succ]
theorem deal_at (p : List Int) {n i : Nat} (h : i < n) : (deal p n)[i]'(by rw [deal_len]; exact h) = ((i : Int) + 1, ev p ((i : Int) + 1)) := by simp [deal]
theorem deal_on (p : List Int) {n : Nat} (h : n ≤ 7) : OnP p (deal p n) := by
  refine ⟨fun i hi => ?_, fun i j hi hj hij => ?_⟩
  · rw [deal_len] at hi
    rw [deal_at p hi]
    exact ⟨rfl, by simp only; omega, by simp only; omega⟩
  · rw [deal_len] at hi hj
    rw [deal_at p hi, deal_at p hj]
    simp only; omega
theorem Right.take {l : List (Int × Int)} (h : Right l) (k : Nat) : Right (l.take k) := by
  refine ⟨fun i hi => ?_, fun i j hi hj e => ?_⟩
  · rw [List.getElem_take]; exact h.1 i (by rw [List.length_take] at hi; omega)
  · rw [List.getElem_take, List.getElem_take] at e
    exact h.2 i j (by rw [List.length_take] at hi; omega) (by rw [List.length_take] at hj; omega) e
/-- points that are right are told to be so -/
theorem ptsE_right {l : List (Int × Int)} (h : Right l) (h0 : 0 < l.length) (h7 : l.length ≤ 7) : ptsE l = 0 := by
  rw [ptsE_some h0 h7]
  have : ∀ n, n ≤ l.length → first (ptF l) n = 0 := fun n hn => by
    induction n with
    | zero => rfl
    | succ n ih =>
      rw [first_next (ih (by omega))]
      have hl : n < l.length := by omega
      refine ptF_ok ?_ ?_
      · unfold okP
        rw [pt_at hl, inR_mk (h.1 n hl).1.1 (h.1 n hl).1.2, inR_mk (h.1 n hl).2.1 (h.1 n hl).2.2]; rfl
      · rw [pt_at hl]
        cases g : ahead l n l[n].1
        · rfl
        · exfalso
          unfold ahead at g
          rw [List.any_eq_true] at g
          obtain ⟨q, hq, e⟩ := g
          obtain ⟨j, hj, rfl⟩ := List.mem_take_iff_getElem.1 hq
          have := h.2 j n (by omega) hl (by simpa using e)
          omega
  exact this l.length (Nat.le_refl _)

end Go.Proofs.YtmhkngceeeibpajDoor.M

namespace Go.Proofs.YtmhkngceeeibpajDoor.M

/-- a number of shares that may be -/
def cntB (n : Int) : Bool := decide (1 ≤ n ∧ n ≤ 7)
theorem cntB_yes {n : Int} (h : cntB n = true) : 1 ≤ n ∧ n ≤ 7 := of_decide_eq_true h
theorem cntB_no {n : Int} (h : cntB n = false) : n < 1 ∨ 7 < n := by have := of_decide_eq_false h; omega
theorem cntB_mk {n : Int} (h0 : 1 ≤ n) (h1 : n ≤ 7) : cntB n = true := decide_eq_true ⟨h0, h1⟩

/-- what is wrong with a secret, and with what stands beside it -/
def secE (s : Int) (r : List Int) : Int := if inR s = true then (if 6 < r.length then 4 else first (facF r) r.length) else 1
theorem secE_s {s : Int} {r : List Int} (h : inR s = false) : secE s r = 1 := by unfold secE; rw [h]; rfl
theorem secE_many {s : Int} {r : List Int} (h : inR s = true) (h6 : 6 < r.length) : secE s r = 4 := by unfold secE; rw [if_pos h, if_pos h6]
theorem secE_few {s : Int} {r : List Int} (h : inR s = true) (h6 : ¬ 6 < r.length) : secE s r = first (facF r) r.length := by unfold secE; rw [if_pos h, if_neg h6]

/-- what Deal answers -/
def dealE (s : Int) (r : List Int) (m : Int) : Int := if secE s r ≠ 0 then secE s r else if cntB m = true then (if m ≤ (r.length : Int) then 3 else 0) else 1
def dealR (s : Int) (r : List Int) (m : Int) : List (Int × Int) := if dealE s r m = 0 then deal (s :: r) m.toNat else []
theorem dealE_sec {s : Int} {r : List Int} {m : Int} (h : secE s r ≠ 0) : dealE s r m = secE s r := by unfold dealE; rw [if_pos h]
theorem dealE_cnt {s : Int} {r : List Int} {m : Int} (h : secE s r = 0) (hm : cntB m = false) : dealE s r m = 1 := by
  unfold dealE; rw [if_neg (by simpa using h), hm]; rfl
theorem dealE_few {s : Int} {r : List Int} {m : Int} (h : secE s r = 0) (hm : cntB m = true) (hl : m ≤ (r.length : Int)) : dealE s r m = 3 := by
  unfold dealE; rw [if_neg (by simpa using h), if_pos hm, if_pos hl]
theorem dealE_0 {s : Int} {r : List Int} {m : Int} (h : secE s r = 0) (hm : cntB m = true) (hl : ¬ m ≤ (r.length : Int)) : dealE s r m = 0 := by
  unfold dealE; rw [if_neg (by simpa using h), if_pos hm, if_neg hl]
theorem dealR_bad {s : Int} {r : List Int} {m : Int} (h : dealE s r m ≠ 0) : dealR s r m = [] := by unfold dealR; rw [if_neg h]
theorem dealR_ok {s : Int} {r : List Int} {m : Int} (h : dealE s r m = 0) : dealR s r m = deal (s :: r) m.toNat := by unfold dealR; rw [if_pos h]
theorem secE_ok {s : Int} {r : List Int} (h : secE s r = 0) : (0 ≤ s ∧ s < 257) ∧ r.length ≤ 6 ∧ facE r = 0 := by
  cases hs : inR s
  · rw [secE_s hs] at h; exact absurd h (by decide)
  · by_cases h6 : 6 < r.length
    · rw [secE_many hs h6] at h; exact absurd h (by decide)
    · rw [secE_few hs h6] at h
      exact ⟨inR_yes hs, by omega, by rw [facE_few (by omega)]; exact h⟩
/-- a secret ahead of factors that are right -/
theorem facE_cons {s : Int} {r : List Int} (h0 : 0 ≤ s) (h1 : s < 257) (hl : r.length ≤ 6) (hr : facE r = 0) : facE (s :: r) = 0 := by
  obtain ⟨_, hin⟩ := facE_ok hr
  have hlen : (s :: r).length = r.length + 1 := rfl
  rw [facE_few (by rw [hlen]; omega)]
  have : ∀ n, n ≤ (s :: r).length → first (facF (s :: r)) n = 0 := fun n hn => by
    induction n with
    | zero => rfl
    | succ n ih =>
      rw [first_next (ih (by omega))]
      have hl : n < (s :: r).length := by omega
      rw [facF_at hl]
      cases n with
      | zero => rw [List.getElem_cons_zero, if_pos (inR_mk h0 h1)]
      | succ n =>
        have := hin n (by rw [hlen] at hl; omega)
        rw [List.getElem_cons_succ, if_pos (inR_mk this.1 this.2)]
  exact this _ (Nat.le_refl _)
theorem dealE_ok {s : Int} {r : List Int} {m : Int} (h : dealE s r m = 0) : (0 ≤ s ∧ s < 257) ∧ r.length ≤ 6 ∧ facE r = 0 ∧ (1 ≤ m ∧ m ≤ 7) ∧ (r.length : Int) < m := by
  by_cases h0 : secE s r = 0
  · obtain ⟨h1, h2, h3⟩ := secE_ok h0
    cases hm : cntB m
    · rw [dealE_cnt h0 hm] at h; exact absurd h (by decide)
    · by_cases hl : m ≤ (r.length : Int)
      · rw [dealE_few h0 hm hl] at h; exact absurd h (by decide)
      · exact ⟨h1, h2, h3, cntB_yes hm, by omega⟩
  · rw [dealE_sec h0] at h; exact absurd h h0

/-- what Join answers -/
def joinE (l : List (Int × Int)) (n : Int) : Int := if cntB n = true then (if ptsE l ≠ 0 then ptsE l else if (l.length : Int) < n then 5 else 0) else 1
def joinR (l : List (Int × Int)) (n : Int) : Int := if joinE l n = 0 then next (l.take n.toNat) 0 else 0
theorem joinE_cnt {l : List (Int × Int)} {n : Int} (h : cntB n = false) : joinE l n = 1 := by unfold joinE; rw [h]; rfl
theorem joinE_pts {l : List (Int × Int)} {n : Int} (h : cntB n = true) (hp : ptsE l ≠ 0) : joinE l n = ptsE l := by unfold joinE; rw [if_pos h, if_pos hp]
theorem joinE_few {l : List (Int × Int)} {n : Int} (h : cntB n = true) (hp : ptsE l = 0) (hl : (l.length : Int) < n) : joinE l n = 5 := by
  unfold joinE; rw [if_pos h, if_neg (by simpa using hp), if_pos hl]
theorem joinE_0 {l : List (Int × Int)} {n : Int} (h : cntB n = true) (hp : ptsE l = 0) (hl : ¬ (l.length : Int) < n) : joinE l n = 0 := by
  unfold joinE; rw [if_pos h, if_neg (by simpa using hp), if_neg hl]
theorem joinR_bad {l : List (Int × Int)} {n : Int} (h : joinE l n ≠ 0) : joinR l n = 0 := by unfold joinR; rw [if_neg h]
theorem joinR_ok {l : List (Int × Int)} {n : Int} (h : joinE l n = 0) : joinR l n = next (l.take n.toNat) 0 := by unfold joinR; rw [if_pos h]
/-- the first ones of points that are right are right -/
theorem ptsE_take {l : List (Int × Int)} (h : ptsE l = 0) {k : Nat} (h0 : 0 < k) (hk : k ≤ l.length) : ptsE (l.take k) = 0 := by
  obtain ⟨g0, g7, hR⟩ := ptsE_ok h
  have hlen : (l.take k).length = k := by rw [List.length_take]; omega
  exact ptsE_right (hR.take k) (by omega) (by omega)
/-- right points, enough of them -/
theorem join_right {l : List (Int × Int)} {n : Nat} (h : Right l) (h7 : l.length ≤ 7) (h0 : 0 < n) (hn : n ≤ l.length) : joinE l (n : Int) = 0 ∧ joinR l (n : Int) = next (l.take n) 0 := by
  have e := joinE_0 (cntB_mk (n := (n : Int)) (by omega) (by omega)) (ptsE_right h (by omega) h7) (by omega)
  exact ⟨e, by rw [joinR_ok e, Int.toNat_natCast]⟩
/-- through one point it is that anywhere -/
theorem next_one (q : Int × Int) (hq : Right [q]) (x : Int) : next [q] x = q.2 := by
  have h1 := (hq.1 0 (by simp)).2
  simp only [List.getElem_cons_zero] at h1
  have e := next_ev hq (by simp) [q.2] (by simp) (fun i hi => by
    have hi0 : i = 0 := by simpa using hi
    subst hi0
    simp only [List.getElem_cons_zero]
    rw [ev_cons, ev_nil]; omega) x
  rw [e, ev_cons, ev_nil]; omega

end Go.Proofs.YtmhkngceeeibpajDoor.M

namespace Go.Proofs.YtmhkngceeeibpajDoor.M

/-- 64 to a power, modulo 1543 -/
def g (n : Nat) : Nat := pw 64 n 1543
theorem g_lt (n : Nat) : g n < 1543 := pw_lt (by decide)
theorem g_zero : g 0 = 1 := by decide +kernel
theorem g_one : g 1 = 64 := by decide +kernel
theorem g_round : g 257 = 1 := by decide +kernel
theorem g_add (n m : Nat) : g n * g m % 1543 = g (n + m) := pw_add 64 n m 1543
theorem g_pow (n m : Nat) : pw (g n) m 1543 = g (n * m) := by
  unfold g pw
  rw [← Nat.pow_mod, ← Nat.pow_mul]
theorem g_times (n k : Nat) : g (n + 257 * k) = g n := by
  induction k with
  | zero => rfl
  | succ k ih =>
    have h := g_add (n + 257 * k) 257
    rw [g_round, Nat.mul_one, ih, Nat.mod_eq_of_lt (g_lt n)] at h
    rw [Nat.mul_add, Nat.mul_one, ← Nat.add_assoc, ← h]
theorem g_mod (n : Nat) : g (n % 257) = g n := by
  have h := g_times (n % 257) (n / 257)
  rw [Nat.mod_add_div] at h
  exact h.symm
theorem g_pos (n : Nat) : 1 ≤ g n := by
  rw [← g_mod n]
  have : ∀ k, k < 257 → 1 ≤ g k := by decide +kernel
  exact this _ (Nat.mod_lt _ (by decide))
theorem g_first : ∀ k, k < 257 → g k = 1 → k = 0 := by decide +kernel
theorem g_le {a b : Nat} (hb : b < 257) (hab : a ≤ b) (h : g a = g b) : a = b := by
  have h1 := g_add b (257 - a)
  rw [← h, g_add a (257 - a), show a + (257 - a) = 257 by omega, g_round] at h1
  have h2 : g (b - a) = 1 := by
    rw [← g_times (b - a) 1, h1]
    congr 1; omega
  have := g_first (b - a) (by omega) h2
  omega
/-- of two powers below 257 each has its own -/
theorem g_own {a b : Nat} (ha : a < 257) (hb : b < 257) (h : g a = g b) : a = b := by
  rcases Nat.le_total a b with k | k
  · exact g_le hb k h
  · exact (g_le ha k h.symm).symm

/-- on whole numbers -/
def gI (n : Int) : Int := (g n.toNat : Nat)
theorem gI_is (n : Int) : pwI 64 n 1543 = gI n := rfl
theorem gI_range (n : Int) : 1 ≤ gI n ∧ gI n < 1543 := by
  have h1 := g_pos n.toNat
  have h2 := g_lt n.toNat
  unfold gI
  omega
theorem gI_own {a b : Int} (a0 : 0 ≤ a) (a1 : a < 257) (b0 : 0 ≤ b) (b1 : b < 257) (h : gI a = gI b) : a = b := by
  have := g_own (a := a.toNat) (b := b.toNat) (by omega) (by omega) (by unfold gI at h; omega)
  omega
theorem gI_step {e c u : Int} (he : 0 ≤ e) (hc : 0 ≤ c) (hu : 0 ≤ u) : gI e * pwI (gI c) u 1543 % 1543 = gI ((e + c * u) % 257) := by
  obtain ⟨e', rfl⟩ : ∃ k : Nat, e = k := ⟨e.toNat, by omega⟩
  obtain ⟨c', rfl⟩ : ∃ k : Nat, c = k := ⟨c.toNat, by omega⟩
  obtain ⟨u', rfl⟩ : ∃ k : Nat, u = k := ⟨u.toNat, by omega⟩
  have h1 : pwI (gI (c' : Int)) (u' : Int) 1543 = (g (c' * u') : Nat) := by
    unfold pwI gI
    simp only [Int.toNat_natCast]
    rw [show (1543 : Int).toNat = 1543 from rfl, g_pow]
  have h2 : (((e' : Int) + (c' : Int) * (u' : Int)) % 257).toNat = (e' + c' * u') % 257 := by
    have : (e' : Int) + (c' : Int) * (u' : Int) = ((e' + c' * u' : Nat) : Int) := by
      rw [Int.natCast_add, Int.natCast_mul]
    rw [this]; omega
  rw [h1]
  unfold gI
  rw [h2, g_mod, ← g_add]
  simp only [Int.toNat_natCast]
  rw [Int.natCast_emod, Int.natCast_mul]
  rfl

/-- what is committed to -/
def commits (p : List Int) : List Int := p.map gI
theorem commits_len (p : List Int) : (commits p).length = p.length := by simp [commits]
theorem commits_at {p : List Int} {i : Nat} (h : i < p.length) : (commits p)[i]'(by rw [commits_len]; exact h) = gI p[i] := by simp [commits]
theorem commits_snoc (p : List Int) (z : Int) : commits (p ++ [z]) = commits p ++ [gI z] := by simp [commits]

/-- the product of the first k of some numbers, each to a power of the place -/
def mul (c : List Int) (x : Int) : Nat → Int
  | 0 => 1
  | k + 1 => mul c x k * pwI (c.getD k 0) (upI x k) 1543 % 1543
theorem mul_range (c : List Int) (x : Int) : ∀ k, 0 ≤ mul c x k ∧ mul c x k < 1543
  | 0 => by show (0 : Int) ≤ 1 ∧ (1 : Int) < 1543; decide
  | k + 1 => by unfold mul; omega
theorem mul_step {c : List Int} (x : Int) {k : Nat} (h : k < c.length) : mul c x (k + 1) = mul c x k * pwI c[k] (upI x k) 1543 % 1543 := by
  show mul c x k * pwI (c.getD k 0) (upI x k) 1543 % 1543 = _
  rw [List.getD_eq_getElem?_getD, List.getElem?_eq_getElem h]; rfl
/-- whether a share is one of these -/
def trueB (c : List Int) (x y : Int) : Bool := mul c x c.length == gI y
/-- of a polynomial's commits it is 64 to what the polynomial is there -/
theorem mul_commits {p : List Int} (hp : ∀ i (h : i < p.length), 0 ≤ p[i]) (x : Int) : ∀ k, k ≤ p.length → mul (commits p) x k = gI (ev (p.take k) x)
  | 0, _ => by
    rw [List.take_zero, ev_nil]
    show (1 : Int) = gI 0
    decide +kernel
  | k + 1, h => by
    have hk : k < p.length := by omega
    have ih := mul_commits hp x k (by omega)
    have hl : (p.take k).length = k := by rw [List.length_take]; omega
    rw [mul_step x (by rw [commits_len]; exact hk), ih, commits_at hk, gI_step (ev_range _ _).1 (hp k hk) (upI_range _ _).1, List.take_succ_eq_append_getElem hk, ev_snoc, hl]
/-- a true share is told, a false one caught -/
theorem true_iff {p : List Int} (hp : ∀ i (h : i < p.length), 0 ≤ p[i]) {x y : Int} (y0 : 0 ≤ y) (y1 : y < 257) : trueB (commits p) x y = (ev p x == y) := by
  unfold trueB
  rw [commits_len, mul_commits hp x p.length (Nat.le_refl _), List.take_of_length_le (Nat.le_refl _)]
  by_cases h : ev p x = y
  · rw [h]; simp
  · have h' : ¬ gI (ev p x) = gI y := fun e => h (gI_own (ev_range _ _).1 (ev_range _ _).2 y0 y1 e)
    rw [beq_eq_false_iff_ne.2 h, beq_eq_false_iff_ne.2 h']

/- what is wrong -/
def comE (p : List Int) : Int := if p.length = 0 then 5 else facE p
theorem comE_none {p : List Int} (h : p.length = 0) : comE p = 5 := by unfold comE; rw [if_pos h]
theorem comE_some {p : List Int} (h : p.length ≠ 0) : comE p = facE p := by unfold comE; rw [if_neg h]
/-- what Commit answers -/
def comR (p : List Int) : List Int := if comE p = 0 then commits p else []
theorem comR_ok {p : List Int} (h : comE p = 0) : comR p = commits p := by unfold comR; rw [if_pos h]
theorem comR_bad {p : List Int} (h : comE p ≠ 0) : comR p = [] := by unfold comR; rw [if_neg h]
theorem comE_ok {p : List Int} (h : comE p = 0) : p.length ≠ 0 ∧ facE p = 0 := by
  have h0 : p.length ≠ 0 := fun e => by rw [comE_none e] at h; exact absurd h (by decide)
  exact ⟨h0, by rwa [comE_some h0] at h⟩
theorem comR_len (p : List Int) : (comR p).length ≤ 7 := by
  by_cases h : comE p = 0
  · rw [comR_ok h, commits_len]; exact (facE_ok (comE_ok h).2).1
  · rw [comR_bad h]; decide
/-- a commit that may be -/
def inG (a : Int) : Bool := decide (1 ≤ a ∧ a < 1543)
theorem inG_yes {a : Int} (h : inG a = true) : 1 ≤ a ∧ a < 1543 := of_decide_eq_true h
theorem inG_no {a : Int} (h : inG a = false) : a < 1 ∨ 1542 < a := by have := of_decide_eq_false h; omega
theorem inG_mk {a : Int} (h0 : 1 ≤ a) (h1 : a < 1543) : inG a = true := decide_eq_true ⟨h0, h1⟩
def cmtF (c : List Int) (i : Nat) : Int := if inG (c.getD i 0) = true then 0 else 1
theorem cmtF_at {c : List Int} {i : Nat} (h : i < c.length) : cmtF c i = if inG c[i] = true then 0 else 1 := by
  unfold cmtF; rw [List.getD_eq_getElem?_getD, List.getElem?_eq_getElem h]; rfl
def cmtE (c : List Int) : Int := if c.length = 0 then 5 else if 7 < c.length then 4 else first (cmtF c) c.length
theorem cmtE_none {c : List Int} (h : c.length = 0) : cmtE c = 5 := by unfold cmtE; rw [if_pos h]
theorem cmtE_many {c : List Int} (h : 7 < c.length) : cmtE c = 4 := by unfold cmtE; rw [if_neg (by omega), if_pos h]
theorem cmtE_some {c : List Int} (h0 : 0 < c.length) (h : c.length ≤ 7) : cmtE c = first (cmtF c) c.length := by unfold cmtE; rw [if_neg (by omega), if_neg (by omega)]
theorem cmtE_ok {c : List Int} (h : cmtE c = 0) : 0 < c.length ∧ c.length ≤ 7 ∧ ∀ i (hi : i < c.length), 1 ≤ c[i] ∧ c[i] < 1543 := by
  by_cases h0 : c.length = 0
  · rw [cmtE_none h0] at h; exact absurd h (by decide)
  by_cases h7 : 7 < c.length
  · rw [cmtE_many h7] at h; exact absurd h (by decide)
  rw [cmtE_some (by omega) (by omega)] at h
  refine ⟨by omega, by omega, fun i hi => ?_⟩
  have := first_all h i hi
  rw [cmtF_at hi] at this
  by_cases hr : inG c[i] = true
  · exact inG_yes hr
  · rw [if_neg hr] at this; exact absurd this (by decide)
theorem cmt_first (c : List Int) : ∀ n, first (cmtF c) n = 0 ∨ first (cmtF c) n = 1
  | 0 => Or.inl rfl
  | n + 1 => by
    have ih := cmt_first c n
    by_cases h : first (cmtF c) n = 0
    · rw [first_next h]
      unfold cmtF
      split
      · exact Or.inl rfl
      · exact Or.inr rfl
    · show (if first (cmtF c) n ≠ 0 then first (cmtF c) n else cmtF c n) = 0 ∨ (if first (cmtF c) n ≠ 0 then first (cmtF c) n else cmtF c n) = 1
      rw [if_pos h]; exact ih
/-- what Check answers -/
def chkE (c : List Int) (x y : Int) : Int := if cmtE c ≠ 0 then cmtE c else if inR x = true ∧ inR y = true then 0 else 1
def chkR (c : List Int) (x y : Int) : Bool := decide (chkE c x y = 0) && trueB c x y
theorem chkE_cmt {c : List Int} {x y : Int} (h : cmtE c ≠ 0) : chkE c x y = cmtE c := by unfold chkE; rw [if_pos h]
theorem chkE_xy {c : List Int} {x y : Int} (h : cmtE c = 0) (hxy : inR x = false ∨ inR y = false) : chkE c x y = 1 := by
  unfold chkE
  rw [if_neg (by simpa using h), if_neg (by rcases hxy with e | e <;> rw [e] <;> simp)]
theorem chkE_0 {c : List Int} {x y : Int} (h : cmtE c = 0) (hx : inR x = true) (hy : inR y = true) : chkE c x y = 0 := by
  unfold chkE; rw [if_neg (by simpa using h), if_pos ⟨hx, hy⟩]
theorem chkE_ok {c : List Int} {x y : Int} (h : chkE c x y = 0) : cmtE c = 0 ∧ inR x = true ∧ inR y = true := by
  by_cases h0 : cmtE c = 0
  · cases hx : inR x
    · rw [chkE_xy h0 (Or.inl hx)] at h; exact absurd h (by decide)
    · cases hy : inR y
      · rw [chkE_xy h0 (Or.inr hy)] at h; exact absurd h (by decide)
      · exact ⟨h0, rfl, rfl⟩
  · rw [chkE_cmt h0] at h; exact absurd h h0
theorem chkR_bad {c : List Int} {x y : Int} (h : chkE c x y ≠ 0) : chkR c x y = false := by unfold chkR; rw [decide_eq_false h]; rfl
theorem chkR_ok {c : List Int} {x y : Int} (h : chkE c x y = 0) : chkR c x y = trueB c x y := by unfold chkR; rw [decide_eq_true h]; rfl
/-- what was committed to may be a commit -/
theorem cmtE_commits {p : List Int} (h : comE p = 0) : cmtE (commits p) = 0 := by
  have h0 : p.length ≠ 0 := fun e => by rw [comE_none e] at h; exact absurd h (by decide)
  rw [comE_some h0] at h
  obtain ⟨h7, _⟩ := facE_ok h
  rw [cmtE_some (by rw [commits_len]; omega) (by rw [commits_len]; omega)]
  have : ∀ n, n ≤ (commits p).length → first (cmtF (commits p)) n = 0 := fun n hn => by
    induction n with
    | zero => rfl
    | succ n ih =>
      rw [first_next (ih (by omega))]
      have hl : n < (commits p).length := by omega
      have hl' : n < p.length := by rwa [commits_len] at hl
      rw [cmtF_at hl, commits_at hl', if_pos (inG_mk (gI_range _).1 (gI_range _).2)]
  exact this _ (Nat.le_refl _)

end Go.Proofs.YtmhkngceeeibpajDoor.M

namespace Go.Proofs.YtmhkngceeeibpajDoor.M

/-- a vault: how many have a part, how many tell it, and of each name its factors, the secret first -/
structure Vlt where
  many : Nat
  need : Nat
  g : ByteArray → Option (List Int)
  n : Nat
def Vlt.new (many need : Nat) : Vlt := ⟨many, need, fun _ => none, 0⟩
/-- a vault as it may come to be -/
structure Vlt.Ok (v : Vlt) : Prop where
  one : 1 ≤ v.need
  le : v.need ≤ v.many
  seven : v.many ≤ 7
  twenty : v.n ≤ 20
  kept : ∀ a p, v.g a = some p → p.length = v.need ∧ facE p = 0
theorem Vlt.new_ok {many need : Nat} (h1 : 1 ≤ need) (h2 : need ≤ many) (h3 : many ≤ 7) : (Vlt.new many need).Ok := ⟨h1, h2, h3, Nat.zero_le _, fun _ _ h => by cases h⟩

/-- what is wrong with a Put, and the vault behind it -/
def vputE (v : Vlt) (a : ByteArray) (s : Int) (r : List Int) : Int := if 12 < a.size then 4 else if (v.g a).isSome = true then 7 else if r.length + 1 ≠ v.need then 3 else if dealE s r v.many ≠ 0 then dealE s r v.many else if 20 ≤ v.n then 4 else 0
def vputV (v : Vlt) (a : ByteArray) (s : Int) (r : List Int) : Vlt := if vputE v a s r = 0 then ⟨v.many, v.need, fun b => if b = a then some (s :: r) else v.g b, v.n + 1⟩ else v
section
variable {v : Vlt} {a : ByteArray} {s : Int} {r : List Int}
theorem vputE_long (h : 12 < a.size) : vputE v a s r = 4 := by unfold vputE; rw [if_pos h]
theorem vputE_there (h : ¬ 12 < a.size) (h1 : (v.g a).isSome = true) : vputE v a s r = 7 := by unfold vputE; rw [if_neg h, if_pos h1]
theorem vputE_shape (h : ¬ 12 < a.size) (h1 : v.g a = none) (h2 : r.length + 1 ≠ v.need) : vputE v a s r = 3 := by unfold vputE; rw [if_neg h, h1, if_neg (by simp), if_pos h2]
theorem vputE_deal (h : ¬ 12 < a.size) (h1 : v.g a = none) (h2 : r.length + 1 = v.need) (h3 : dealE s r v.many ≠ 0) : vputE v a s r = dealE s r v.many := by unfold vputE; rw [if_neg h, h1, if_neg (by simp), if_neg (by simpa using h2), if_pos h3]
theorem vputE_full (h : ¬ 12 < a.size) (h1 : v.g a = none) (h2 : r.length + 1 = v.need) (h3 : dealE s r v.many = 0) (h4 : 20 ≤ v.n) : vputE v a s r = 4 := by unfold vputE; rw [if_neg h, h1, if_neg (by simp), if_neg (by simpa using h2), if_neg (by simpa using h3), if_pos h4]
theorem vputE_0 (h : ¬ 12 < a.size) (h1 : v.g a = none) (h2 : r.length + 1 = v.need) (h3 : dealE s r v.many = 0) (h4 : ¬ 20 ≤ v.n) : vputE v a s r = 0 := by unfold vputE; rw [if_neg h, h1, if_neg (by simp), if_neg (by simpa using h2), if_neg (by simpa using h3), if_neg h4]
/-- the six ways of a Put -/
theorem vputE_ways (v : Vlt) (a : ByteArray) (s : Int) (r : List Int) : 12 < a.size ∨ (¬ 12 < a.size ∧ (v.g a).isSome = true) ∨ (¬ 12 < a.size ∧ v.g a = none ∧ r.length + 1 ≠ v.need) ∨ (¬ 12 < a.size ∧ v.g a = none ∧ r.length + 1 = v.need ∧ dealE s r v.many ≠ 0) ∨ (¬ 12 < a.size ∧ v.g a = none ∧ r.length + 1 = v.need ∧ dealE s r v.many = 0 ∧ 20 ≤ v.n) ∨ (¬ 12 < a.size ∧ v.g a = none ∧ r.length + 1 = v.need ∧ dealE s r v.many = 0 ∧ ¬ 20 ≤ v.n) := by
  by_cases h : 12 < a.size
  · exact Or.inl h
  · cases h1 : v.g a with
    | some p => exact Or.inr (Or.inl ⟨h, by simp⟩)
    | none =>
      by_cases h2 : r.length + 1 = v.need
      · by_cases h3 : dealE s r v.many = 0
        · by_cases h4 : 20 ≤ v.n
          · exact Or.inr (Or.inr (Or.inr (Or.inr (Or.inl ⟨h, rfl, h2, h3, h4⟩))))
          · exact Or.inr (Or.inr (Or.inr (Or.inr (Or.inr ⟨h, rfl, h2, h3, h4⟩))))
        · exact Or.inr (Or.inr (Or.inr (Or.inl ⟨h, rfl, h2, h3⟩)))
      · exact Or.inr (Or.inr (Or.inl ⟨h, rfl, h2⟩))
theorem vputE_ok (h : vputE v a s r = 0) : a.size ≤ 12 ∧ v.g a = none ∧ r.length + 1 = v.need ∧ dealE s r v.many = 0 ∧ v.n < 20 := by
  rcases vputE_ways v a s r with q | ⟨q1, q2⟩ | ⟨q1, q2, q3⟩ | ⟨q1, q2, q3, q4⟩ | ⟨q1, q2, q3, q4, q5⟩ | ⟨q1, q2, q3, q4, q5⟩
  · rw [vputE_long q] at h; cases h
  · rw [vputE_there q1 q2] at h; cases h
  · rw [vputE_shape q1 q2 q3] at h; cases h
  · rw [vputE_deal q1 q2 q3 q4] at h; exact absurd h q4
  · rw [vputE_full q1 q2 q3 q4 q5] at h; cases h
  · exact ⟨by omega, q2, q3, q4, by omega⟩
theorem vputV_bad (h : vputE v a s r ≠ 0) : vputV v a s r = v := by unfold vputV; rw [if_neg h]
theorem vputV_many : (vputV v a s r).many = v.many ∧ (vputV v a s r).need = v.need := by
  unfold vputV
  split <;> exact ⟨rfl, rfl⟩
theorem vputV_same (h : vputE v a s r = 0) : (vputV v a s r).g a = some (s :: r) := by unfold vputV; rw [if_pos h]; exact if_pos rfl
theorem vputV_other {b : ByteArray} (hb : b ≠ a) : (vputV v a s r).g b = v.g b := by
  unfold vputV
  split
  · exact if_neg hb
  · rfl
theorem vputV_n (h : vputE v a s r = 0) : (vputV v a s r).n = v.n + 1 := by unfold vputV; rw [if_pos h]
theorem Vlt.Ok.put (hv : v.Ok) : (vputV v a s r).Ok := by
  by_cases h : vputE v a s r = 0
  · obtain ⟨h1, h2, h3, h4, h5⟩ := vputE_ok h
    obtain ⟨e1, e2⟩ := vputV_many (v := v) (a := a) (s := s) (r := r)
    refine ⟨by rw [e2]; exact hv.one, by rw [e1, e2]; exact hv.le, by rw [e1]; exact hv.seven, by rw [vputV_n h]; omega, fun b p hp => ?_⟩
    rw [e2]
    by_cases hb : b = a
    · subst hb
      rw [vputV_same h] at hp
      cases hp
      obtain ⟨d1, d2, d3, _, _⟩ := dealE_ok h4
      exact ⟨by simpa using h3, facE_cons d1.1 d1.2 d2 d3⟩
    · rw [vputV_other hb] at hp
      exact hv.kept b p hp
  · rw [vputV_bad h]; exact hv
end

/-- what Part answers -/
def partE (v : Vlt) (a : ByteArray) (x : Int) : Int := match v.g a with
  | none => 5
  | some _ => if 1 ≤ x ∧ x ≤ v.many then 0 else 1
def partR (v : Vlt) (a : ByteArray) (x : Int) : Int × Int := match v.g a with
  | none => (0, 0)
  | some p => if 1 ≤ x ∧ x ≤ v.many then (x, ev p x) else (0, 0)
/-- what True answers -/
def truE (v : Vlt) (a : ByteArray) (x y : Int) : Int := match v.g a with
  | none => 5
  | some p => chkE (commits p) x y
def truR (v : Vlt) (a : ByteArray) (x y : Int) : Bool := match v.g a with
  | none => false
  | some p => chkR (commits p) x y

/-- a share that cannot be one of so many -/
def outB (many : Nat) (q : Int × Int) : Bool := decide (q.1 < 1) || decide ((many : Int) < q.1) || !inR q.2
/-- it stands among some already -/
def hasB (acc : List (Int × Int)) (x : Int) : Bool := acc.any fun q => q.1 == x
/-- those that are true, each place but once: the next one -/
def goodS (p : List Int) (acc : List (Int × Int)) (q : Int × Int) : List (Int × Int) := if hasB acc q.1 = false ∧ trueB (commits p) q.1 q.2 = true then acc ++ [q] else acc
def goodL (p : List Int) (l : List (Int × Int)) : List (Int × Int) := l.foldl (goodS p) []
theorem goodL_nil (p : List Int) : goodL p [] = [] := rfl
theorem goodL_take {p : List Int} {l : List (Int × Int)} {k : Nat} (h : k < l.length) : goodL p (l.take (k + 1)) = goodS p (goodL p (l.take k)) l[k] := by
  unfold goodL
  rw [List.take_succ_eq_append_getElem h, List.foldl_append]; rfl
theorem goodS_len (p : List Int) (acc : List (Int × Int)) (q : Int × Int) : (goodS p acc q).length ≤ acc.length + 1 := by
  unfold goodS
  split
  · simp
  · omega
theorem goodL_len (p : List Int) (l : List (Int × Int)) : ∀ k, k ≤ l.length → (goodL p (l.take k)).length ≤ k
  | 0, _ => by simp [goodL]
  | k + 1, h => by
    rw [goodL_take (by omega)]
    have h1 := goodS_len p (goodL p (l.take k)) l[k]
    have h2 := goodL_len p l k (by omega)
    omega
/-- whether the next one is taken -/
def takeB (p : List Int) (acc : List (Int × Int)) (q : Int × Int) : Bool := trueB (commits p) q.1 q.2 && !hasB acc q.1
theorem goodS_yes {p : List Int} {acc : List (Int × Int)} {q : Int × Int} (h : takeB p acc q = true) : goodS p acc q = acc ++ [q] := by
  unfold takeB at h
  simp only [Bool.and_eq_true, Bool.not_eq_true'] at h
  unfold goodS
  rw [if_pos ⟨h.2, h.1⟩]
theorem goodS_no {p : List Int} {acc : List (Int × Int)} {q : Int × Int} (h : takeB p acc q = false) : goodS p acc q = acc := by
  unfold takeB at h
  unfold goodS
  rw [if_neg]
  rintro ⟨h1, h2⟩
  rw [h1, h2] at h
  cases h
theorem hasB_snoc (acc : List (Int × Int)) (q : Int × Int) (x : Int) : hasB (acc ++ [q]) x = (hasB acc x || q.1 == x) := by simp [hasB]
theorem hasB_nil (x : Int) : hasB [] x = false := rfl
/-- what Get answers -/
def getE' (v : Vlt) (a : ByteArray) (l : List (Int × Int)) : Int := match v.g a with
  | none => 5
  | some p => if 30 < l.length then 4 else if l.any (outB v.many) = true then 1 else if (goodL p l).length < v.need then 5 else 0
def getR' (v : Vlt) (a : ByteArray) (l : List (Int × Int)) : Int := match v.g a with
  | none => 0
  | some p => if getE' v a l = 0 then next ((goodL p l).take v.need) 0 else 0

/-- true ones, at places of their own from 1 to many -/
structure GoodP (p : List Int) (many : Nat) (acc : List (Int × Int)) : Prop where
  each : ∀ q ∈ acc, (1 ≤ q.1 ∧ q.1 ≤ many) ∧ (0 ≤ q.2 ∧ q.2 < 257) ∧ ev p q.1 = q.2
  own : (acc.map (·.1)).Nodup
theorem GoodP.nil (p : List Int) (many : Nat) : GoodP p many [] := ⟨fun q h => by simp at h, List.nodup_nil⟩
theorem outB_no {many : Nat} {q : Int × Int} (h : outB many q = false) : (1 ≤ q.1 ∧ q.1 ≤ many) ∧ (0 ≤ q.2 ∧ q.2 < 257) := by
  unfold outB at h
  simp only [Bool.or_eq_false_iff, decide_eq_false_iff_not, Bool.not_eq_false'] at h
  obtain ⟨⟨h1, h2⟩, h3⟩ := h
  exact ⟨by omega, inR_yes h3⟩
theorem GoodP.step {p : List Int} {many : Nat} {acc : List (Int × Int)} {q : Int × Int} (hp : ∀ i (h : i < p.length), 0 ≤ p[i]) (h : GoodP p many acc) (hq : outB many q = false) : GoodP p many (goodS p acc q) := by
  obtain ⟨h1, h2⟩ := outB_no hq
  unfold goodS
  split
  · rename_i hc
    obtain ⟨c1, c2⟩ := hc
    have ht := true_iff hp (x := q.1) h2.1 h2.2
    rw [ht] at c2
    have e : ev p q.1 = q.2 := by simpa using c2
    refine ⟨fun z hz => ?_, ?_⟩
    · rcases List.mem_append.1 hz with hz | hz
      · exact h.each z hz
      · rw [List.mem_singleton.1 hz]; exact ⟨h1, h2, e⟩
    · rw [List.map_append, List.nodup_append]
      refine ⟨h.own, by simp, fun x hx y hy e2 => ?_⟩
      rw [List.map_singleton, List.mem_singleton] at hy
      subst hy
      obtain ⟨z, hz, rfl⟩ := List.mem_map.1 hx
      unfold hasB at c1
      rw [List.any_eq_false] at c1
      exact c1 z hz (by simpa using e2)
  · exact h
theorem GoodP.all {p : List Int} {many : Nat} {l : List (Int × Int)} (hp : ∀ i (h : i < p.length), 0 ≤ p[i]) (hl : l.any (outB many) = false) : ∀ k, k ≤ l.length → GoodP p many (goodL p (l.take k))
  | 0, _ => by simpa [goodL] using GoodP.nil p many
  | k + 1, h => by
    rw [goodL_take (by omega)]
    exact (GoodP.all hp hl k (by omega)).step hp (by rw [List.any_eq_false] at hl; simpa using hl l[k] (List.getElem_mem _))
/-- of places from 1 to m there are m at the most -/
theorem few_places : ∀ (m : Nat) (A : List Int), A.Nodup → (∀ x ∈ A, 1 ≤ x ∧ x ≤ (m : Int)) → A.length ≤ m
  | 0, A, _, h => by
    cases A with
    | nil => exact Nat.le_refl _
    | cons x A => have := h x (by simp); omega
  | m + 1, A, hn, h => by
    have h1 := few_places m (A.filter fun x => decide (x ≠ ((m : Int) + 1))) (hn.sublist List.filter_sublist) (fun x hx => by
      obtain ⟨hx1, hx2⟩ := List.mem_filter.1 hx
      have := h x hx1
      have : x ≠ (m : Int) + 1 := by simpa using hx2
      omega)
    have h2 : A.count ((m : Int) + 1) ≤ 1 := List.nodup_iff_count.1 hn _
    have h3 : A.length = A.countP (fun x => decide (x ≠ ((m : Int) + 1))) + A.count ((m : Int) + 1) := by
      rw [List.length_eq_countP_add_countP (fun x => decide (x ≠ ((m : Int) + 1)))]
      congr 1
      rw [List.count_eq_countP]
      apply List.countP_congr
      intro x _
      simp
    rw [← List.countP_eq_length_filter] at h1
    omega
theorem GoodP.len {p : List Int} {many : Nat} {acc : List (Int × Int)} (h : GoodP p many acc) : acc.length ≤ many := by
  have := few_places many (acc.map (·.1)) h.own (fun x hx => by
    obtain ⟨q, hq, rfl⟩ := List.mem_map.1 hx
    exact (h.each q hq).1)
  simpa using this
theorem GoodP.right {p : List Int} {many : Nat} {acc : List (Int × Int)} (h : GoodP p many acc) (h7 : many ≤ 7) : Right acc := by
  refine ⟨fun i hi => ?_, fun i j hi hj e => ?_⟩
  · obtain ⟨h1, h2, _⟩ := h.each acc[i] (List.getElem_mem hi)
    omega
  · have hn := h.own
    rw [List.Nodup, List.pairwise_iff_getElem] at hn
    rcases Nat.lt_trichotomy i j with q | q | q
    · exact absurd (by rw [List.getElem_map, List.getElem_map]; exact e) (hn i j (by simpa using hi) (by simpa using hj) q)
    · exact q
    · exact absurd (by rw [List.getElem_map, List.getElem_map]; exact e.symm) (hn j i (by simpa using hj) (by simpa using hi) q)
/-- SO MANY HONEST ARE ENOUGH: as many true ones as factors tell the secret -/
theorem GoodP.tells {p : List Int} {many need : Nat} {acc : List (Int × Int)} (h : GoodP p many acc) (h7 : many ≤ 7) (h1 : 1 ≤ need) (hp : p.length = need) (hn : need ≤ acc.length) (x : Int) : next (acc.take need) x = ev p x := by
  have hl : (acc.take need).length = need := by rw [List.length_take]; omega
  refine next_ev ((h.right h7).take need) (by omega) p (by omega) (fun i hi => ?_) x
  have hi' : i < acc.length := by omega
  rw [List.getElem_take]
  exact (h.each acc[i] (List.getElem_mem hi')).2.2.symm
/-- one of so many -/
def placeB (many : Nat) (x : Int) : Bool := decide (1 ≤ x ∧ x ≤ (many : Int))
theorem placeB_yes {many : Nat} {x : Int} (h1 : 1 ≤ x) (h2 : x ≤ (many : Int)) : placeB many x = true := decide_eq_true ⟨h1, h2⟩
theorem placeB_no {many : Nat} {x : Int} (h : ¬ (1 ≤ x ∧ x ≤ (many : Int))) : placeB many x = false := decide_eq_false h
theorem outB_place (many : Nat) (x y : Int) : outB many (x, y) = (!placeB many x || !inR y) := by
  unfold outB
  by_cases h1 : x < 1
  · rw [placeB_no (by omega)]; simp [h1]
  · by_cases h2 : (many : Int) < x
    · rw [placeB_no (by omega)]; simp [h2]
    · rw [placeB_yes (by omega) (by omega)]; simp [h1, h2]
/-- what Join makes of too few -/
theorem GoodP.few {p : List Int} {many need : Nat} {acc : List (Int × Int)} (h : GoodP p many acc) (h7 : many ≤ 7) (hn7 : need ≤ 7) (hn : acc.length < need) : joinE acc (need : Int) = 5 ∧ joinR acc (need : Int) = 0 := by
  have hc : cntB (need : Int) = true := cntB_mk (by omega) (by omega)
  have e : joinE acc (need : Int) = 5 := by
    by_cases h0 : acc.length = 0
    · have : acc = [] := List.length_eq_zero_iff.1 h0
      subst this
      exact joinE_pts hc (by decide)
    · exact joinE_few hc (ptsE_right (h.right h7) (by omega) (Nat.le_trans h.len h7)) (by omega)
  exact ⟨e, joinR_bad (by rw [e]; decide)⟩
/-- what Join makes of them -/
theorem GoodP.join {p : List Int} {many need : Nat} {acc : List (Int × Int)} (h : GoodP p many acc) (h7 : many ≤ 7) (h1 : 1 ≤ need) (hn : need ≤ acc.length) : joinE acc (need : Int) = 0 ∧ joinR acc (need : Int) = next (acc.take need) 0 :=
  join_right (h.right h7) (Nat.le_trans h.len h7) (by omega) hn

section
variable {v : Vlt} {a : ByteArray} {l : List (Int × Int)} {p : List Int}
theorem getE_no (h : v.g a = none) : getE' v a l = 5 := by unfold getE'; rw [h]
theorem getE_full (h : v.g a = some p) (h1 : 30 < l.length) : getE' v a l = 4 := by unfold getE'; rw [h]; simp only; rw [if_pos h1]
theorem getE_out (h : v.g a = some p) (h1 : ¬ 30 < l.length) (h2 : l.any (outB v.many) = true) : getE' v a l = 1 := by unfold getE'; rw [h]; simp only; rw [if_neg h1, if_pos h2]
theorem getE_few (h : v.g a = some p) (h1 : ¬ 30 < l.length) (h2 : l.any (outB v.many) = false) (h3 : (goodL p l).length < v.need) : getE' v a l = 5 := by unfold getE'; rw [h]; simp only; rw [if_neg h1, if_neg (by simp [h2]), if_pos h3]
theorem getE_0 (h : v.g a = some p) (h1 : ¬ 30 < l.length) (h2 : l.any (outB v.many) = false) (h3 : ¬ (goodL p l).length < v.need) : getE' v a l = 0 := by unfold getE'; rw [h]; simp only; rw [if_neg h1, if_neg (by simp [h2]), if_neg h3]
theorem getR_bad (h : getE' v a l ≠ 0) : getR' v a l = 0 := by
  unfold getR'
  cases v.g a with
  | none => rfl
  | some p => exact if_neg h
theorem getR_ok (h : v.g a = some p) (h0 : getE' v a l = 0) : getR' v a l = next ((goodL p l).take v.need) 0 := by unfold getR'; rw [h]; exact if_pos h0
theorem Vlt.Ok.nums (hv : v.Ok) (h : v.g a = some p) : (∀ i (hi : i < p.length), 0 ≤ p[i] ∧ p[i] < 257) ∧ comE p = 0 ∧ cmtE (commits p) = 0 := by
  obtain ⟨h1, h2⟩ := hv.kept a p h
  have h3 : comE p = 0 := by rw [comE_some (by have := hv.one; omega)]; exact h2
  exact ⟨(facE_ok h2).2, h3, cmtE_commits h3⟩
/-- the secret is told, if so many do not lie -/
theorem get_tells (hv : v.Ok) {s : Int} {r : List Int} (h : v.g a = some (s :: r)) (h1 : ¬ 30 < l.length) (h2 : l.any (outB v.many) = false) (h3 : ¬ (goodL (s :: r) l).length < v.need) : getE' v a l = 0 ∧ getR' v a l = s := by
  have h0 := getE_0 h h1 h2 h3
  obtain ⟨n1, _, _⟩ := hv.nums h
  have hg := GoodP.all (fun i hi => (n1 i hi).1) h2 l.length (Nat.le_refl _)
  rw [List.take_length] at hg
  refine ⟨h0, ?_⟩
  rw [getR_ok h h0, hg.tells hv.seven hv.one (hv.kept a _ h).1 (by omega)]
  have := n1 0 (by simp)
  exact ev_zero this.1 this.2 r
end

end Go.Proofs.YtmhkngceeeibpajDoor.M
