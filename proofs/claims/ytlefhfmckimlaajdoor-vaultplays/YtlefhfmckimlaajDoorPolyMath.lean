/-
  Plain facts on the field of 257 numbers and on polynomials over it: as many points as factors tell it all. No program is walked here.
-/
import Derived.Test.YtlefhfmckimlaajDoorModMath
namespace Go.Proofs.YtlefhfmckimlaajDoor.M

abbrev F := Fin 257

namespace F
/-- a whole number, round the prime -/
def of (z : Int) : F := ⟨(z % 257).toNat, by omega⟩
theorem val_of (z : Int) : ((of z).val : Int) = z % 257 := by
  show (((z % 257).toNat : Nat) : Int) = z % 257
  omega
theorem of_val {z : Int} (h0 : 0 ≤ z) (h1 : z < 257) : ((of z).val : Int) = z := by rw [val_of]; omega
theorem of_eq {a b : Int} (h : a % 257 = b % 257) : of a = of b := Fin.ext (by show (a % 257).toNat = (b % 257).toNat; rw [h])
theorem eq_of {a b : Int} (h : of a = of b) : a % 257 = b % 257 := by rw [← val_of, ← val_of, h]
theorem of_inj {a b : Int} (a0 : 0 ≤ a) (a1 : a < 257) (b0 : 0 ≤ b) (b1 : b < 257) (h : of a = of b) : a = b := by
  have := eq_of h; omega
theorem of_mod (z : Int) : of (z % 257) = of z := of_eq (by omega)
theorem of_add (a b : Int) : of (a + b) = of a + of b := by
  apply Fin.ext
  have h : ((of (a + b)).val : Int) = ((of a + of b).val : Int) := by
    rw [val_of, Fin.val_add, Int.natCast_emod, Int.natCast_add, val_of, val_of]
    show (a + b) % 257 = (a % 257 + b % 257) % 257
    omega
  omega
theorem of_mul (a b : Int) : of (a * b) = of a * of b := by
  apply Fin.ext
  have h : ((of (a * b)).val : Int) = ((of a * of b).val : Int) := by
    rw [val_of, Fin.val_mul, Int.natCast_emod, Int.natCast_mul, val_of, val_of]
    show a * b % 257 = (a % 257) * (b % 257) % 257
    exact Int.mul_emod a b 257
  omega
theorem of_zero : of 0 = 0 := rfl
theorem of_one : of 1 = 1 := rfl
theorem of_sub (a b : Int) : of (a - b) = of a - of b := by
  apply Fin.ext
  have ha := val_of a
  have hb := val_of b
  have hc := val_of (a - b)
  rw [Fin.sub_def]
  show (of (a - b)).val = (257 - (of b).val + (of a).val) % 257
  omega
theorem lift (x : F) : ∃ z : Int, x = of z := ⟨x.val, by
  apply Fin.ext
  have h := val_of (x.val : Int)
  have := x.isLt
  omega⟩
/-- a difference as it is reckoned: the prime added first -/
theorem of_diff (a b : Int) : of ((a - b + 257) % 257) = of a - of b := by
  rw [of_mod, ← of_sub]; exact of_eq (by omega)
theorem of_ne {a b : Int} (a0 : 0 ≤ a) (a1 : a < 257) (b0 : 0 ≤ b) (b1 : b < 257) (h : a ≠ b) : of a ≠ of b := fun e => h (of_inj a0 a1 b0 b1 e)

/-- the other half -/
def inv (a : F) : F := ⟨M.inv a.val, M.inv_lt _⟩
theorem mul_inv {a : F} (h : a ≠ 0) : a * inv a = 1 := by
  apply Fin.ext
  rw [Fin.val_mul]
  exact inv_is a.val a.isLt fun e => h (Fin.ext e)
/- what rings share, by way of whole numbers -/
theorem mul_one (a : F) : a * 1 = a := by
  obtain ⟨a, rfl⟩ := lift a
  rw [← of_one, ← of_mul, Int.mul_one]
theorem mul_zero (a : F) : a * 0 = 0 := by
  obtain ⟨a, rfl⟩ := lift a
  rw [← of_zero, ← of_mul, Int.mul_zero]
theorem add_zero (a : F) : a + 0 = a := by
  obtain ⟨a, rfl⟩ := lift a
  rw [← of_zero, ← of_add, Int.add_zero]
theorem zero_add (a : F) : 0 + a = a := by
  obtain ⟨a, rfl⟩ := lift a
  rw [← of_zero, ← of_add, Int.zero_add]
theorem mul_comm (a b : F) : a * b = b * a := by
  obtain ⟨a, rfl⟩ := lift a
  obtain ⟨b, rfl⟩ := lift b
  rw [← of_mul, ← of_mul, Int.mul_comm]
theorem mul_assoc (a b c : F) : a * b * c = a * (b * c) := by
  obtain ⟨a, rfl⟩ := lift a
  obtain ⟨b, rfl⟩ := lift b
  obtain ⟨c, rfl⟩ := lift c
  rw [← of_mul, ← of_mul, ← of_mul, ← of_mul, Int.mul_assoc]
theorem sub_self (a : F) : a - a = 0 := by
  obtain ⟨a, rfl⟩ := lift a
  rw [← of_sub, Int.sub_self]; rfl
theorem eq_of_sub {a b : F} (h : a - b = 0) : a = b := by
  obtain ⟨a, rfl⟩ := lift a
  obtain ⟨b, rfl⟩ := lift b
  rw [← of_sub, ← of_zero] at h
  exact of_eq (by have := eq_of h; omega)
theorem mul_add (a b c : F) : a * (b + c) = a * b + a * c := by
  obtain ⟨a, rfl⟩ := lift a
  obtain ⟨b, rfl⟩ := lift b
  obtain ⟨c, rfl⟩ := lift c
  simp only [← of_mul, ← of_add]
  rw [Int.mul_add]
/-- for the division by x - c -/
theorem r_quot (a b x c q : F) : a + x * (b + (x - c) * q) = a + c * b + (x - c) * (b + x * q) := by
  obtain ⟨a, rfl⟩ := lift a
  obtain ⟨b, rfl⟩ := lift b
  obtain ⟨x, rfl⟩ := lift x
  obtain ⟨c, rfl⟩ := lift c
  obtain ⟨q, rfl⟩ := lift q
  simp only [← of_mul, ← of_add, ← of_sub]
  congr 1
  simp only [Int.mul_add, Int.mul_sub, Int.mul_comm, Int.mul_left_comm]
  omega
/-- for sums of polynomials -/
theorem r_add (a b x p q : F) : a + b + x * (p + q) = a + x * p + (b + x * q) := by
  obtain ⟨a, rfl⟩ := lift a
  obtain ⟨b, rfl⟩ := lift b
  obtain ⟨x, rfl⟩ := lift x
  obtain ⟨p, rfl⟩ := lift p
  obtain ⟨q, rfl⟩ := lift q
  simp only [← of_mul, ← of_add]
  congr 1
  simp only [Int.mul_add]
  omega
theorem r_scale (c a x p : F) : c * a + x * (c * p) = c * (a + x * p) := by
  obtain ⟨c, rfl⟩ := lift c
  obtain ⟨a, rfl⟩ := lift a
  obtain ⟨x, rfl⟩ := lift x
  obtain ⟨p, rfl⟩ := lift p
  simp only [← of_mul, ← of_add]
  congr 1
  simp only [Int.mul_add, Int.mul_left_comm]
/-- one less, as a number -/
def neg (c : F) : F := 0 - c
theorem r_lin (x c f : F) : (x - c) * f = x * f + neg c * f := by
  unfold neg
  obtain ⟨x, rfl⟩ := lift x
  obtain ⟨c, rfl⟩ := lift c
  obtain ⟨f, rfl⟩ := lift f
  simp only [← of_zero, ← of_mul, ← of_add, ← of_sub]
  congr 1
  simp only [Int.sub_mul, Int.zero_mul]
  omega
theorem r_sub (f g : F) : f - g = f + neg 1 * g := by
  unfold neg
  obtain ⟨f, rfl⟩ := lift f
  obtain ⟨g, rfl⟩ := lift g
  simp only [← of_one, ← of_zero, ← of_mul, ← of_add, ← of_sub]
  congr 1
  simp only [Int.sub_mul, Int.zero_mul, Int.one_mul]
  omega
theorem r_nev (x a b f g i : F) : ((x - b) * f + (a - x) * g) * i = i * ((x - b) * f + neg 1 * ((x - a) * g)) := by
  unfold neg
  obtain ⟨x, rfl⟩ := lift x
  obtain ⟨a, rfl⟩ := lift a
  obtain ⟨b, rfl⟩ := lift b
  obtain ⟨f, rfl⟩ := lift f
  obtain ⟨g, rfl⟩ := lift g
  obtain ⟨i, rfl⟩ := lift i
  simp only [← of_one, ← of_zero, ← of_mul, ← of_add, ← of_sub]
  congr 1
  simp only [Int.mul_add, Int.sub_mul, Int.mul_sub, Int.mul_assoc, Int.mul_comm, Int.mul_left_comm, Int.mul_one]
  omega
/-- a point that both halves go through -/
theorem r_same (x a b f : F) : (x - b) * f + (a - x) * f = (a - b) * f := by
  obtain ⟨x, rfl⟩ := lift x
  obtain ⟨a, rfl⟩ := lift a
  obtain ⟨b, rfl⟩ := lift b
  obtain ⟨f, rfl⟩ := lift f
  simp only [← of_mul, ← of_add, ← of_sub]
  congr 1
  simp only [Int.sub_mul]
  omega
theorem zero_mul (a : F) : 0 * a = 0 := by rw [mul_comm, mul_zero]
theorem no_div {a b : F} (ha : a ≠ 0) (h : a * b = 0) : b = 0 := by
  have e : b * (a * inv a) = inv a * (a * b) := by
    rw [← mul_assoc, mul_comm (b * a), mul_comm b a]
  rw [mul_inv ha, h, mul_one, mul_zero] at e
  exact e
/-- times a number and its other half -/
theorem mul_back {d : F} (h : d ≠ 0) (b : F) : d * b * inv d = b := by
  rw [mul_comm d b, mul_assoc, mul_inv h, mul_one]
theorem of_inv (a : Int) (h0 : 0 ≤ a) (h1 : a < 257) : of (invI a) = inv (of a) := by
  apply Fin.ext
  show (invI a % 257).toNat = M.inv (of a).val
  have h := of_val h0 h1
  have e : (of a).val = a.toNat := by omega
  rw [e]
  have := invI_range a
  unfold invI at this ⊢
  omega
/-- the other half as a power -/
theorem of_pw (d : Int) (h0 : 0 ≤ d) (h1 : d < 257) : of (pwI d 255 257) = inv (of d) := of_inv d h0 h1
end F

/-- what a polynomial is at x: its factors from that of power 0 on -/
def eval : List F → F → F
  | [], _ => 0
  | c :: l, x => c + x * eval l x
theorem eval_nil (x : F) : eval [] x = 0 := rfl
theorem eval_cons (c : F) (l : List F) (x : F) : eval (c :: l) x = c + x * eval l x := rfl
/-- a power -/
def up (x : F) : Nat → F
  | 0 => 1
  | n + 1 => x * up x n
theorem eval_snoc (l : List F) (c x : F) : eval (l ++ [c]) x = eval l x + up x l.length * c := by
  induction l with
  | nil =>
    show c + x * 0 = 0 + 1 * c
    rw [F.mul_zero, F.add_zero, F.zero_add, F.mul_comm, F.mul_one]
  | cons a l ih =>
    rw [List.cons_append, eval_cons, eval_cons, ih]
    show _ = a + x * eval l x + x * up x l.length * c
    rw [F.mul_add, F.mul_assoc]
    obtain ⟨u, hu⟩ := F.lift (x * eval l x)
    obtain ⟨v, hv⟩ := F.lift (x * (up x l.length * c))
    obtain ⟨a, rfl⟩ := F.lift a
    rw [hu, hv]
    simp only [← F.of_add]
    congr 1
    omega

/-- divided by x - c -/
def quot : List F → F → List F
  | [], _ => []
  | [_], _ => []
  | _ :: b :: l, c => eval (b :: l) c :: quot (b :: l) c
theorem quot_len : ∀ (p : List F) (c : F), (quot p c).length = p.length - 1
  | [], _ => rfl
  | [_], _ => rfl
  | _ :: b :: l, c => by
    show (quot (b :: l) c).length + 1 = _
    rw [quot_len (b :: l) c]; simp
theorem quot_is : ∀ (p : List F) (c x : F), eval p x = eval p c + (x - c) * eval (quot p c) x
  | [], c, x => by simp only [quot, eval_nil, F.mul_zero, F.add_zero]
  | [a], c, x => by simp only [quot, eval_cons, eval_nil, F.mul_zero, F.add_zero]
  | a :: b :: l, c, x => by
    have ih := quot_is (b :: l) c x
    rw [show quot (a :: b :: l) c = eval (b :: l) c :: quot (b :: l) c from rfl, eval_cons a, eval_cons a, eval_cons (eval (b :: l) c), ih]
    exact F.r_quot _ _ _ _ _
theorem zero_all : ∀ (pts p : List F), pts.Nodup → p.length ≤ pts.length → (∀ c ∈ pts, eval p c = 0) → ∀ x, eval p x = 0
  | [], p, _, h, _, x => by
    cases p with
    | nil => rfl
    | cons a l => simp at h
  | c :: pts, p, hn, h, hz, x => by
    obtain ⟨hc, hn'⟩ := List.nodup_cons.1 hn
    have h0 := hz c (List.mem_cons_self ..)
    have hq : ∀ d ∈ pts, eval (quot p c) d = 0 := fun d hd => by
      have e := quot_is p c d
      rw [hz d (List.mem_cons_of_mem _ hd), h0, F.zero_add] at e
      have hne : d - c ≠ 0 := fun e' => hc (F.eq_of_sub e' ▸ hd)
      exact F.no_div hne e.symm
    have := zero_all pts (quot p c) hn' (by rw [quot_len]; simp at h; omega) hq x
    rw [quot_is p c x, h0, this, F.mul_zero, F.add_zero]

/-- a function that is a polynomial of n factors -/
def Pol (n : Nat) (f : F → F) : Prop := ∃ p : List F, p.length ≤ n ∧ ∀ x, f x = eval p x
theorem Pol.mono {n m : Nat} {f : F → F} (h : Pol n f) (hm : n ≤ m) : Pol m f := by
  obtain ⟨p, hp, e⟩ := h; exact ⟨p, Nat.le_trans hp hm, e⟩
theorem Pol.of_list (p : List F) : Pol p.length (eval p) := ⟨p, Nat.le_refl _, fun _ => rfl⟩
theorem Pol.zero (n : Nat) : Pol n fun _ => 0 := ⟨[], Nat.zero_le _, fun _ => rfl⟩
theorem Pol.const (c : F) : Pol 1 fun _ => c := ⟨[c], Nat.le_refl _, fun x => by rw [eval_cons, eval_nil, F.mul_zero, F.add_zero]⟩
theorem Pol.congr {n : Nat} {f g : F → F} (h : Pol n f) (e : ∀ x, g x = f x) : Pol n g := by
  obtain ⟨p, hp, e'⟩ := h; exact ⟨p, hp, fun x => (e x).trans (e' x)⟩
def addL : List F → List F → List F
  | [], q => q
  | p, [] => p
  | a :: p, b :: q => (a + b) :: addL p q
theorem addL_len : ∀ (p q : List F) (n : Nat), p.length ≤ n → q.length ≤ n → (addL p q).length ≤ n
  | [], _, _, _, h => h
  | a :: p, [], _, h, _ => h
  | a :: p, b :: q, 0, h, _ => by simp at h
  | a :: p, b :: q, n + 1, h, h' => by
    have := addL_len p q n (by simpa using h) (by simpa using h')
    show (addL p q).length + 1 ≤ n + 1
    omega
theorem addL_is : ∀ (p q : List F) (x : F), eval (addL p q) x = eval p x + eval q x
  | [], q, x => by rw [show addL [] q = q by cases q <;> rfl, eval_nil, F.zero_add]
  | a :: p, [], x => by rw [show addL (a :: p) [] = a :: p from rfl, eval_nil, F.add_zero]
  | a :: p, b :: q, x => by
    rw [show addL (a :: p) (b :: q) = (a + b) :: addL p q from rfl, eval_cons, eval_cons, eval_cons, addL_is p q x]; exact F.r_add _ _ _ _ _
theorem Pol.add {n : Nat} {f g : F → F} (hf : Pol n f) (hg : Pol n g) : Pol n fun x => f x + g x := by
  obtain ⟨p, hp, e⟩ := hf
  obtain ⟨q, hq, e'⟩ := hg
  exact ⟨addL p q, addL_len p q n hp hq, fun x => by rw [addL_is, ← e, ← e']⟩
theorem eval_scale (c : F) (p : List F) (x : F) : eval (p.map (c * ·)) x = c * eval p x := by
  induction p with
  | nil => simp only [List.map_nil, eval_nil, F.mul_zero]
  | cons a l ih => rw [List.map_cons, eval_cons, eval_cons, ih]; exact F.r_scale _ _ _ _
theorem Pol.scale {n : Nat} {f : F → F} (c : F) (hf : Pol n f) : Pol n fun x => c * f x := by
  obtain ⟨p, hp, e⟩ := hf
  exact ⟨p.map (c * ·), by simpa using hp, fun x => by rw [eval_scale, ← e]⟩
theorem Pol.shift {n : Nat} {f : F → F} (hf : Pol n f) : Pol (n + 1) fun x => x * f x := by
  obtain ⟨p, hp, e⟩ := hf
  exact ⟨0 :: p, by simpa using hp, fun x => by rw [eval_cons, ← e, F.zero_add]⟩
/-- times x - c -/
theorem Pol.lin {n : Nat} {f : F → F} (c : F) (hf : Pol n f) : Pol (n + 1) fun x => (x - c) * f x :=
  (hf.shift.add ((hf.scale (F.neg c)).mono (Nat.le_succ _))).congr fun x => F.r_lin x c (f x)
theorem Pol.sub {n : Nat} {f g : F → F} (hf : Pol n f) (hg : Pol n g) : Pol n fun x => f x - g x :=
  (hf.add (hg.scale (F.neg 1))).congr fun x => F.r_sub (f x) (g x)
/-- AS MANY POINTS AS FACTORS TELL IT ALL -/
theorem Pol.only {n : Nat} {f g : F → F} (hf : Pol n f) (hg : Pol n g) (pts : List F) (hn : pts.Nodup) (hl : n ≤ pts.length) (h : ∀ c ∈ pts, f c = g c) (x : F) : f x = g x := by
  obtain ⟨p, hp, e⟩ := hf.sub hg
  have := zero_all pts p hn (Nat.le_trans hp hl) (fun c hc => by rw [← e]; show f c - g c = 0; rw [h c hc, F.sub_self]) x
  have e' := e x
  rw [this] at e'
  exact F.eq_of_sub e'

/-- Neville's table: through the points i to i + k -/
def nev (a b : Nat → F) : Nat → Nat → F → F
  | 0, i, _ => b i
  | k + 1, i, x => ((x - a (i + (k + 1))) * nev a b k i x + (a i - x) * nev a b k (i + 1) x) * F.inv (a i - a (i + (k + 1)))
theorem nev_pol (a b : Nat → F) : ∀ (k i : Nat), Pol (k + 1) (nev a b k i)
  | 0, i => Pol.const (b i)
  | k + 1, i => by
    have h1 := (nev_pol a b k i).lin (a (i + (k + 1)))
    have h2 := ((nev_pol a b k (i + 1)).lin (a i)).scale (F.neg 1)
    refine ((h1.add h2).scale (F.inv (a i - a (i + (k + 1))))).congr fun x => ?_
    show ((x - a (i + (k + 1))) * nev a b k i x + (a i - x) * nev a b k (i + 1) x) * F.inv (a i - a (i + (k + 1))) = _
    exact F.r_nev _ _ _ _ _ _
theorem nev_at (a b : Nat → F) (n : Nat) (ha : ∀ i j, i < n → j < n → a i = a j → i = j) : ∀ (k i : Nat), i + k < n → ∀ j, i ≤ j → j ≤ i + k → nev a b k i (a j) = b j
  | 0, i, _, j, h1, h2 => by
    obtain rfl : i = j := by omega
    rfl
  | k + 1, i, hk, j, h1, h2 => by
    have hd : a i - a (i + (k + 1)) ≠ 0 := fun e => by
      have := ha i (i + (k + 1)) (by omega) (by omega) (F.eq_of_sub e)
      omega
    show ((a j - a (i + (k + 1))) * nev a b k i (a j) + (a i - a j) * nev a b k (i + 1) (a j)) * F.inv (a i - a (i + (k + 1))) = b j
    by_cases e1 : j = i
    · subst e1
      rw [nev_at a b n ha k j (by omega) j (by omega) (by omega), F.sub_self, F.zero_mul, F.add_zero, F.mul_back hd]
    · by_cases e2 : j = i + (k + 1)
      · rw [nev_at a b n ha k (i + 1) (by omega) j (by omega) (by omega)]
        subst e2
        rw [F.sub_self, F.zero_mul, F.zero_add, F.mul_back hd]
      · rw [nev_at a b n ha k i (by omega) j (by omega) (by omega), nev_at a b n ha k (i + 1) (by omega) j (by omega) (by omega)]
        rw [F.r_same, F.mul_back hd]

/-- the place of the i-th point, and what is there -/
def ptA (l : List (Int × Int)) (i : Nat) : F := F.of (l.getD i (0, 0)).1
def ptB (l : List (Int × Int)) (i : Nat) : F := F.of (l.getD i (0, 0)).2
/-- what goes through the points, at x -/
def next (l : List (Int × Int)) (x : Int) : Int := ((nev (ptA l) (ptB l) (l.length - 1) 0 (F.of x)).val : Int)
theorem next_range (l : List (Int × Int)) (x : Int) : 0 ≤ next l x ∧ next l x < 257 := by
  have := (nev (ptA l) (ptB l) (l.length - 1) 0 (F.of x)).isLt
  unfold next; omega
theorem of_next (l : List (Int × Int)) (x : Int) : F.of (next l x) = nev (ptA l) (ptB l) (l.length - 1) 0 (F.of x) := by
  obtain ⟨h0, h1⟩ := next_range l x
  apply Fin.ext
  have := F.of_val h0 h1
  unfold next at this ⊢
  omega

/-- points that are right: places and what is there from 0 to 256, no place twice -/
def Right (l : List (Int × Int)) : Prop := (∀ i (h : i < l.length), (0 ≤ l[i].1 ∧ l[i].1 < 257) ∧ (0 ≤ l[i].2 ∧ l[i].2 < 257)) ∧ ∀ i j (hi : i < l.length) (hj : j < l.length), l[i].1 = l[j].1 → i = j
theorem ptA_at {l : List (Int × Int)} {i : Nat} (h : i < l.length) : ptA l i = F.of l[i].1 := by
  unfold ptA; rw [List.getD_eq_getElem?_getD, List.getElem?_eq_getElem h]; rfl
theorem ptB_at {l : List (Int × Int)} {i : Nat} (h : i < l.length) : ptB l i = F.of l[i].2 := by
  unfold ptB; rw [List.getD_eq_getElem?_getD, List.getElem?_eq_getElem h]; rfl
theorem Right.apart {l : List (Int × Int)} (h : Right l) : ∀ i j, i < l.length → j < l.length → ptA l i = ptA l j → i = j := fun i j hi hj e => by
  rw [ptA_at hi, ptA_at hj] at e
  obtain ⟨⟨a0, a1⟩, _⟩ := h.1 i hi
  obtain ⟨⟨b0, b1⟩, _⟩ := h.1 j hj
  exact h.2 i j hi hj (F.of_inj a0 a1 b0 b1 e)
theorem Right.places {l : List (Int × Int)} (h : Right l) : ((List.range l.length).map (ptA l)).Nodup := by
  rw [List.nodup_iff_pairwise_ne, List.pairwise_map]
  refine List.Pairwise.imp_of_mem (R := fun i j => i ≠ j) ?_ List.nodup_range
  intro i j hi hj hij e
  exact hij (h.apart i j (List.mem_range.1 hi) (List.mem_range.1 hj) e)
/-- what goes through the points goes through each -/
theorem next_at {l : List (Int × Int)} (h : Right l) {i : Nat} (hi : i < l.length) : next l l[i].1 = l[i].2 := by
  obtain ⟨_, b0, b1⟩ := h.1 i hi
  obtain ⟨n0, n1⟩ := next_range l l[i].1
  refine F.of_inj n0 n1 b0 b1 ?_
  rw [of_next, ← ptA_at hi, nev_at _ _ l.length h.apart (l.length - 1) 0 (by omega) i (Nat.zero_le _) (by omega), ptB_at hi]
/-- whatever polynomial of as many factors goes through the points is it -/
theorem next_only {l : List (Int × Int)} (h : Right l) (hl : 0 < l.length) {f : F → F} (hf : Pol l.length f) (ht : ∀ i (hi : i < l.length), f (F.of l[i].1) = F.of l[i].2) (x : Int) : F.of (next l x) = f (F.of x) := by
  rw [of_next]
  refine Pol.only (n := l.length) ((nev_pol _ _ (l.length - 1) 0).mono (by omega)) hf _ h.places (by simp) ?_ _
  intro c hc
  obtain ⟨i, hi, rfl⟩ := List.mem_map.1 hc
  have hi' := List.mem_range.1 hi
  rw [nev_at _ _ l.length h.apart (l.length - 1) 0 (by omega) i (Nat.zero_le _) (by omega), ptA_at hi', ht i hi', ptB_at hi']

/-- what a polynomial of whole numbers is at x, round the prime -/
def ev (p : List Int) (x : Int) : Int := ((eval (p.map F.of) (F.of x)).val : Int)
/-- a power of x, round the prime -/
def upI (x : Int) (n : Nat) : Int := ((up (F.of x) n).val : Int)
theorem of_num (v : F) : F.of (v.val : Int) = v := by
  apply Fin.ext
  have h := F.val_of (v.val : Int)
  have := v.isLt
  omega
theorem num_of {z : Int} {v : F} (h : F.of z = v) : z % 257 = (v.val : Int) := by rw [← h, F.val_of]
theorem ev_range (p : List Int) (x : Int) : 0 ≤ ev p x ∧ ev p x < 257 := by
  have := (eval (p.map F.of) (F.of x)).isLt
  unfold ev; omega
theorem upI_range (x : Int) (n : Nat) : 0 ≤ upI x n ∧ upI x n < 257 := by
  have := (up (F.of x) n).isLt
  unfold upI; omega
theorem of_ev (p : List Int) (x : Int) : F.of (ev p x) = eval (p.map F.of) (F.of x) := of_num _
theorem of_upI (x : Int) (n : Nat) : F.of (upI x n) = up (F.of x) n := of_num _
theorem ev_nil (x : Int) : ev [] x = 0 := rfl
theorem upI_zero (x : Int) : upI x 0 = 1 := rfl
/-- from the last factor on -/
theorem ev_cons (c : Int) (p : List Int) (x : Int) : ev (c :: p) x = (c + x * ev p x) % 257 := by
  refine (num_of ?_).symm
  rw [F.of_add, F.of_mul, of_ev, List.map_cons, eval_cons]
/-- from the first factor on -/
theorem ev_snoc (p : List Int) (c x : Int) : ev (p ++ [c]) x = (ev p x + c * upI x p.length) % 257 := by
  refine (num_of ?_).symm
  rw [F.of_add, F.of_mul, of_ev, of_upI, List.map_append, List.map_cons, List.map_nil, eval_snoc, List.length_map, F.mul_comm (F.of c)]
theorem upI_succ (x : Int) (n : Nat) : upI x (n + 1) = upI x n * x % 257 := by
  refine (num_of ?_).symm
  rw [F.of_mul, of_upI, F.mul_comm]; rfl
/-- as many points as factors of a polynomial, wherever they are: each other one follows -/
theorem next_ev {l : List (Int × Int)} (h : Right l) (hl : 0 < l.length) (p : List Int) (hp : p.length ≤ l.length) (ht : ∀ i (hi : i < l.length), l[i].2 = ev p l[i].1) (x : Int) : next l x = ev p x := by
  obtain ⟨n0, n1⟩ := next_range l x
  obtain ⟨e0, e1⟩ := ev_range p x
  refine F.of_inj n0 n1 e0 e1 ?_
  rw [of_ev]
  refine next_only h hl (f := eval (p.map F.of)) ((Pol.of_list _).mono (by simpa using hp)) ?_ x
  intro i hi
  rw [ht i hi, of_ev]

end Go.Proofs.YtlefhfmckimlaajDoor.M
