/-
  Plain facts on commits: 64 modulo 1543 comes round after 257 steps and not before; a product of commits, each to a power of the place, is 64 to what the polynomial is there. No program is walked here.
-/
import Derived.Test.YtlefhfmckimlaajGreatDoorPolyMath2
namespace Go.Proofs.YtlefhfmckimlaajGreatDoor.M

/-- 64 to a power, modulo 1543 -/
def g (n : Nat) : Nat := pw 64 n 1543
theorem g_lt (n : Nat) : g n < 1543 := pw_lt (by decide)
theorem g_zero : g 0 = 1 := by decide +kernel
theorem g_one : g 1 = 64 := by decide +kernel
theorem g_round : g 257 = 1 := by decide +kernel
theorem g_add (n m : Nat) : g n * g m % 1543 = g (n + m) := pw_add 64 n m 1543
theorem g_pow (n m : Nat) : pw (g n) m 1543 = g (n * m) := by
  unfold g pw
  rw [← Nat.pow_mod, ← Nat.pow_mul]
theorem g_times (n k : Nat) : g (n + 257 * k) = g n := by
  induction k with
  | zero => rfl
  | succ k ih =>
    have h := g_add (n + 257 * k) 257
    rw [g_round, Nat.mul_one, ih, Nat.mod_eq_of_lt (g_lt n)] at h
    rw [Nat.mul_add, Nat.mul_one, ← Nat.add_assoc, ← h]
theorem g_mod (n : Nat) : g (n % 257) = g n := by
  have h := g_times (n % 257) (n / 257)
  rw [Nat.mod_add_div] at h
  exact h.symm
theorem g_pos (n : Nat) : 1 ≤ g n := by
  rw [← g_mod n]
  have : ∀ k, k < 257 → 1 ≤ g k := by decide +kernel
  exact this _ (Nat.mod_lt _ (by decide))
theorem g_first : ∀ k, k < 257 → g k = 1 → k = 0 := by decide +kernel
theorem g_le {a b : Nat} (hb : b < 257) (hab : a ≤ b) (h : g a = g b) : a = b := by
  have h1 := g_add b (257 - a)
  rw [← h, g_add a (257 - a), show a + (257 - a) = 257 by omega, g_round] at h1
  have h2 : g (b - a) = 1 := by
    rw [← g_times (b - a) 1, h1]
    congr 1; omega
  have := g_first (b - a) (by omega) h2
  omega
/-- of two powers below 257 each has its own -/
theorem g_own {a b : Nat} (ha : a < 257) (hb : b < 257) (h : g a = g b) : a = b := by
  rcases Nat.le_total a b with k | k
  · exact g_le hb k h
  · exact (g_le ha k h.symm).symm

/-- on whole numbers -/
def gI (n : Int) : Int := (g n.toNat : Nat)
theorem gI_is (n : Int) : pwI 64 n 1543 = gI n := rfl
theorem gI_range (n : Int) : 1 ≤ gI n ∧ gI n < 1543 := by
  have h1 := g_pos n.toNat
  have h2 := g_lt n.toNat
  unfold gI
  omega
theorem gI_own {a b : Int} (a0 : 0 ≤ a) (a1 : a < 257) (b0 : 0 ≤ b) (b1 : b < 257) (h : gI a = gI b) : a = b := by
  have := g_own (a := a.toNat) (b := b.toNat) (by omega) (by omega) (by unfold gI at h; omega)
  omega
theorem gI_step {e c u : Int} (he : 0 ≤ e) (hc : 0 ≤ c) (hu : 0 ≤ u) : gI e * pwI (gI c) u 1543 % 1543 = gI ((e + c * u) % 257) := by
  obtain ⟨e', rfl⟩ : ∃ k : Nat, e = k := ⟨e.toNat, by omega⟩
  obtain ⟨c', rfl⟩ : ∃ k : Nat, c = k := ⟨c.toNat, by omega⟩
  obtain ⟨u', rfl⟩ : ∃ k : Nat, u = k := ⟨u.toNat, by omega⟩
  have h1 : pwI (gI (c' : Int)) (u' : Int) 1543 = (g (c' * u') : Nat) := by
    unfold pwI gI
    simp only [Int.toNat_natCast]
    rw [show (1543 : Int).toNat = 1543 from rfl, g_pow]
  have h2 : (((e' : Int) + (c' : Int) * (u' : Int)) % 257).toNat = (e' + c' * u') % 257 := by
    have : (e' : Int) + (c' : Int) * (u' : Int) = ((e' + c' * u' : Nat) : Int) := by
      rw [Int.natCast_add, Int.natCast_mul]
    rw [this]; omega
  rw [h1]
  unfold gI
  rw [h2, g_mod, ← g_add]
  simp only [Int.toNat_natCast]
  rw [Int.natCast_emod, Int.natCast_mul]
  rfl

/-- what is committed to -/
def commits (p : List Int) : List Int := p.map gI
theorem commits_len (p : List Int) : (commits p).length = p.length := by simp [commits]
theorem commits_at {p : List Int} {i : Nat} (h : i < p.length) : (commits p)[i]'(by rw [commits_len]; exact h) = gI p[i] := by simp [commits]
theorem commits_snoc (p : List Int) (z : Int) : commits (p ++ [z]) = commits p ++ [gI z] := by simp [commits]

/-- the product of the first k of some numbers, each to a power of the place -/
def mul (c : List Int) (x : Int) : Nat → Int
  | 0 => 1
  | k + 1 => mul c x k * pwI (c.getD k 0) (upI x k) 1543 % 1543
theorem mul_range (c : List Int) (x : Int) : ∀ k, 0 ≤ mul c x k ∧ mul c x k < 1543
  | 0 => by show (0 : Int) ≤ 1 ∧ (1 : Int) < 1543; decide
  | k + 1 => by unfold mul; omega
theorem mul_step {c : List Int} (x : Int) {k : Nat} (h : k < c.length) : mul c x (k + 1) = mul c x k * pwI c[k] (upI x k) 1543 % 1543 := by
  show mul c x k * pwI (c.getD k 0) (upI x k) 1543 % 1543 = _
  rw [List.getD_eq_getElem?_getD, List.getElem?_eq_getElem h]; rfl
/-- whether a share is one of these -/
def trueB (c : List Int) (x y : Int) : Bool := mul c x c.length == gI y
/-- of a polynomial's commits it is 64 to what the polynomial is there -/
theorem mul_commits {p : List Int} (hp : ∀ i (h : i < p.length), 0 ≤ p[i]) (x : Int) : ∀ k, k ≤ p.length → mul (commits p) x k = gI (ev (p.take k) x)
  | 0, _ => by
    rw [List.take_zero, ev_nil]
    show (1 : Int) = gI 0
    decide +kernel
  | k + 1, h => by
    have hk : k < p.length := by omega
    have ih := mul_commits hp x k (by omega)
    have hl : (p.take k).length = k := by rw [List.length_take]; omega
    rw [mul_step x (by rw [commits_len]; exact hk), ih, commits_at hk, gI_step (ev_range _ _).1 (hp k hk) (upI_range _ _).1, List.take_succ_eq_append_getElem hk, ev_snoc, hl]
/-- a true share is told, a false one caught -/
theorem true_iff {p : List Int} (hp : ∀ i (h : i < p.length), 0 ≤ p[i]) {x y : Int} (y0 : 0 ≤ y) (y1 : y < 257) : trueB (commits p) x y = (ev p x == y) := by
  unfold trueB
  rw [commits_len, mul_commits hp x p.length (Nat.le_refl _), List.take_of_length_le (Nat.le_refl _)]
  by_cases h : ev p x = y
  · rw [h]; simp
  · have h' : ¬ gI (ev p x) = gI y := fun e => h (gI_own (ev_range _ _).1 (ev_range _ _).2 y0 y1 e)
    rw [beq_eq_false_iff_ne.2 h, beq_eq_false_iff_ne.2 h']

/- what is wrong -/
def comE (p : List Int) : Int := if p.length = 0 then 5 else facE p
theorem comE_none {p : List Int} (h : p.length = 0) : comE p = 5 := by unfold comE; rw [if_pos h]
theorem comE_some {p : List Int} (h : p.length ≠ 0) : comE p = facE p := by unfold comE; rw [if_neg h]
/-- what Commit answers -/
def comR (p : List Int) : List Int := if comE p = 0 then commits p else []
theorem comR_ok {p : List Int} (h : comE p = 0) : comR p = commits p := by unfold comR; rw [if_pos h]
theorem comR_bad {p : List Int} (h : comE p ≠ 0) : comR p = [] := by unfold comR; rw [if_neg h]
theorem comE_ok {p : List Int} (h : comE p = 0) : p.length ≠ 0 ∧ facE p = 0 := by
  have h0 : p.length ≠ 0 := fun e => by rw [comE_none e] at h; exact absurd h (by decide)
  exact ⟨h0, by rwa [comE_some h0] at h⟩
theorem comR_len (p : List Int) : (comR p).length ≤ 7 := by
  by_cases h : comE p = 0
  · rw [comR_ok h, commits_len]; exact (facE_ok (comE_ok h).2).1
  · rw [comR_bad h]; decide
/-- a commit that may be -/
def inG (a : Int) : Bool := decide (1 ≤ a ∧ a < 1543)
theorem inG_yes {a : Int} (h : inG a = true) : 1 ≤ a ∧ a < 1543 := of_decide_eq_true h
theorem inG_no {a : Int} (h : inG a = false) : a < 1 ∨ 1542 < a := by have := of_decide_eq_false h; omega
theorem inG_mk {a : Int} (h0 : 1 ≤ a) (h1 : a < 1543) : inG a = true := decide_eq_true ⟨h0, h1⟩
def cmtF (c : List Int) (i : Nat) : Int := if inG (c.getD i 0) = true then 0 else 1
theorem cmtF_at {c : List Int} {i : Nat} (h : i < c.length) : cmtF c i = if inG c[i] = true then 0 else 1 := by
  unfold cmtF; rw [List.getD_eq_getElem?_getD, List.getElem?_eq_getElem h]; rfl
def cmtE (c : List Int) : Int := if c.length = 0 then 5 else if 7 < c.length then 4 else first (cmtF c) c.length
theorem cmtE_none {c : List Int} (h : c.length = 0) : cmtE c = 5 := by unfold cmtE; rw [if_pos h]
theorem cmtE_many {c : List Int} (h : 7 < c.length) : cmtE c = 4 := by unfold cmtE; rw [if_neg (by omega), if_pos h]
theorem cmtE_some {c : List Int} (h0 : 0 < c.length) (h : c.length ≤ 7) : cmtE c = first (cmtF c) c.length := by unfold cmtE; rw [if_neg (by omega), if_neg (by omega)]
theorem cmtE_ok {c : List Int} (h : cmtE c = 0) : 0 < c.length ∧ c.length ≤ 7 ∧ ∀ i (hi : i < c.length), 1 ≤ c[i] ∧ c[i] < 1543 := by
  by_cases h0 : c.length = 0
  · rw [cmtE_none h0] at h; exact absurd h (by decide)
  by_cases h7 : 7 < c.length
  · rw [cmtE_many h7] at h; exact absurd h (by decide)
  rw [cmtE_some (by omega) (by omega)] at h
  refine ⟨by omega, by omega, fun i hi => ?_⟩
  have := first_all h i hi
  rw [cmtF_at hi] at this
  by_cases hr : inG c[i] = true
  · exact inG_yes hr
  · rw [if_neg hr] at this; exact absurd this (by decide)
theorem cmt_first (c : List Int) : ∀ n, first (cmtF c) n = 0 ∨ first (cmtF c) n = 1
  | 0 => Or.inl rfl
  | n + 1 => by
    have ih := cmt_first c n
    by_cases h : first (cmtF c) n = 0
    · rw [first_next h]
      unfold cmtF
      split
      · exact Or.inl rfl
      · exact Or.inr rfl
    · show (if first (cmtF c) n ≠ 0 then first (cmtF c) n else cmtF c n) = 0 ∨ (if first (cmtF c) n ≠ 0 then first (cmtF c) n else cmtF c n) = 1
      rw [if_pos h]; exact ih
/-- what Check answers -/
def chkE (c : List Int) (x y : Int) : Int := if cmtE c ≠ 0 then cmtE c else if inR x = true ∧ inR y = true then 0 else 1
def chkR (c : List Int) (x y : Int) : Bool := decide (chkE c x y = 0) && trueB c x y
theorem chkE_cmt {c : List Int} {x y : Int} (h : cmtE c ≠ 0) : chkE c x y = cmtE c := by unfold chkE; rw [if_pos h]
theorem chkE_xy {c : List Int} {x y : Int} (h : cmtE c = 0) (hxy : inR x = false ∨ inR y = false) : chkE c x y = 1 := by
  unfold chkE
  rw [if_neg (by simpa using h), if_neg (by rcases hxy with e | e <;> rw [e] <;> simp)]
theorem chkE_0 {c : List Int} {x y : Int} (h : cmtE c = 0) (hx : inR x = true) (hy : inR y = true) : chkE c x y = 0 := by
  unfold chkE; rw [if_neg (by simpa using h), if_pos ⟨hx, hy⟩]
theorem chkE_ok {c : List Int} {x y : Int} (h : chkE c x y = 0) : cmtE c = 0 ∧ inR x = true ∧ inR y = true := by
  by_cases h0 : cmtE c = 0
  · cases hx : inR x
    · rw [chkE_xy h0 (Or.inl hx)] at h; exact absurd h (by decide)
    · cases hy : inR y
      · rw [chkE_xy h0 (Or.inr hy)] at h; exact absurd h (by decide)
      · exact ⟨h0, rfl, rfl⟩
  · rw [chkE_cmt h0] at h; exact absurd h h0
theorem chkR_bad {c : List Int} {x y : Int} (h : chkE c x y ≠ 0) : chkR c x y = false := by unfold chkR; rw [decide_eq_false h]; rfl
theorem chkR_ok {c : List Int} {x y : Int} (h : chkE c x y = 0) : chkR c x y = trueB c x y := by unfold chkR; rw [decide_eq_true h]; rfl
/-- what was committed to may be a commit -/
theorem cmtE_commits {p : List Int} (h : comE p = 0) : cmtE (commits p) = 0 := by
  have h0 : p.length ≠ 0 := fun e => by rw [comE_none e] at h; exact absurd h (by decide)
  rw [comE_some h0] at h
  obtain ⟨h7, _⟩ := facE_ok h
  rw [cmtE_some (by rw [commits_len]; omega) (by rw [commits_len]; omega)]
  have : ∀ n, n ≤ (commits p).length → first (cmtF (commits p)) n = 0 := fun n hn => by
    induction n with
    | zero => rfl
    | succ n ih =>
      rw [first_next (ih (by omega))]
      have hl : n < (commits p).length := by omega
      have hl' : n < p.length := by rwa [commits_len] at hl
      rw [cmtF_at hl, commits_at hl', if_pos (inG_mk (gI_range _).1 (gI_range _).2)]
  exact this _ (Nat.le_refl _)

end Go.Proofs.YtlefhfmckimlaajGreatDoor.M
