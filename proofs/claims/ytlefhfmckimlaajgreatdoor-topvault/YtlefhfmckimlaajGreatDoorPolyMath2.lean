/-
  Plain facts on Lagrange's way and Neville's table in whole numbers, and on what is wrong with factors and with points. No program is walked here.
-/
import Derived.Test.YtlefhfmckimlaajGreatDoorPolyMath
namespace Go.Proofs.YtlefhfmckimlaajGreatDoor.M

/-- the first of some numbers that is not 0 -/
def first (f : Nat → Int) : Nat → Int
  | 0 => 0
  | k + 1 => if first f k ≠ 0 then first f k else f k
theorem first_next {f : Nat → Int} {k : Nat} (h : first f k = 0) : first f (k + 1) = f k := by
  show (if first f k ≠ 0 then first f k else f k) = _
  rw [if_neg (by simpa using h)]
theorem first_stays {f : Nat → Int} {k : Nat} (h : first f k ≠ 0) : ∀ m, first f (k + m) = first f k
  | 0 => rfl
  | m + 1 => by
    show (if first f (k + m) ≠ 0 then first f (k + m) else f (k + m)) = _
    rw [first_stays h m, if_pos h]
theorem first_bad {f : Nat → Int} {k n : Nat} (hk : k < n) (h0 : first f k = 0) (h : f k ≠ 0) : first f n = f k := by
  have e := first_next h0
  obtain ⟨m, rfl⟩ : ∃ m, n = k + 1 + m := ⟨n - (k + 1), by omega⟩
  rw [first_stays (by rw [e]; exact h), e]
theorem first_all {f : Nat → Int} : ∀ {n : Nat}, first f n = 0 → ∀ k, k < n → f k = 0
  | 0, _, k, hk => by omega
  | n + 1, h, k, hk => by
    have h' : (if first f n ≠ 0 then first f n else f n) = 0 := h
    by_cases h0 : first f n = 0
    · rw [if_neg (by simpa using h0)] at h'
      rcases Nat.lt_succ_iff_lt_or_eq.1 hk with g | g
      · exact first_all h0 k g
      · rw [g]; exact h'
    · rw [if_pos h0] at h'; exact absurd h' h0

/-- a number of the chapter's -/
def inR (a : Int) : Bool := decide (0 ≤ a ∧ a < 257)
theorem inR_yes {a : Int} (h : inR a = true) : 0 ≤ a ∧ a < 257 := of_decide_eq_true h
theorem inR_no {a : Int} (h : inR a = false) : a < 0 ∨ 257 ≤ a := by have := of_decide_eq_false h; omega
theorem inR_mk {a : Int} (h0 : 0 ≤ a) (h1 : a < 257) : inR a = true := decide_eq_true ⟨h0, h1⟩

/- factors -/
def facF (p : List Int) (i : Nat) : Int := if inR (p.getD i 0) = true then 0 else 1
def facE (p : List Int) : Int := if 7 < p.length then 4 else first (facF p) p.length
theorem facF_at {p : List Int} {i : Nat} (h : i < p.length) : facF p i = if inR p[i] = true then 0 else 1 := by
  unfold facF; rw [List.getD_eq_getElem?_getD, List.getElem?_eq_getElem h]; rfl
theorem facE_many {p : List Int} (h : 7 < p.length) : facE p = 4 := by unfold facE; rw [if_pos h]
theorem facE_few {p : List Int} (h : ¬ 7 < p.length) : facE p = first (facF p) p.length := by unfold facE; rw [if_neg h]
theorem facE_ok {p : List Int} (h : facE p = 0) : p.length ≤ 7 ∧ ∀ i (hi : i < p.length), 0 ≤ p[i] ∧ p[i] < 257 := by
  by_cases h7 : 7 < p.length
  · rw [facE_many h7] at h; exact absurd h (by decide)
  · rw [facE_few h7] at h
    refine ⟨by omega, fun i hi => ?_⟩
    have := first_all h i hi
    rw [facF_at hi] at this
    by_cases hr : inR p[i] = true
    · exact inR_yes hr
    · rw [if_neg hr] at this; exact absurd this (by decide)
theorem fac_first (p : List Int) : ∀ n, first (facF p) n = 0 ∨ first (facF p) n = 1
  | 0 => Or.inl rfl
  | n + 1 => by
    have ih := fac_first p n
    by_cases h : first (facF p) n = 0
    · rw [first_next h]
      unfold facF
      split
      · exact Or.inl rfl
      · exact Or.inr rfl
    · show (if first (facF p) n ≠ 0 then first (facF p) n else facF p n) = 0 ∨ (if first (facF p) n ≠ 0 then first (facF p) n else facF p n) = 1
      rw [if_pos h]; exact ih
/-- what At answers -/
def atE (p : List Int) (x : Int) : Int := if facE p ≠ 0 then facE p else if inR x = true then 0 else 1
def atR (p : List Int) (x : Int) : Int := if atE p x = 0 then ev p x else 0
theorem atE_ok {p : List Int} {x : Int} (h : atE p x = 0) : facE p = 0 ∧ inR x = true := by
  unfold atE at h
  by_cases h0 : facE p = 0
  · rw [if_neg (by simpa using h0)] at h
    by_cases hx : inR x = true
    · exact ⟨h0, hx⟩
    · rw [if_neg hx] at h; exact absurd h (by decide)
  · rw [if_pos h0] at h; exact absurd h h0
theorem atE_fac {p : List Int} {x : Int} (h : facE p ≠ 0) : atE p x = facE p := by unfold atE; rw [if_pos h]
theorem atE_x {p : List Int} {x : Int} (h : facE p = 0) (hx : inR x = false) : atE p x = 1 := by
  unfold atE; rw [if_neg (by simpa using h), hx]; rfl
theorem atE_0 {p : List Int} {x : Int} (h : facE p = 0) (hx : inR x = true) : atE p x = 0 := by
  unfold atE; rw [if_neg (by simpa using h), if_pos hx]
theorem atR_ok {p : List Int} {x : Int} (h : atE p x = 0) : atR p x = ev p x := by unfold atR; rw [if_pos h]
theorem atR_bad {p : List Int} {x : Int} (h : atE p x ≠ 0) : atR p x = 0 := by unfold atR; rw [if_neg h]

/- points -/
def pt (l : List (Int × Int)) (i : Nat) : Int × Int := l.getD i (0, 0)
theorem pt_at {l : List (Int × Int)} {i : Nat} (h : i < l.length) : pt l i = l[i] := by
  unfold pt; rw [List.getD_eq_getElem?_getD, List.getElem?_eq_getElem h]; rfl
/-- one ahead has that place -/
def ahead (l : List (Int × Int)) (i : Nat) (a : Int) : Bool := (l.take i).any fun q => q.1 == a
theorem ahead_zero (l : List (Int × Int)) (a : Int) : ahead l 0 a = false := by simp [ahead]
theorem ahead_succ {l : List (Int × Int)} {i : Nat} (h : i < l.length) (a : Int) : ahead l (i + 1) a = (ahead l i a || l[i].1 == a) := by
  unfold ahead; rw [List.take_succ_eq_append_getElem h, List.any_append]; simp
theorem ahead_hit {l : List (Int × Int)} {i j : Nat} (hj : j < i) (h : j < l.length) (a : Int) (e : l[j].1 = a) : ahead l i a = true := by
  unfold ahead
  rw [List.any_eq_true]
  exact ⟨l[j], List.mem_take_iff_getElem.2 ⟨j, by omega, rfl⟩, by simpa using e⟩
theorem ahead_mono {l : List (Int × Int)} {i j : Nat} (h : i ≤ j) {a : Int} (e : ahead l i a = true) : ahead l j a = true := by
  unfold ahead at e ⊢
  rw [List.any_eq_true] at e ⊢
  obtain ⟨q, hq, hqa⟩ := e
  exact ⟨q, (List.take_subset_take_left l h) hq, hqa⟩
def okP (l : List (Int × Int)) (i : Nat) : Bool := inR (pt l i).1 && inR (pt l i).2
def ptF (l : List (Int × Int)) (i : Nat) : Int := if okP l i = true then (if ahead l i (pt l i).1 = true then 7 else 0) else 1
def ptsE (l : List (Int × Int)) : Int := if l.length = 0 then 5 else if 7 < l.length then 4 else first (ptF l) l.length
theorem ptF_range {l : List (Int × Int)} {i : Nat} (h : okP l i = false) : ptF l i = 1 := by unfold ptF; rw [h]; rfl
theorem ptF_clash {l : List (Int × Int)} {i : Nat} (h : okP l i = true) (ha : ahead l i (pt l i).1 = true) : ptF l i = 7 := by unfold ptF; rw [if_pos h, if_pos ha]
theorem ptF_ok {l : List (Int × Int)} {i : Nat} (h : okP l i = true) (ha : ahead l i (pt l i).1 = false) : ptF l i = 0 := by unfold ptF; rw [if_pos h, ha]; rfl
theorem ptsE_none {l : List (Int × Int)} (h : l.length = 0) : ptsE l = 5 := by unfold ptsE; rw [if_pos h]
theorem ptsE_many {l : List (Int × Int)} (h : 7 < l.length) : ptsE l = 4 := by unfold ptsE; rw [if_neg (by omega), if_pos h]
theorem ptsE_some {l : List (Int × Int)} (h0 : 0 < l.length) (h : l.length ≤ 7) : ptsE l = first (ptF l) l.length := by unfold ptsE; rw [if_neg (by omega), if_neg (by omega)]
theorem ptsE_ok {l : List (Int × Int)} (h : ptsE l = 0) : 0 < l.length ∧ l.length ≤ 7 ∧ Right l := by
  by_cases h0 : l.length = 0
  · rw [ptsE_none h0] at h; exact absurd h (by decide)
  by_cases h7 : 7 < l.length
  · rw [ptsE_many h7] at h; exact absurd h (by decide)
  rw [ptsE_some (by omega) (by omega)] at h
  have hall := first_all h
  have hok : ∀ i, i < l.length → okP l i = true := fun i hi => by
    cases g : okP l i
    · have := hall i hi
      rw [ptF_range g] at this; exact absurd this (by decide)
    · rfl
  have hah : ∀ i (hi : i < l.length), ahead l i l[i].1 = false := fun i hi => by
    cases g : ahead l i l[i].1
    · rfl
    · have := hall i hi
      rw [ptF_clash (hok i hi) (by rw [pt_at hi]; exact g)] at this; exact absurd this (by decide)
  refine ⟨by omega, by omega, fun i hi => ?_, fun i j hi hj e => ?_⟩
  · have := hok i hi
    unfold okP at this
    rw [pt_at hi, Bool.and_eq_true] at this
    exact ⟨inR_yes this.1, inR_yes this.2⟩
  · rcases Nat.lt_trichotomy i j with g | g | g
    · have := ahead_hit g hi l[j].1 e
      rw [hah j hj] at this; exact Bool.noConfusion this
    · exact g
    · have := ahead_hit g hj l[i].1 e.symm
      rw [hah i hi] at this; exact Bool.noConfusion this
/-- what Next answers -/
def nxE (l : List (Int × Int)) (x : Int) : Int := if ptsE l ≠ 0 then ptsE l else if inR x = true then 0 else 1
def nxR (l : List (Int × Int)) (x : Int) : Int := if nxE l x = 0 then next l x else 0
theorem nxE_ok {l : List (Int × Int)} {x : Int} (h : nxE l x = 0) : ptsE l = 0 ∧ inR x = true := by
  unfold nxE at h
  by_cases h0 : ptsE l = 0
  · rw [if_neg (by simpa using h0)] at h
    by_cases hx : inR x = true
    · exact ⟨h0, hx⟩
    · rw [if_neg hx] at h; exact absurd h (by decide)
  · rw [if_pos h0] at h; exact absurd h h0
theorem nxE_pts {l : List (Int × Int)} {x : Int} (h : ptsE l ≠ 0) : nxE l x = ptsE l := by unfold nxE; rw [if_pos h]
theorem nxE_x {l : List (Int × Int)} {x : Int} (h : ptsE l = 0) (hx : inR x = false) : nxE l x = 1 := by
  unfold nxE; rw [if_neg (by simpa using h), hx]; rfl
theorem nxE_0 {l : List (Int × Int)} {x : Int} (h : ptsE l = 0) (hx : inR x = true) : nxE l x = 0 := by
  unfold nxE; rw [if_neg (by simpa using h), if_pos hx]
theorem nxE_zero (l : List (Int × Int)) : nxE l 0 = ptsE l := by
  by_cases h : ptsE l = 0
  · rw [nxE_0 h (by decide), h]
  · exact nxE_pts h
theorem nxR_ok {l : List (Int × Int)} {x : Int} (h : nxE l x = 0) : nxR l x = next l x := by unfold nxR; rw [if_pos h]
theorem nxR_bad {l : List (Int × Int)} {x : Int} (h : nxE l x ≠ 0) : nxR l x = 0 := by unfold nxR; rw [if_neg h]

/- Lagrange -/
/-- all of x - a j, j below k, but that of i, times each other -/
def prod (a : Nat → F) (i : Nat) : Nat → F → F
  | 0, _ => 1
  | k + 1, x => if k = i then prod a i k x else prod a i k x * (x - a k)
theorem prod_skip (a : Nat → F) (i : Nat) (x : F) : prod a i (i + 1) x = prod a i i x := by
  show (if i = i then prod a i i x else _) = _
  rw [if_pos rfl]
theorem prod_step (a : Nat → F) {i k : Nat} (h : k ≠ i) (x : F) : prod a i (k + 1) x = prod a i k x * (x - a k) := by
  show (if k = i then prod a i k x else _) = _
  rw [if_neg h]
theorem prod_pol (a : Nat → F) (i : Nat) : ∀ k, Pol (if i < k then k else k + 1) (prod a i k)
  | 0 => (Pol.const 1).congr fun _ => rfl
  | k + 1 => by
    have ih := prod_pol a i k
    by_cases h : k = i
    · subst h
      rw [if_neg (by omega)] at ih
      rw [if_pos (by omega)]
      exact ih.congr fun x => prod_skip a k x
    · have e : ∀ x, prod a i (k + 1) x = (x - a k) * prod a i k x := fun x => by rw [prod_step a h, F.mul_comm]
      by_cases g : i < k
      · rw [if_pos g] at ih
        rw [if_pos (by omega)]
        exact (ih.lin (a k)).congr e
      · rw [if_neg g] at ih
        rw [if_neg (by omega)]
        exact (ih.lin (a k)).congr e
theorem prod_zero (a : Nat → F) (i : Nat) {j : Nat} (hj : j ≠ i) : ∀ k, j < k → prod a i k (a j) = 0
  | 0, h => by omega
  | k + 1, h => by
    by_cases e : k = i
    · subst e
      rw [prod_skip]
      exact prod_zero a k hj k (by omega)
    · rw [prod_step a e]
      by_cases g : j = k
      · subst g; rw [F.sub_self, F.mul_zero]
      · rw [prod_zero a i hj k (by omega), F.zero_mul]
theorem prod_ne (a : Nat → F) (i n : Nat) (h : ∀ j, j < n → j ≠ i → a i ≠ a j) : ∀ k, k ≤ n → prod a i k (a i) ≠ 0
  | 0, _ => by show (1 : F) ≠ 0; decide
  | k + 1, hk => by
    by_cases e : k = i
    · subst e
      rw [prod_skip]
      exact prod_ne a k n h k (by omega)
    · rw [prod_step a e]
      intro z
      exact h k (by omega) e (F.eq_of_sub (F.no_div (prod_ne a i n h k (by omega)) z))
/-- the polynomial that is 1 at the i-th place, and 0 at all others -/
def wt (a : Nat → F) (n i : Nat) (x : F) : F := prod a i n x * F.inv (prod a i n (a i))
theorem wt_pol (a : Nat → F) {n i : Nat} (h : i < n) : Pol n (wt a n i) := by
  have := prod_pol a i n
  rw [if_pos h] at this
  exact (this.scale (F.inv (prod a i n (a i)))).congr fun x => F.mul_comm _ _
theorem wt_self (a : Nat → F) {n i : Nat} (h : ∀ j, j < n → j ≠ i → a i ≠ a j) : wt a n i (a i) = 1 := F.mul_inv (prod_ne a i n h n (Nat.le_refl _))
theorem wt_other (a : Nat → F) {n i j : Nat} (hj : j < n) (h : j ≠ i) : wt a n i (a j) = 0 := by
  unfold wt; rw [prod_zero a i h n hj, F.zero_mul]
def sum (a b : Nat → F) (n : Nat) : Nat → F → F
  | 0, _ => 0
  | k + 1, x => sum a b n k x + b k * wt a n k x
theorem sum_pol (a b : Nat → F) (n : Nat) : ∀ k, k ≤ n → Pol n (sum a b n k)
  | 0, _ => (Pol.zero n).congr fun _ => rfl
  | k + 1, h => ((sum_pol a b n k (by omega)).add ((wt_pol a (by omega : k < n)).scale (b k))).congr fun _ => rfl
theorem sum_at (a b : Nat → F) {n : Nat} (h : ∀ i j, i < n → j < n → a i = a j → i = j) {j : Nat} (hj : j < n) : ∀ k, k ≤ n → sum a b n k (a j) = if j < k then b j else 0
  | 0, _ => by rw [if_neg (by omega)]; rfl
  | k + 1, hk => by
    show sum a b n k (a j) + b k * wt a n k (a j) = _
    rw [sum_at a b h hj k (by omega)]
    by_cases e : j = k
    · subst e
      rw [if_neg (by omega), if_pos (by omega), wt_self a (fun i hi hne g => hne (h j i hj hi g).symm), F.mul_one, F.zero_add]
    · rw [wt_other a hj e, F.mul_zero, F.add_zero]
      by_cases g : j < k
      · rw [if_pos g, if_pos (by omega)]
      · rw [if_neg g, if_neg (by omega)]
theorem lag {l : List (Int × Int)} (h : Right l) (hl : 0 < l.length) (x : Int) : F.of (next l x) = sum (ptA l) (ptB l) l.length l.length (F.of x) := by
  refine next_only h hl (sum_pol _ _ _ _ (Nat.le_refl _)) ?_ x
  intro i hi
  rw [← ptA_at hi, sum_at (ptA l) (ptB l) h.apart hi _ (Nat.le_refl _), if_pos hi, ptB_at hi]

/- the same in whole numbers -/
def over (l : List (Int × Int)) (i : Nat) (x : Int) (k : Nat) : Int := ((prod (ptA l) i k (F.of x)).val : Int)
theorem over_range (l : List (Int × Int)) (i : Nat) (x : Int) (k : Nat) : 0 ≤ over l i x k ∧ over l i x k < 257 := by
  have := (prod (ptA l) i k (F.of x)).isLt
  unfold over; omega
theorem of_over (l : List (Int × Int)) (i : Nat) (x : Int) (k : Nat) : F.of (over l i x k) = prod (ptA l) i k (F.of x) := of_num _
theorem over_zero (l : List (Int × Int)) (i : Nat) (x : Int) : over l i x 0 = 1 := rfl
theorem over_skip (l : List (Int × Int)) (i : Nat) (x : Int) : over l i x (i + 1) = over l i x i := by unfold over; rw [prod_skip]
theorem over_step {l : List (Int × Int)} {i k : Nat} (h : k ≠ i) (hk : k < l.length) (x : Int) : over l i x (k + 1) = over l i x k * ((x - l[k].1 + 257) % 257) % 257 := by
  refine (num_of ?_).symm
  rw [F.of_mul, of_over, F.of_diff, prod_step _ h, ptA_at hk]
theorem under_ne {l : List (Int × Int)} (h : Right l) {i : Nat} (hi : i < l.length) : 0 < over l i l[i].1 l.length := by
  have g := prod_ne (ptA l) i l.length (fun j hj hne e => hne (h.apart i j hi hj e).symm) l.length (Nat.le_refl _)
  rw [ptA_at hi] at g
  have r := over_range l i l[i].1 l.length
  rcases Int.lt_or_eq_of_le r.1 with e | e
  · exact e
  · exfalso; apply g
    rw [← of_over, ← e]; rfl
def wtI (l : List (Int × Int)) (i : Nat) (x : Int) : Int := over l i x l.length * invI (over l i (pt l i).1 l.length) % 257
theorem wtI_range (l : List (Int × Int)) (i : Nat) (x : Int) : 0 ≤ wtI l i x ∧ wtI l i x < 257 := by unfold wtI; omega
theorem of_wtI {l : List (Int × Int)} {i : Nat} (hi : i < l.length) (x : Int) : F.of (wtI l i x) = wt (ptA l) l.length i (F.of x) := by
  have r := over_range l i l[i].1 l.length
  unfold wtI wt
  rw [pt_at hi, F.of_mod, F.of_mul, of_over, F.of_inv _ r.1 r.2, of_over, ptA_at hi]
def sumI (l : List (Int × Int)) (x : Int) (k : Nat) : Int := ((sum (ptA l) (ptB l) l.length k (F.of x)).val : Int)
theorem sumI_range (l : List (Int × Int)) (x : Int) (k : Nat) : 0 ≤ sumI l x k ∧ sumI l x k < 257 := by
  have := (sum (ptA l) (ptB l) l.length k (F.of x)).isLt
  unfold sumI; omega
theorem of_sumI (l : List (Int × Int)) (x : Int) (k : Nat) : F.of (sumI l x k) = sum (ptA l) (ptB l) l.length k (F.of x) := of_num _
theorem sumI_zero (l : List (Int × Int)) (x : Int) : sumI l x 0 = 0 := rfl
theorem sumI_step {l : List (Int × Int)} {k : Nat} (hk : k < l.length) (x : Int) : sumI l x (k + 1) = (sumI l x k + l[k].2 * wtI l k x) % 257 := by
  refine (num_of ?_).symm
  rw [F.of_add, F.of_mul, of_sumI, of_wtI hk, ← ptB_at hk]; rfl
theorem sumI_all {l : List (Int × Int)} (h : Right l) (hl : 0 < l.length) (x : Int) : sumI l x l.length = next l x := by
  obtain ⟨n0, n1⟩ := next_range l x
  obtain ⟨s0, s1⟩ := sumI_range l x l.length
  refine F.of_inj s0 s1 n0 n1 ?_
  rw [of_sumI, lag h hl]

/- Neville's table in whole numbers -/
def nevI (l : List (Int × Int)) (x : Int) (k i : Nat) : Int := ((nev (ptA l) (ptB l) k i (F.of x)).val : Int)
theorem nevI_range (l : List (Int × Int)) (x : Int) (k i : Nat) : 0 ≤ nevI l x k i ∧ nevI l x k i < 257 := by
  have := (nev (ptA l) (ptB l) k i (F.of x)).isLt
  unfold nevI; omega
theorem of_nevI (l : List (Int × Int)) (x : Int) (k i : Nat) : F.of (nevI l x k i) = nev (ptA l) (ptB l) k i (F.of x) := of_num _
theorem nevI_zero {l : List (Int × Int)} (h : Right l) (x : Int) {i : Nat} (hi : i < l.length) : nevI l x 0 i = l[i].2 := by
  obtain ⟨_, b0, b1⟩ := h.1 i hi
  obtain ⟨n0, n1⟩ := nevI_range l x 0 i
  refine F.of_inj n0 n1 b0 b1 ?_
  rw [of_nevI, ← ptB_at hi]; rfl
theorem nevI_step (l : List (Int × Int)) (x : Int) {k i : Nat} (h : i + (k + 1) < l.length) :
    nevI l x (k + 1) i = ((x - l[i + (k + 1)].1 + 257) % 257 * nevI l x k i + (l[i].1 - x + 257) % 257 * nevI l x k (i + 1)) % 257 * pwI ((l[i].1 - l[i + (k + 1)].1 + 257) % 257) 255 257 % 257 := by
  refine (num_of ?_).symm
  rw [F.of_mul, F.of_mod, F.of_add, F.of_mul, F.of_mul, of_nevI, of_nevI, F.of_diff, F.of_diff, F.of_pw _ (by omega) (by omega), F.of_diff, ← ptA_at h, ← ptA_at (by omega : i < l.length)]
  rfl
theorem nevI_all (l : List (Int × Int)) (x : Int) : nevI l x (l.length - 1) 0 = next l x := rfl

end Go.Proofs.YtlefhfmckimlaajGreatDoor.M
