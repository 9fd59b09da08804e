/-
  Plain facts on shares that are picked, and on those that another secret goes with as well. No program is walked here.
-/
import Derived.Test.YtlefhfmckimlaaeShareMath2
namespace Go.Proofs.Ytlefhfmckimlaae.M

/-- what was picked of the first k shares: all but one at most -/
def Picked (p : List Int) (all : Bool) (skip : Int) (k : Nat) (S : List (Int × Int)) : Prop :=
  OnP p S ∧ (∀ i (h : i < S.length), S[i].1 ≤ (k : Int)) ∧ S.length ≤ k ∧ k ≤ S.length + 1 ∧ ((k : Int) ≤ skip → S.length = k) ∧ (all = true → S.length = k)
theorem Picked.start (p : List Int) (all : Bool) (skip : Int) : Picked p all skip 0 [] :=
  ⟨OnP.nil p, fun i h => by simp at h, Nat.le_refl _, Nat.zero_le _, fun _ => rfl, fun _ => rfl⟩
theorem Picked.add {p : List Int} {all : Bool} {skip : Int} {k : Nat} {S : List (Int × Int)} (h : Picked p all skip k S) (hk : k < 7) : Picked p all skip (k + 1) (S ++ [((k : Int) + 1, ev p ((k : Int) + 1))]) := by
  obtain ⟨h1, h2, h3, h4, h5, h6⟩ := h
  refine ⟨h1.snoc (by omega) (by omega) (fun i hi => by have := h2 i hi; omega), fun i hi => ?_, ?_, ?_, ?_, ?_⟩
  · rcases Nat.lt_or_ge i S.length with g | g
    · rw [List.getElem_append_left g]; have := h2 i g; omega
    · rw [List.getElem_append_right g]
      have e : i - S.length = 0 := by rw [List.length_append] at hi; simp at hi; omega
      simp only [e, List.getElem_cons_zero]; omega
  · rw [List.length_append]; simp; omega
  · rw [List.length_append]; simp; omega
  · intro g
    rw [List.length_append]; simp
    exact h5 (by omega)
  · intro g
    rw [List.length_append]; simp
    exact h6 g
theorem Picked.pass {p : List Int} {skip : Int} {k : Nat} {S : List (Int × Int)} (h : Picked p false skip k S) (hp : (k : Int) = skip) : Picked p false skip (k + 1) S := by
  obtain ⟨h1, h2, h3, h4, h5, h6⟩ := h
  have := h5 (by omega)
  exact ⟨h1, fun i hi => by have := h2 i hi; omega, by omega, by omega, fun g => by omega, fun g => Bool.noConfusion g⟩
/-- at the end there are enough -/
theorem Picked.enough {p : List Int} {all : Bool} {skip : Int} {m need : Nat} {S : List (Int × Int)} (h : Picked p all skip m S) (hn : need ≤ m) (ha : all = false → need < m) : need ≤ S.length := by
  obtain ⟨h1, h2, h3, h4, h5, h6⟩ := h
  cases all
  · have := ha rfl; omega
  · have := h6 rfl; omega

/-- any as many as there are factors tell the secret -/
theorem tells_secret {s : Int} {r : List Int} {S : List (Int × Int)} (s0 : 0 ≤ s) (s1 : s < 257) (h : OnP (s :: r) S) (h7 : S.length ≤ 7) (hl : r.length + 1 ≤ S.length) : joinE S ((r.length : Int) + 1) = 0 ∧ joinR S ((r.length : Int) + 1) = s := by
  obtain ⟨e1, e2⟩ := join_right (n := r.length + 1) h.right h7 (by omega) hl
  have hc : ((r.length + 1 : Nat) : Int) = (r.length : Int) + 1 := by omega
  rw [hc] at e1 e2
  refine ⟨e1, ?_⟩
  have hlen : (S.take (r.length + 1)).length = r.length + 1 := by rw [List.length_take]; omega
  rw [e2, (h.take (r.length + 1)).tells (by omega) (by rw [hlen]; exact Nat.le_refl _), ev_zero s0 s1]

/-- what a function is at 1, 2, .. -/
def trail (f : Int → Int) (n : Nat) : List (Int × Int) := (List.range n).map fun (i : Nat) => ((i : Int) + 1, f ((i : Int) + 1))
theorem trail_len (f : Int → Int) (n : Nat) : (trail f n).length = n := by simp [trail]
theorem trail_succ (f : Int → Int) (n : Nat) : trail f (n + 1) = trail f n ++ [((n : Int) + 1, f ((n : Int) + 1))] := by simp [trail, List.range_succ]
theorem trail_at (f : Int → Int) {n i : Nat} (h : i < (trail f n).length) : (trail f n)[i] = ((i : Int) + 1, f ((i : Int) + 1)) := by simp [trail]
theorem trail_right {f : Int → Int} {n : Nat} (hf : ∀ x, 0 ≤ f x ∧ f x < 257) (h : n ≤ 7) : Right (trail f n) := by
  refine ⟨fun i hi => ?_, fun i j hi hj e => ?_⟩
  · rw [trail_at f hi]
    rw [trail_len] at hi
    exact ⟨⟨by simp only; omega, by simp only; omega⟩, hf _⟩
  · rw [trail_at f hi, trail_at f hj] at e
    simp only at e
    omega

/-- one fewer, and another number at 0 -/
def few (o : Int) (S : List (Int × Int)) (k : Nat) : List (Int × Int) := (0, o) :: S.take k
theorem few_len (o : Int) {S : List (Int × Int)} {k : Nat} (h : k ≤ S.length) : (few o S k).length = k + 1 := by
  unfold few; rw [List.length_cons, List.length_take]; omega
theorem few_right {p : List Int} {S : List (Int × Int)} (h : OnP p S) {o : Int} (o0 : 0 ≤ o) (o1 : o < 257) (k : Nat) : Right (few o S k) := (h.take k).other o0 o1
theorem few_next {p : List Int} {S : List (Int × Int)} (h : OnP p S) {o : Int} (o0 : 0 ≤ o) (o1 : o < 257) {k : Nat} (hk : k ≤ S.length) (h6 : k ≤ 6) {a : Nat} (h7 : a ≤ 7) : nxE (few o S k) (a : Int) = 0 ∧ nxR (few o S k) (a : Int) = next (few o S k) (a : Int) := by
  have e := nxE_0 (ptsE_right (few_right h o0 o1 k) (by rw [few_len o hk]; omega) (by rw [few_len o hk]; omega)) (inR_mk (a := (a : Int)) (by omega) (by omega))
  exact ⟨e, nxR_ok e⟩
/-- the points of what goes through these -/
theorem via {S : List (Int × Int)} {o : Int} {k : Nat} (hk : k ≤ S.length) (h6 : k ≤ 6) (x : Int) : next (trail (next (few o S k)) (k + 1)) x = next (few o S k) x :=
  next_via (trail_right (next_range _) (by omega)) (by rw [few_len o hk]; omega) (by rw [trail_len, few_len o hk]) (fun i hi => by rw [trail_at _ hi]) x
/-- they tell the other number -/
theorem tells_other {p : List Int} {S : List (Int × Int)} (h : OnP p S) {o : Int} (o0 : 0 ≤ o) (o1 : o < 257) {k : Nat} (hk : k ≤ S.length) (h6 : k ≤ 6) : joinE (trail (next (few o S k)) (k + 1)) ((k : Int) + 1) = 0 ∧ joinR (trail (next (few o S k)) (k + 1)) ((k : Int) + 1) = o := by
  obtain ⟨e1, e2⟩ := join_right (n := k + 1) (trail_right (next_range (few o S k)) (n := k + 1) (by omega)) (by rw [trail_len]; omega) (by omega) (by rw [trail_len]; exact Nat.le_refl _)
  have hc : ((k + 1 : Nat) : Int) = (k : Int) + 1 := by omega
  rw [hc] at e1 e2
  refine ⟨e1, ?_⟩
  rw [e2, List.take_of_length_le (by rw [trail_len]; exact Nat.le_refl _), via hk h6]
  exact next_at (few_right h o0 o1 k) (i := 0) (by rw [few_len o hk]; omega)
/-- and each share that was there -/
theorem tells_share {p : List Int} {S : List (Int × Int)} (h : OnP p S) {o : Int} (o0 : 0 ≤ o) (o1 : o < 257) {k : Nat} (hk : k ≤ S.length) (h6 : k ≤ 6) {i : Nat} (hi : i < k) (hS : i < S.length) : nxE (trail (next (few o S k)) (k + 1)) S[i].1 = 0 ∧ nxR (trail (next (few o S k)) (k + 1)) S[i].1 = S[i].2 := by
  have hx := (h.right.1 i hS).1
  have e := nxE_0 (ptsE_right (trail_right (next_range (few o S k)) (n := k + 1) (by omega)) (by rw [trail_len]; omega) (by rw [trail_len]; omega)) (inR_mk hx.1 hx.2)
  refine ⟨e, ?_⟩
  rw [nxR_ok e, via hk h6]
  have hi1 : i + 1 < (few o S k).length := by rw [few_len o hk]; omega
  have g := next_at (few_right h o0 o1 k) hi1
  have e2 : (few o S k)[i + 1] = S[i] := by
    show (S.take k)[i]'(by rw [List.length_take]; omega) = S[i]
    rw [List.getElem_take]
  rwa [e2] at g

end Go.Proofs.Ytlefhfmckimlaae.M
