/-
  Plain facts on shares: points of one polynomial at other places; any as many as it has factors tell what is at 0; of one fewer each other number might be there. No program is walked here.
-/
import Derived.Test.YtlefhfmckimlaagDoorPolyMath2
namespace Go.Proofs.YtlefhfmckimlaagDoor.M

/-- at 0 a polynomial is its first factor -/
theorem ev_zero {s : Int} (h0 : 0 ≤ s) (h1 : s < 257) (r : List Int) : ev (s :: r) 0 = s := by
  rw [ev_cons]; omega

/-- points of a polynomial, at greater and greater places from 1 to 7 -/
def OnP (p : List Int) (L : List (Int × Int)) : Prop := (∀ i (h : i < L.length), L[i].2 = ev p L[i].1 ∧ 1 ≤ L[i].1 ∧ L[i].1 ≤ 7) ∧ ∀ i j (hi : i < L.length) (hj : j < L.length), i < j → L[i].1 < L[j].1
theorem OnP.nil (p : List Int) : OnP p [] := ⟨fun i h => by simp at h, fun i j h => by simp at h⟩
theorem OnP.snoc {p : List Int} {L : List (Int × Int)} (h : OnP p L) {a : Int} (h1 : 1 ≤ a) (h7 : a ≤ 7) (ha : ∀ i (hi : i < L.length), L[i].1 < a) : OnP p (L ++ [(a, ev p a)]) := by
  have last : ∀ i (hi : i < (L ++ [(a, ev p a)]).length), ¬ i < L.length → (L ++ [(a, ev p a)])[i] = (a, ev p a) := fun i hi g => by
    rw [List.getElem_append_right (by omega)]; simp
  refine ⟨fun i hi => ?_, fun i j hi hj hij => ?_⟩
  · by_cases g : i < L.length
    · rw [List.getElem_append_left g]; exact h.1 i g
    · rw [last i hi g]; exact ⟨rfl, h1, h7⟩
  · have hj' : j < L.length + 1 := by simpa using hj
    have gi : i < L.length := by omega
    rw [List.getElem_append_left gi]
    by_cases g : j < L.length
    · rw [List.getElem_append_left g]; exact h.2 i j gi g hij
    · rw [last j hj g]; exact ha i gi
theorem OnP.take {p : List Int} {L : List (Int × Int)} (h : OnP p L) (k : Nat) : OnP p (L.take k) := by
  refine ⟨fun i hi => ?_, fun i j hi hj hij => ?_⟩
  · rw [List.getElem_take]; exact h.1 i (by rw [List.length_take] at hi; omega)
  · rw [List.getElem_take, List.getElem_take]; exact h.2 i j (by rw [List.length_take] at hi; omega) (by rw [List.length_take] at hj; omega) hij
theorem OnP.right {p : List Int} {L : List (Int × Int)} (h : OnP p L) : Right L := by
  refine ⟨fun i hi => ?_, fun i j hi hj e => ?_⟩
  · obtain ⟨h1, h2, h3⟩ := h.1 i hi
    exact ⟨by omega, by rw [h1]; exact ev_range p _⟩
  · rcases Nat.lt_trichotomy i j with g | g | g
    · have := h.2 i j hi hj g; omega
    · exact g
    · have := h.2 j i hj hi g; omega
/-- as many as there are factors tell it all -/
theorem OnP.tells {p : List Int} {L : List (Int × Int)} (h : OnP p L) (h0 : 0 < L.length) (hl : p.length ≤ L.length) (x : Int) : next L x = ev p x :=
  next_ev h.right h0 p hl (fun i hi => (h.1 i hi).1) x

/-- points of what goes through other points, as many of them: what goes through these goes through those -/
theorem next_via {few L : List (Int × Int)} (hL : Right L) (h0 : 0 < few.length) (hl : L.length = few.length) (ht : ∀ i (hi : i < L.length), L[i].2 = next few L[i].1) (x : Int) : next L x = next few x := by
  obtain ⟨n0, n1⟩ := next_range L x
  obtain ⟨m0, m1⟩ := next_range few x
  refine F.of_inj n0 n1 m0 m1 ?_
  rw [of_next few x]
  refine next_only hL (by omega) (f := nev (ptA few) (ptB few) (few.length - 1) 0) ((nev_pol _ _ (few.length - 1) 0).mono (by omega)) ?_ x
  intro i hi
  rw [ht i hi, of_next]
/-- one fewer, and another number at 0 -/
theorem OnP.other {p : List Int} {L : List (Int × Int)} (h : OnP p L) {o : Int} (o0 : 0 ≤ o) (o1 : o < 257) : Right ((0, o) :: L) := by
  have hR := h.right
  refine ⟨fun i hi => ?_, fun i j hi hj e => ?_⟩
  · cases i with
    | zero => exact ⟨⟨Int.le_refl 0, by simp⟩, o0, o1⟩
    | succ i => exact hR.1 i (by simpa using hi)
  · cases i with
    | zero =>
      cases j with
      | zero => rfl
      | succ j =>
        have := h.1 j (by simpa using hj)
        simp only [List.getElem_cons_zero, List.getElem_cons_succ] at e
        omega
    | succ i =>
      cases j with
      | zero =>
        have := h.1 i (by simpa using hi)
        simp only [List.getElem_cons_zero, List.getElem_cons_succ] at e
        omega
      | succ j =>
        simp only [List.getElem_cons_succ] at e
        rw [hR.2 i j (by simpa using hi) (by simpa using hj) e]

/-- what is dealt: the polynomial at 1, 2, .. -/
def deal (p : List Int) (n : Nat) : List (Int × Int) := (List.range n).map fun (i : Nat) => ((i : Int) + 1, ev p ((i : Int) + 1))
theorem deal_len (p : List Int) (n : Nat) : (deal p n).length = n := by simp [deal]
theorem deal_succ (p : List Int) (n : Nat) : deal p (n + 1) = deal p n ++ [((n : Int) + 1, ev p ((n : Int) + 1))] := by simp [deal, List.range_succ]
theorem deal_at (p : List Int) {n i : Nat} (h : i < n) : (deal p n)[i]'(by rw [deal_len]; exact h) = ((i : Int) + 1, ev p ((i : Int) + 1)) := by simp [deal]
theorem deal_on (p : List Int) {n : Nat} (h : n ≤ 7) : OnP p (deal p n) := by
  refine ⟨fun i hi => ?_, fun i j hi hj hij => ?_⟩
  · rw [deal_len] at hi
    rw [deal_at p hi]
    exact ⟨rfl, by simp only; omega, by simp only; omega⟩
  · rw [deal_len] at hi hj
    rw [deal_at p hi, deal_at p hj]
    simp only; omega
theorem Right.take {l : List (Int × Int)} (h : Right l) (k : Nat) : Right (l.take k) := by
  refine ⟨fun i hi => ?_, fun i j hi hj e => ?_⟩
  · rw [List.getElem_take]; exact h.1 i (by rw [List.length_take] at hi; omega)
  · rw [List.getElem_take, List.getElem_take] at e
    exact h.2 i j (by rw [List.length_take] at hi; omega) (by rw [List.length_take] at hj; omega) e
/-- points that are right are told to be so -/
theorem ptsE_right {l : List (Int × Int)} (h : Right l) (h0 : 0 < l.length) (h7 : l.length ≤ 7) : ptsE l = 0 := by
  rw [ptsE_some h0 h7]
  have : ∀ n, n ≤ l.length → first (ptF l) n = 0 := fun n hn => by
    induction n with
    | zero => rfl
    | succ n ih =>
      rw [first_next (ih (by omega))]
      have hl : n < l.length := by omega
      refine ptF_ok ?_ ?_
      · unfold okP
        rw [pt_at hl, inR_mk (h.1 n hl).1.1 (h.1 n hl).1.2, inR_mk (h.1 n hl).2.1 (h.1 n hl).2.2]; rfl
      · rw [pt_at hl]
        cases g : ahead l n l[n].1
        · rfl
        · exfalso
          unfold ahead at g
          rw [List.any_eq_true] at g
          obtain ⟨q, hq, e⟩ := g
          obtain ⟨j, hj, rfl⟩ := List.mem_take_iff_getElem.1 hq
          have := h.2 j n (by omega) hl (by simpa using e)
          omega
  exact this l.length (Nat.le_refl _)

end Go.Proofs.YtlefhfmckimlaagDoor.M
