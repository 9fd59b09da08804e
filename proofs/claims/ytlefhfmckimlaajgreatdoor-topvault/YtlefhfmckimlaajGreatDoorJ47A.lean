/-
  Plain facts on shares: points of one polynomial at other places; any as many as it has factors tell what is at 0; of one fewer each other number might be there. No program is walked here.
  Plain facts on what is dealt and what is joined: their faults, and what each answers. No program is walked here.
-/
import Derived.Test.YtlefhfmckimlaajGreatDoorPolyMath2
namespace Go.Proofs.YtlefhfmckimlaajGreatDoor.M

/-- at 0 a polynomial is its first factor -/
theorem ev_zero {s : Int} (h0 : 0 ≤ s) (h1 : s < 257) (r : List Int) : ev (s :: r) 0 = s := by
  rw [ev_cons]; omega

/-- points of a polynomial, at greater and greater places from 1 to 7 -/
def OnP (p : List Int) (L : List (Int × Int)) : Prop := (∀ i (h : i < L.length), L[i].2 = ev p L[i].1 ∧ 1 ≤ L[i].1 ∧ L[i].1 ≤ 7) ∧ ∀ i j (hi : i < L.length) (hj : j < L.length), i < j → L[i].1 < L[j].1
theorem OnP.nil (p : List Int) : OnP p [] := ⟨fun i h => by simp at h, fun i j h => by simp at h⟩
theorem OnP.snoc {p : List Int} {L : List (Int × Int)} (h : OnP p L) {a : Int} (h1 : 1 ≤ a) (h7 : a ≤ 7) (ha : ∀ i (hi : i < L.length), L[i].1 < a) : OnP p (L ++ [(a, ev p a)]) := by
  have last : ∀ i (hi : i < (L ++ [(a, ev p a)]).length), ¬ i < L.length → (L ++ [(a, ev p a)])[i] = (a, ev p a) := fun i hi g => by
    rw [List.getElem_append_right (by omega)]; simp
  refine ⟨fun i hi => ?_, fun i j hi hj hij => ?_⟩
  · by_cases g : i < L.length
    · rw [List.getElem_append_left g]; exact h.1 i g
    · rw [last i hi g]; exact ⟨rfl, h1, h7⟩
  · have hj' : j < L.length + 1 := by simpa using hj
    have gi : i < L.length := by omega
    rw [List.getElem_append_left gi]
    by_cases g : j < L.length
    · rw [List.getElem_append_left g]; exact h.2 i j gi g hij
    · rw [last j hj g]; exact ha i gi
theorem OnP.take {p : List Int} {L : List (Int × Int)} (h : OnP p L) (k : Nat) : OnP p (L.take k) := by
  refine ⟨fun i hi => ?_, fun i j hi hj hij => ?_⟩
  · rw [List.getElem_take]; exact h.1 i (by rw [List.length_take] at hi; omega)
  · rw [List.getElem_take, List.getElem_take]; exact h.2 i j (by rw [List.length_take] at hi; omega) (by rw [List.length_take] at hj; omega) hij
theorem OnP.right {p : List Int} {L : List (Int × Int)} (h : OnP p L) : Right L := by
  refine ⟨fun i hi => ?_, fun i j hi hj e => ?_⟩
  · obtain ⟨h1, h2, h3⟩ := h.1 i hi
    exact ⟨by omega, by rw [h1]; exact ev_range p _⟩
  · rcases Nat.lt_trichotomy i j with g | g | g
    · have := h.2 i j hi hj g; omega
    · exact g
    · have := h.2 j i hj hi g; omega
/-- as many as there are factors tell it all -/
theorem OnP.tells {p : List Int} {L : List (Int × Int)} (h : OnP p L) (h0 : 0 < L.length) (hl : p.length ≤ L.length) (x : Int) : next L x = ev p x :=
  next_ev h.right h0 p hl (fun i hi => (h.1 i hi).1) x

/-- points of what goes through other points, as many of them: what goes through these goes through those -/
theorem next_via {few L : List (Int × Int)} (hL : Right L) (h0 : 0 < few.length) (hl : L.length = few.length) (ht : ∀ i (hi : i < L.length), L[i].2 = next few L[i].1) (x : Int) : next L x = next few x := by
  obtain ⟨n0, n1⟩ := next_range L x
  obtain ⟨m0, m1⟩ := next_range few x
  refine F.of_inj n0 n1 m0 m1 ?_
  rw [of_next few x]
  refine next_only hL (by omega) (f := nev (ptA few) (ptB few) (few.length - 1) 0) ((nev_pol _ _ (few.length - 1) 0).mono (by omega)) ?_ x
  intro i hi
  rw [ht i hi, of_next]
/-- one fewer, and another number at 0 -/
theorem OnP.other {p : List Int} {L : List (Int × Int)} (h : OnP p L) {o : Int} (o0 : 0 ≤ o) (o1 : o < 257) : Right ((0, o) :: L) := by
  have hR := h.right
  refine ⟨fun i hi => ?_, fun i j hi hj e => ?_⟩
  · cases i with
    | zero => exact ⟨⟨Int.le_refl 0, by simp⟩, o0, o1⟩
    | succ i => exact hR.1 i (by simpa using hi)
  · cases i with
    | zero =>
      cases j with
      | zero => rfl
      | succ j =>
        have := h.1 j (by simpa using hj)
        simp only [List.getElem_cons_zero, List.getElem_cons_succ] at e
        omega
    | succ i =>
      cases j with
      | zero =>
        have := h.1 i (by simpa using hi)
        simp only [List.getElem_cons_zero, List.getElem_cons_succ] at e
        omega
      | succ j =>
        simp only [List.getElem_cons_succ] at e
        rw [hR.2 i j (by simpa using hi) (by simpa using hj) e]

/-- what is dealt: the polynomial at 1, 2, .. -/
def deal (p : List Int) (n : Nat) : List (Int × Int) := (List.range n).map fun (i : Nat) => ((i : Int) + 1, ev p ((i : Int) + 1))
theorem deal_len (p : List Int) (n : Nat) : (deal p n).length = n := by simp [deal]
theorem deal_succ (p : List Int) (n : Nat) : deal p (n + 1) = deal p n ++ [((n : Int) + 1, ev p ((n : Int) + 1))] := by simp [deal, List.range_succ]
theorem deal_at (p : List Int) {n i : Nat} (h : i < n) : (deal p n)[i]'(by rw [deal_len]; exact h) = ((i : Int) + 1, ev p ((i : Int) + 1)) := by simp [deal]
theorem deal_on (p : List Int) {n : Nat} (h : n ≤ 7) : OnP p (deal p n) := by
  refine ⟨fun i hi => ?_, fun i j hi hj hij => ?_⟩
  · rw [deal_len] at hi
    rw [deal_at p hi]
    exact ⟨rfl, by simp only; omega, by simp only; omega⟩
  · rw [deal_len] at hi hj
    rw [deal_at p hi, deal_at p hj]
    simp only; omega
theorem Right.take {l : List (Int × Int)} (h : Right l) (k : Nat) : Right (l.take k) := by
  refine ⟨fun i hi => ?_, fun i j hi hj e => ?_⟩
  · rw [List.getElem_take]; exact h.1 i (by rw [List.length_take] at hi; omega)
  · rw [List.getElem_take, List.getElem_take] at e
    exact h.2 i j (by rw [List.length_take] at hi; omega) (by rw [List.length_take] at hj; omega) e
/-- points that are right are told to be so -/
theorem ptsE_right {l : List (Int × Int)} (h : Right l) (h0 : 0 < l.length) (h7 : l.length ≤ 7) : ptsE l = 0 := by
  rw [ptsE_some h0 h7]
  have : ∀ n, n ≤ l.length → first (ptF l) n = 0 := fun n hn => by
    induction n with
    | zero => rfl
    | succ n ih =>
      rw [first_next (ih (by omega))]
      have hl : n < l.length := by omega
      refine ptF_ok ?_ ?_
      · unfold okP
        rw [pt_at hl, inR_mk (h.1 n hl).1.1 (h.1 n hl).1.2, inR_mk (h.1 n hl).2.1 (h.1 n hl).2.2]; rfl
      · rw [pt_at hl]
        cases g : ahead l n l[n].1
        · rfl
        · exfalso
          unfold ahead at g
          rw [List.any_eq_true] at g
          obtain ⟨q, hq, e⟩ := g
          obtain ⟨j, hj, rfl⟩ := List.mem_take_iff_getElem.1 hq
          have := h.2 j n (by omega) hl (by simpa using e)
          omega
  exact this l.length (Nat.le_refl _)

end Go.Proofs.YtlefhfmckimlaajGreatDoor.M

namespace Go.Proofs.YtlefhfmckimlaajGreatDoor.M

/-- a number of shares that may be -/
def cntB (n : Int) : Bool := decide (1 ≤ n ∧ n ≤ 7)
theorem cntB_yes {n : Int} (h : cntB n = true) : 1 ≤ n ∧ n ≤ 7 := of_decide_eq_true h
theorem cntB_no {n : Int} (h : cntB n = false) : n < 1 ∨ 7 < n := by have := of_decide_eq_false h; omega
theorem cntB_mk {n : Int} (h0 : 1 ≤ n) (h1 : n ≤ 7) : cntB n = true := decide_eq_true ⟨h0, h1⟩

/-- what is wrong with a secret, and with what stands beside it -/
def secE (s : Int) (r : List Int) : Int := if inR s = true then (if 6 < r.length then 4 else first (facF r) r.length) else 1
theorem secE_s {s : Int} {r : List Int} (h : inR s = false) : secE s r = 1 := by unfold secE; rw [h]; rfl
theorem secE_many {s : Int} {r : List Int} (h : inR s = true) (h6 : 6 < r.length) : secE s r = 4 := by unfold secE; rw [if_pos h, if_pos h6]
theorem secE_few {s : Int} {r : List Int} (h : inR s = true) (h6 : ¬ 6 < r.length) : secE s r = first (facF r) r.length := by unfold secE; rw [if_pos h, if_neg h6]

/-- what Deal answers -/
def dealE (s : Int) (r : List Int) (m : Int) : Int := if secE s r ≠ 0 then secE s r else if cntB m = true then (if m ≤ (r.length : Int) then 3 else 0) else 1
def dealR (s : Int) (r : List Int) (m : Int) : List (Int × Int) := if dealE s r m = 0 then deal (s :: r) m.toNat else []
theorem dealE_sec {s : Int} {r : List Int} {m : Int} (h : secE s r ≠ 0) : dealE s r m = secE s r := by unfold dealE; rw [if_pos h]
theorem dealE_cnt {s : Int} {r : List Int} {m : Int} (h : secE s r = 0) (hm : cntB m = false) : dealE s r m = 1 := by
  unfold dealE; rw [if_neg (by simpa using h), hm]; rfl
theorem dealE_few {s : Int} {r : List Int} {m : Int} (h : secE s r = 0) (hm : cntB m = true) (hl : m ≤ (r.length : Int)) : dealE s r m = 3 := by
  unfold dealE; rw [if_neg (by simpa using h), if_pos hm, if_pos hl]
theorem dealE_0 {s : Int} {r : List Int} {m : Int} (h : secE s r = 0) (hm : cntB m = true) (hl : ¬ m ≤ (r.length : Int)) : dealE s r m = 0 := by
  unfold dealE; rw [if_neg (by simpa using h), if_pos hm, if_neg hl]
theorem dealR_bad {s : Int} {r : List Int} {m : Int} (h : dealE s r m ≠ 0) : dealR s r m = [] := by unfold dealR; rw [if_neg h]
theorem dealR_ok {s : Int} {r : List Int} {m : Int} (h : dealE s r m = 0) : dealR s r m = deal (s :: r) m.toNat := by unfold dealR; rw [if_pos h]
theorem secE_ok {s : Int} {r : List Int} (h : secE s r = 0) : (0 ≤ s ∧ s < 257) ∧ r.length ≤ 6 ∧ facE r = 0 := by
  cases hs : inR s
  · rw [secE_s hs] at h; exact absurd h (by decide)
  · by_cases h6 : 6 < r.length
    · rw [secE_many hs h6] at h; exact absurd h (by decide)
    · rw [secE_few hs h6] at h
      exact ⟨inR_yes hs, by omega, by rw [facE_few (by omega)]; exact h⟩
/-- a secret ahead of factors that are right -/
theorem facE_cons {s : Int} {r : List Int} (h0 : 0 ≤ s) (h1 : s < 257) (hl : r.length ≤ 6) (hr : facE r = 0) : facE (s :: r) = 0 := by
  obtain ⟨_, hin⟩ := facE_ok hr
  have hlen : (s :: r).length = r.length + 1 := rfl
  rw [facE_few (by rw [hlen]; omega)]
  have : ∀ n, n ≤ (s :: r).length → first (facF (s :: r)) n = 0 := fun n hn => by
    induction n with
    | zero => rfl
    | succ n ih =>
      rw [first_next (ih (by omega))]
      have hl : n < (s :: r).length := by omega
      rw [facF_at hl]
      cases n with
      | zero => rw [List.getElem_cons_zero, if_pos (inR_mk h0 h1)]
      | succ n =>
        have := hin n (by rw [hlen] at hl; omega)
        rw [List.getElem_cons_succ, if_pos (inR_mk this.1 this.2)]
  exact this _ (Nat.le_refl _)
theorem dealE_ok {s : Int} {r : List Int} {m : Int} (h : dealE s r m = 0) : (0 ≤ s ∧ s < 257) ∧ r.length ≤ 6 ∧ facE r = 0 ∧ (1 ≤ m ∧ m ≤ 7) ∧ (r.length : Int) < m := by
  by_cases h0 : secE s r = 0
  · obtain ⟨h1, h2, h3⟩ := secE_ok h0
    cases hm : cntB m
    · rw [dealE_cnt h0 hm] at h; exact absurd h (by decide)
    · by_cases hl : m ≤ (r.length : Int)
      · rw [dealE_few h0 hm hl] at h; exact absurd h (by decide)
      · exact ⟨h1, h2, h3, cntB_yes hm, by omega⟩
  · rw [dealE_sec h0] at h; exact absurd h h0

/-- what Join answers -/
def joinE (l : List (Int × Int)) (n : Int) : Int := if cntB n = true then (if ptsE l ≠ 0 then ptsE l else if (l.length : Int) < n then 5 else 0) else 1
def joinR (l : List (Int × Int)) (n : Int) : Int := if joinE l n = 0 then next (l.take n.toNat) 0 else 0
theorem joinE_cnt {l : List (Int × Int)} {n : Int} (h : cntB n = false) : joinE l n = 1 := by unfold joinE; rw [h]; rfl
theorem joinE_pts {l : List (Int × Int)} {n : Int} (h : cntB n = true) (hp : ptsE l ≠ 0) : joinE l n = ptsE l := by unfold joinE; rw [if_pos h, if_pos hp]
theorem joinE_few {l : List (Int × Int)} {n : Int} (h : cntB n = true) (hp : ptsE l = 0) (hl : (l.length : Int) < n) : joinE l n = 5 := by
  unfold joinE; rw [if_pos h, if_neg (by simpa using hp), if_pos hl]
theorem joinE_0 {l : List (Int × Int)} {n : Int} (h : cntB n = true) (hp : ptsE l = 0) (hl : ¬ (l.length : Int) < n) : joinE l n = 0 := by
  unfold joinE; rw [if_pos h, if_neg (by simpa using hp), if_neg hl]
theorem joinR_bad {l : List (Int × Int)} {n : Int} (h : joinE l n ≠ 0) : joinR l n = 0 := by unfold joinR; rw [if_neg h]
theorem joinR_ok {l : List (Int × Int)} {n : Int} (h : joinE l n = 0) : joinR l n = next (l.take n.toNat) 0 := by unfold joinR; rw [if_pos h]
/-- the first ones of points that are right are right -/
theorem ptsE_take {l : List (Int × Int)} (h : ptsE l = 0) {k : Nat} (h0 : 0 < k) (hk : k ≤ l.length) : ptsE (l.take k) = 0 := by
  obtain ⟨g0, g7, hR⟩ := ptsE_ok h
  have hlen : (l.take k).length = k := by rw [List.length_take]; omega
  exact ptsE_right (hR.take k) (by omega) (by omega)
/-- right points, enough of them -/
theorem join_right {l : List (Int × Int)} {n : Nat} (h : Right l) (h7 : l.length ≤ 7) (h0 : 0 < n) (hn : n ≤ l.length) : joinE l (n : Int) = 0 ∧ joinR l (n : Int) = next (l.take n) 0 := by
  have e := joinE_0 (cntB_mk (n := (n : Int)) (by omega) (by omega)) (ptsE_right h (by omega) h7) (by omega)
  exact ⟨e, by rw [joinR_ok e, Int.toNat_natCast]⟩
/-- through one point it is that anywhere -/
theorem next_one (q : Int × Int) (hq : Right [q]) (x : Int) : next [q] x = q.2 := by
  have h1 := (hq.1 0 (by simp)).2
  simp only [List.getElem_cons_zero] at h1
  have e := next_ev hq (by simp) [q.2] (by simp) (fun i hi => by
    have hi0 : i = 0 := by simpa using hi
    subst hi0
    simp only [List.getElem_cons_zero]
    rw [ev_cons, ev_nil]; omega) x
  rw [e, ev_cons, ev_nil]; omega

end Go.Proofs.YtlefhfmckimlaajGreatDoor.M
