/-
  Plain facts on what is dealt and what is joined: their faults, and what each answers. No program is walked here.
-/
import Derived.Test.YtlefhfmckimlaagDoorShareMath
namespace Go.Proofs.YtlefhfmckimlaagDoor.M

/-- a number of shares that may be -/
def cntB (n : Int) : Bool := decide (1 ≤ n ∧ n ≤ 7)
theorem cntB_yes {n : Int} (h : cntB n = true) : 1 ≤ n ∧ n ≤ 7 := of_decide_eq_true h
theorem cntB_no {n : Int} (h : cntB n = false) : n < 1 ∨ 7 < n := by have := of_decide_eq_false h; omega
theorem cntB_mk {n : Int} (h0 : 1 ≤ n) (h1 : n ≤ 7) : cntB n = true := decide_eq_true ⟨h0, h1⟩

/-- what is wrong with a secret, and with what stands beside it -/
def secE (s : Int) (r : List Int) : Int := if inR s = true then (if 6 < r.length then 4 else first (facF r) r.length) else 1
theorem secE_s {s : Int} {r : List Int} (h : inR s = false) : secE s r = 1 := by unfold secE; rw [h]; rfl
theorem secE_many {s : Int} {r : List Int} (h : inR s = true) (h6 : 6 < r.length) : secE s r = 4 := by unfold secE; rw [if_pos h, if_pos h6]
theorem secE_few {s : Int} {r : List Int} (h : inR s = true) (h6 : ¬ 6 < r.length) : secE s r = first (facF r) r.length := by unfold secE; rw [if_pos h, if_neg h6]

/-- what Deal answers -/
def dealE (s : Int) (r : List Int) (m : Int) : Int := if secE s r ≠ 0 then secE s r else if cntB m = true then (if m ≤ (r.length : Int) then 3 else 0) else 1
def dealR (s : Int) (r : List Int) (m : Int) : List (Int × Int) := if dealE s r m = 0 then deal (s :: r) m.toNat else []
theorem dealE_sec {s : Int} {r : List Int} {m : Int} (h : secE s r ≠ 0) : dealE s r m = secE s r := by unfold dealE; rw [if_pos h]
theorem dealE_cnt {s : Int} {r : List Int} {m : Int} (h : secE s r = 0) (hm : cntB m = false) : dealE s r m = 1 := by
  unfold dealE; rw [if_neg (by simpa using h), hm]; rfl
theorem dealE_few {s : Int} {r : List Int} {m : Int} (h : secE s r = 0) (hm : cntB m = true) (hl : m ≤ (r.length : Int)) : dealE s r m = 3 := by
  unfold dealE; rw [if_neg (by simpa using h), if_pos hm, if_pos hl]
theorem dealE_0 {s : Int} {r : List Int} {m : Int} (h : secE s r = 0) (hm : cntB m = true) (hl : ¬ m ≤ (r.length : Int)) : dealE s r m = 0 := by
  unfold dealE; rw [if_neg (by simpa using h), if_pos hm, if_neg hl]
theorem dealR_bad {s : Int} {r : List Int} {m : Int} (h : dealE s r m ≠ 0) : dealR s r m = [] := by unfold dealR; rw [if_neg h]
theorem dealR_ok {s : Int} {r : List Int} {m : Int} (h : dealE s r m = 0) : dealR s r m = deal (s :: r) m.toNat := by unfold dealR; rw [if_pos h]
theorem secE_ok {s : Int} {r : List Int} (h : secE s r = 0) : (0 ≤ s ∧ s < 257) ∧ r.length ≤ 6 ∧ facE r = 0 := by
  cases hs : inR s
  · rw [secE_s hs] at h; exact absurd h (by decide)
  · by_cases h6 : 6 < r.length
    · rw [secE_many hs h6] at h; exact absurd h (by decide)
    · rw [secE_few hs h6] at h
      exact ⟨inR_yes hs, by omega, by rw [facE_few (by omega)]; exact h⟩
/-- a secret ahead of factors that are right -/
theorem facE_cons {s : Int} {r : List Int} (h0 : 0 ≤ s) (h1 : s < 257) (hl : r.length ≤ 6) (hr : facE r = 0) : facE (s :: r) = 0 := by
  obtain ⟨_, hin⟩ := facE_ok hr
  have hlen : (s :: r).length = r.length + 1 := rfl
  rw [facE_few (by rw [hlen]; omega)]
  have : ∀ n, n ≤ (s :: r).length → first (facF (s :: r)) n = 0 := fun n hn => by
    induction n with
    | zero => rfl
    | succ n ih =>
      rw [first_next (ih (by omega))]
      have hl : n < (s :: r).length := by omega
      rw [facF_at hl]
      cases n with
      | zero => rw [List.getElem_cons_zero, if_pos (inR_mk h0 h1)]
      | succ n =>
        have := hin n (by rw [hlen] at hl; omega)
        rw [List.getElem_cons_succ, if_pos (inR_mk this.1 this.2)]
  exact this _ (Nat.le_refl _)
theorem dealE_ok {s : Int} {r : List Int} {m : Int} (h : dealE s r m = 0) : (0 ≤ s ∧ s < 257) ∧ r.length ≤ 6 ∧ facE r = 0 ∧ (1 ≤ m ∧ m ≤ 7) ∧ (r.length : Int) < m := by
  by_cases h0 : secE s r = 0
  · obtain ⟨h1, h2, h3⟩ := secE_ok h0
    cases hm : cntB m
    · rw [dealE_cnt h0 hm] at h; exact absurd h (by decide)
    · by_cases hl : m ≤ (r.length : Int)
      · rw [dealE_few h0 hm hl] at h; exact absurd h (by decide)
      · exact ⟨h1, h2, h3, cntB_yes hm, by omega⟩
  · rw [dealE_sec h0] at h; exact absurd h h0

/-- what Join answers -/
def joinE (l : List (Int × Int)) (n : Int) : Int := if cntB n = true then (if ptsE l ≠ 0 then ptsE l else if (l.length : Int) < n then 5 else 0) else 1
def joinR (l : List (Int × Int)) (n : Int) : Int := if joinE l n = 0 then next (l.take n.toNat) 0 else 0
theorem joinE_cnt {l : List (Int × Int)} {n : Int} (h : cntB n = false) : joinE l n = 1 := by unfold joinE; rw [h]; rfl
theorem joinE_pts {l : List (Int × Int)} {n : Int} (h : cntB n = true) (hp : ptsE l ≠ 0) : joinE l n = ptsE l := by unfold joinE; rw [if_pos h, if_pos hp]
theorem joinE_few {l : List (Int × Int)} {n : Int} (h : cntB n = true) (hp : ptsE l = 0) (hl : (l.length : Int) < n) : joinE l n = 5 := by
  unfold joinE; rw [if_pos h, if_neg (by simpa using hp), if_pos hl]
theorem joinE_0 {l : List (Int × Int)} {n : Int} (h : cntB n = true) (hp : ptsE l = 0) (hl : ¬ (l.length : Int) < n) : joinE l n = 0 := by
  unfold joinE; rw [if_pos h, if_neg (by simpa using hp), if_neg hl]
theorem joinR_bad {l : List (Int × Int)} {n : Int} (h : joinE l n ≠ 0) : joinR l n = 0 := by unfold joinR; rw [if_neg h]
theorem joinR_ok {l : List (Int × Int)} {n : Int} (h : joinE l n = 0) : joinR l n = next (l.take n.toNat) 0 := by unfold joinR; rw [if_pos h]
/-- the first ones of points that are right are right -/
theorem ptsE_take {l : List (Int × Int)} (h : ptsE l = 0) {k : Nat} (h0 : 0 < k) (hk : k ≤ l.length) : ptsE (l.take k) = 0 := by
  obtain ⟨g0, g7, hR⟩ := ptsE_ok h
  have hlen : (l.take k).length = k := by rw [List.length_take]; omega
  exact ptsE_right (hR.take k) (by omega) (by omega)
/-- right points, enough of them -/
theorem join_right {l : List (Int × Int)} {n : Nat} (h : Right l) (h7 : l.length ≤ 7) (h0 : 0 < n) (hn : n ≤ l.length) : joinE l (n : Int) = 0 ∧ joinR l (n : Int) = next (l.take n) 0 := by
  have e := joinE_0 (cntB_mk (n := (n : Int)) (by omega) (by omega)) (ptsE_right h (by omega) h7) (by omega)
  exact ⟨e, by rw [joinR_ok e, Int.toNat_natCast]⟩
/-- through one point it is that anywhere -/
theorem next_one (q : Int × Int) (hq : Right [q]) (x : Int) : next [q] x = q.2 := by
  have h1 := (hq.1 0 (by simp)).2
  simp only [List.getElem_cons_zero] at h1
  have e := next_ev hq (by simp) [q.2] (by simp) (fun i hi => by
    have hi0 : i = 0 := by simpa using hi
    subst hi0
    simp only [List.getElem_cons_zero]
    rw [ev_cons, ev_nil]; omega) x
  rw [e, ev_cons, ev_nil]; omega

end Go.Proofs.YtlefhfmckimlaagDoor.M
