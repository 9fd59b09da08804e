/-
  Plain facts on a crowd: what each says, what wins, and that as many as may lie change nothing. No program is walked here.
-/
import Derived.Test.YtlefhfmckimlaakGreatDoorCopMath
import Derived.Test.YtlefhfmckimlaakGreatDoorJVote
namespace Go.Proofs.YtlefhfmckimlaakGreatDoor.M

/-- what the one at a place says: its lie, if it has one, else the answer -/
def sayA (lie : List ByteArray) (s : ByteArray) (k : Nat) : ByteArray := if lie.getD k sNo = sNo then s else lie.getD k sNo
def sayL (n : Nat) (lie : List ByteArray) (s : ByteArray) : List ByteArray := (List.range n).map (sayA lie s)
theorem sayL_len (n : Nat) (lie : List ByteArray) (s : ByteArray) : (sayL n lie s).length = n := by simp [sayL]
theorem sayL_at {n : Nat} {lie : List ByteArray} {s : ByteArray} {k : Nat} (h : k < (sayL n lie s).length) : (sayL n lie s)[k] = sayA lie s k := by simp [sayL]
theorem sayL_take {n k : Nat} {lie : List ByteArray} {s : ByteArray} (h : k ≤ n) : (sayL n lie s).take k = sayL k lie s := by
  unfold sayL
  rw [← List.map_take, List.take_range, Nat.min_eq_left h]
theorem sayL_next (k : Nat) (lie : List ByteArray) (s : ByteArray) : sayL (k + 1) lie s = sayL k lie s ++ [sayA lie s k] := by
  unfold sayL
  rw [List.range_succ, List.map_append]; rfl
theorem sayA_none {lie : List ByteArray} {s : ByteArray} {k : Nat} (h : lie.length ≤ k) : sayA lie s k = s := by
  unfold sayA
  rw [List.getD_eq_getElem?_getD, List.getElem?_eq_none h]
  exact if_pos rfl
theorem sayA_lie {lie : List ByteArray} {s : ByteArray} {k : Nat} (h : k < lie.length) (h1 : lie[k] ≠ sNo) : sayA lie s k = lie[k] := by
  unfold sayA
  rw [List.getD_eq_getElem?_getD, List.getElem?_eq_getElem h]
  exact if_neg h1
theorem sayA_true {lie : List ByteArray} {s : ByteArray} {k : Nat} (h : k < lie.length) (h1 : lie[k] = sNo) : sayA lie s k = s := by
  unfold sayA
  rw [List.getD_eq_getElem?_getD, List.getElem?_eq_getElem h]
  exact if_pos h1
/-- how many must say it -/
def need (n : Nat) : Int := ((n : Int) - 1) / 3 + 1
theorem need_flt {n : Nat} (h1 : 1 ≤ n) (h7 : n ≤ 7) : fltR n + 1 = need n := by unfold need; rw [fltR_ok (by omega)]
theorem need_range {n : Nat} (h1 : 1 ≤ n) (h7 : n ≤ 7) : 1 ≤ need n ∧ need n ≤ 3 := by unfold need; omega

/-- what a crowd answers: the fault, the text, and what each copy is then -/
def crR (R : List Rul) (c : Cop) (n : Nat) (lie : List ByteArray) (x : Ask) : Int × ByteArray × Cop :=
  if n < lie.length then (3, sNo, c)
  else if (doR R c x).1 ≠ 0 then ((doR R c x).1, sNo, c)
  else (winE (sayL n lie (doR R c x).2.1) (need n), winS (sayL n lie (doR R c x).2.1) (need n), (doR R c x).2.2)
section
variable {R : List Rul} {c : Cop} {n : Nat} {lie : List ByteArray} {x : Ask}
theorem crR_more (h : n < lie.length) : crR R c n lie x = (3, sNo, c) := by unfold crR; rw [if_pos h]
theorem crR_bad (h : ¬ n < lie.length) (h1 : (doR R c x).1 ≠ 0) : crR R c n lie x = ((doR R c x).1, sNo, c) := by unfold crR; rw [if_neg h, if_pos h1]
theorem crR_ok (h : ¬ n < lie.length) (h1 : (doR R c x).1 = 0) : crR R c n lie x = (winE (sayL n lie (doR R c x).2.1) (need n), winS (sayL n lie (doR R c x).2.1) (need n), (doR R c x).2.2) := by unfold crR; rw [if_neg h, if_neg (by simpa using h1)]
theorem doR_err (h : (doR R c x).1 ≠ 0) : (doR R c x).2.2 = c ∧ (doR R c x).2.1 = sNo := by
  rcases doR_ways R c x with h1 | ⟨h1, h2⟩ | ⟨h1, h2, h3⟩ | ⟨h1, h2, h3, h4⟩ | ⟨h1, h2, h3, h4⟩
  · rw [doR_bad h1]; exact ⟨rfl, rfl⟩
  · rw [doR_again h1 h2] at h; exact absurd rfl h
  · rw [doR_state h1 h2 h3]; exact ⟨rfl, rfl⟩
  · rw [doR_did h1 h2 h3 h4] at h; exact absurd rfl h
  · rw [doR_denied h1 h2 h3 h4]; exact ⟨rfl, rfl⟩
theorem crR_ok' (h : c.Ok) : (crR R c n lie x).2.2.Ok := by
  by_cases h1 : n < lie.length
  · rw [crR_more h1]; exact h
  · by_cases h2 : (doR R c x).1 = 0
    · rw [crR_ok h1 h2]; exact h.next
    · rw [crR_bad h1 h2]; exact h
theorem crR_many : (crR R c n lie x).2.2.n ≤ c.n + 1 := by
  by_cases h1 : n < lie.length
  · rw [crR_more h1]; exact Nat.le_succ _
  · by_cases h2 : (doR R c x).1 = 0
    · rw [crR_ok h1 h2]; exact doR_many R c x
    · rw [crR_bad h1 h2]; exact Nat.le_succ _
theorem cntV_map_le (P : Nat → ByteArray) (Q : Nat → Bool) (s : ByteArray) (h : ∀ k, Q k = false → P k = s) : ∀ l : List Nat, l.length ≤ cntV (l.map P) s + l.countP Q
  | [] => Nat.zero_le _
  | k :: l => by
    have ih := cntV_map_le P Q s h l
    rw [List.map_cons, cntV_cons, List.countP_cons, List.length_cons]
    cases hq : Q k
    · rw [if_pos (h k hq)]; simp; omega
    · simp; omega
/-- where no more than may lie have a lie, what the honest say wins -/
theorem few_lies {s : ByteArray} (h1 : 1 ≤ n) (h7 : n ≤ 7) (hl : ((List.range n).countP fun k => decide (lie.getD k sNo ≠ sNo)) ≤ (n - 1) / 3) : winE (sayL n lie s) (need n) = 0 ∧ winS (sayL n lie s) (need n) = s := by
  have hf : Few (sayL n lie s) s ((n - 1) / 3) := by
    unfold Few
    have := cntV_map_le (sayA lie s) (fun k => decide (lie.getD k sNo ≠ sNo)) s (fun k hk => by
      unfold sayA
      rw [if_pos (by simpa using hk)]) (List.range n)
    rw [List.length_range] at this
    rw [sayL_len]
    show n ≤ cntV ((List.range n).map (sayA lie s)) s + _
    omega
  obtain ⟨g, e⟩ := few_win hf (by rw [sayL_len]; omega)
  have hn : (((n - 1) / 3 : Nat) : Int) + 1 = need n := by unfold need; omega
  have hr := need_range h1 h7
  simp only [hn] at g e
  have h0 : winE (sayL n lie s) (need n) = 0 := winE_hit (by omega) (by rw [sayL_len]; omega) g
  exact ⟨h0, by rw [winS_hit h0 g, e]⟩
end

/-- how many have a lie -/
def lieN (n : Nat) (L : List ByteArray) : Nat := (List.range n).countP fun k => decide (L.getD k sNo ≠ sNo)
theorem lieN_none (n : Nat) : lieN n (List.replicate n sNo) = 0 := by
  unfold lieN
  rw [List.countP_eq_zero]
  intro k _
  have : (List.replicate n sNo).getD k sNo = sNo := by
    rw [List.getD_eq_getElem?_getD, List.getElem?_replicate]
    split <;> rfl
  rw [this]
  simp
theorem countP_one {f g : Nat → Bool} {Z : Nat} (h : ∀ k, k ≠ Z → f k = g k) : ∀ l : List Nat, l.countP f ≤ l.countP g + l.count Z
  | [] => Nat.zero_le _
  | k :: l => by
    have ih := countP_one h l
    rw [List.countP_cons, List.countP_cons, List.count_cons]
    by_cases e : k = Z
    · subst e
      simp only [beq_self_eq_true, if_true]
      cases f k <;> cases g k <;> simp <;> omega
    · rw [h k e]
      omega
theorem lieN_set (n : Nat) (L : List ByteArray) (Z : Nat) (x : ByteArray) : lieN n (L.set Z x) ≤ lieN n L + 1 := by
  unfold lieN
  have h1 := countP_one (f := fun k => decide ((L.set Z x).getD k sNo ≠ sNo)) (g := fun k => decide (L.getD k sNo ≠ sNo)) (Z := Z) (fun k hk => by
    simp only [List.getD_eq_getElem?_getD]
    rw [List.getElem?_set_ne (fun e => hk e.symm)]) (List.range n)
  have h2 : (List.range n).count Z ≤ 1 := List.nodup_iff_count.1 List.nodup_range Z
  omega
/-- where no more than may lie have a lie, a crowd answers what one copy answers -/
theorem crR_few {R : List Rul} {c : Cop} {n : Nat} {lie : List ByteArray} {x : Ask} (h1 : 1 ≤ n) (h7 : n ≤ 7) (hn : lie.length ≤ n) (hl : lieN n lie ≤ (n - 1) / 3) : crR R c n lie x = doR R c x := by
  by_cases h : (doR R c x).1 = 0
  · obtain ⟨w1, w2⟩ := few_lies (s := (doR R c x).2.1) h1 h7 hl
    rw [crR_ok (by omega) h, w1, w2, ← h]
  · obtain ⟨e1, e2⟩ := doR_err h
    rw [crR_bad (by omega) h]
    exact Prod.ext rfl (Prod.ext e2.symm e1.symm)

/-- what is said, half way -/
def halfW (n : Nat) (lie : List ByteArray) (s : ByteArray) (k : Nat) : List ByteArray := sayL k lie s ++ List.replicate (n - k) sNo
theorem halfW_zero (n : Nat) (lie : List ByteArray) (s : ByteArray) : halfW n lie s 0 = List.replicate n sNo := rfl
theorem halfW_all (n : Nat) (lie : List ByteArray) (s : ByteArray) : halfW n lie s n = sayL n lie s := by simp [halfW]
theorem halfW_len {n k : Nat} (lie : List ByteArray) (s : ByteArray) (h : k ≤ n) : (halfW n lie s k).length = n := by
  unfold halfW
  rw [List.length_append, sayL_len, List.length_replicate]; omega
theorem halfW_next {n k : Nat} (lie : List ByteArray) (s : ByteArray) (h : k < n) : (halfW n lie s k).set k (sayA lie s k) = halfW n lie s (k + 1) := by
  unfold halfW
  rw [List.set_append_right (h := by rw [sayL_len]; exact Nat.le_refl _), sayL_len, Nat.sub_self, sayL_next, List.append_assoc]
  congr 1
  obtain ⟨j, hj⟩ : ∃ j, n - k = j + 1 := ⟨n - k - 1, by omega⟩
  rw [hj, show n - (k + 1) = j by omega, List.replicate_succ]
  rfl

end Go.Proofs.YtlefhfmckimlaakGreatDoor.M
