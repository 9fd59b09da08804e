/-
  Plain facts on rules: what is wrong with some, which one goes, whether it may be done; that rules behind the one that goes change nothing, and that one ahead that goes decides. No program is walked here.
-/
import Derived.Test.YtlefhfmckimlaajGreatDoorJ1A
import Derived.Test.YtlefhfmckimlaajGreatDoorPolyMath2
namespace Go.Proofs.YtlefhfmckimlaajGreatDoor.M

/-- a rule: of a deed, of somebody (below 0: of anybody), what a tuple has to fit, and what it says -/
structure Rul where
  deed : Int
  who : Int
  like : List Val
  may : Bool

/-- what is wrong with one -/
def rulF (r : Rul) : Int := if r.deed < 0 ∨ 2 < r.deed ∨ r.who < -1 ∨ 1000000 < r.who then 1 else likeF r.like
theorem rulF_range {r : Rul} (h : r.deed < 0 ∨ 2 < r.deed ∨ r.who < -1 ∨ 1000000 < r.who) : rulF r = 1 := by unfold rulF; rw [if_pos h]
theorem rulF_like {r : Rul} (h : ¬ (r.deed < 0 ∨ 2 < r.deed ∨ r.who < -1 ∨ 1000000 < r.who)) : rulF r = likeF r.like := by unfold rulF; rw [if_neg h]
theorem rulF_ok {r : Rul} (h : rulF r = 0) : (0 ≤ r.deed ∧ r.deed ≤ 2) ∧ (-1 ≤ r.who ∧ r.who ≤ 1000000) ∧ likeF r.like = 0 := by
  by_cases hr : r.deed < 0 ∨ 2 < r.deed ∨ r.who < -1 ∨ 1000000 < r.who
  · rw [rulF_range hr] at h; exact absurd h (by decide)
  · rw [rulF_like hr] at h; exact ⟨by omega, by omega, h⟩
/-- what is wrong with the one at a place -/
def rulA (l : List Rul) (i : Nat) : Int := if h : i < l.length then rulF l[i] else 0
theorem rulA_at {l : List Rul} {i : Nat} (h : i < l.length) : rulA l i = rulF l[i] := by unfold rulA; rw [dif_pos h]
/-- what is wrong with some -/
def rulE (l : List Rul) : Int := if 8 < l.length then 4 else first (rulA l) l.length
theorem rulE_many {l : List Rul} (h : 8 < l.length) : rulE l = 4 := by unfold rulE; rw [if_pos h]
theorem rulE_some {l : List Rul} (h : ¬ 8 < l.length) : rulE l = first (rulA l) l.length := by unfold rulE; rw [if_neg h]
theorem rulE_nil : rulE [] = 0 := rfl
theorem rulE_ok {l : List Rul} (h : rulE l = 0) : l.length ≤ 8 ∧ ∀ i (hi : i < l.length), rulF l[i] = 0 := by
  by_cases h8 : 8 < l.length
  · rw [rulE_many h8] at h; exact absurd h (by decide)
  · rw [rulE_some h8] at h
    exact ⟨by omega, fun i hi => by rw [← rulA_at hi]; exact first_all h i hi⟩
theorem rulE_like {l : List Rul} (h : rulE l = 0) : ∀ r ∈ l, likeF r.like = 0 := fun r hr => by
  obtain ⟨i, hi, rfl⟩ := List.getElem_of_mem hr
  exact (rulF_ok ((rulE_ok h).2 i hi)).2.2

/-- who asks, and for which deed, may be -/
def askB (who deed : Int) : Bool := decide (0 ≤ who ∧ who ≤ 1000000 ∧ 0 ≤ deed ∧ deed ≤ 2)
theorem askB_yes {who deed : Int} (h : askB who deed = true) : 0 ≤ who ∧ who ≤ 1000000 ∧ 0 ≤ deed ∧ deed ≤ 2 := of_decide_eq_true h
theorem askB_no {who deed : Int} (h : askB who deed = false) : who < 0 ∨ 1000000 < who ∨ deed < 0 ∨ 2 < deed := by have := of_decide_eq_false h; omega
/-- what is wrong with asking whether it may be done -/
def mayE (l : List Rul) (who deed : Int) (t : List Val) : Int := if rulE l ≠ 0 then rulE l else if askB who deed = true then tupF t else 1
theorem mayE_rul {l : List Rul} {who deed : Int} {t : List Val} (h : rulE l ≠ 0) : mayE l who deed t = rulE l := by unfold mayE; rw [if_pos h]
theorem mayE_ask {l : List Rul} {who deed : Int} {t : List Val} (h : rulE l = 0) (ha : askB who deed = false) : mayE l who deed t = 1 := by unfold mayE; rw [if_neg (by simpa using h), ha]; rfl
theorem mayE_tup {l : List Rul} {who deed : Int} {t : List Val} (h : rulE l = 0) (ha : askB who deed = true) : mayE l who deed t = tupF t := by unfold mayE; rw [if_neg (by simpa using h), if_pos ha]
theorem mayE_ok {l : List Rul} {who deed : Int} {t : List Val} (h : mayE l who deed t = 0) : rulE l = 0 ∧ askB who deed = true ∧ tupF t = 0 := by
  by_cases h1 : rulE l = 0
  · cases ha : askB who deed
    · rw [mayE_ask h1 ha] at h; exact absurd h (by decide)
    · rw [mayE_tup h1 ha] at h; exact ⟨h1, rfl, h⟩
  · rw [mayE_rul h1] at h; exact absurd h h1
/-- does a rule go -/
def goes (who deed : Int) (t : List Val) (r : Rul) : Bool := fitAll r.like t && (r.deed == deed) && (r.who == -1 || r.who == who)
/-- the place of the first that goes (as many as there are: none does) -/
def spotR (l : List Rul) (who deed : Int) (t : List Val) : Nat := l.findIdx (goes who deed t)
theorem spotR_hit {l : List Rul} {who deed : Int} {t : List Val} {k : Nat} (hk : k < l.length) (h : ∀ j (hj : j < k), goes who deed t (l[j]'(by omega)) = false) (h1 : goes who deed t l[k] = true) : spotR l who deed t = k := by
  unfold spotR
  rw [List.findIdx_eq hk]
  exact ⟨h1, fun j hj => by simpa using h j hj⟩
theorem spotR_none {l : List Rul} {who deed : Int} {t : List Val} (h : ∀ j (hj : j < l.length), goes who deed t l[j] = false) : spotR l who deed t = l.length := by
  unfold spotR
  rw [List.findIdx_eq_length]
  intro x hx
  obtain ⟨i, hi, rfl⟩ := List.mem_iff_getElem.1 hx
  simpa using h i hi
theorem spotR_le (l : List Rul) (who deed : Int) (t : List Val) : spotR l who deed t ≤ l.length := List.findIdx_le_length
theorem spotR_ahead {l : List Rul} {who deed : Int} {t : List Val} {j : Nat} (h : j < spotR l who deed t) : goes who deed t (l[j]'(Nat.lt_of_lt_of_le h (spotR_le ..))) = false := by
  have := List.not_of_lt_findIdx h
  simpa using this
theorem spotR_goes {l : List Rul} {who deed : Int} {t : List Val} (h : spotR l who deed t < l.length) : goes who deed t l[spotR l who deed t] = true := List.findIdx_getElem (w := h)
/-- what First, and May, answer -/
def firE (l : List Rul) (who deed : Int) (t : List Val) : Int := if mayE l who deed t ≠ 0 then mayE l who deed t else if spotR l who deed t < l.length then 0 else 5
def firR (l : List Rul) (who deed : Int) (t : List Val) : Int := if firE l who deed t = 0 then spotR l who deed t else 0
def mayR (l : List Rul) (who deed : Int) (t : List Val) : Bool := if mayE l who deed t = 0 then (if h : spotR l who deed t < l.length then l[spotR l who deed t].may else false) else false
theorem firE_bad {l : List Rul} {who deed : Int} {t : List Val} (h : mayE l who deed t ≠ 0) : firE l who deed t = mayE l who deed t := by unfold firE; rw [if_pos h]
theorem firE_hit {l : List Rul} {who deed : Int} {t : List Val} (h : mayE l who deed t = 0) (hs : spotR l who deed t < l.length) : firE l who deed t = 0 := by unfold firE; rw [if_neg (by simpa using h), if_pos hs]
theorem firE_none {l : List Rul} {who deed : Int} {t : List Val} (h : mayE l who deed t = 0) (hs : ¬ spotR l who deed t < l.length) : firE l who deed t = 5 := by unfold firE; rw [if_neg (by simpa using h), if_neg hs]
theorem firE_ok {l : List Rul} {who deed : Int} {t : List Val} (h : firE l who deed t = 0) : mayE l who deed t = 0 ∧ spotR l who deed t < l.length := by
  by_cases h1 : mayE l who deed t = 0
  · by_cases h2 : spotR l who deed t < l.length
    · exact ⟨h1, h2⟩
    · rw [firE_none h1 h2] at h; exact absurd h (by decide)
  · rw [firE_bad h1] at h; exact absurd h h1
theorem firR_hit {l : List Rul} {who deed : Int} {t : List Val} (h : firE l who deed t = 0) : firR l who deed t = spotR l who deed t := by unfold firR; rw [if_pos h]
theorem firR_bad {l : List Rul} {who deed : Int} {t : List Val} (h : firE l who deed t ≠ 0) : firR l who deed t = 0 := by unfold firR; rw [if_neg h]
theorem mayR_bad {l : List Rul} {who deed : Int} {t : List Val} (h : mayE l who deed t ≠ 0) : mayR l who deed t = false := by unfold mayR; rw [if_neg h]
theorem mayR_hit {l : List Rul} {who deed : Int} {t : List Val} (h : mayE l who deed t = 0) (hs : spotR l who deed t < l.length) : mayR l who deed t = l[spotR l who deed t].may := by unfold mayR; rw [if_pos h, dif_pos hs]
theorem mayR_none {l : List Rul} {who deed : Int} {t : List Val} (h : mayE l who deed t = 0) (hs : ¬ spotR l who deed t < l.length) : mayR l who deed t = false := by unfold mayR; rw [if_pos h, dif_neg hs]
/-- without a rule nothing may be done -/
theorem none_may (who deed : Int) (t : List Val) : mayR [] who deed t = false := by
  by_cases h : mayE [] who deed t = 0
  · exact mayR_none h (by simp)
  · exact mayR_bad h
theorem none_first {who deed : Int} {t : List Val} (h : mayE [] who deed t = 0) : firE [] who deed t = 5 := firE_none h (by simp)
/-- rules behind the one that goes change nothing -/
theorem spotR_more {l : List Rul} (m : List Rul) {who deed : Int} {t : List Val} (h : spotR l who deed t < l.length) : spotR (l ++ m) who deed t = spotR l who deed t := by
  refine spotR_hit (by rw [List.length_append]; omega) (fun j hj => ?_) ?_
  · rw [List.getElem_append_left (by omega)]; exact spotR_ahead hj
  · rw [List.getElem_append_left h]; exact spotR_goes h
theorem may_more {l m : List Rul} {who deed : Int} {t : List Val} (h : firE l who deed t = 0) (hm : mayE (l ++ m) who deed t = 0) : mayR (l ++ m) who deed t = mayR l who deed t := by
  obtain ⟨h1, h2⟩ := firE_ok h
  have e := spotR_more m h2
  have hs : spotR (l ++ m) who deed t < (l ++ m).length := by rw [e, List.length_append]; omega
  rw [mayR_hit hm hs, mayR_hit h1 h2]
  have : (l ++ m)[spotR (l ++ m) who deed t] = (l ++ m)[spotR l who deed t]'(by rw [List.length_append]; omega) := by simp only [e]
  rw [this, List.getElem_append_left h2]
/-- each fits itself -/
theorem val_self (v : Val) : v.same v = true := by simp [Val.same, same]
theorem fit_own : ∀ l : List Val, fitAll l l = true
  | [] => rfl
  | v :: l => by unfold fitAll; rw [fit_own l]; simp [fit1, val_self]
/-- one ahead that goes decides -/
theorem may_ahead {l : List Rul} {who deed : Int} {t : List Val} {b : Bool} (hm : mayE (⟨deed, who, t, b⟩ :: l) who deed t = 0) : mayR (⟨deed, who, t, b⟩ :: l) who deed t = b := by
  have hg : goes who deed t ⟨deed, who, t, b⟩ = true := by unfold goes; rw [fit_own]; simp
  have e : spotR (⟨deed, who, t, b⟩ :: l) who deed t = 0 := spotR_hit (by simp) (fun j hj => absurd hj (by omega)) hg
  have hs : spotR (⟨deed, who, t, b⟩ :: l) who deed t < (⟨deed, who, t, b⟩ :: l : List Rul).length := by rw [e]; simp
  rw [mayR_hit hm hs]
  simp only [e, List.getElem_cons_zero]

end Go.Proofs.YtlefhfmckimlaajGreatDoor.M
