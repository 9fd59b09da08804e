/-
  Plain functions on lists of tuples: what putting one answers, and which is the first that fits. No program is walked here.
-/
import Derived.Test.YtlefhfmckimlaagDoorTupFits
namespace Go.Proofs.YtlefhfmckimlaagDoor

/-- the fault of putting a tuple to a list, and the list behind it -/
def M.putF (L : List (List M.Val)) (t : List M.Val) : Int := if M.tupF t ≠ 0 then M.tupF t else if 20 ≤ L.length then 4 else 0
def M.putL (L : List (List M.Val)) (t : List M.Val) : List (List M.Val) := if M.putF L t = 0 then L ++ [t] else L
/-- where the first is that fits (as many as there are: none does) -/
def M.spot (a : List M.Val) (L : List (List M.Val)) : Nat := L.findIdx fun t => M.fitAll a t
/-- the fault of asking for one, the one, and the list without it -/
def M.getF (a : List M.Val) (L : List (List M.Val)) : Int := if M.likeF a ≠ 0 then M.likeF a else if M.spot a L < L.length then 0 else 5
def M.getV (a : List M.Val) (L : List (List M.Val)) : List M.Val := if M.getF a L = 0 then L.getD (M.spot a L) [] else []
def M.lessL (a : List M.Val) (L : List (List M.Val)) : List (List M.Val) := if M.getF a L = 0 then L.eraseIdx (M.spot a L) else L
def M.many (a : List M.Val) (L : List (List M.Val)) : Nat := L.countP fun t => M.fitAll a t
/-- all are right, and no more than may be -/
def M.Fine (L : List (List M.Val)) : Prop := (∀ t ∈ L, M.tupF t = 0) ∧ L.length ≤ 20

theorem Fine.nil : M.Fine [] := ⟨fun t h => by simp at h, by simp⟩
theorem Fine.put {L : List (List M.Val)} {t : List M.Val} (h : M.Fine L) : M.Fine (M.putL L t) := by
  unfold M.putL
  by_cases hf : M.putF L t = 0
  · rw [if_pos hf]
    unfold M.putF at hf
    by_cases h1 : M.tupF t ≠ 0
    · rw [if_pos h1] at hf; exact absurd hf h1
    · rw [if_neg h1] at hf
      by_cases h2 : 20 ≤ L.length
      · rw [if_pos h2] at hf; exact absurd hf (by decide)
      · refine ⟨fun x hx => ?_, by simp; omega⟩
        rcases List.mem_append.1 hx with hx | hx
        · exact h.1 x hx
        · simp at hx; subst hx; simpa using h1
  · rw [if_neg hf]; exact h
theorem Fine.erase {L : List (List M.Val)} {k : Nat} (h : M.Fine L) : M.Fine (L.eraseIdx k) := by
  refine ⟨fun t ht => h.1 t (List.mem_of_mem_eraseIdx ht), ?_⟩
  have := List.length_eraseIdx_le L k
  have := h.2
  omega
theorem Fine.less {L : List (List M.Val)} {a : List M.Val} (h : M.Fine L) : M.Fine (M.lessL a L) := by
  unfold M.lessL
  split
  · exact Fine.erase h
  · exact h

theorem spot_hit {a : List M.Val} {L : List (List M.Val)} {k : Nat} (hk : k < L.length) (h : ∀ j (hj : j < k), M.fitAll a (L[j]'(by omega)) = false) (h1 : M.fitAll a L[k] = true) : M.spot a L = k := by
  unfold M.spot
  rw [List.findIdx_eq hk]
  exact ⟨h1, fun j hj => by simpa using h j hj⟩
theorem spot_none {a : List M.Val} {L : List (List M.Val)} (h : ∀ j (hj : j < L.length), M.fitAll a L[j] = false) : M.spot a L = L.length := by
  unfold M.spot
  rw [List.findIdx_eq_length]
  intro x hx
  obtain ⟨i, hi, rfl⟩ := List.mem_iff_getElem.1 hx
  simpa using h i hi
theorem many_snoc {a : List M.Val} {L : List (List M.Val)} {k : Nat} (hk : k < L.length) : M.many a (L.take (k + 1)) = M.many a (L.take k) + (if M.fitAll a L[k] then 1 else 0) := by
  unfold M.many
  rw [List.take_succ_eq_append_getElem hk, List.countP_append, List.countP_singleton]
theorem many_le (a : List M.Val) (L : List (List M.Val)) : M.many a L ≤ L.length := List.countP_le_length
theorem putF_bad {L : List (List M.Val)} {t : List M.Val} (h : M.tupF t ≠ 0) : M.putF L t = M.tupF t := by unfold M.putF; rw [if_pos h]
theorem putF_full {L : List (List M.Val)} {t : List M.Val} (h : M.tupF t = 0) (hl : 20 ≤ L.length) : M.putF L t = 4 := by unfold M.putF; rw [if_neg (by simpa using h), if_pos hl]
theorem putF_ok {L : List (List M.Val)} {t : List M.Val} (h : M.tupF t = 0) (hl : L.length < 20) : M.putF L t = 0 := by unfold M.putF; rw [if_neg (by simpa using h), if_neg (by omega)]
theorem putL_no {L : List (List M.Val)} {t : List M.Val} (h : M.putF L t ≠ 0) : M.putL L t = L := by unfold M.putL; rw [if_neg h]
theorem putL_yes {L : List (List M.Val)} {t : List M.Val} (h : M.putF L t = 0) : M.putL L t = L ++ [t] := by unfold M.putL; rw [if_pos h]
theorem text_small {v : M.Val} (h : v.fault = 0) : v.s.size ≤ 12 := by
  obtain ⟨k, n, s⟩ := v
  simp only [M.Val.fault] at h ⊢
  unfold M.fault M.faultN M.faultT M.faultA at h
  repeat' split at h
  all_goals first | omega | (rename_i g; omega) | skip

theorem getF_bad {a : List M.Val} {L : List (List M.Val)} (h : M.likeF a ≠ 0) : M.getF a L = M.likeF a := by unfold M.getF; rw [if_pos h]
theorem getF_hit {a : List M.Val} {L : List (List M.Val)} (h : M.likeF a = 0) (hs : M.spot a L < L.length) : M.getF a L = 0 := by unfold M.getF; rw [if_neg (by simpa using h), if_pos hs]
theorem getF_miss {a : List M.Val} {L : List (List M.Val)} (h : M.likeF a = 0) (hs : ¬ M.spot a L < L.length) : M.getF a L = 5 := by unfold M.getF; rw [if_neg (by simpa using h), if_neg hs]
theorem getV_hit {a : List M.Val} {L : List (List M.Val)} (h : M.likeF a = 0) (hs : M.spot a L < L.length) : M.getV a L = L[M.spot a L] := by unfold M.getV; rw [if_pos (getF_hit h hs), List.getD_eq_getElem?_getD, List.getElem?_eq_getElem hs]; rfl
theorem getV_no {a : List M.Val} {L : List (List M.Val)} (h : M.getF a L ≠ 0) : M.getV a L = [] := by unfold M.getV; rw [if_neg h]
theorem lessL_no {a : List M.Val} {L : List (List M.Val)} (h : M.getF a L ≠ 0) : M.lessL a L = L := by unfold M.lessL; rw [if_neg h]
theorem lessL_hit {a : List M.Val} {L : List (List M.Val)} (h : M.likeF a = 0) (hs : M.spot a L < L.length) : M.lessL a L = L.eraseIdx (M.spot a L) := by unfold M.lessL; rw [if_pos (getF_hit h hs)]

end Go.Proofs.YtlefhfmckimlaagDoor
