/-
  Plain functions on lists of tuples: only if none fits, the oldest changed, all that fit moved. No program is walked here.
-/
import Derived.Test.YtlefhfmckimlaacDoorSpAll
namespace Go.Proofs.YtlefhfmckimlaacDoor

/-- a tuple put if none fits: the fault, whether it was, and the list behind it -/
def M.onceF (a : List M.Val) (L : List (List M.Val)) (t : List M.Val) : Int := if M.likeF a ≠ 0 then M.likeF a else if M.tupF t ≠ 0 then M.tupF t else if M.many a L = 0 then M.putF L t else 0
def M.onceB (a : List M.Val) (L : List (List M.Val)) (t : List M.Val) : Bool := decide (M.likeF a = 0 ∧ M.tupF t = 0 ∧ M.many a L = 0 ∧ M.putF L t = 0)
def M.onceL (a : List M.Val) (L : List (List M.Val)) (t : List M.Val) : List (List M.Val) := if M.onceB a L t then L ++ [t] else L
/-- the oldest changed: the fault, that one, and the list behind it -/
def M.chF (a : List M.Val) (L : List (List M.Val)) (t : List M.Val) : Int := if M.likeF a ≠ 0 then M.likeF a else if M.tupF t ≠ 0 then M.tupF t else M.getF a L
def M.chV (a : List M.Val) (L : List (List M.Val)) (t : List M.Val) : List M.Val := if M.chF a L t = 0 then M.getV a L else []
def M.chL (a : List M.Val) (L : List (List M.Val)) (t : List M.Val) : List (List M.Val) := if M.chF a L t = 0 then M.lessL a L ++ [t] else L
/-- j of those that fit taken, one behind the other: what is left, and what was taken -/
def M.lessN (a : List M.Val) (L : List (List M.Val)) : Nat → List (List M.Val)
  | 0 => L
  | j + 1 => M.lessL a (M.lessN a L j)
def M.gotN (a : List M.Val) (L : List (List M.Val)) : Nat → List (List M.Val)
  | 0 => []
  | j + 1 => M.gotN a L j ++ [M.getV a (M.lessN a L j)]
/-- how many are moved -/
def M.movN (a : List M.Val) (L K : List (List M.Val)) : Nat := if M.likeF a = 0 then min (M.many a L) (20 - K.length) else 0

section
variable {a t : List M.Val} {L K : List (List M.Val)}

theorem once_like (h : M.likeF a ≠ 0) : M.onceF a L t = M.likeF a ∧ M.onceB a L t = false ∧ M.onceL a L t = L := by
  have hb : M.onceB a L t = false := by unfold M.onceB; exact decide_eq_false fun e => h e.1
  exact ⟨by unfold M.onceF; rw [if_pos h], hb, by unfold M.onceL; rw [hb]; rfl⟩
theorem once_tup (ha : M.likeF a = 0) (h : M.tupF t ≠ 0) : M.onceF a L t = M.tupF t ∧ M.onceB a L t = false ∧ M.onceL a L t = L := by
  have hb : M.onceB a L t = false := by unfold M.onceB; exact decide_eq_false fun e => h e.2.1
  exact ⟨by unfold M.onceF; rw [if_neg (by simpa using ha), if_pos h], hb, by unfold M.onceL; rw [hb]; rfl⟩
theorem once_fit (ha : M.likeF a = 0) (ht : M.tupF t = 0) (h : M.many a L ≠ 0) : M.onceF a L t = 0 ∧ M.onceB a L t = false ∧ M.onceL a L t = L := by
  have hb : M.onceB a L t = false := by unfold M.onceB; exact decide_eq_false fun e => h e.2.2.1
  exact ⟨by unfold M.onceF; rw [if_neg (by simpa using ha), if_neg (by simpa using ht), if_neg h], hb, by unfold M.onceL; rw [hb]; rfl⟩
theorem once_full (ha : M.likeF a = 0) (ht : M.tupF t = 0) (h : M.many a L = 0) (hp : M.putF L t ≠ 0) : M.onceF a L t = M.putF L t ∧ M.onceB a L t = false ∧ M.onceL a L t = L := by
  have hb : M.onceB a L t = false := by unfold M.onceB; exact decide_eq_false fun e => hp e.2.2.2
  exact ⟨by unfold M.onceF; rw [if_neg (by simpa using ha), if_neg (by simpa using ht), if_pos h], hb, by unfold M.onceL; rw [hb]; rfl⟩
theorem once_put (ha : M.likeF a = 0) (ht : M.tupF t = 0) (h : M.many a L = 0) (hp : M.putF L t = 0) : M.onceF a L t = 0 ∧ M.onceB a L t = true ∧ M.onceL a L t = L ++ [t] := by
  have hb : M.onceB a L t = true := by unfold M.onceB; exact decide_eq_true ⟨ha, ht, h, hp⟩
  exact ⟨by unfold M.onceF; rw [if_neg (by simpa using ha), if_neg (by simpa using ht), if_pos h, hp], hb, by unfold M.onceL; rw [hb]; rfl⟩

theorem ch_like (h : M.likeF a ≠ 0) : M.chF a L t = M.likeF a ∧ M.chV a L t = [] ∧ M.chL a L t = L := by
  have hf : M.chF a L t = M.likeF a := by unfold M.chF; rw [if_pos h]
  exact ⟨hf, by unfold M.chV; rw [hf, if_neg h], by unfold M.chL; rw [hf, if_neg h]⟩
theorem ch_tup (ha : M.likeF a = 0) (h : M.tupF t ≠ 0) : M.chF a L t = M.tupF t ∧ M.chV a L t = [] ∧ M.chL a L t = L := by
  have hf : M.chF a L t = M.tupF t := by unfold M.chF; rw [if_neg (by simpa using ha), if_pos h]
  exact ⟨hf, by unfold M.chV; rw [hf, if_neg h], by unfold M.chL; rw [hf, if_neg h]⟩
theorem ch_none (ha : M.likeF a = 0) (ht : M.tupF t = 0) (h : M.getF a L ≠ 0) : M.chF a L t = M.getF a L ∧ M.chV a L t = [] ∧ M.chL a L t = L := by
  have hf : M.chF a L t = M.getF a L := by unfold M.chF; rw [if_neg (by simpa using ha), if_neg (by simpa using ht)]
  exact ⟨hf, by unfold M.chV; rw [hf, if_neg h], by unfold M.chL; rw [hf, if_neg h]⟩
theorem ch_ok (ha : M.likeF a = 0) (ht : M.tupF t = 0) (h : M.getF a L = 0) : M.chF a L t = 0 ∧ M.chV a L t = M.getV a L ∧ M.chL a L t = M.lessL a L ++ [t] := by
  have hf : M.chF a L t = 0 := by unfold M.chF; rw [if_neg (by simpa using ha), if_neg (by simpa using ht), h]
  exact ⟨hf, by unfold M.chV; rw [hf, if_pos rfl], by unfold M.chL; rw [hf, if_pos rfl]⟩

theorem get_ok (h : M.getF a L = 0) : M.likeF a = 0 ∧ M.spot a L < L.length := by
  by_cases ha : M.likeF a = 0
  · by_cases hs : M.spot a L < L.length
    · exact ⟨ha, hs⟩
    · rw [getF_miss ha hs] at h; exact absurd h (by decide)
  · rw [getF_bad ha] at h; exact absurd h ha
theorem getV_fits (h : M.getF a L = 0) : M.fitAll a (M.getV a L) = true := by
  obtain ⟨ha, hs⟩ := get_ok h
  rw [getV_hit ha hs]
  exact List.findIdx_getElem (p := fun t => M.fitAll a t) (xs := L) (w := hs)
theorem getV_mem (h : M.getF a L = 0) : M.getV a L ∈ L := by
  obtain ⟨ha, hs⟩ := get_ok h
  rw [getV_hit ha hs]
  exact List.getElem_mem hs
theorem getV_fine (hL : M.Fine L) (h : M.getF a L = 0) : M.tupF (M.getV a L) = 0 := hL.1 _ (getV_mem h)
theorem less_len (h : M.getF a L = 0) : (M.lessL a L).length + 1 = L.length := by
  obtain ⟨ha, hs⟩ := get_ok h
  rw [lessL_hit ha hs, List.length_eraseIdx, if_pos hs]
  omega
theorem many_less (h : M.getF a L = 0) : M.many a (M.lessL a L) + 1 = M.many a L := by
  obtain ⟨ha, hs⟩ := get_ok h
  have hf := getV_fits h
  rw [getV_hit ha hs] at hf
  rw [lessL_hit ha hs]
  generalize M.spot a L = p at *
  unfold M.many
  have e : L = L.take p ++ L[p] :: L.drop (p + 1) := by rw [← List.drop_eq_getElem_cons hs, List.take_append_drop]
  rw [List.eraseIdx_eq_take_drop_succ]
  conv => rhs; rw [e]
  rw [List.countP_append, List.countP_append, List.countP_cons, hf]
  simp; omega
theorem many_get (ha : M.likeF a = 0) (h : M.many a L ≠ 0) : M.getF a L = 0 := by
  refine getF_hit ha ?_
  unfold M.many at h
  obtain ⟨x, hx, hf⟩ := List.countP_pos_iff.1 (Nat.pos_of_ne_zero h)
  exact List.findIdx_lt_length_of_exists ⟨x, hx, hf⟩
theorem get_many (h : M.getF a L = 0) : M.many a L ≠ 0 := by have := many_less h; omega
theorem ch_room (hL : M.Fine L) (h : M.getF a L = 0) (ht : M.tupF t = 0) : M.putF (M.lessL a L) t = 0 := putF_ok ht (by have := less_len h; have := hL.2; omega)
theorem many_put : M.many a (L ++ [t]) = M.many a L + (if M.fitAll a t then 1 else 0) := by unfold M.many; rw [List.countP_append, List.countP_singleton]

theorem Fine.add (hL : M.Fine L) (ht : M.tupF t = 0) (hn : L.length < 20) : M.Fine (L ++ [t]) := ⟨fun x hx => by
  rcases List.mem_append.1 hx with hx | hx
  · exact hL.1 x hx
  · rw [List.mem_singleton.1 hx]; exact ht, by simp; omega⟩
theorem Fine.once (hL : M.Fine L) : M.Fine (M.onceL a L t) := by
  unfold M.onceL
  split
  · rename_i h
    unfold M.onceB at h
    obtain ⟨_, ht, _, hp⟩ := of_decide_eq_true h
    have := Fine.put (t := t) hL
    rwa [putL_yes hp] at this
  · exact hL
theorem Fine.ch (hL : M.Fine L) : M.Fine (M.chL a L t) := by
  by_cases ha : M.likeF a = 0
  · by_cases ht : M.tupF t = 0
    · by_cases h : M.getF a L = 0
      · rw [(ch_ok ha ht h).2.2]
        exact Fine.add (Fine.less hL) ht (by have := less_len h; have := hL.2; omega)
      · rw [(ch_none ha ht h).2.2]; exact hL
    · rw [(ch_tup ha ht).2.2]; exact hL
  · rw [(ch_like ha).2.2]; exact hL

theorem lessN_many (ha : M.likeF a = 0) : ∀ j, j ≤ M.many a L → M.many a (M.lessN a L j) + j = M.many a L
  | 0, _ => rfl
  | j + 1, h => by
    have ih := lessN_many ha j (by omega)
    have := many_less (a := a) (L := M.lessN a L j) (many_get ha (by omega))
    simp only [M.lessN]
    omega
theorem lessN_get (ha : M.likeF a = 0) {j : Nat} (h : j < M.many a L) : M.getF a (M.lessN a L j) = 0 := many_get ha (by have := lessN_many (L := L) ha j (by omega); omega)
theorem lessN_len (ha : M.likeF a = 0) : ∀ j, j ≤ M.many a L → (M.lessN a L j).length + j = L.length
  | 0, _ => rfl
  | j + 1, h => by
    have ih := lessN_len ha j (by omega)
    have := less_len (lessN_get (L := L) ha (j := j) (by omega))
    simp only [M.lessN]
    omega
theorem lessN_fine (hL : M.Fine L) : ∀ j, M.Fine (M.lessN a L j)
  | 0 => hL
  | j + 1 => Fine.less (lessN_fine hL j)
theorem gotN_len : ∀ j, (M.gotN a L j).length = j
  | 0 => rfl
  | j + 1 => by simp only [M.gotN, List.length_append, gotN_len j]; rfl
theorem gotN_many (ha : M.likeF a = 0) : ∀ j, j ≤ M.many a L → M.many a (M.gotN a L j) = j
  | 0, _ => rfl
  | j + 1, h => by
    simp only [M.gotN]
    rw [many_put, gotN_many ha j (by omega), getV_fits (lessN_get ha (by omega))]
    rfl
theorem movN_le : M.movN a L K ≤ M.many a L := by
  unfold M.movN
  split <;> omega
theorem movN_step {j : Nat} (ha : M.likeF a = 0) (hK : K.length ≤ 20) (hj : j ≤ M.movN a L K) : (K ++ M.gotN a L j).length ≤ 20 ∧ (j < M.movN a L K ↔ (K ++ M.gotN a L j).length < 20 ∧ j < M.many a L) := by
  unfold M.movN at *
  rw [if_pos ha] at *
  rw [List.length_append, gotN_len]
  omega
theorem gotN_fine (ha : M.likeF a = 0) (hL : M.Fine L) (hK : M.Fine K) : ∀ j, j ≤ M.movN a L K → M.Fine (K ++ M.gotN a L j)
  | 0, _ => by simpa [M.gotN] using hK
  | j + 1, h => by
    have ih := gotN_fine ha hL hK j (by omega)
    have h1 := (movN_step (K := K) (L := L) ha hK.2 (j := j) (by omega)).2.1 (by omega)
    simp only [M.gotN]
    rw [← List.append_assoc]
    exact Fine.add ih (getV_fine (lessN_fine hL j) (lessN_get ha h1.2)) h1.1
end

end Go.Proofs.YtlefhfmckimlaacDoor
