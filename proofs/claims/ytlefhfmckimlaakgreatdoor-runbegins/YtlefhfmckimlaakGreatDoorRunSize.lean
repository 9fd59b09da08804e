/-
  Plain: a session's answers have a bound, and the space stays as it should be. No program is walked here.
-/
import Derived.Test.YtlefhfmckimlaakGreatDoorRunMath
import Derived.Test.YtlefhfmckimlaakGreatDoorJDig
import Derived.Test.YtlefhfmckimlaakGreatDoorOnceMath
set_option linter.unusedVariables false
namespace Go.Proofs.YtlefhfmckimlaakGreatDoor.M

theorem errN_len (e : Int) : (errN e).length ≤ 100 := by
  unfold errN
  repeat' split
  all_goals decide
theorem dec_len {n : Nat} (h : n ≤ 1000000) : (Lib.decDigits n).length ≤ 100 := Nat.le_trans (len_le n h) (by decide)
theorem getV_in {a : List Val} {L : List (List Val)} (h : getF a L = 0) : getV a L ∈ L := by
  by_cases h1 : likeF a = 0
  · by_cases h2 : spot a L < L.length
    · rw [getV_hit h1 h2]; exact List.getElem_mem _
    · rw [getF_miss h1 h2] at h; exact absurd h (by decide)
  · rw [getF_bad h1] at h; exact absurd h h1
theorem tup_like {t : List Val} (h : tupF t = 0) : likeF t = 0 := (tupF_ok h).1
theorem getV_like {a : List Val} {L : List (List Val)} (hL : Fine L) (h : getF a L = 0) : likeF (getV a L) = 0 := tup_like (hL.1 _ (getV_in h))
theorem getV_len {a : List Val} {L : List (List Val)} (hL : Fine L) (h : getF a L = 0) : (line (getV a L)).data.toList.length ≤ 100 := by
  have := line_le (getV_like hL h)
  have e : (line (getV a L)).data.toList.length = (line (getV a L)).size := by simp
  omega
theorem blanks_len : ∀ (l : List Int), (∀ n ∈ l, n ≤ 256) → (blanks l).length ≤ l.length * 8
  | [], _ => by simp [blanks]
  | [n], h => by
    have := len_le n.toNat (by have := h n (by simp); omega)
    simp only [blanks, List.length_cons, List.length_nil]
    omega
  | n :: m :: r, h => by
    have h1 := len_le n.toNat (by have := h n (by simp); omega)
    have h2 := blanks_len (m :: r) (fun x hx => h x (by simp [hx]))
    simp only [blanks, List.length_append, List.length_cons] at h2 ⊢
    omega
theorem deal_small {s r m : Int} (h : dealE s [r] m = 0) : (dealR s [r] m).length ≤ 7 ∧ ∀ n ∈ (dealR s [r] m).map (·.2), 0 ≤ n ∧ n ≤ 256 := by
  obtain ⟨_, _, _, hm, _⟩ := dealE_ok h
  rw [dealR_ok h]
  refine ⟨by rw [deal_len]; omega, fun n hn => ?_⟩
  simp only [deal, List.map_map, List.mem_map, Function.comp_def] at hn
  obtain ⟨i, _, rfl⟩ := hn
  have := ev_range [s, r] ((i : Int) + 1)
  omega
theorem dealT_len (s r m : Int) : (dealT s r m).length ≤ 100 := by
  unfold dealT
  split
  · exact errN_len _
  · rename_i h
    have h0 : dealE s [r] m = 0 := by simpa using h
    obtain ⟨h1, h2⟩ := deal_small h0
    have := blanks_len ((dealR s [r] m).map (·.2)) (fun n hn => (h2 n hn).2)
    rw [List.length_map] at this
    omega
theorem oneR_fine {L : List (List Val)} (hL : Fine L) (k : List UInt8) (t : List Val) : (oneR L k t).1.length ≤ 100 ∧ Fine (oneR L k t).2 := by
  unfold oneR
  split
  · refine ⟨?_, Fine.put hL⟩
    show (if putF L t ≠ 0 then errN (putF L t) else wOk).length ≤ 100
    split
    · exact errN_len _
    · decide
  split
  · refine ⟨?_, hL⟩
    show (if getF t L ≠ 0 then errN (getF t L) else (line (getV t L)).data.toList).length ≤ 100
    split
    · exact errN_len _
    · rename_i h; exact getV_len hL (by simpa using h)
  split
  · refine ⟨?_, Fine.less hL⟩
    show (if getF t L ≠ 0 then errN (getF t L) else (line (getV t L)).data.toList).length ≤ 100
    split
    · exact errN_len _
    · rename_i h; exact getV_len hL (by simpa using h)
  split
  · exact ⟨dec_len (by have := many_le t L; have := hL.2; omega), hL⟩
  split
  · exact ⟨dec_len (by have := hash_range (line t); omega), hL⟩
  · exact ⟨show wBad.length ≤ 100 by decide, hL⟩
theorem onceR_fine {L : List (List Val)} (hL : Fine L) (a t : List Val) : (onceR L a t).1.length ≤ 100 ∧ Fine (onceR L a t).2 := by
  unfold onceR
  split
  · exact ⟨errN_len _, hL⟩
  split
  · exact ⟨show wNo.length ≤ 100 by decide, hL⟩
  split
  · exact ⟨errN_len _, hL⟩
  · exact ⟨show wYes.length ≤ 100 by decide, Fine.put hL⟩
theorem lineR_fine {L : List (List Val)} (hL : Fine L) (s : List UInt8) : (lineR L s).1.length ≤ 100 ∧ Fine (lineR L s).2 := by
  have bad : (wBad, L).1.length ≤ 100 ∧ Fine (wBad, L).2 := ⟨by show wBad.length ≤ 100; decide, hL⟩
  unfold lineR
  split
  · split
    · exact bad
    split
    · exact bad
    · exact oneR_fine hL _ _
  · split
    · split
      · exact bad
      · exact onceR_fine hL _ _
    · exact bad
  · split
    · refine ⟨?_, hL⟩
      show (if _ then _ else wBad).length ≤ 100
      split
      · exact dealT_len _ _ _
      · decide
    · exact bad
  · exact bad
theorem runL_len : ∀ {L : List (List Val)} (l : List (List UInt8)), Fine L → (runL L l).length ≤ l.length * 101
  | L, [], _ => by simp [runL]
  | L, s :: r, hL => by
    obtain ⟨h1, h2⟩ := lineR_fine hL s
    have h3 := runL_len r h2
    simp only [runL, List.length_append, List.length_cons] at h3 ⊢
    omega
theorem runS_fine : ∀ {L : List (List Val)} (l : List (List UInt8)), Fine L → Fine (runS L l)
  | L, [], h => h
  | L, s :: r, h => runS_fine r (lineR_fine h s).2
theorem cutB_len (c : UInt8) : ∀ (l : List UInt8), (cutB c l).length ≤ l.length + 1
  | [] => by simp [cutB]
  | x :: r => by
    have h2 := cutB_len c r
    unfold cutB
    split
    · simp; omega
    · cases hc : cutB c r with
      | nil => simp
      | cons q qs => rw [hc] at h2; simp at h2 ⊢; omega
theorem linesL_len (l : List UInt8) : (linesL l).length ≤ l.length + 1 := by
  have := cutB_len 10 l
  unfold linesL noLast
  split
  · rw [List.length_dropLast]; omega
  · exact this
theorem run_size (l : List UInt8) : (runR l).length ≤ 9000000 := by
  unfold runR
  split
  · decide
  · have h1 := linesL_len l
    have h2 := runL_len (L := []) (linesL l) Fine.nil
    omega
end Go.Proofs.YtlefhfmckimlaakGreatDoor.M
