/-
  Plain facts on texts that are sealed byte by byte: what is wrong with one, what its shares are, and that as many shares of each byte as stand beside any, and one, tell it again. No program is walked here.
-/
import Derived.Test.YtlefhfmckimlaagDoorShareMath2
namespace Go.Proofs.YtlefhfmckimlaagDoor.M

/-- what is wrong with the first ones, byte by byte -/
def selF (b : List Int) (R : List (List Int)) (m : Int) (i : Nat) : Int := dealE (b.getD i 0) (R.getD i []) m
theorem selF_at {b : List Int} {R : List (List Int)} {m : Int} {i : Nat} (hb : i < b.length) (hR : i < R.length) : selF b R m i = dealE b[i] R[i] m := by
  unfold selF; rw [List.getD_eq_getElem?_getD, List.getElem?_eq_getElem hb, List.getD_eq_getElem?_getD, List.getElem?_eq_getElem hR]; rfl
/-- what is wrong with a text that is to be sealed -/
def selE (b : List Int) (R : List (List Int)) (m : Int) : Int := if 12 < b.length then 4 else if R.length ≠ b.length then 3 else first (selF b R m) b.length
theorem selE_many {b : List Int} {R : List (List Int)} {m : Int} (h : 12 < b.length) : selE b R m = 4 := by unfold selE; rw [if_pos h]
theorem selE_shape {b : List Int} {R : List (List Int)} {m : Int} (h : ¬ 12 < b.length) (hR : R.length ≠ b.length) : selE b R m = 3 := by unfold selE; rw [if_neg h, if_pos hR]
theorem selE_some {b : List Int} {R : List (List Int)} {m : Int} (h : ¬ 12 < b.length) (hR : R.length = b.length) : selE b R m = first (selF b R m) b.length := by unfold selE; rw [if_neg h, if_neg (by omega)]
theorem selE_ok {b : List Int} {R : List (List Int)} {m : Int} (h : selE b R m = 0) : b.length ≤ 12 ∧ R.length = b.length ∧ ∀ i (hb : i < b.length) (hR : i < R.length), dealE b[i] R[i] m = 0 := by
  by_cases h12 : 12 < b.length
  · rw [selE_many h12] at h; exact absurd h (by decide)
  by_cases hR : R.length = b.length
  · rw [selE_some h12 hR] at h
    exact ⟨by omega, hR, fun i hb hr => by rw [← selF_at hb hr]; exact first_all h i hb⟩
  · rw [selE_shape h12 hR] at h; exact absurd h (by decide)
/-- the shares of each byte -/
def selL (b : List Int) (R : List (List Int)) (m : Nat) : List (List (Int × Int)) := List.zipWith (fun s r => deal (s :: r) m) b R
theorem selL_len {b : List Int} {R : List (List Int)} (m : Nat) (h : R.length = b.length) : (selL b R m).length = b.length := by unfold selL; rw [List.length_zipWith, h]; omega
theorem selL_at {b : List Int} {R : List (List Int)} {m i : Nat} (hb : i < b.length) (hR : i < R.length) : (selL b R m)[i]'(by unfold selL; rw [List.length_zipWith]; omega) = deal (b[i] :: R[i]) m := by
  unfold selL; rw [List.getElem_zipWith]
/-- what Seal answers -/
def selR (b : List Int) (R : List (List Int)) (m : Int) : List (List (Int × Int)) := if selE b R m = 0 then selL b R m.toNat else []
theorem selR_ok {b : List Int} {R : List (List Int)} {m : Int} (h : selE b R m = 0) : selR b R m = selL b R m.toNat := by unfold selR; rw [if_pos h]
theorem selR_bad {b : List Int} {R : List (List Int)} {m : Int} (h : selE b R m ≠ 0) : selR b R m = [] := by unfold selR; rw [if_neg h]
/-- the first ones: one more byte, its shares behind the others' -/
theorem selL_take {b : List Int} {R : List (List Int)} {m i : Nat} (hb : i < b.length) (hR : i < R.length) : selL (b.take (i + 1)) (R.take (i + 1)) m = selL (b.take i) (R.take i) m ++ [deal (b[i] :: R[i]) m] := by
  unfold selL
  rw [List.take_succ_eq_append_getElem hb, List.take_succ_eq_append_getElem hR, List.zipWith_append (by rw [List.length_take, List.length_take]; omega)]
  rfl

/- Open -/
/-- what is wrong with one byte's shares -/
def opnF (L : List (List (Int × Int))) (n : Int) (i : Nat) : Int := joinE (L.getD i []) n
theorem opnF_at {L : List (List (Int × Int))} {n : Int} {i : Nat} (h : i < L.length) : opnF L n i = joinE L[i] n := by
  unfold opnF; rw [List.getD_eq_getElem?_getD, List.getElem?_eq_getElem h]; rfl
/-- what is wrong with the shares, one by one -/
def eachE (L : List (List (Int × Int))) (n : Int) : Int := first (opnF L n) L.length
theorem eachE_ok {L : List (List (Int × Int))} {n : Int} (h : eachE L n = 0) : ∀ i (hi : i < L.length), joinE L[i] n = 0 := fun i hi => by rw [← opnF_at hi]; exact first_all h i hi
/-- the numbers that they tell -/
def opnL (L : List (List (Int × Int))) (n : Int) : List Int := L.map fun l => joinR l n
theorem opnL_len (L : List (List (Int × Int))) (n : Int) : (opnL L n).length = L.length := by unfold opnL; rw [List.length_map]
theorem opnL_at {L : List (List (Int × Int))} (n : Int) {i : Nat} (h : i < L.length) : (opnL L n)[i]'(by rw [opnL_len]; exact h) = joinR L[i] n := by unfold opnL; rw [List.getElem_map]
theorem opnL_take {L : List (List (Int × Int))} {n : Int} {i : Nat} (h : i < L.length) : opnL (L.take (i + 1)) n = opnL (L.take i) n ++ [joinR L[i] n] := by
  unfold opnL; rw [List.take_succ_eq_append_getElem h, List.map_append]; rfl
/-- one of some numbers is no byte -/
def bigF (l : List Int) (i : Nat) : Int := if 255 < l.getD i 0 then 1 else 0
theorem bigF_at {l : List Int} {i : Nat} (h : i < l.length) : bigF l i = if 255 < l[i] then 1 else 0 := by
  unfold bigF; rw [List.getD_eq_getElem?_getD, List.getElem?_eq_getElem h]; rfl
def bigB (l : List Int) : Bool := decide (first (bigF l) l.length ≠ 0)
theorem bigB_no {l : List Int} (h : bigB l = false) : ∀ i (hi : i < l.length), l[i] ≤ 255 := fun i hi => by
  have h0 : first (bigF l) l.length = 0 := Decidable.of_not_not (of_decide_eq_false h)
  have h1 := first_all h0 i hi
  rw [bigF_at hi] at h1
  by_cases hb : 255 < l[i]
  · rw [if_pos hb] at h1; exact absurd h1 (by decide)
  · omega
/-- what is wrong with what is to be opened -/
def opnE (L : List (List (Int × Int))) (n : Int) : Int := if 12 < L.length then 4 else if eachE L n ≠ 0 then eachE L n else if bigB (opnL L n) = true then 3 else 0
theorem opnE_many {L : List (List (Int × Int))} {n : Int} (h : 12 < L.length) : opnE L n = 4 := by unfold opnE; rw [if_pos h]
theorem opnE_each {L : List (List (Int × Int))} {n : Int} (h : ¬ 12 < L.length) (he : eachE L n ≠ 0) : opnE L n = eachE L n := by unfold opnE; rw [if_neg h, if_pos he]
theorem opnE_big {L : List (List (Int × Int))} {n : Int} (h : ¬ 12 < L.length) (he : eachE L n = 0) (hb : bigB (opnL L n) = true) : opnE L n = 3 := by unfold opnE; rw [if_neg h, if_neg (by simpa using he), if_pos hb]
theorem opnE_0 {L : List (List (Int × Int))} {n : Int} (h : ¬ 12 < L.length) (he : eachE L n = 0) (hb : bigB (opnL L n) = false) : opnE L n = 0 := by unfold opnE; rw [if_neg h, if_neg (by simpa using he), if_neg (by rw [hb]; decide)]
/-- what Open answers -/
def opnR (L : List (List (Int × Int))) (n : Int) : List Int := if opnE L n = 0 then opnL L n else []
theorem opnR_ok {L : List (List (Int × Int))} {n : Int} (h : opnE L n = 0) : opnR L n = opnL L n := by unfold opnR; rw [if_pos h]
theorem opnR_bad {L : List (List (Int × Int))} {n : Int} (h : opnE L n ≠ 0) : opnR L n = [] := by unfold opnR; rw [if_neg h]
theorem joinR_range (l : List (Int × Int)) (n : Int) : 0 ≤ joinR l n ∧ joinR l n < 257 := by
  unfold joinR
  split
  · exact next_range _ _
  · decide

/- what is sealed is opened by as many -/
theorem OnP.drop {p : List Int} {L : List (Int × Int)} (h : OnP p L) (k : Nat) : OnP p (L.drop k) := by
  refine ⟨fun i hi => ?_, fun i j hi hj hij => ?_⟩
  · rw [List.getElem_drop]; exact h.1 (k + i) (by rw [List.length_drop] at hi; omega)
  · rw [List.getElem_drop, List.getElem_drop]; exact h.2 (k + i) (k + j) (by rw [List.length_drop] at hi; omega) (by rw [List.length_drop] at hj; omega) (by omega)
/-- a part of a byte's shares, as many as there are factors or more -/
theorem part_tells {s : Int} {r : List Int} {m f k : Nat} (hm : m ≤ 7) (hk0 : 0 < k) (hr : r.length + 1 ≤ k) (hf : f + k ≤ m) (s0 : 0 ≤ s) (s1 : s < 257) :
    joinE (((deal (s :: r) m).drop f).take k) (k : Int) = 0 ∧ joinR (((deal (s :: r) m).drop f).take k) (k : Int) = s := by
  have hon := ((deal_on (s :: r) hm).drop f).take k
  have hl : (((deal (s :: r) m).drop f).take k).length = k := by rw [List.length_take, List.length_drop, deal_len]; omega
  obtain ⟨e1, e2⟩ := join_right (n := k) hon.right (by omega) hk0 (by omega)
  refine ⟨e1, ?_⟩
  rw [e2, List.take_of_length_le (by omega), hon.tells (by omega) (by rw [hl, List.length_cons]; exact hr), ev_zero s0 s1]
/-- a part of each byte's shares -/
def partL (L : List (List (Int × Int))) (f k : Nat) : List (List (Int × Int)) := L.map fun l => (l.drop f).take k
theorem partL_len (L : List (List (Int × Int))) (f k : Nat) : (partL L f k).length = L.length := by unfold partL; rw [List.length_map]
theorem partL_at {L : List (List (Int × Int))} (f k : Nat) {i : Nat} (h : i < L.length) : (partL L f k)[i]'(by rw [partL_len]; exact h) = (L[i].drop f).take k := by unfold partL; rw [List.getElem_map]
theorem first_none {f : Nat → Int} : ∀ {n : Nat}, (∀ i, i < n → f i = 0) → first f n = 0
  | 0, _ => rfl
  | n + 1, h => by rw [first_next (first_none fun i hi => h i (by omega))]; exact h n (by omega)
theorem seal_back {b : List Int} {R : List (List Int)} {m f k : Nat} (hb : ∀ i (hi : i < b.length), 0 ≤ b[i] ∧ b[i] ≤ 255) (hs : selE b R (m : Int) = 0) (hm : 0 < b.length → m ≤ 7) (hk0 : 0 < k) (hr : ∀ i (hi : i < R.length), R[i].length + 1 ≤ k) (hf : 0 < b.length → f + k ≤ m) :
    opnE (partL (selL b R m) f k) (k : Int) = 0 ∧ opnL (partL (selL b R m) f k) (k : Int) = b := by
  obtain ⟨h12, hRl, _⟩ := selE_ok hs
  have hlen : (partL (selL b R m) f k).length = b.length := by rw [partL_len, selL_len m hRl]
  have each : ∀ i (hi : i < b.length), joinE ((partL (selL b R m) f k)[i]'(by omega)) (k : Int) = 0 ∧ joinR ((partL (selL b R m) f k)[i]'(by omega)) (k : Int) = b[i] := fun i hi => by
    have h1 : i < (selL b R m).length := by rw [selL_len m hRl]; exact hi
    rw [partL_at f k h1, selL_at hi (by omega)]
    obtain ⟨b0, b1⟩ := hb i hi
    exact part_tells (hm (by omega)) hk0 (hr i (by omega)) (hf (by omega)) b0 (by omega)
  have hopn : opnL (partL (selL b R m) f k) (k : Int) = b := by
    refine List.ext_getElem (by rw [opnL_len]; exact hlen) fun i h1 h2 => ?_
    rw [opnL_at (k : Int) (by omega : i < (partL (selL b R m) f k).length)]
    exact (each i h2).2
  refine ⟨opnE_0 (by omega) (first_none fun i hi => ?_) ?_, hopn⟩
  · rw [opnF_at hi]; exact (each i (by omega)).1
  · rw [hopn]
    have h0 : first (bigF b) b.length = 0 := first_none fun i hi => by
      rw [bigF_at hi, if_neg (by have := (hb i hi).2; omega)]
    unfold bigB; rw [h0]; rfl

end Go.Proofs.YtlefhfmckimlaagDoor.M
