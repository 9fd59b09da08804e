/-
  Plain facts on decimal numerals: which byte lists are one, what number each spells, and that spelling and reading go back and forth. No program is named here.
  Plain facts on the number that is made of bytes. No program is walked here.
  What digest's own number and the document's own Hash do, each as one law of its call.
-/
import Derived.Test.YtlefhfmckimlaakGreatDoorJVal
import Derived.Lib.Atoi
import Derived.Lib.ItoaNum
namespace Go.Proofs.YtlefhfmckimlaakGreatDoor.M

def digC (c : UInt8) : Bool := decide (48 ≤ c.toNat) && decide (c.toNat ≤ 57)
def numN (l : List UInt8) : Nat := l.foldl (fun a c => a * 10 + (c.toNat - 48)) 0
def isMinus (l : List UInt8) : Bool := l.head? == some 45
def digs (l : List UInt8) : List UInt8 := if isMinus l then l.tail else l
/-- at least one and at most seven digits, no needless 0, no 0 behind a minus -/
def isNum (l : List UInt8) : Bool := decide (1 ≤ (digs l).length) && decide ((digs l).length ≤ 7) && (digs l).all digC && !((digs l).head? == some 48 && (decide (1 < (digs l).length) || isMinus l))
def num (l : List UInt8) : Int := if isMinus l then -(numN (digs l) : Int) else numN (digs l)

theorem numN_snoc (l : List UInt8) (c : UInt8) : numN (l ++ [c]) = numN l * 10 + (c.toNat - 48) := by simp [numN]

theorem decFrom_fold : ∀ (l : List UInt8) (acc : Nat), l.all digC = true → Lib.decFrom acc l = some (l.foldl (fun a c => a * 10 + (c.toNat - 48)) acc)
  | [], acc, _ => rfl
  | c :: r, acc, h => by
    simp only [List.all_cons, Bool.and_eq_true] at h
    have hc : 48 ≤ c.toNat ∧ c.toNat ≤ 57 := by simpa [digC] using h.1
    simp only [Lib.decFrom, Lib.digitVal, if_pos hc, List.foldl_cons]
    exact decFrom_fold r _ h.2

theorem decNat_of {l : List UInt8} (h : l.all digC = true) (h1 : 1 ≤ l.length) : Lib.decNat l = some (numN l) := by
  unfold Lib.decNat
  rw [if_neg (by cases l with | nil => simp at h1 | cons a b => simp), decFrom_fold l 0 h]; rfl

theorem isNum_parts {l : List UInt8} (h : isNum l = true) : 1 ≤ (digs l).length ∧ (digs l).length ≤ 7 ∧ (digs l).all digC = true ∧ ((digs l).head? = some 48 → (digs l).length = 1 ∧ isMinus l = false) := by
  simp only [isNum, Bool.and_eq_true, decide_eq_true_eq, Bool.not_eq_true', Bool.and_eq_false_iff, Bool.or_eq_false_iff, decide_eq_false_iff_not] at h
  obtain ⟨⟨⟨h1, h2⟩, h3⟩, h4⟩ := h
  refine ⟨h1, h2, h3, fun e => ?_⟩
  rcases h4 with h4 | ⟨h4, h5⟩
  · rw [e] at h4; simp at h4
  · exact ⟨by omega, h5⟩
theorem isNum_mk {l : List UInt8} (h1 : 1 ≤ (digs l).length) (h2 : (digs l).length ≤ 7) (h3 : (digs l).all digC = true) (h4 : (digs l).head? = some 48 → (digs l).length = 1 ∧ isMinus l = false) : isNum l = true := by
  simp only [isNum, Bool.and_eq_true, decide_eq_true_eq, Bool.not_eq_true', Bool.and_eq_false_iff, Bool.or_eq_false_iff, decide_eq_false_iff_not]
  refine ⟨⟨⟨h1, h2⟩, h3⟩, ?_⟩
  by_cases e : (digs l).head? = some 48
  · right; obtain ⟨a, b⟩ := h4 e; exact ⟨by omega, b⟩
  · left; simpa using e

theorem atoi_num {l : List UInt8} (h : isNum l = true) : Lib.atoi l = some (num l) := by
  obtain ⟨h1, h2, h3, h4⟩ := isNum_parts h
  cases l with
  | nil => simp [digs, isMinus] at h1
  | cons b r =>
    by_cases hb : b = 45
    · subst hb
      have e : digs (45 :: r) = r := rfl
      rw [e] at h1 h3
      have e2 : num (45 :: r) = -(numN r : Int) := rfl
      rw [e2]
      simp [Lib.atoi, decNat_of h3 h1]
    · have em : isMinus (b :: r) = false := by simpa [isMinus] using hb
      have e : digs (b :: r) = b :: r := by unfold digs; rw [em]; rfl
      rw [e] at h1 h3
      have e2 : num (b :: r) = (numN (b :: r) : Int) := by unfold num; rw [em, e]; rfl
      have hd : digC b = true := by simpa using (List.all_eq_true.1 h3) b (by simp)
      have hb43 : ¬ b = 43 := by intro e; subst e; revert hd; decide
      rw [e2]
      simp [Lib.atoi, hb, hb43, decNat_of h3 h1]

theorem byte_of {c : UInt8} (h : digC c = true) : UInt8.ofNat (48 + (c.toNat - 48)) = c := by
  have hc : 48 ≤ c.toNat ∧ c.toNat ≤ 57 := by simpa [digC] using h
  rw [show 48 + (c.toNat - 48) = c.toNat by omega]
  exact UInt8.ofNat_toNat

/-- digits without a needless 0 are spelt again as they were -/
theorem digits_back : ∀ (n : Nat) (l : List UInt8), l.length = n + 1 → l.all digC = true → (l.head? = some 48 → l.length = 1) → Lib.decDigits (numN l) = l ∧ (l.head? ≠ some 48 → 1 ≤ numN l)
  | 0, l, hl, ha, _ => by
    obtain ⟨c, rfl⟩ : ∃ c, l = [c] := by
      match l, hl with
      | [c], _ => exact ⟨c, rfl⟩
    have hd : digC c = true := by simpa using ha
    have hc : 48 ≤ c.toNat ∧ c.toNat ≤ 57 := by simpa [digC] using hd
    have e : numN [c] = c.toNat - 48 := by simp [numN]
    rw [e]
    refine ⟨?_, fun h => ?_⟩
    · rw [Lib.decDigits, dif_pos (by omega), byte_of hd]
    · have : c.toNat ≠ 48 := fun h2 => h (by
        have : c = 48 := UInt8.toNat_inj.1 h2
        simp [this])
      omega
  | n + 1, l, hl, ha, hz => by
    have hne : l ≠ [] := by intro e; rw [e] at hl; simp at hl
    obtain ⟨r, c, rfl⟩ : ∃ r c, l = r ++ [c] := ⟨l.dropLast, l.getLast hne, (List.dropLast_concat_getLast hne).symm⟩
    have hr : r.length = n + 1 := by simpa using hl
    have hrne : r ≠ [] := by intro e; rw [e] at hr; simp at hr
    simp only [List.all_append, Bool.and_eq_true] at ha
    have hd : digC c = true := by simpa using ha.2
    have hc : 48 ≤ c.toNat ∧ c.toNat ≤ 57 := by simpa [digC] using hd
    have hh : (r ++ [c]).head? = r.head? := by
      cases r with
      | nil => exact absurd rfl hrne
      | cons a b => rfl
    have hr0 : r.head? ≠ some 48 := by
      intro e
      have := hz (by rw [hh]; exact e)
      simp at this; exact hrne this
    obtain ⟨i1, i2⟩ := digits_back n r hr ha.1 (fun e => absurd e hr0)
    have hp := i2 hr0
    rw [numN_snoc]
    refine ⟨?_, fun _ => by omega⟩
    rw [Lib.decDigits, dif_neg (by omega)]
    rw [show (numN r * 10 + (c.toNat - 48)) / 10 = numN r by omega, show (numN r * 10 + (c.toNat - 48)) % 10 = c.toNat - 48 by omega, i1, byte_of hd]

theorem toNat_dig {d : Nat} (h : d < 10) : (UInt8.ofNat (48 + d)).toNat = 48 + d := by
  rw [UInt8.toNat_ofNat']; omega

theorem spelt (u : Nat) : (Lib.decDigits u).all digC = true ∧ numN (Lib.decDigits u) = u ∧ 1 ≤ (Lib.decDigits u).length ∧ ((Lib.decDigits u).head? = some 48 → u = 0) := by
  induction u using Nat.strongRecOn with
  | _ u ih =>
    by_cases h : u < 10
    · have ht := toNat_dig h
      rw [Lib.decDigits, dif_pos h]
      refine ⟨?_, ?_, by simp, fun e => ?_⟩
      · simp only [List.all_cons, List.all_nil, Bool.and_true, digC, Bool.and_eq_true, decide_eq_true_eq]; omega
      · simp only [numN, List.foldl_cons, List.foldl_nil, ht]; omega
      · have e' : UInt8.ofNat (48 + u) = 48 := by simpa only [List.head?_cons, Option.some.injEq] using e
        have := congrArg UInt8.toNat e'
        rw [ht] at this
        have h48 : (48 : UInt8).toNat = 48 := rfl
        omega
    · have ht := toNat_dig (d := u % 10) (by omega)
      obtain ⟨i1, i2, i3, i4⟩ := ih (u / 10) (by omega)
      rw [Lib.decDigits, dif_neg h]
      refine ⟨?_, ?_, by simp, fun e => ?_⟩
      · simp only [List.all_append, i1, Bool.true_and, List.all_cons, List.all_nil, Bool.and_true, digC, Bool.and_eq_true, decide_eq_true_eq]; omega
      · rw [numN_snoc, i2, ht]; omega
      · have hne : Lib.decDigits (u / 10) ≠ [] := by intro e2; rw [e2] at i3; simp at i3
        have hh : (Lib.decDigits (u / 10) ++ [UInt8.ofNat (48 + u % 10)]).head? = (Lib.decDigits (u / 10)).head? := by
          cases hx : Lib.decDigits (u / 10) with
          | nil => exact absurd hx hne
          | cons a b => rfl
        rw [hh] at e
        have := i4 e
        omega

theorem pow_le : ∀ (k u : Nat), k + 1 ≤ Lib.nDigits u → 1 ≤ u → 10 ^ k ≤ u
  | 0, u, _, h1 => by simpa using h1
  | k + 1, u, hk, h1 => by
    by_cases hs : u < 10
    · rw [Lib.nDigits_small hs] at hk; omega
    · rw [Lib.nDigits_big hs] at hk
      have := pow_le k (u / 10) (by omega) (by omega)
      rw [Nat.pow_succ]; omega

theorem len_le (u : Nat) (h : u ≤ 1000000) : (Lib.decDigits u).length ≤ 7 := by
  rw [Lib.decDigits_length]
  by_cases h7 : Lib.nDigits u ≤ 7
  · exact h7
  · exfalso
    have h1 : 1 ≤ u := by
      rcases Nat.eq_zero_or_pos u with e | e
      · subst e; rw [Lib.nDigits_small (by decide)] at h7; omega
      · exact e
    have := pow_le 7 u (by omega) h1
    omega

/-- what a number is spelt as is a numeral of its value -/
theorem num_itoa (n : Int) (h1 : -1000000 ≤ n) (h2 : n ≤ 1000000) : isNum (Lib.itoa n) = true ∧ num (Lib.itoa n) = n := by
  unfold Lib.itoa
  by_cases h : n < 0
  · rw [if_pos h]
    obtain ⟨s1, s2, s3, s4⟩ := spelt n.natAbs
    have e : digs (45 :: Lib.decDigits n.natAbs) = Lib.decDigits n.natAbs := rfl
    refine ⟨isNum_mk (by rw [e]; exact s3) (by rw [e]; exact len_le _ (by omega)) (by rw [e]; exact s1) ?_, ?_⟩
    · rw [e]; intro hz; have := s4 hz; omega
    · show -(numN (Lib.decDigits n.natAbs) : Int) = n
      rw [s2]; omega
  · rw [if_neg h]
    obtain ⟨s1, s2, s3, s4⟩ := spelt n.toNat
    have hm : isMinus (Lib.decDigits n.toNat) = false := by
      cases hx : Lib.decDigits n.toNat with
      | nil => rfl
      | cons a b =>
        have ha : digC a = true := by rw [hx] at s1; simpa using (List.all_eq_true.1 s1) a (by simp)
        have : ¬ a = 45 := by intro e; subst e; revert ha; decide
        simpa [isMinus] using this
    have e : digs (Lib.decDigits n.toNat) = Lib.decDigits n.toNat := by unfold digs; rw [hm]; rfl
    refine ⟨isNum_mk (by rw [e]; exact s3) (by rw [e]; exact len_le _ (by omega)) (by rw [e]; exact s1) ?_, ?_⟩
    · rw [e]; intro hz
      have h0 := s4 hz
      refine ⟨?_, hm⟩
      rw [h0, Lib.decDigits_length, Lib.nDigits_small (by decide)]
    · unfold num; rw [hm, e]
      show (numN (Lib.decDigits n.toNat) : Int) = n
      rw [s2]; omega

/-- a numeral is what its value is spelt as -/
theorem itoa_num {l : List UInt8} (h : isNum l = true) : Lib.itoa (num l) = l := by
  obtain ⟨h1, h2, h3, h4⟩ := isNum_parts h
  obtain ⟨n, hn⟩ : ∃ n, (digs l).length = n + 1 := ⟨(digs l).length - 1, by omega⟩
  obtain ⟨b1, b2⟩ := digits_back n (digs l) hn h3 (fun e => (h4 e).1)
  cases hm : isMinus l
  · have e : digs l = l := by unfold digs; rw [hm]; rfl
    unfold num; rw [hm]
    show Lib.itoa (numN (digs l) : Int) = l
    unfold Lib.itoa; rw [if_neg (by omega), Int.toNat_natCast, b1, e]
  · have e : l = 45 :: digs l := by
      cases l with
      | nil => simp [isMinus] at hm
      | cons a r =>
        have : a = 45 := by simpa [isMinus] using hm
        subst this; rfl
    have hne : (digs l).head? ≠ some 48 := fun e => by have := (h4 e).2; rw [hm] at this; cases this
    have hp := b2 hne
    unfold num; rw [hm]
    show Lib.itoa (-(numN (digs l) : Int)) = l
    unfold Lib.itoa; rw [if_pos (by omega), show (-(numN (digs l) : Int)).natAbs = numN (digs l) by omega, b1]; exact e.symm

theorem num_bound {l : List UInt8} (h : isNum l = true) : -10000000 < num l ∧ num l < 10000000 := by
  obtain ⟨h1, h2, h3, h4⟩ := isNum_parts h
  have key : ∀ (n : Nat) (l : List UInt8), l.length = n → l.all digC = true → numN l < 10 ^ n := by
    intro n
    induction n with
    | zero => intro l hl _; have : l = [] := List.length_eq_zero_iff.1 hl; subst this; simp [numN]
    | succ n ih =>
      intro l hl ha
      have hne : l ≠ [] := by intro e; rw [e] at hl; simp at hl
      obtain ⟨r, c, rfl⟩ : ∃ r c, l = r ++ [c] := ⟨l.dropLast, l.getLast hne, (List.dropLast_concat_getLast hne).symm⟩
      simp only [List.all_append, Bool.and_eq_true] at ha
      have hd : digC c = true := by simpa using ha.2
      have hc : 48 ≤ c.toNat ∧ c.toNat ≤ 57 := by simpa [digC] using hd
      have := ih r (by simpa using hl) ha.1
      rw [numN_snoc, Nat.pow_succ]; omega
  have hk := key _ _ rfl h3
  have hp : 10 ^ (digs l).length ≤ 10 ^ 7 := Nat.pow_le_pow_right (by decide) h2
  unfold num; split <;> omega

end Go.Proofs.YtlefhfmckimlaakGreatDoor.M

namespace Go.Proofs.YtlefhfmckimlaakGreatDoor.M

/-- one byte more -/
def hashC (h : Int) (c : UInt8) : Int := (31 * h + c.toNat) % 10007
def hashL (l : List UInt8) : Int := l.foldl hashC 7
def hash (s : ByteArray) : Int := hashL s.data.toList

theorem hashC_range (h : Int) (c : UInt8) : 0 ≤ hashC h c ∧ hashC h c ≤ 10006 := by unfold hashC; omega
theorem hashL_snoc (l : List UInt8) (c : UInt8) : hashL (l ++ [c]) = hashC (hashL l) c := by simp [hashL]
theorem hashL_range (l : List UInt8) : 0 ≤ hashL l ∧ hashL l ≤ 10006 := by
  by_cases h : l = []
  · subst h; exact ⟨by decide, by decide⟩
  · rw [← List.dropLast_concat_getLast h, hashL_snoc]; exact hashC_range _ _
theorem hash_range (s : ByteArray) : 0 ≤ hash s ∧ hash s ≤ 10006 := hashL_range _
/-- of two bytes behind the same bytes each has its own -/
theorem hashC_own {h : Int} {c d : UInt8} (e : hashC h c = hashC h d) : c = d := by
  unfold hashC at e
  have h1 := c.toNat_lt
  have h2 := d.toNat_lt
  exact UInt8.toNat_inj.1 (by omega)
theorem hash_one (c : UInt8) : hash ⟨#[c]⟩ = 217 + c.toNat := by
  have h1 := c.toNat_lt
  show (31 * 7 + (c.toNat : Int)) % 10007 = _
  omega

end Go.Proofs.YtlefhfmckimlaakGreatDoor.M

namespace Go.Proofs.YtlefhfmckimlaakGreatDoor
open Go.RowKit

theorem number (s : ByteArray) (w : World) (hs : s.size ≤ maxLen) : Calls Tryz.prog 66 #[.string s] w fun e w' => e = .returned (.int .i64 (M.hash s)) ∧ w' = w := by
  unfold maxLen at hs
  go_enter Tryz.func66, Tryz.ntmps66
  go_wp2
  go_loop [3, 4, 7] (fun a _ c => ∃ (k : Nat) (h : Int), k ≤ s.size ∧ a = .int .i64 h ∧ c = .int .i64 k ∧ 0 ≤ h ∧ h ≤ 10006 ∧ Hid (h = M.hashL (s.data.toList.take k))) (fun _ _ c => s.size - (intOf c).toNat)
  case atStart => exact ⟨0, 7, Nat.zero_le _, rfl, rfl, by decide, by decide, hide rfl⟩
  case round =>
    obtain ⟨k, h, hk, rfl, rfl, h0, h1, hh⟩ := hrel
    by_cases hlt : k < s.size
    · have HS : Hid (M.hashC h s[k] = M.hashL (s.data.toList.take (k + 1))) := hide (by rw [take_snoc s k hlt, M.hashL_snoc, ← hh.out])
      have hb := s[k].toNat_lt
      go_wp2
      go_round
      case rel => exact ⟨k + 1, M.hashC h s[k], by omega, by unfold M.hashC; go_num, by go_num, (M.hashC_range _ _).1, (M.hashC_range _ _).2, HS⟩
      case measure => simp [intOf]; omega
    · have hfin : Hid (h = M.hash s) := hide (by have h' := hh.out; rwa [List.take_of_length_le (by simp; omega)] at h')
      go_wp2
      go_ret
      exact ⟨by rw [← hfin.out]; rfl, rfl⟩

theorem refHash (s : ByteArray) (w : World) (hs : s.size ≤ maxLen) : Calls Tryz.prog 51 #[.string s] w fun e w' => e = .returned (.int .i64 (M.hash s)) ∧ w' = w := by
  unfold maxLen at hs
  go_enter Tryz.func51, Tryz.ntmps51
  go_wp2
  go_loop [3, 4] (fun a c => ∃ (k : Nat) (h : Int), k ≤ s.size ∧ a = .int .i64 h ∧ c = .int .i64 k ∧ 0 ≤ h ∧ h ≤ 10006 ∧ Hid (h = M.hashL (s.data.toList.take k))) (fun _ c => s.size - (intOf c).toNat)
  case atStart => exact ⟨0, 7, Nat.zero_le _, rfl, rfl, by decide, by decide, hide rfl⟩
  case round =>
    obtain ⟨k, h, hk, rfl, rfl, h0, h1, hh⟩ := hrel
    by_cases hlt : k < s.size
    · have HS : Hid (M.hashC h s[k] = M.hashL (s.data.toList.take (k + 1))) := hide (by rw [take_snoc s k hlt, M.hashL_snoc, ← hh.out])
      have hb := s[k].toNat_lt
      go_wp2
      go_round
      case rel => exact ⟨k + 1, M.hashC h s[k], by omega, by unfold M.hashC; go_num, by go_num, (M.hashC_range _ _).1, (M.hashC_range _ _).2, HS⟩
      case measure => simp [intOf]; omega
    · have hfin : Hid (h = M.hash s) := hide (by have h' := hh.out; rwa [List.take_of_length_le (by simp; omega)] at h')
      go_wp2
      go_ret
      exact ⟨by rw [← hfin.out]; rfl, rfl⟩

end Go.Proofs.YtlefhfmckimlaakGreatDoor
