/-
  Plain facts: a value that is right is read from its text as it was, and a text that is right is printed as it was; the order of values is one. 
-/
import Derived.Test.YtlefhfmckimlaajGreatDoorPrintWalks
namespace Go.Proofs.YtlefhfmckimlaajGreatDoor.M

theorem num_head {l : List UInt8} (h : isNum l = true) : (l == [42]) = false ∧ (l.head? == some 58) = false := by
  obtain ⟨h1, h2, h3, h4⟩ := isNum_parts h
  cases l with
  | nil => simp [digs, isMinus] at h1
  | cons a r =>
    have ha : a ≠ 42 ∧ a ≠ 58 := by
      by_cases hm : a = 45
      · subst hm; decide
      · have em : isMinus (a :: r) = false := by simpa [isMinus] using hm
        have e : digs (a :: r) = a :: r := by unfold digs; rw [em]; rfl
        rw [e] at h3
        have hd : digC a = true := by simpa using (List.all_eq_true.1 h3) a (by simp)
        constructor <;> (intro e; subst e; revert hd; decide)
    constructor
    · simp [ha.1]
    · simp [ha.2]

theorem back_text {s : ByteArray} (h : pErr s = 0) : fault (pK s) (pN s) (pS s) = 0 ∧ word (pK s) (pN s) (pS s) = s := by
  have hn : ¬ (pErr s ≠ 0) := fun hh => hh h
  unfold pK pN pS
  simp only [if_neg hn]
  unfold pErr at h
  cases h1 : (s.toList == [42])
  · rw [h1] at h
    simp only [Bool.false_eq_true, if_false] at h ⊢
    cases h2 : colon s
    · rw [h2] at h
      simp only [Bool.false_eq_true, if_false] at h ⊢
      cases h3 : isNum s.data.toList
      · rw [h3] at h; exact absurd (show (2 : Int) = 0 from h) (by decide)
      · rw [h3] at h
        simp only [if_true] at h
        refine ⟨h, ?_⟩
        show (⟨(Lib.itoa (num s.data.toList)).toArray⟩ : ByteArray) = s
        rw [itoa_num h3]
    · rw [h2] at h
      simp only [if_true] at h ⊢
      refine ⟨h, ?_⟩
      show (⟨#[58]⟩ : ByteArray) ++ rest s = s
      apply WideShapes.bytes_inj
      obtain ⟨r, hr⟩ : ∃ r, s.data.toList = 58 :: r := by
        cases hl : s.data.toList with
        | nil => simp [colon, hl] at h2
        | cons a r => exact ⟨r, by have : a = 58 := by simpa [colon, hl] using h2
                                   rw [this]⟩
      have e : (rest s).data.toList = r := by simp [rest, hr]
      rw [hr]
      simp [ByteArray.data_append, e]
  · simp only [if_true]
    refine ⟨by decide, ?_⟩
    show (⟨#[42]⟩ : ByteArray) = s
    apply WideShapes.bytes_inj
    rw [ByteArray.toList_eq] at h1
    exact (by simpa using h1 : s.data.toList = [42]).symm

theorem back_value {k n : Int} {x : ByteArray} (h : fault k n x = 0) : pErr (word k n x) = 0 ∧ pK (word k n x) = k ∧ pN (word k n x) = n ∧ pS (word k n x) = x := by
  rcases fault_kind h with rfl | rfl | rfl
  · obtain ⟨n1, n2, n3⟩ := fault_num h
    obtain rfl := size0 n3
    obtain ⟨i1, i2⟩ := num_itoa n n1 n2
    have hw : word 0 n ByteArray.empty = ⟨(Lib.itoa n).toArray⟩ := rfl
    have hd : (word 0 n ByteArray.empty).data.toList = Lib.itoa n := by rw [hw]
    obtain ⟨c1, c2⟩ := num_head i1
    have e1 : ((word 0 n ByteArray.empty).toList == [42]) = false := by rw [ByteArray.toList_eq, hd]; exact c1
    have e2 : colon (word 0 n ByteArray.empty) = false := by unfold colon; rw [hd]; exact c2
    have e : pErr (word 0 n ByteArray.empty) = 0 := by unfold pErr; rw [e1, e2, hd, i1, i2]; exact h
    refine ⟨e, ?_, ?_, ?_⟩
    · unfold pK; rw [e, e1, e2]; rfl
    · unfold pN; rw [e, e1, e2, hd, i2]; rfl
    · unfold pS; rw [e, e1, e2]; rfl
  · obtain ⟨rfl, n2, n3⟩ := fault_text h
    have hd : (word 1 0 x).data.toList = 58 :: x.data.toList := by
      show ((⟨#[58]⟩ : ByteArray) ++ x).data.toList = _
      simp [ByteArray.data_append]
    have e1 : ((word 1 0 x).toList == [42]) = false := by rw [ByteArray.toList_eq, hd]; simp
    have e2 : colon (word 1 0 x) = true := by unfold colon; rw [hd]; rfl
    have er : rest (word 1 0 x) = x := by
      apply WideShapes.bytes_inj
      unfold rest; rw [hd]; simp
    have e : pErr (word 1 0 x) = 0 := by unfold pErr; rw [e1, e2, er]; exact h
    refine ⟨e, ?_, ?_, ?_⟩
    · unfold pK; rw [e, e1, e2]; rfl
    · unfold pN; rw [e, e1, e2]; rfl
    · unfold pS; rw [e, e1, e2, er]; rfl
  · obtain ⟨rfl, n3⟩ := fault_star h
    obtain rfl := size0 n3
    have e1 : ((word 2 0 ByteArray.empty).toList == [42]) = true := by rw [ByteArray.toList_eq]; rfl
    have e : pErr (word 2 0 ByteArray.empty) = 0 := by unfold pErr; rw [e1]; rfl
    refine ⟨e, ?_, ?_, ?_⟩
    · unfold pK; rw [e, e1]; rfl
    · unfold pN; rw [e, e1]; rfl
    · unfold pS; rw [e, e1]; rfl

theorem less_irrefl : ∀ x : List UInt8, Op.bytesLess x x = false
  | [] => rfl
  | a :: x => by simp [Op.bytesLess, less_irrefl x]
theorem less_trans : ∀ x y z : List UInt8, Op.bytesLess x y = true → Op.bytesLess y z = true → Op.bytesLess x z = true
  | _, [], _, h, _ => by simp [Op.bytesLess] at h
  | _, _ :: _, [], _, h => by simp [Op.bytesLess] at h
  | [], _ :: _, _ :: _, _, _ => by simp [Op.bytesLess]
  | a :: x, b :: y, c :: z, h1, h2 => by
    simp only [Op.bytesLess, Bool.or_eq_true, Bool.and_eq_true, decide_eq_true_eq, beq_iff_eq] at h1 h2 ⊢
    rcases h1 with h1 | ⟨rfl, h1⟩
    · rcases h2 with h2 | ⟨rfl, h2⟩
      · left; exact UInt8.lt_trans h1 h2
      · left; exact h1
    · rcases h2 with h2 | ⟨rfl, h2⟩
      · left; exact h2
      · right; exact ⟨rfl, less_trans x y z h1 h2⟩
theorem less_total : ∀ x y : List UInt8, Op.bytesLess x y = false → x ≠ y → Op.bytesLess y x = true
  | [], [], _, h => absurd rfl h
  | [], _ :: _, h, _ => by simp [Op.bytesLess] at h
  | _ :: _, [], _, _ => by simp [Op.bytesLess]
  | a :: x, b :: y, h1, h2 => by
    simp only [Op.bytesLess, Bool.or_eq_false_iff, Bool.and_eq_false_iff, decide_eq_false_iff_not, beq_eq_false_iff_ne, Bool.or_eq_true, Bool.and_eq_true, decide_eq_true_eq, beq_iff_eq] at h1 ⊢
    obtain ⟨h1, h3⟩ := h1
    by_cases e : a = b
    · subst e
      right
      exact ⟨rfl, less_total x y (by simpa using h3) (fun e => h2 (by rw [e]))⟩
    · left
      rw [UInt8.lt_iff_toNat_lt] at h1 ⊢
      have : a.toNat ≠ b.toNat := fun e2 => e (UInt8.toNat_inj.1 e2)
      omega
theorem less_asymm (x y : List UInt8) (h : Op.bytesLess x y = true) : Op.bytesLess y x = false := by
  cases h2 : Op.bytesLess y x
  · rfl
  · have := less_trans x y x h h2; rw [less_irrefl] at this; exact absurd this (by decide)

theorem cmpS_cases (a b : ByteArray) : (cmpS a b = -1 ∧ Op.bytesLess a.toList b.toList = true) ∨ (cmpS a b = 0 ∧ a.toList = b.toList) ∨ (cmpS a b = 1 ∧ Op.bytesLess b.toList a.toList = true) := by
  unfold cmpS
  cases h : Op.bytesLess a.toList b.toList
  · by_cases e : a.toList = b.toList
    · right; left; exact ⟨by simp [e], e⟩
    · right; right; exact ⟨by simp [e], less_total _ _ h e⟩
  · left; simp
theorem cmpS_swap (a b : ByteArray) : cmpS b a = - cmpS a b := by
  rcases cmpS_cases a b with ⟨e, h⟩ | ⟨e, h⟩ | ⟨e, h⟩ <;> rcases cmpS_cases b a with ⟨f, g⟩ | ⟨f, g⟩ | ⟨f, g⟩ <;> rw [e, f] <;> first | rfl | (exfalso; first | (rw [less_asymm _ _ h] at g; exact absurd g (by decide)) | (rw [h, less_irrefl] at g; exact absurd g (by decide)) | (rw [g, less_irrefl] at h; exact absurd h (by decide)) | (rw [← h, less_irrefl] at g; exact absurd g (by decide)))
theorem cmpS_trans (a b c : ByteArray) (h1 : cmpS a b ≤ 0) (h2 : cmpS b c ≤ 0) : cmpS a c ≤ 0 := by
  rcases cmpS_cases a c with ⟨e, h⟩ | ⟨e, h⟩ | ⟨e, h⟩
  · omega
  · omega
  · exfalso
    rcases cmpS_cases a b with ⟨e1, g1⟩ | ⟨e1, g1⟩ | ⟨e1, g1⟩
    · rcases cmpS_cases b c with ⟨e2, g2⟩ | ⟨e2, g2⟩ | ⟨e2, g2⟩
      · have := less_trans _ _ _ g1 g2; rw [less_asymm _ _ h] at this; exact absurd this (by decide)
      · rw [g2] at g1; rw [less_asymm _ _ h] at g1; exact absurd g1 (by decide)
      · omega
    · rcases cmpS_cases b c with ⟨e2, g2⟩ | ⟨e2, g2⟩ | ⟨e2, g2⟩
      · rw [← g1] at g2; rw [less_asymm _ _ h] at g2; exact absurd g2 (by decide)
      · rw [g1, g2, less_irrefl] at h; exact absurd h (by decide)
      · omega
    · omega

theorem cmpI_cases (a b : Int) : (cmpI a b = -1 ∧ a < b) ∨ (cmpI a b = 0 ∧ a = b) ∨ (cmpI a b = 1 ∧ b < a) := by
  unfold cmpI; split
  · left; exact ⟨rfl, by assumption⟩
  · split
    · right; right; exact ⟨rfl, by assumption⟩
    · right; left; exact ⟨rfl, by omega⟩

theorem ord_cases (k1 n1 : Int) (s1 : ByteArray) (k2 n2 : Int) (s2 : ByteArray) :
    (k1 ≠ k2 ∧ ord k1 n1 s1 k2 n2 s2 = cmpI k1 k2) ∨ (k1 = k2 ∧ n1 ≠ n2 ∧ ord k1 n1 s1 k2 n2 s2 = cmpI n1 n2) ∨ (k1 = k2 ∧ n1 = n2 ∧ ord k1 n1 s1 k2 n2 s2 = cmpS s1 s2) := by
  unfold ord
  rcases cmpI_cases k1 k2 with ⟨e, h⟩ | ⟨e, h⟩ | ⟨e, h⟩
  · left; exact ⟨by omega, by rw [if_pos (by omega)]⟩
  · right
    rw [if_neg (by omega)]
    rcases cmpI_cases n1 n2 with ⟨f, g⟩ | ⟨f, g⟩ | ⟨f, g⟩
    · left; exact ⟨h, by omega, by rw [if_pos (by omega)]⟩
    · right; exact ⟨h, g, by rw [if_neg (by omega)]⟩
    · left; exact ⟨h, by omega, by rw [if_pos (by omega)]⟩
  · left; exact ⟨by omega, by rw [if_pos (by omega)]⟩

theorem ord_range (k1 n1 : Int) (s1 : ByteArray) (k2 n2 : Int) (s2 : ByteArray) : ord k1 n1 s1 k2 n2 s2 = -1 ∨ ord k1 n1 s1 k2 n2 s2 = 0 ∨ ord k1 n1 s1 k2 n2 s2 = 1 := by
  rcases ord_cases k1 n1 s1 k2 n2 s2 with ⟨_, e⟩ | ⟨_, _, e⟩ | ⟨_, _, e⟩ <;> rw [e]
  · rcases cmpI_cases k1 k2 with ⟨e, _⟩ | ⟨e, _⟩ | ⟨e, _⟩ <;> simp [e]
  · rcases cmpI_cases n1 n2 with ⟨e, _⟩ | ⟨e, _⟩ | ⟨e, _⟩ <;> simp [e]
  · rcases cmpS_cases s1 s2 with ⟨e, _⟩ | ⟨e, _⟩ | ⟨e, _⟩ <;> simp [e]
theorem ord_swap (k1 n1 : Int) (s1 : ByteArray) (k2 n2 : Int) (s2 : ByteArray) : ord k2 n2 s2 k1 n1 s1 = - ord k1 n1 s1 k2 n2 s2 := by
  rcases ord_cases k1 n1 s1 k2 n2 s2 with ⟨h, e⟩ | ⟨h, g, e⟩ | ⟨h, g, e⟩ <;> rcases ord_cases k2 n2 s2 k1 n1 s1 with ⟨h', e'⟩ | ⟨h', g', e'⟩ | ⟨h', g', e'⟩ <;> first | (exfalso; omega) | (rw [e, e'])
  · rcases cmpI_cases k1 k2 with ⟨f, _⟩ | ⟨f, _⟩ | ⟨f, _⟩ <;> rcases cmpI_cases k2 k1 with ⟨f', _⟩ | ⟨f', _⟩ | ⟨f', _⟩ <;> omega
  · rcases cmpI_cases n1 n2 with ⟨f, _⟩ | ⟨f, _⟩ | ⟨f, _⟩ <;> rcases cmpI_cases n2 n1 with ⟨f', _⟩ | ⟨f', _⟩ | ⟨f', _⟩ <;> omega
  · exact cmpS_swap _ _
theorem ord_zero (k1 n1 : Int) (s1 : ByteArray) (k2 n2 : Int) (s2 : ByteArray) (h : ord k1 n1 s1 k2 n2 s2 = 0) : k1 = k2 ∧ n1 = n2 ∧ s1.toList = s2.toList := by
  rcases ord_cases k1 n1 s1 k2 n2 s2 with ⟨g, e⟩ | ⟨h1, g, e⟩ | ⟨h1, h2, e⟩
  · rcases cmpI_cases k1 k2 with ⟨f, _⟩ | ⟨f, _⟩ | ⟨f, _⟩ <;> omega
  · rcases cmpI_cases n1 n2 with ⟨f, _⟩ | ⟨f, _⟩ | ⟨f, _⟩ <;> omega
  · rcases cmpS_cases s1 s2 with ⟨f, _⟩ | ⟨f, g⟩ | ⟨f, _⟩
    · omega
    · exact ⟨h1, h2, g⟩
    · omega
theorem ord_same (k n : Int) (s t : ByteArray) (h : s.toList = t.toList) : ord k n s k n t = 0 := by
  rcases ord_cases k n s k n t with ⟨g, e⟩ | ⟨h1, g, e⟩ | ⟨h1, h2, e⟩
  · exact absurd rfl g
  · exact absurd rfl g
  · rw [e]; unfold cmpS; rw [h, less_irrefl]; simp
theorem ord_trans (k1 n1 : Int) (s1 : ByteArray) (k2 n2 : Int) (s2 : ByteArray) (k3 n3 : Int) (s3 : ByteArray) (h1 : ord k1 n1 s1 k2 n2 s2 ≤ 0) (h2 : ord k2 n2 s2 k3 n3 s3 ≤ 0) : ord k1 n1 s1 k3 n3 s3 ≤ 0 := by
  have c1 := cmpI_cases k1 k2
  have c2 := cmpI_cases k2 k3
  have c3 := cmpI_cases k1 k3
  have d1 := cmpI_cases n1 n2
  have d2 := cmpI_cases n2 n3
  have d3 := cmpI_cases n1 n3
  have t := cmpS_trans s1 s2 s3
  rcases ord_cases k1 n1 s1 k2 n2 s2 with ⟨g, e⟩ | ⟨g, g', e⟩ | ⟨g, g', e⟩ <;> rcases ord_cases k2 n2 s2 k3 n3 s3 with ⟨f, e'⟩ | ⟨f, f', e'⟩ | ⟨f, f', e'⟩ <;> rcases ord_cases k1 n1 s1 k3 n3 s3 with ⟨i, e''⟩ | ⟨i, i', e''⟩ | ⟨i, i', e''⟩ <;> rw [e''] <;> rw [e] at h1 <;> rw [e'] at h2 <;> first | omega | (exact t h1 h2)

end Go.Proofs.YtlefhfmckimlaajGreatDoor.M
