/-
  Plain: what the library's split at one byte gives is the cut at that byte; which texts are numbers of a line; and what a word is. No program is walked here.
-/
import Derived.Test.YtlefhfmckimlaakGreatDoorRunMath
import Derived.Test.YtlefhfmckimlaakGreatDoorJHash
import Derived.Lib.Split
import Derived.Lib.SplitLaws
import Derived.Lib.AtoiTie
import Derived.Lib.AtoiAllCases
set_option linter.unusedVariables false
namespace Go.Proofs.YtlefhfmckimlaakGreatDoor.M

/-- the first place of a byte -/
theorem index_at : ∀ (p r : List UInt8) (c : UInt8), c ∉ p → Lib.indexByte (p ++ c :: r) c = p.length
  | [], r, c, _ => by simp [Lib.indexByte]
  | b :: p, r, c, h => by
    have hb : ¬ b = c := fun e => h (by simp [e])
    have ih := index_at p r c (fun e => h (by simp [e]))
    rw [List.cons_append]
    unfold Lib.indexByte
    rw [if_neg (by simpa using hb), ih, if_neg (by first | (simp; done) | (simp; omega))]
    simp
theorem index_no : ∀ (p : List UInt8) (c : UInt8), c ∉ p → Lib.indexByte p c = -1
  | [], c, _ => rfl
  | b :: p, c, h => by
    have hb : ¬ b = c := fun e => h (by simp [e])
    have ih := index_no p c (fun e => h (by simp [e]))
    unfold Lib.indexByte
    rw [if_neg (by simpa using hb), ih]
    rfl
theorem index_byte : ∀ (l : List UInt8) (c : UInt8), Lib.index l [c] = Lib.indexByte l c
  | [], c => rfl
  | b :: l, c => by
    unfold Lib.index Lib.indexByte
    rw [index_byte l c]
    by_cases h : b = c
    · subst h
      rw [if_pos (by simp), if_pos (by simp)]
    · have h1 : ([c].isPrefixOf (b :: l)) = false := by
        show (c == b && ([] : List UInt8).isPrefixOf l) = false
        rw [beq_eq_false_iff_ne.2 (fun e => h e.symm)]
        rfl
      have h2 : (b == c) = false := by simpa using h
      rw [h1, h2]
theorem splitK_cut (c : UInt8) : ∀ (n : Nat) (l : List UInt8), l.length ≤ n → Lib.splitK [c] 0 (Lib.count l [c]) l = cutB c l
  | 0, l, h => by
    have : l = [] := List.length_eq_zero_iff.1 (by omega)
    subst this
    rfl
  | n + 1, l, h => by
    by_cases hm : c ∈ l
    · obtain ⟨p, r, rfl, hp⟩ := List.eq_append_cons_of_mem hm
      have h1 : Lib.count (p ++ c :: r) [c] = Lib.count r [c] + 1 := by
        rw [Lib.count_one, Lib.count_one, List.count_append, List.count_eq_zero_of_not_mem hp]
        simp
      have h2 : Lib.index (p ++ c :: r) [c] = (p.length : Int) := by rw [index_byte, index_at p r c hp]
      rw [h1, Lib.splitK, if_neg (by rw [h2]; simp; try omega), h2, cutB_append, cutB_none c p hp, List.singleton_append]
      have e1 : ((p.length : Int).toNat + 0) = p.length := by omega
      have e2 : ((p.length : Int).toNat + [c].length) = p.length + 1 := by simp
      rw [e1, e2]
      have e3 : (p ++ c :: r).take p.length = p := by simp
      have e4 : (p ++ c :: r).drop (p.length + 1) = r := by simp
      rw [e3, e4, splitK_cut c n r (by simp at h; omega)]
    · rw [Lib.count_one, List.count_eq_zero_of_not_mem hm, cutB_none c l hm]
      rfl
/-- what the library's split at one byte gives -/
theorem split_cut (c : UInt8) (s : ByteArray) : (Lib.splitB ⟨#[c]⟩ 0 (Lib.countB s ⟨#[c]⟩) s).map (·.data.toList) = cutB c s.data.toList := by
  rw [Lib.splitB_data]
  exact splitK_cut c s.data.toList.length s.data.toList (Nat.le_refl _)
theorem cutB_sizes (c : UInt8) : ∀ (l : List UInt8), (∀ p ∈ cutB c l, p.length ≤ l.length) ∧ (cutB c l).length ≤ l.length + 1
  | [] => by simp [cutB]
  | x :: r => by
    obtain ⟨h1, h2⟩ := cutB_sizes c r
    by_cases h : x = c
    · have e : cutB c (x :: r) = [] :: cutB c r := if_pos h
      rw [e]
      refine ⟨fun p hp => ?_, by simp; omega⟩
      rcases List.mem_cons.1 hp with rfl | hp
      · simp
      · have := h1 p hp; simp; omega
    · have e : cutB c (x :: r) = match cutB c r with
          | [] => [[x]]
          | p :: ps => (x :: p) :: ps := if_neg h
      rw [e]
      cases hc : cutB c r with
      | nil => exact absurd hc (cutB_ne c r)
      | cons q qs =>
        rw [hc] at h1 h2
        refine ⟨fun p hp => ?_, by simp at h2 ⊢; omega⟩
        rcases List.mem_cons.1 hp with rfl | hp
        · have := h1 q (by simp); simp; omega
        · have := h1 p (by simp [hp]); simp; omega

/-- a number of a line: what the library reads it as, and how that is written -/
theorem numI_fold : ∀ (l : List UInt8) (a : Nat), l.all digC = true → l.foldl (fun (a : Int) c => a * 10 + c.toNat - 48) (a : Int) = ((l.foldl (fun a c => a * 10 + (c.toNat - 48)) a : Nat) : Int)
  | [], a, _ => rfl
  | c :: r, a, h => by
    simp only [List.all_cons, Bool.and_eq_true] at h
    have hc : 48 ≤ c.toNat ∧ c.toNat ≤ 57 := by simpa [digC] using h.1
    rw [List.foldl_cons, List.foldl_cons, ← numI_fold r _ h.2]
    congr 1
    push_cast
    omega
theorem numB_parts {l : List UInt8} (h : numB l = true) : 1 ≤ l.length ∧ l.length ≤ 4 ∧ (l.head? = some 48 → l.length = 1) ∧ l.all digC = true := by
  simp only [numB, Bool.and_eq_true, decide_eq_true_eq, Bool.not_eq_true', Bool.and_eq_false_iff, decide_eq_false_iff_not] at h
  obtain ⟨⟨⟨h1, h2⟩, h3⟩, h4⟩ := h
  refine ⟨h1, h2, fun e => ?_, h4⟩
  rcases h3 with h3 | h3
  · rw [e] at h3; simp at h3
  · omega
theorem digs_plain {l : List UInt8} (h : l.all digC = true) : isMinus l = false ∧ digs l = l := by
  have : isMinus l = false := by
    cases l with
    | nil => rfl
    | cons a r =>
      have ha : digC a = true := by simpa using (List.all_eq_true.1 h) a (by simp)
      have : ¬ a = 45 := by intro e; subst e; revert ha; decide
      simpa [isMinus] using this
  exact ⟨this, by unfold digs; rw [this]; rfl⟩
theorem numI_num {l : List UInt8} (h : l.all digC = true) : numI l = num l ∧ 0 ≤ numI l := by
  obtain ⟨m, d⟩ := digs_plain h
  have e : numI l = (numN l : Int) := numI_fold l 0 h
  unfold num
  rw [m, d, e]
  exact ⟨rfl, by omega⟩
theorem num_yes {l : List UInt8} (h : numB l = true) : Lib.atoiAll l = .ok (numI l) ∧ 0 ≤ numI l ∧ numI l ≤ 10000000 ∧ Lib.itoa (numI l) = l ∧ l.length ≤ 4 := by
  obtain ⟨h1, h2, h3, h4⟩ := numB_parts h
  obtain ⟨m, d⟩ := digs_plain h4
  have hn : isNum l = true := isNum_mk (by rw [d]; exact h1) (by rw [d]; omega) (by rw [d]; exact h4) (by rw [d]; exact fun e => ⟨h3 e, m⟩)
  obtain ⟨e1, e2⟩ := numI_num h4
  have hb := num_bound hn
  rw [e1] at e2 ⊢
  refine ⟨?_, e2, by omega, itoa_num hn, h2⟩
  rw [Lib.atoiAll_short l (by omega), atoi_num hn]
  rfl
theorem num_no {l : List UInt8} (h : numB l = false) {n : Int} (h0 : 0 ≤ n) (h4 : l.length ≤ 4) : Lib.itoa n ≠ l := fun e => by
  rw [Lib.itoa, if_neg (by omega)] at e
  obtain ⟨s1, s2, s3, s4⟩ := spelt n.toNat
  have hz : l.head? = some 48 → l.length = 1 := fun hh => by
    rw [← e] at hh ⊢
    rw [s4 hh, Lib.decDigits_length, Lib.nDigits_small (by decide)]
  rw [e] at s1 s3
  have : numB l = true := by
    simp only [numB, Bool.and_eq_true, decide_eq_true_eq, Bool.not_eq_true', Bool.and_eq_false_iff, decide_eq_false_iff_not]
    refine ⟨⟨⟨s3, h4⟩, ?_⟩, s1⟩
    by_cases hh : l.head? = some 48
    · exact Or.inr (by have := hz hh; omega)
    · exact Or.inl (by simpa using hh)
  rw [h] at this
  cases this
end Go.Proofs.YtlefhfmckimlaakGreatDoor.M
