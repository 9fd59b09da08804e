/-
  What the document's own order of values answers, as the statements write it.
-/
import Derived.Test.YtlefhfmckimlaaaDoorBackMath
import Derived.BigQuiet
import Derived.Deep.QuietTactic
set_option linter.unusedSimpArgs false
namespace Go.Proofs.YtlefhfmckimlaaaDoor
open Go.RowKit

theorem M.less_prefix : ∀ (p x y : List UInt8), Op.bytesLess (p ++ x) (p ++ y) = Op.bytesLess x y
  | [], _, _ => rfl
  | a :: p, x, y => by
    have h : ¬ a < a := UInt8.lt_irrefl a
    simp [Op.bytesLess, M.less_prefix p x y, h]

/-- two texts that are alike for a while, and then differ in a byte -/
theorem M.cmpS_at (s1 s2 : ByteArray) (j : Nat) (h1 : j < s1.size) (h2 : j < s2.size) (hp : s1.data.toList.take j = s2.data.toList.take j) (hne : s1[j] ≠ s2[j]) : M.cmpS s1 s2 = if s1[j].toNat < s2[j].toNat then -1 else 1 := by
  have e1 : s1.data.toList = s1.data.toList.take j ++ (s1[j] :: s1.data.toList.drop (j + 1)) := by
    have : s1[j] = s1.data.toList[j]'(by rw [Array.length_toList]; exact h1) := rfl
    rw [this, ← List.drop_eq_getElem_cons, List.take_append_drop]
  have e2 : s2.data.toList = s1.data.toList.take j ++ (s2[j] :: s2.data.toList.drop (j + 1)) := by
    have : s2[j] = s2.data.toList[j]'(by rw [Array.length_toList]; exact h2) := rfl
    rw [hp, this, ← List.drop_eq_getElem_cons, List.take_append_drop]
  have hl : Op.bytesLess s1.toList s2.toList = decide (s1[j].toNat < s2[j].toNat) := by
    rw [ByteArray.toList_eq, ByteArray.toList_eq, e1, e2, M.less_prefix]
    have hb : (s1[j] == s2[j]) = false := by simpa using hne
    simp only [Op.bytesLess, hb, Bool.false_and, Bool.or_false, UInt8.lt_iff_toNat_lt]
  have hq : (s1.toList == s2.toList) = false := by
    rw [ByteArray.toList_eq, ByteArray.toList_eq, beq_eq_false_iff_ne]
    intro e
    rw [e1, e2] at e
    have := List.append_cancel_left e
    simp at this
    exact hne this.1
  unfold M.cmpS
  rw [hl, hq]
  by_cases h : s1[j].toNat < s2[j].toNat <;> simp [h]

theorem M.cmpS_end (s1 s2 : ByteArray) (j : Nat) (h : j = s1.size ∨ j = s2.size) (h1 : j ≤ s1.size) (h2 : j ≤ s2.size) (hp : s1.data.toList.take j = s2.data.toList.take j) : M.cmpS s1 s2 = if s1.size = s2.size then 0 else if s1.size < s2.size then -1 else 1 := by
  have z1 : s1.data.toList.length = s1.size := Array.length_toList
  have z2 : s2.data.toList.length = s2.size := Array.length_toList
  by_cases e : s1.size = s2.size
  · rw [if_pos e]
    have e1 : s1.data.toList = s2.data.toList := by
      have a1 : s1.data.toList.take j = s1.data.toList := List.take_of_length_le (by omega)
      have a2 : s2.data.toList.take j = s2.data.toList := List.take_of_length_le (by omega)
      rw [← a1, ← a2]; exact hp
    unfold M.cmpS
    rw [ByteArray.toList_eq, ByteArray.toList_eq, e1, M.less_irrefl]; simp
  · rw [if_neg e]
    by_cases hl : s1.size < s2.size
    · rw [if_pos hl]
      have a1 : s1.data.toList.take j = s1.data.toList := List.take_of_length_le (by omega)
      have e2 : s2.data.toList = s1.data.toList ++ s2.data.toList.drop j := by rw [← a1, hp, List.take_append_drop]
      have hless : Op.bytesLess s1.toList s2.toList = true := by
        rw [ByteArray.toList_eq, ByteArray.toList_eq, e2]
        have := M.less_prefix s1.data.toList [] (s2.data.toList.drop j)
        rw [List.append_nil] at this
        rw [this]
        cases hd : s2.data.toList.drop j with
        | nil => have := congrArg List.length hd; simp at this; omega
        | cons a b => rfl
      unfold M.cmpS; rw [hless]; rfl
    · rw [if_neg hl]
      have a2 : s2.data.toList.take j = s2.data.toList := List.take_of_length_le (by omega)
      have e1 : s1.data.toList = s2.data.toList ++ s1.data.toList.drop j := by rw [← a2, ← hp, List.take_append_drop]
      have hless : Op.bytesLess s2.toList s1.toList = true := by
        rw [ByteArray.toList_eq, ByteArray.toList_eq, e1]
        have := M.less_prefix s2.data.toList [] (s1.data.toList.drop j)
        rw [List.append_nil] at this
        rw [this]
        cases hd : s1.data.toList.drop j with
        | nil => have := congrArg List.length hd; simp at this; omega
        | cons a b => rfl
      have h3 := M.cmpS_cases s1 s2
      rcases h3 with ⟨_, g⟩ | ⟨_, g⟩ | ⟨g, _⟩
      · rw [M.less_asymm _ _ hless] at g; exact absurd g (by decide)
      · rw [g, M.less_irrefl] at hless; exact absurd hless (by decide)
      · exact g

theorem refOrderK (k1 n1 : Int) (s1 : ByteArray) (k2 n2 : Int) (s2 : ByteArray) (w : World) (h : k1 ≠ k2) :
    Calls Tryd.prog 11 #[.agg #[.int .i64 k1, .int .i64 n1, .string s1], .agg #[.int .i64 k2, .int .i64 n2, .string s2]] w fun e w' => e = .returned (.int .i64 (M.ord k1 n1 s1 k2 n2 s2)) ∧ Below w.heap.size w w' := by
  have HF : Hid (M.ord k1 n1 s1 k2 n2 s2 = M.cmpI k1 k2) := by
    rcases M.ord_cases k1 n1 s1 k2 n2 s2 with ⟨_, e⟩ | ⟨g, _, _⟩ | ⟨g, _, _⟩
    · exact e
    · exact absurd g h
    · exact absurd g h
  have hb : (k1 != k2) = true := by simpa using h
  by_cases hl : k1 < k2
  · have hc : Hid (M.cmpI k1 k2 = -1) := by rcases M.cmpI_cases k1 k2 with ⟨e, _⟩ | ⟨_, g⟩ | ⟨_, g⟩ <;> first | exact e | (exfalso; omega)
    go_enter Tryd.func11, Tryd.ntmps11
    go_wp2
    go_ret
    exact ⟨by rw [HF.out, hc.out]; rfl, ((Below.refl _ _).alloc (Nat.le_refl _) _).alloc (by simp) _⟩
  · have hc : Hid (M.cmpI k1 k2 = 1) := by rcases M.cmpI_cases k1 k2 with ⟨_, g⟩ | ⟨_, g⟩ | ⟨e, _⟩ <;> first | exact e | (exfalso; omega)
    go_enter Tryd.func11, Tryd.ntmps11
    go_wp2
    go_ret
    exact ⟨by rw [HF.out, hc.out]; rfl, ((Below.refl _ _).alloc (Nat.le_refl _) _).alloc (by simp) _⟩

theorem refOrderN (k n1 : Int) (s1 : ByteArray) (n2 : Int) (s2 : ByteArray) (w : World) (h : n1 ≠ n2) :
    Calls Tryd.prog 11 #[.agg #[.int .i64 k, .int .i64 n1, .string s1], .agg #[.int .i64 k, .int .i64 n2, .string s2]] w fun e w' => e = .returned (.int .i64 (M.ord k n1 s1 k n2 s2)) ∧ Below w.heap.size w w' := by
  have HF : Hid (M.ord k n1 s1 k n2 s2 = M.cmpI n1 n2) := by
    rcases M.ord_cases k n1 s1 k n2 s2 with ⟨g, e⟩ | ⟨_, _, e⟩ | ⟨_, g, _⟩
    · exact absurd rfl g
    · exact e
    · exact absurd g h
  have hb : (n1 != n2) = true := by simpa using h
  by_cases hl : n1 < n2
  · have hc : Hid (M.cmpI n1 n2 = -1) := by rcases M.cmpI_cases n1 n2 with ⟨e, _⟩ | ⟨_, g⟩ | ⟨_, g⟩ <;> first | exact e | (exfalso; omega)
    go_enter Tryd.func11, Tryd.ntmps11
    go_wp2
    go_ret
    exact ⟨by rw [HF.out, hc.out]; rfl, ((Below.refl _ _).alloc (Nat.le_refl _) _).alloc (by simp) _⟩
  · have hc : Hid (M.cmpI n1 n2 = 1) := by rcases M.cmpI_cases n1 n2 with ⟨_, g⟩ | ⟨_, g⟩ | ⟨e, _⟩ <;> first | exact e | (exfalso; omega)
    go_enter Tryd.func11, Tryd.ntmps11
    go_wp2
    go_ret
    exact ⟨by rw [HF.out, hc.out]; rfl, ((Below.refl _ _).alloc (Nat.le_refl _) _).alloc (by simp) _⟩

end Go.Proofs.YtlefhfmckimlaaaDoor
