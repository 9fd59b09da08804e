/-
  What the document's own Read answers for a text that is no star and has no colon ahead: a number, or no value at all.
-/
import Derived.Test.YtlefhfmckimlaaaDoorRefRead
set_option linter.unusedSimpArgs false
set_option linter.unusedVariables false
namespace Go.Proofs.YtlefhfmckimlaaaDoor
open Go.RowKit

theorem no_digit {l : List UInt8} (h : (M.digs l).all M.digC = false) : M.isNum l = false := by
  unfold M.isNum; rw [h]; simp

/-- a text of the third kind: no star, no colon -/
theorem p_none {s : ByteArray} (h1 : (s.toList == [42]) = false) (h2 : M.colon s = false) (h3 : M.isNum s.data.toList = false) : M.pErr s = 2 ∧ M.pK s = 0 ∧ M.pN s = 0 ∧ M.pS s = ⟨#[]⟩ := by
  have e : M.pErr s = 2 := by unfold M.pErr; rw [h1, h2, h3]; rfl
  exact ⟨e, by unfold M.pK; rw [e]; rfl, by unfold M.pN; rw [e]; rfl, by unfold M.pS; rw [e]; rfl⟩
theorem p_num {s : ByteArray} (h1 : (s.toList == [42]) = false) (h2 : M.colon s = false) (h3 : M.isNum s.data.toList = true) (h4 : M.fault 0 (M.num s.data.toList) ⟨#[]⟩ = 0) : M.pErr s = 0 ∧ M.pK s = 0 ∧ M.pN s = M.num s.data.toList ∧ M.pS s = ⟨#[]⟩ := by
  have e : M.pErr s = 0 := by unfold M.pErr; rw [h1, h2, h3]; exact h4
  exact ⟨e, by unfold M.pK; rw [e, h1, h2]; rfl, by unfold M.pN; rw [e, h1, h2]; rfl, by unfold M.pS; rw [e, h1, h2]; rfl⟩
theorem p_bad {s : ByteArray} (h1 : (s.toList == [42]) = false) (h2 : M.colon s = false) (h3 : M.isNum s.data.toList = true) (h4 : M.fault 0 (M.num s.data.toList) ⟨#[]⟩ ≠ 0) : M.pErr s = M.fault 0 (M.num s.data.toList) ⟨#[]⟩ ∧ M.pK s = 0 ∧ M.pN s = 0 ∧ M.pS s = ⟨#[]⟩ := by
  have e : M.pErr s = M.fault 0 (M.num s.data.toList) ⟨#[]⟩ := by unfold M.pErr; rw [h1, h2, h3]; rfl
  have e0 : M.pErr s ≠ 0 := by rw [e]; exact h4
  exact ⟨e, by unfold M.pK; rw [if_pos e0], by unfold M.pN; rw [if_pos e0], by unfold M.pS; rw [if_pos e0]⟩

theorem list_len (s : ByteArray) : s.data.toList.length = s.size := Array.length_toList

theorem byte48 {c : UInt8} (h : ¬ c = 48) : ((c.toNat : Int) == 48) = false := by
  rw [beq_eq_false_iff_ne]; intro e; exact h (UInt8.toNat_inj.1 (by show c.toNat = 48; omega))
theorem byte45 {c : UInt8} (h : ¬ c = 45) : ((c.toNat : Int) == 45) = false := by
  rw [beq_eq_false_iff_ne]; intro e; exact h (UInt8.toNat_inj.1 (by show c.toNat = 45; omega))
theorem byte58 {c : UInt8} (h : ¬ c = 58) : ((c.toNat : Int) == 58) = false := by
  rw [beq_eq_false_iff_ne]; intro e; exact h (UInt8.toNat_inj.1 (by show c.toNat = 58; omega))

theorem plain_long (s : ByteArray) (w : World) (hs : s.size ≤ maxLen) (h : (s.toList == [42]) = false) (h0 : 0 < s.size) (hc : ¬ s[0] = 58) (hm : ¬ s[0] = 45) (hl : 7 < s.size) : Calls Tryd.prog 14 #[.string s] w fun e w' => e = .returned (.tuple #[.agg #[.int .i64 0, .int .i64 0, .string ⟨#[]⟩], .int .i64 2]) ∧ Below w.heap.size w w' := by
  have h0' : (0 : Int) < (s.size : Int) := by omega
  have hc' := byte58 hc
  have hm' := byte45 hm
  clear hc hm
  have hl' : (7 : Int) < (s.size : Int) := by omega
  unfold maxLen at hs
  go_enter Tryd.func14, Tryd.ntmps14
  go_wp2_with fail
  exact bodyPost_ret (v := .tuple #[.agg #[.int .i64 0, .int .i64 0, .string ⟨#[]⟩], .int .i64 2]) (by simp [results, Tryd.results14, go_sem]) rfl ⟨rfl, ((Below.refl _ _).alloc (Nat.le_refl _) _).alloc (by simp) _⟩

theorem plain_zero (s : ByteArray) (w : World) (h : (s.toList == [42]) = false) (h0 : 0 < s.size) (hc : ¬ s[0] = 58) (hm : ¬ s[0] = 45) (hl : s.size ≤ 7) (hk : 1 < s.size) (hz : s[0] = 48) : Calls Tryd.prog 14 #[.string s] w fun e w' => e = .returned (.tuple #[.agg #[.int .i64 0, .int .i64 0, .string ⟨#[]⟩], .int .i64 2]) ∧ Below w.heap.size w w' := by
  have h0' : (0 : Int) < (s.size : Int) := by omega
  have hc' := byte58 hc
  have hm' := byte45 hm
  clear hc hm
  have hl' : (s.size : Int) ≤ 7 := by omega
  have hk' : (1 : Int) < (s.size : Int) := by omega
  go_enter Tryd.func14, Tryd.ntmps14
  go_wp2_with fail
  all_goals
    exact bodyPost_ret (v := .tuple #[.agg #[.int .i64 0, .int .i64 0, .string ⟨#[]⟩], .int .i64 2]) (by simp [results, Tryd.results14, go_sem]) rfl ⟨rfl, ((Below.refl _ _).alloc (Nat.le_refl _) _).alloc (by simp) _⟩

theorem minus_long (s : ByteArray) (w : World) (hs : s.size ≤ maxLen) (h : (s.toList == [42]) = false) (h0 : 0 < s.size) (hm : s[0] = 45) (hl : 8 < s.size) : Calls Tryd.prog 14 #[.string s] w fun e w' => e = .returned (.tuple #[.agg #[.int .i64 0, .int .i64 0, .string ⟨#[]⟩], .int .i64 2]) ∧ Below w.heap.size w w' := by
  have h0' : (0 : Int) < (s.size : Int) := by omega
  have hl' : (8 : Int) < (s.size : Int) := by omega
  unfold maxLen at hs
  go_enter Tryd.func14, Tryd.ntmps14
  go_wp2_with fail
  exact bodyPost_ret (v := .tuple #[.agg #[.int .i64 0, .int .i64 0, .string ⟨#[]⟩], .int .i64 2]) (by simp [results, Tryd.results14, go_sem]) rfl ⟨rfl, ((Below.refl _ _).alloc (Nat.le_refl _) _).alloc (by simp) _⟩

theorem minus_short (s : ByteArray) (w : World) (h : (s.toList == [42]) = false) (h0 : 0 < s.size) (hm : s[0] = 45) (hl : s.size = 1) : Calls Tryd.prog 14 #[.string s] w fun e w' => e = .returned (.tuple #[.agg #[.int .i64 0, .int .i64 0, .string ⟨#[]⟩], .int .i64 2]) ∧ Below w.heap.size w w' := by
  have h0' : (0 : Int) < (s.size : Int) := by omega
  have hl' : (s.size : Int) < 2 := by omega
  clear hl
  go_enter Tryd.func14, Tryd.ntmps14
  go_wp2_with fail
  exact bodyPost_ret (v := .tuple #[.agg #[.int .i64 0, .int .i64 0, .string ⟨#[]⟩], .int .i64 2]) (by simp [results, Tryd.results14, go_sem]) rfl ⟨rfl, ((Below.refl _ _).alloc (Nat.le_refl _) _).alloc (by simp) _⟩

theorem minus_zero (s : ByteArray) (w : World) (h : (s.toList == [42]) = false) (h0 : 0 < s.size) (hm : s[0] = 45) (hl : s.size ≤ 8) (hk : 1 < s.size) (hz : s[1] = 48) : Calls Tryd.prog 14 #[.string s] w fun e w' => e = .returned (.tuple #[.agg #[.int .i64 0, .int .i64 0, .string ⟨#[]⟩], .int .i64 2]) ∧ Below w.heap.size w w' := by
  have h0' : (0 : Int) < (s.size : Int) := by omega
  have hl' : (s.size : Int) ≤ 8 := by omega
  have hk' : (1 : Int) < (s.size : Int) := by omega
  go_enter Tryd.func14, Tryd.ntmps14
  go_wp2_with fail
  all_goals
    exact bodyPost_ret (v := .tuple #[.agg #[.int .i64 0, .int .i64 0, .string ⟨#[]⟩], .int .i64 2]) (by simp [results, Tryd.results14, go_sem]) rfl ⟨rfl, ((Below.refl _ _).alloc (Nat.le_refl _) _).alloc (by simp) _⟩

end Go.Proofs.YtlefhfmckimlaaaDoor
