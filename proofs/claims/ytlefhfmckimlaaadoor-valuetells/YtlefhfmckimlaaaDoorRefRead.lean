/-
  What the document's own Read answers, as the statements write it: the value that a text tells, or what is wrong with it.
-/
import Derived.Test.YtlefhfmckimlaaaDoorRefValue
set_option linter.unusedSimpArgs false
set_option linter.unusedVariables false
namespace Go.Proofs.YtlefhfmckimlaaaDoor
open Go.RowKit

theorem M.numN_lt : ∀ (n : Nat) (l : List UInt8), l.length ≤ n → l.all M.digC = true → M.numN l < 10 ^ n := by
  intro n
  induction n with
  | zero => intro l hl _; have : l = [] := List.length_eq_zero_iff.1 (by omega); subst this; simp [M.numN]
  | succ n ih =>
    intro l hl ha
    by_cases hne : l = []
    · subst hne; simp [M.numN]; exact Nat.pos_of_ne_zero (by simp)
    obtain ⟨r, c, rfl⟩ : ∃ r c, l = r ++ [c] := ⟨l.dropLast, l.getLast hne, (List.dropLast_concat_getLast hne).symm⟩
    simp only [List.all_append, Bool.and_eq_true] at ha
    have hd : M.digC c = true := by simpa using ha.2
    have hc : 48 ≤ c.toNat ∧ c.toNat ≤ 57 := by simpa [M.digC] using hd
    have := ih r (by simp at hl; omega) ha.1
    rw [M.numN_snoc, Nat.pow_succ]; omega

theorem drop_snoc (s : ByteArray) (a p : Nat) (ha : a ≤ p) (h : p < s.size) : (s.data.toList.drop a).take (p - a + 1) = (s.data.toList.drop a).take (p - a) ++ [s[p]] := by
  have hl : p - a < (s.data.toList.drop a).length := by rw [List.length_drop, Array.length_toList]; show p - a < s.size - a; omega
  rw [List.take_succ_eq_append_getElem hl]
  have : (s.data.toList.drop a)[p - a] = s[p] := by
    rw [List.getElem_drop]
    have e : a + (p - a) = p := by omega
    show s.data.toList[a + (p - a)]'_ = s.data.toList[p]'(by rw [Array.length_toList]; exact h)
    simp only [e]
  rw [this]

theorem extract_rest (s : ByteArray) : s.extract 1 s.size = M.rest s := by
  apply WideShapes.bytes_inj
  rw [Lib.extract_to_end]
  simp [M.rest]

theorem head_of (s : ByteArray) (h : 0 < s.size) : s.data.toList.head? = some s[0] := by
  rw [List.head?_eq_getElem?, List.getElem?_eq_getElem (by rw [Array.length_toList]; exact h)]; rfl

theorem rd_star (s : ByteArray) (w : World) (h : (s.toList == [42]) = true) : Calls Tryd.prog 14 #[.string s] w fun e w' => e = .returned (.tuple #[.agg #[.int .i64 2, .int .i64 0, .string ⟨#[]⟩], .int .i64 0]) ∧ Below w.heap.size w w' := by
  go_enter Tryd.func14, Tryd.ntmps14
  go_wp2_with fail
  exact bodyPost_ret (v := .tuple #[.agg #[.int .i64 2, .int .i64 0, .string ⟨#[]⟩], .int .i64 0]) (by simp [results, Tryd.results14, go_sem]) rfl ⟨rfl, (Below.refl _ _).alloc (Nat.le_refl _) _⟩

theorem rd_text (s : ByteArray) (w : World) (hs : s.size ≤ maxLen) (h : (s.toList == [42]) = false) (h0 : 0 < s.size) (hc : s[0] = 58) (hf : M.fault 1 0 (M.rest s) = 0) : Calls Tryd.prog 14 #[.string s] w fun e w' => e = .returned (.tuple #[.agg #[.int .i64 1, .int .i64 0, .string (M.rest s)], .int .i64 0]) ∧ Below w.heap.size w w' := by
  have h0' : (0 : Int) < (s.size : Int) := by omega
  have hr : (M.rest s).size ≤ maxLen := Nat.le_trans (rest_size s) hs
  have HV : Hid (∀ w, Calls Tryd.prog 6 #[.agg #[.int .i64 1, .int .i64 0, .string (s.extract 1 s.size)]] w fun e w' => e = .returned (.int .i64 0) ∧ Below w.heap.size w w') := fun w => by
    rw [extract_rest]; have := refValue 1 0 (M.rest s) w hr; rwa [hf] at this
  clear hf hr
  unfold maxLen at hs
  go_enter Tryd.func14, Tryd.ntmps14
  go_wp2_with fail
  refine (unhide HV _).mono ?_
  rintro e w1 ⟨rfl, hb⟩
  obtain ⟨hcl, hfz⟩ := bcell hb
  go_wp2_with fail
  have er := extract_rest s
  have hz : w.heap.size < w.heap.size + 1 + 1 := by omega
  refine bodyPost_ret (v := .tuple #[.agg #[.int .i64 1, .int .i64 0, .string (M.rest s)], .int .i64 0]) (by simp [results, Tryd.results14, go_sem, hcl, er, hz]) rfl ⟨rfl, ?_⟩
  have B1 : Below w.heap.size w w1 := (((Below.refl _ _).alloc (Nat.le_refl _) _).alloc (by simp) _).trans (hb.mono (by simp; omega))
  exact ((B1.setCell (by simp) _).setCell (by simp) _).setCell (by simp) _

theorem rd_textBad (s : ByteArray) (w : World) (hs : s.size ≤ maxLen) (h : (s.toList == [42]) = false) (h0 : 0 < s.size) (hc : s[0] = 58) (hf : M.fault 1 0 (M.rest s) ≠ 0) : Calls Tryd.prog 14 #[.string s] w fun e w' => e = .returned (.tuple #[.agg #[.int .i64 0, .int .i64 0, .string ⟨#[]⟩], .int .i64 (M.fault 1 0 (M.rest s))]) ∧ Below w.heap.size w w' := by
  have h0' : (0 : Int) < (s.size : Int) := by omega
  have hr : (M.rest s).size ≤ maxLen := Nat.le_trans (rest_size s) hs
  have HV : Hid (∀ w, Calls Tryd.prog 6 #[.agg #[.int .i64 1, .int .i64 0, .string (s.extract 1 s.size)]] w fun e w' => e = .returned (.int .i64 (M.fault 1 0 (M.rest s))) ∧ Below w.heap.size w w') := fun w => by
    rw [extract_rest]; exact refValue 1 0 (M.rest s) w hr
  have hfb : (M.fault 1 0 (M.rest s) != 0) = true := by simpa using hf
  clear hf hr
  unfold maxLen at hs
  go_enter Tryd.func14, Tryd.ntmps14
  go_wp2_with fail
  refine (unhide HV _).mono ?_
  rintro e w1 ⟨rfl, hb⟩
  obtain ⟨hcl, hfz⟩ := bcell hb
  go_wp2_with fail
  have hz : w.heap.size < w.heap.size + 1 + 1 := by omega
  refine bodyPost_ret (v := .tuple #[.agg #[.int .i64 0, .int .i64 0, .string ⟨#[]⟩], .int .i64 (M.fault 1 0 (M.rest s))]) (by simp [results, Tryd.results14, go_sem, hcl, hz]) rfl ⟨rfl, ?_⟩
  have B1 : Below w.heap.size w w1 := (((Below.refl _ _).alloc (Nat.le_refl _) _).alloc (by simp) _).trans (hb.mono (by simp; omega))
  exact ((B1.setCell (by simp) _).setCell (by simp) _).setCell (by simp) _

theorem rd_empty (s : ByteArray) (w : World) (h0 : s.size = 0) : Calls Tryd.prog 14 #[.string s] w fun e w' => e = .returned (.tuple #[.agg #[.int .i64 0, .int .i64 0, .string ⟨#[]⟩], .int .i64 2]) ∧ Below w.heap.size w w' := by
  obtain rfl := size0 h0
  go_enter Tryd.func14, Tryd.ntmps14
  go_wp2_with fail
  exact bodyPost_ret (v := .tuple #[.agg #[.int .i64 0, .int .i64 0, .string ⟨#[]⟩], .int .i64 2]) (by simp [results, Tryd.results14, go_sem]) rfl ⟨rfl, ((Below.refl _ _).alloc (Nat.le_refl _) _).alloc (by simp) _⟩

end Go.Proofs.YtlefhfmckimlaaaDoor
