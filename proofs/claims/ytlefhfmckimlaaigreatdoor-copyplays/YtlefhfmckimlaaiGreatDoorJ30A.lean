/-
  What the document's own functions for values answer, as the statements write them: Value, Order, Digits, Word, Read.
  What the document's own Digits and Word answer, as the statements write them.
-/
import Derived.Test.YtlefhfmckimlaaiGreatDoorJ3A
import Derived.Test.YtlefhfmckimlaaiGreatDoorJ13A
import Derived.BigQuiet
import Derived.Deep.QuietTactic
set_option linter.unusedSimpArgs false
namespace Go.Proofs.YtlefhfmckimlaaiGreatDoor
open Go.RowKit

theorem bad_at (s : ByteArray) (j : Nat) (h : j < s.size) (hb : M.badC s[j] = true) : M.bad s = true := by
  unfold M.bad
  rw [List.any_eq_true]
  exact ⟨s[j], by
    have : s[j] = s.data.toList[j]'(by rw [Array.length_toList]; exact h) := rfl
    rw [this]; exact List.getElem_mem _, hb⟩

theorem refOne (k n : Int) (s : ByteArray) (w : World) (h : k < 0 ∨ 2 < k ∨ k = 0 ∧ (n < -1000000 ∨ 1000000 < n)) : Calls Tryz.prog 43 #[.agg #[.int .i64 k, .int .i64 n, .string s]] w fun e w' => e = .returned (.int .i64 1) ∧ Below w.heap.size w w' := by
  by_cases h1 : k < 0
  · go_enter Tryz.func43, Tryz.ntmps43
    go_wp2
    go_ret
    exact ⟨rfl, (Below.refl _ _).alloc (Nat.le_refl _) _⟩
  · by_cases h2 : 2 < k
    · go_enter Tryz.func43, Tryz.ntmps43
      go_wp2
      go_ret
      exact ⟨rfl, (Below.refl _ _).alloc (Nat.le_refl _) _⟩
    · have h3 : k = 0 := by omega
      subst h3
      by_cases h4 : n < -1000000
      · go_enter Tryz.func43, Tryz.ntmps43
        go_wp2
        go_ret
        exact ⟨rfl, (Below.refl _ _).alloc (Nat.le_refl _) _⟩
      · have h5 : 1000000 < n := by omega
        go_enter Tryz.func43, Tryz.ntmps43
        go_wp2
        go_ret
        exact ⟨rfl, (Below.refl _ _).alloc (Nat.le_refl _) _⟩

theorem refNum (n : Int) (s : ByteArray) (w : World) (hs : s.size ≤ maxLen) (h1 : -1000000 ≤ n) (h2 : n ≤ 1000000) : Calls Tryz.prog 43 #[.agg #[.int .i64 0, .int .i64 n, .string s]] w fun e w' => e = .returned (.int .i64 (M.fault 0 n s)) ∧ Below w.heap.size w w' := by
  by_cases h3 : s.size = 0
  · obtain rfl := size0 h3
    have HF : Hid (M.fault 0 n ByteArray.empty = 0) := hide (by unfold M.fault M.faultN; rw [if_pos rfl, if_neg (by omega), if_pos h3])
    clear hs h3
    go_enter Tryz.func43, Tryz.ntmps43
    go_wp2
    refine wp_loop_rounds 1 ?_
    rw [rounds_succ]
    go_wp2
    go_ret
    exact ⟨by rw [HF.out]; rfl, (Below.refl _ _).alloc (Nat.le_refl _) _⟩
  · have HF : Hid (M.fault 0 n s = 3) := hide (by unfold M.fault M.faultN; rw [if_pos rfl, if_neg (by omega), if_neg h3])
    obtain ⟨h4, h5⟩ := empty_of h3
    go_enter Tryz.func43, Tryz.ntmps43
    go_wp2
    go_ret
    exact ⟨by rw [HF.out]; rfl, (Below.refl _ _).alloc (Nat.le_refl _) _⟩

theorem refText (n : Int) (s : ByteArray) (w : World) (hs : s.size ≤ maxLen) : Calls Tryz.prog 43 #[.agg #[.int .i64 1, .int .i64 n, .string s]] w fun e w' => e = .returned (.int .i64 (M.fault 1 n s)) ∧ Below w.heap.size w w' := by
  by_cases h1 : 12 < s.size
  · have HF : Hid (M.fault 1 n s = 4) := hide (by unfold M.fault M.faultT; rw [if_neg (by decide), if_pos rfl, if_pos h1])
    have h1' : (12 : Int) < (s.size : Int) := by omega
    unfold maxLen at hs
    go_enter Tryz.func43, Tryz.ntmps43
    go_wp2
    go_ret
    exact ⟨by rw [HF.out]; rfl, (Below.refl _ _).alloc (Nat.le_refl _) _⟩
  have h1' : ¬ (12 : Int) < (s.size : Int) := by omega
  by_cases h2 : n = 0
  · subst h2
    have HF : Hid (M.fault 1 0 s = if M.bad s then 3 else 0) := hide (by
      unfold M.fault M.faultT
      rw [if_neg (by decide), if_pos rfl, if_neg h1, if_pos rfl])
    unfold maxLen at hs
    go_enter Tryz.func43, Tryz.ntmps43
    go_wp2
    go_loop [3] (fun c => ∃ j : Nat, j ≤ s.size ∧ c = .int .i64 j ∧ (s.data.toList.take j).any M.badC = false) (fun c => s.size - (intOf c).toNat)
    case atStart => exact ⟨0, Nat.zero_le _, rfl, rfl⟩
    case round =>
      obtain ⟨j, hj, rfl, hno⟩ := hrel
      have HN : Hid ((s.data.toList.take j).any M.badC = false) := hno
      clear hno
      by_cases hlt : j < s.size
      · have HS : Hid ((s.data.toList.take (j + 1)).any M.badC = M.badC s[j]) := by
          have h := HN.out
          show (s.data.toList.take (j + 1)).any M.badC = M.badC s[j]
          rw [take_snoc s j hlt, List.any_append, h]; simp
        by_cases h1 : (s[j].toNat : Int) < 97
        · have hfin : Hid (M.bad s = true) := bad_at s j hlt (by unfold M.badC; simp; omega)
          go_wp2
          go_ret
          exact ⟨by rw [HF.out, hfin.out]; rfl, (Below.refl _ _).alloc (Nat.le_refl _) _⟩
        · by_cases h2 : 122 < (s[j].toNat : Int)
          · have hfin : Hid (M.bad s = true) := bad_at s j hlt (by unfold M.badC; simp; omega)
            go_wp2
            go_ret
            exact ⟨by rw [HF.out, hfin.out]; rfl, (Below.refl _ _).alloc (Nat.le_refl _) _⟩
          · have hb : M.badC s[j] = false := by unfold M.badC; simp; omega
            have HB := hide hb
            clear hb
            go_wp2
            go_round
            case rel => exact ⟨j + 1, by omega, by go_num, by rw [HS.out]; exact HB.out⟩
            case measure => simp [intOf]; omega
      · have hfin : Hid (M.bad s = false) := by
          have h := HN.out
          rwa [List.take_of_length_le (by simp; omega)] at h
        go_wp2
        go_ret
        exact ⟨by rw [HF.out, hfin.out]; rfl, (Below.refl _ _).alloc (Nat.le_refl _) _⟩
  · have HF : Hid (M.fault 1 n s = 3) := hide (by unfold M.fault M.faultT; rw [if_neg (by decide), if_pos rfl, if_neg h1, if_neg h2])
    have hn : (n != 0) = true := by simpa using h2
    unfold maxLen at hs
    go_enter Tryz.func43, Tryz.ntmps43
    go_wp2
    go_ret
    exact ⟨by rw [HF.out]; rfl, (Below.refl _ _).alloc (Nat.le_refl _) _⟩

theorem refAny (n : Int) (s : ByteArray) (w : World) (hs : s.size ≤ maxLen) : Calls Tryz.prog 43 #[.agg #[.int .i64 2, .int .i64 n, .string s]] w fun e w' => e = .returned (.int .i64 (M.fault 2 n s)) ∧ Below w.heap.size w w' := by
  by_cases h2 : n = 0
  · subst h2
    by_cases h3 : s.size = 0
    · obtain rfl := size0 h3
      have HF : Hid (M.fault 2 0 ByteArray.empty = 0) := hide (by unfold M.fault M.faultA; rw [if_neg (by decide), if_neg (by decide), if_pos rfl, if_pos ⟨rfl, h3⟩])
      clear hs h3
      go_enter Tryz.func43, Tryz.ntmps43
      go_wp2
      refine wp_loop_rounds 1 ?_
      rw [rounds_succ]
      go_wp2
      go_ret
      exact ⟨by rw [HF.out]; rfl, (Below.refl _ _).alloc (Nat.le_refl _) _⟩
    · have HF : Hid (M.fault 2 0 s = 3) := hide (by unfold M.fault M.faultA; rw [if_neg (by decide), if_neg (by decide), if_pos rfl, if_neg (by omega)])
      obtain ⟨h4, h5⟩ := empty_of h3
      go_enter Tryz.func43, Tryz.ntmps43
      go_wp2
      go_ret
      exact ⟨by rw [HF.out]; rfl, (Below.refl _ _).alloc (Nat.le_refl _) _⟩
  · have HF : Hid (M.fault 2 n s = 3) := hide (by unfold M.fault M.faultA; rw [if_neg (by decide), if_neg (by decide), if_pos rfl, if_neg (by omega)])
    have hn : (n != 0) = true := by simpa using h2
    go_enter Tryz.func43, Tryz.ntmps43
    go_wp2
    go_ret
    exact ⟨by rw [HF.out]; rfl, (Below.refl _ _).alloc (Nat.le_refl _) _⟩

theorem refValue (k n : Int) (s : ByteArray) (w : World) (hs : s.size ≤ maxLen) : Calls Tryz.prog 43 #[.agg #[.int .i64 k, .int .i64 n, .string s]] w fun e w' => e = .returned (.int .i64 (M.fault k n s)) ∧ Below w.heap.size w w' := by
  by_cases h0 : k = 0
  · subst h0
    by_cases h1 : n < -1000000 ∨ 1000000 < n
    · have e : M.fault 0 n s = 1 := by unfold M.fault M.faultN; rw [if_pos rfl, if_pos h1]
      rw [e]; exact refOne 0 n s w (Or.inr (Or.inr ⟨rfl, h1⟩))
    · exact refNum n s w hs (by omega) (by omega)
  by_cases h1 : k = 1
  · subst h1; exact refText n s w hs
  by_cases h2 : k = 2
  · subst h2; exact refAny n s w hs
  · have e : M.fault k n s = 1 := by unfold M.fault; rw [if_neg h0, if_neg h1, if_neg h2]
    rw [e]; exact refOne k n s w (by omega)

end Go.Proofs.YtlefhfmckimlaaiGreatDoor

set_option linter.unusedSimpArgs false
namespace Go.Proofs.YtlefhfmckimlaaiGreatDoor
open Go.RowKit

theorem digit_slice (d : Nat) (h : d < 10) : (ByteArray.mk #[48, 49, 50, 51, 52, 53, 54, 55, 56, 57]).extract d (d + 1) = ⟨#[UInt8.ofNat (48 + d)]⟩ := by
  match d, h with
  | 0, _ => rfl
  | 1, _ => rfl
  | 2, _ => rfl
  | 3, _ => rfl
  | 4, _ => rfl
  | 5, _ => rfl
  | 6, _ => rfl
  | 7, _ => rfl
  | 8, _ => rfl
  | 9, _ => rfl

theorem ret_str {a b : ByteArray} (h : a = b) : Ending.returned (.string a) = .returned (.string b) := by rw [h]

theorem digits : ∀ (m : Nat) (n : Int) (w : World), n.toNat = m → 0 ≤ n → n ≤ 1000000 → Calls Tryz.prog 71 #[.int .i64 n] w fun e w' => e = .returned (.string ⟨(Lib.decDigits n.toNat).toArray⟩) ∧ w' = w := by
  intro m
  induction m using Nat.strongRecOn with
  | _ m ih =>
    intro n w hm h0 hu
    by_cases h : n < 10
    · have HF : Hid (Lib.decDigits n.toNat = [UInt8.ofNat (48 + n.toNat)]) := hide (Lib.decDigits_one (by omega))
      have HS := hide (digit_slice n.toNat (by omega))
      clear ih hm
      go_enter Tryz.func71, Tryz.ntmps71
      go_wp2
      go_ret
      exact ⟨ret_str (by rw [HF.out, show (n + 1).toNat = n.toNat + 1 by omega, HS.out]), rfl⟩
    · have HF : Hid (Lib.decDigits n.toNat = Lib.decDigits (n / 10).toNat ++ [UInt8.ofNat (48 + (n % 10).toNat)]) := hide (by
        rw [Lib.decDigits, dif_neg (by omega), show n.toNat / 10 = (n / 10).toNat by omega, show n.toNat % 10 = (n % 10).toNat by omega])
      have HS := hide (digit_slice (n % 10).toNat (by omega))
      have HI : Hid (∀ w, Calls Tryz.prog 71 #[.int .i64 (n / 10)] w fun e w' => e = .returned (.string ⟨(Lib.decDigits (n / 10).toNat).toArray⟩) ∧ w' = w) := fun w => ih (n / 10).toNat (by omega) (n / 10) w rfl (by omega) (by omega)
      have hlen : (Lib.decDigits (n / 10).toNat).length ≤ 7 := M.len_le _ (by omega)
      clear ih hm
      go_enter Tryz.func71, Tryz.ntmps71
      go_wp2_with fail
      refine (unhide HI _).mono ?_
      rintro e w1 ⟨rfl, rfl⟩
      go_wp2_with fail
      go_ret
      exact ⟨ret_str (by rw [HF.out, show (n % 10 + 1).toNat = (n % 10).toNat + 1 by omega, HS.out, ByteArray.mk_append_mk]), rfl⟩

theorem refWord (k n : Int) (s : ByteArray) (w : World) (h : M.fault k n s = 0) : Calls Tryz.prog 51 #[.agg #[.int .i64 k, .int .i64 n, .string s]] w fun e w' => e = .returned (.string (M.word k n s)) ∧ Below w.heap.size w w' := by
  rcases fault_kind h with rfl | rfl | rfl
  · obtain ⟨n1, n2, _⟩ := fault_num h
    clear h
    by_cases hneg : n < 0
    · have HF : Hid (M.word 0 n s = ⟨#[45]⟩ ++ ⟨(Lib.decDigits (-n).toNat).toArray⟩) := hide (by
        show (⟨(Lib.itoa n).toArray⟩ : ByteArray) = _
        unfold Lib.itoa; rw [if_pos hneg, show n.natAbs = (-n).toNat by omega, ByteArray.mk_append_mk]; simp)
      have hlen : (Lib.decDigits (-n).toNat).length ≤ 7 := M.len_le _ (by omega)
      go_enter Tryz.func51, Tryz.ntmps51
      go_wp2_with fail
      refine (digits _ (-n) _ rfl (by omega) (by omega)).mono ?_
      rintro e w1 ⟨rfl, rfl⟩
      go_wp2_with fail
      go_ret
      exact ⟨ret_str HF.out.symm, (Below.refl _ _).alloc (Nat.le_refl _) _⟩
    · have HF : Hid (M.word 0 n s = ⟨(Lib.decDigits n.toNat).toArray⟩) := hide (by
        show (⟨(Lib.itoa n).toArray⟩ : ByteArray) = _
        unfold Lib.itoa; rw [if_neg hneg])
      go_enter Tryz.func51, Tryz.ntmps51
      go_wp2_with fail
      refine (digits _ n _ rfl (by omega) (by omega)).mono ?_
      rintro e w1 ⟨rfl, rfl⟩
      go_wp2_with fail
      go_ret
      exact ⟨ret_str HF.out.symm, (Below.refl _ _).alloc (Nat.le_refl _) _⟩
  · obtain ⟨rfl, n2, _⟩ := fault_text h
    clear h
    have hadd : ∀ w, (Op.stringOp .add ⟨#[58]⟩ s).run Tryz.prog w = .ok (.string (⟨#[58]⟩ ++ s)) w := fun w => run_string_add_sum w _ _ (by show 1 + s.size ≤ _; omega)
    go_enter Tryz.func51, Tryz.ntmps51
    go_wp2
    go_ret
    exact ⟨rfl, (Below.refl _ _).alloc (Nat.le_refl _) _⟩
  · clear h
    go_enter Tryz.func51, Tryz.ntmps51
    go_wp2
    go_ret
    exact ⟨rfl, (Below.refl _ _).alloc (Nat.le_refl _) _⟩

end Go.Proofs.YtlefhfmckimlaaiGreatDoor
