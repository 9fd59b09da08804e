/-
  What the document's own functions for values answer, as the statements write them: Value, Order, Digits, Word, Read.
  What the document's own Digits and Word answer, as the statements write them.
  What the document's own Like, Tuple, Fits and Line do, each as one law of its call.
-/
import Derived.Test.YtlefhfmckimlaakGreatDoorJVal
import Derived.Test.YtlefhfmckimlaakGreatDoorJPrint
import Derived.BigQuiet
import Derived.Deep.QuietTactic
import Derived.Test.YtlefhfmckimlaakGreatDoorJTup
import Derived.Test.YtlefhfmckimlaakGreatDoorJSame
set_option linter.unusedSimpArgs false
namespace Go.Proofs.YtlefhfmckimlaakGreatDoor
open Go.RowKit

theorem bad_at (s : ByteArray) (j : Nat) (h : j < s.size) (hb : M.badC s[j] = true) : M.bad s = true := by
  unfold M.bad
  rw [List.any_eq_true]
  exact ⟨s[j], by
    have : s[j] = s.data.toList[j]'(by rw [Array.length_toList]; exact h) := rfl
    rw [this]; exact List.getElem_mem _, hb⟩

theorem refOne (k n : Int) (s : ByteArray) (w : World) (h : k < 0 ∨ 2 < k ∨ k = 0 ∧ (n < -1000000 ∨ 1000000 < n)) : Calls Tryz.prog 87 #[.agg #[.int .i64 k, .int .i64 n, .string s]] w fun e w' => e = .returned (.int .i64 1) ∧ Below w.heap.size w w' := by
  by_cases h1 : k < 0
  · go_enter Tryz.func87, Tryz.ntmps87
    go_wp2
    go_ret
    exact ⟨rfl, (Below.refl _ _).alloc (Nat.le_refl _) _⟩
  · by_cases h2 : 2 < k
    · go_enter Tryz.func87, Tryz.ntmps87
      go_wp2
      go_ret
      exact ⟨rfl, (Below.refl _ _).alloc (Nat.le_refl _) _⟩
    · have h3 : k = 0 := by omega
      subst h3
      by_cases h4 : n < -1000000
      · go_enter Tryz.func87, Tryz.ntmps87
        go_wp2
        go_ret
        exact ⟨rfl, (Below.refl _ _).alloc (Nat.le_refl _) _⟩
      · have h5 : 1000000 < n := by omega
        go_enter Tryz.func87, Tryz.ntmps87
        go_wp2
        go_ret
        exact ⟨rfl, (Below.refl _ _).alloc (Nat.le_refl _) _⟩

theorem refNum (n : Int) (s : ByteArray) (w : World) (hs : s.size ≤ maxLen) (h1 : -1000000 ≤ n) (h2 : n ≤ 1000000) : Calls Tryz.prog 87 #[.agg #[.int .i64 0, .int .i64 n, .string s]] w fun e w' => e = .returned (.int .i64 (M.fault 0 n s)) ∧ Below w.heap.size w w' := by
  by_cases h3 : s.size = 0
  · obtain rfl := size0 h3
    have HF : Hid (M.fault 0 n ByteArray.empty = 0) := hide (by unfold M.fault M.faultN; rw [if_pos rfl, if_neg (by omega), if_pos h3])
    clear hs h3
    go_enter Tryz.func87, Tryz.ntmps87
    go_wp2
    refine wp_loop_rounds 1 ?_
    rw [rounds_succ]
    go_wp2
    go_ret
    exact ⟨by rw [HF.out]; rfl, (Below.refl _ _).alloc (Nat.le_refl _) _⟩
  · have HF : Hid (M.fault 0 n s = 3) := hide (by unfold M.fault M.faultN; rw [if_pos rfl, if_neg (by omega), if_neg h3])
    obtain ⟨h4, h5⟩ := empty_of h3
    go_enter Tryz.func87, Tryz.ntmps87
    go_wp2
    go_ret
    exact ⟨by rw [HF.out]; rfl, (Below.refl _ _).alloc (Nat.le_refl _) _⟩

theorem refText (n : Int) (s : ByteArray) (w : World) (hs : s.size ≤ maxLen) : Calls Tryz.prog 87 #[.agg #[.int .i64 1, .int .i64 n, .string s]] w fun e w' => e = .returned (.int .i64 (M.fault 1 n s)) ∧ Below w.heap.size w w' := by
  by_cases h1 : 12 < s.size
  · have HF : Hid (M.fault 1 n s = 4) := hide (by unfold M.fault M.faultT; rw [if_neg (by decide), if_pos rfl, if_pos h1])
    have h1' : (12 : Int) < (s.size : Int) := by omega
    unfold maxLen at hs
    go_enter Tryz.func87, Tryz.ntmps87
    go_wp2
    go_ret
    exact ⟨by rw [HF.out]; rfl, (Below.refl _ _).alloc (Nat.le_refl _) _⟩
  have h1' : ¬ (12 : Int) < (s.size : Int) := by omega
  by_cases h2 : n = 0
  · subst h2
    have HF : Hid (M.fault 1 0 s = if M.bad s then 3 else 0) := hide (by
      unfold M.fault M.faultT
      rw [if_neg (by decide), if_pos rfl, if_neg h1, if_pos rfl])
    unfold maxLen at hs
    go_enter Tryz.func87, Tryz.ntmps87
    go_wp2
    go_loop [3] (fun c => ∃ j : Nat, j ≤ s.size ∧ c = .int .i64 j ∧ (s.data.toList.take j).any M.badC = false) (fun c => s.size - (intOf c).toNat)
    case atStart => exact ⟨0, Nat.zero_le _, rfl, rfl⟩
    case round =>
      obtain ⟨j, hj, rfl, hno⟩ := hrel
      have HN : Hid ((s.data.toList.take j).any M.badC = false) := hno
      clear hno
      by_cases hlt : j < s.size
      · have HS : Hid ((s.data.toList.take (j + 1)).any M.badC = M.badC s[j]) := by
          have h := HN.out
          show (s.data.toList.take (j + 1)).any M.badC = M.badC s[j]
          rw [take_snoc s j hlt, List.any_append, h]; simp
        by_cases h1 : (s[j].toNat : Int) < 97
        · have hfin : Hid (M.bad s = true) := bad_at s j hlt (by unfold M.badC; simp; omega)
          go_wp2
          go_ret
          exact ⟨by rw [HF.out, hfin.out]; rfl, (Below.refl _ _).alloc (Nat.le_refl _) _⟩
        · by_cases h2 : 122 < (s[j].toNat : Int)
          · have hfin : Hid (M.bad s = true) := bad_at s j hlt (by unfold M.badC; simp; omega)
            go_wp2
            go_ret
            exact ⟨by rw [HF.out, hfin.out]; rfl, (Below.refl _ _).alloc (Nat.le_refl _) _⟩
          · have hb : M.badC s[j] = false := by unfold M.badC; simp; omega
            have HB := hide hb
            clear hb
            go_wp2
            go_round
            case rel => exact ⟨j + 1, by omega, by go_num, by rw [HS.out]; exact HB.out⟩
            case measure => simp [intOf]; omega
      · have hfin : Hid (M.bad s = false) := by
          have h := HN.out
          rwa [List.take_of_length_le (by simp; omega)] at h
        go_wp2
        go_ret
        exact ⟨by rw [HF.out, hfin.out]; rfl, (Below.refl _ _).alloc (Nat.le_refl _) _⟩
  · have HF : Hid (M.fault 1 n s = 3) := hide (by unfold M.fault M.faultT; rw [if_neg (by decide), if_pos rfl, if_neg h1, if_neg h2])
    have hn : (n != 0) = true := by simpa using h2
    unfold maxLen at hs
    go_enter Tryz.func87, Tryz.ntmps87
    go_wp2
    go_ret
    exact ⟨by rw [HF.out]; rfl, (Below.refl _ _).alloc (Nat.le_refl _) _⟩

theorem refAny (n : Int) (s : ByteArray) (w : World) (hs : s.size ≤ maxLen) : Calls Tryz.prog 87 #[.agg #[.int .i64 2, .int .i64 n, .string s]] w fun e w' => e = .returned (.int .i64 (M.fault 2 n s)) ∧ Below w.heap.size w w' := by
  by_cases h2 : n = 0
  · subst h2
    by_cases h3 : s.size = 0
    · obtain rfl := size0 h3
      have HF : Hid (M.fault 2 0 ByteArray.empty = 0) := hide (by unfold M.fault M.faultA; rw [if_neg (by decide), if_neg (by decide), if_pos rfl, if_pos ⟨rfl, h3⟩])
      clear hs h3
      go_enter Tryz.func87, Tryz.ntmps87
      go_wp2
      refine wp_loop_rounds 1 ?_
      rw [rounds_succ]
      go_wp2
      go_ret
      exact ⟨by rw [HF.out]; rfl, (Below.refl _ _).alloc (Nat.le_refl _) _⟩
    · have HF : Hid (M.fault 2 0 s = 3) := hide (by unfold M.fault M.faultA; rw [if_neg (by decide), if_neg (by decide), if_pos rfl, if_neg (by omega)])
      obtain ⟨h4, h5⟩ := empty_of h3
      go_enter Tryz.func87, Tryz.ntmps87
      go_wp2
      go_ret
      exact ⟨by rw [HF.out]; rfl, (Below.refl _ _).alloc (Nat.le_refl _) _⟩
  · have HF : Hid (M.fault 2 n s = 3) := hide (by unfold M.fault M.faultA; rw [if_neg (by decide), if_neg (by decide), if_pos rfl, if_neg (by omega)])
    have hn : (n != 0) = true := by simpa using h2
    go_enter Tryz.func87, Tryz.ntmps87
    go_wp2
    go_ret
    exact ⟨by rw [HF.out]; rfl, (Below.refl _ _).alloc (Nat.le_refl _) _⟩

theorem refValue (k n : Int) (s : ByteArray) (w : World) (hs : s.size ≤ maxLen) : Calls Tryz.prog 87 #[.agg #[.int .i64 k, .int .i64 n, .string s]] w fun e w' => e = .returned (.int .i64 (M.fault k n s)) ∧ Below w.heap.size w w' := by
  by_cases h0 : k = 0
  · subst h0
    by_cases h1 : n < -1000000 ∨ 1000000 < n
    · have e : M.fault 0 n s = 1 := by unfold M.fault M.faultN; rw [if_pos rfl, if_pos h1]
      rw [e]; exact refOne 0 n s w (Or.inr (Or.inr ⟨rfl, h1⟩))
    · exact refNum n s w hs (by omega) (by omega)
  by_cases h1 : k = 1
  · subst h1; exact refText n s w hs
  by_cases h2 : k = 2
  · subst h2; exact refAny n s w hs
  · have e : M.fault k n s = 1 := by unfold M.fault; rw [if_neg h0, if_neg h1, if_neg h2]
    rw [e]; exact refOne k n s w (by omega)

end Go.Proofs.YtlefhfmckimlaakGreatDoor

set_option linter.unusedSimpArgs false
namespace Go.Proofs.YtlefhfmckimlaakGreatDoor
open Go.RowKit

theorem digit_slice (d : Nat) (h : d < 10) : (ByteArray.mk #[48, 49, 50, 51, 52, 53, 54, 55, 56, 57]).extract d (d + 1) = ⟨#[UInt8.ofNat (48 + d)]⟩ := by
  match d, h with
  | 0, _ => rfl
  | 1, _ => rfl
  | 2, _ => rfl
  | 3, _ => rfl
  | 4, _ => rfl
  | 5, _ => rfl
  | 6, _ => rfl
  | 7, _ => rfl
  | 8, _ => rfl
  | 9, _ => rfl

theorem ret_str {a b : ByteArray} (h : a = b) : Ending.returned (.string a) = .returned (.string b) := by rw [h]

theorem digits : ∀ (m : Nat) (n : Int) (w : World), n.toNat = m → 0 ≤ n → n ≤ 1000000 → Calls Tryz.prog 35 #[.int .i64 n] w fun e w' => e = .returned (.string ⟨(Lib.decDigits n.toNat).toArray⟩) ∧ w' = w := by
  intro m
  induction m using Nat.strongRecOn with
  | _ m ih =>
    intro n w hm h0 hu
    by_cases h : n < 10
    · have HF : Hid (Lib.decDigits n.toNat = [UInt8.ofNat (48 + n.toNat)]) := hide (Lib.decDigits_one (by omega))
      have HS := hide (digit_slice n.toNat (by omega))
      clear ih hm
      go_enter Tryz.func35, Tryz.ntmps35
      go_wp2
      go_ret
      exact ⟨ret_str (by rw [HF.out, show (n + 1).toNat = n.toNat + 1 by omega, HS.out]), rfl⟩
    · have HF : Hid (Lib.decDigits n.toNat = Lib.decDigits (n / 10).toNat ++ [UInt8.ofNat (48 + (n % 10).toNat)]) := hide (by
        rw [Lib.decDigits, dif_neg (by omega), show n.toNat / 10 = (n / 10).toNat by omega, show n.toNat % 10 = (n % 10).toNat by omega])
      have HS := hide (digit_slice (n % 10).toNat (by omega))
      have HI : Hid (∀ w, Calls Tryz.prog 35 #[.int .i64 (n / 10)] w fun e w' => e = .returned (.string ⟨(Lib.decDigits (n / 10).toNat).toArray⟩) ∧ w' = w) := fun w => ih (n / 10).toNat (by omega) (n / 10) w rfl (by omega) (by omega)
      have hlen : (Lib.decDigits (n / 10).toNat).length ≤ 7 := M.len_le _ (by omega)
      clear ih hm
      go_enter Tryz.func35, Tryz.ntmps35
      go_wp2_with fail
      refine (unhide HI _).mono ?_
      rintro e w1 ⟨rfl, rfl⟩
      go_wp2_with fail
      go_ret
      exact ⟨ret_str (by rw [HF.out, show (n % 10 + 1).toNat = (n % 10).toNat + 1 by omega, HS.out, ByteArray.mk_append_mk]), rfl⟩

theorem refWord (k n : Int) (s : ByteArray) (w : World) (h : M.fault k n s = 0) : Calls Tryz.prog 91 #[.agg #[.int .i64 k, .int .i64 n, .string s]] w fun e w' => e = .returned (.string (M.word k n s)) ∧ Below w.heap.size w w' := by
  rcases fault_kind h with rfl | rfl | rfl
  · obtain ⟨n1, n2, _⟩ := fault_num h
    clear h
    by_cases hneg : n < 0
    · have HF : Hid (M.word 0 n s = ⟨#[45]⟩ ++ ⟨(Lib.decDigits (-n).toNat).toArray⟩) := hide (by
        show (⟨(Lib.itoa n).toArray⟩ : ByteArray) = _
        unfold Lib.itoa; rw [if_pos hneg, show n.natAbs = (-n).toNat by omega, ByteArray.mk_append_mk]; simp)
      have hlen : (Lib.decDigits (-n).toNat).length ≤ 7 := M.len_le _ (by omega)
      go_enter Tryz.func91, Tryz.ntmps91
      go_wp2_with fail
      refine (digits _ (-n) _ rfl (by omega) (by omega)).mono ?_
      rintro e w1 ⟨rfl, rfl⟩
      go_wp2_with fail
      go_ret
      exact ⟨ret_str HF.out.symm, (Below.refl _ _).alloc (Nat.le_refl _) _⟩
    · have HF : Hid (M.word 0 n s = ⟨(Lib.decDigits n.toNat).toArray⟩) := hide (by
        show (⟨(Lib.itoa n).toArray⟩ : ByteArray) = _
        unfold Lib.itoa; rw [if_neg hneg])
      go_enter Tryz.func91, Tryz.ntmps91
      go_wp2_with fail
      refine (digits _ n _ rfl (by omega) (by omega)).mono ?_
      rintro e w1 ⟨rfl, rfl⟩
      go_wp2_with fail
      go_ret
      exact ⟨ret_str HF.out.symm, (Below.refl _ _).alloc (Nat.le_refl _) _⟩
  · obtain ⟨rfl, n2, _⟩ := fault_text h
    clear h
    have hadd : ∀ w, (Op.stringOp .add ⟨#[58]⟩ s).run Tryz.prog w = .ok (.string (⟨#[58]⟩ ++ s)) w := fun w => run_string_add_sum w _ _ (by show 1 + s.size ≤ _; omega)
    go_enter Tryz.func91, Tryz.ntmps91
    go_wp2
    go_ret
    exact ⟨rfl, (Below.refl _ _).alloc (Nat.le_refl _) _⟩
  · clear h
    go_enter Tryz.func91, Tryz.ntmps91
    go_wp2
    go_ret
    exact ⟨rfl, (Below.refl _ _).alloc (Nat.le_refl _) _⟩

end Go.Proofs.YtlefhfmckimlaakGreatDoor

namespace Go.Proofs.YtlefhfmckimlaakGreatDoor
open Go.RowKit
attribute [local go_sem ↓] sameEq sameNe

theorem rlike_none (ao : Option Addr) (cap : Nat) (w : World) :
    Calls Tryz.prog 43 #[.slice ao 0 cap] w fun e w' => e = .returned (.int .i64 5) ∧ Below w.heap.size w w' := by
  go_enter Tryz.func43, Tryz.ntmps43
  go_wp2
  go_ret
  exact ⟨rfl, Below.refl _ _⟩
theorem rlike_many (ao : Option Addr) (n cap : Nat) (w : World) (h : 5 < n) :
    Calls Tryz.prog 43 #[.slice ao n cap] w fun e w' => e = .returned (.int .i64 4) ∧ Below w.heap.size w w' := by
  have h0 : ¬ (n : Int) = 0 := by omega
  have h5 : (5 : Int) < n := by omega
  go_enter Tryz.func43, Tryz.ntmps43
  go_wp2
  go_ret
  exact ⟨rfl, Below.refl _ _⟩
theorem rlike_some (b off cap : Nat) (l : List M.Val) (w : World) (h0 : 0 < l.length) (h5 : l.length ≤ 5) (hl : Lie w b off l) :
    Calls Tryz.prog 43 #[.slice (some ⟨b, off, none⟩) l.length cap] w fun e w' => e = .returned (.int .i64 (M.firstF l)) ∧ Below w.heap.size w w' := by
  have HL := hide hl
  clear hl
  obtain ⟨n, hn⟩ : ∃ n, n = l.length := ⟨_, rfl⟩
  rw [← hn] at h0 h5 ⊢
  have HN := hide hn
  clear hn
  have hz : ¬ (n : Int) = 0 := by omega
  have h5' : ¬ (5 : Int) < n := by omega
  go_enter Tryz.func43, Tryz.ntmps43
  go_wp2
  go_loopw [3] (fun i wr => ∃ k : Nat, k ≤ n ∧ i = .int .i64 k ∧ Hid (M.firstF (l.take k) = 0) ∧ Below w.heap.size w wr) (fun i _ => n - (intOf i).toNat)
  case atStart => exact ⟨0, Nat.zero_le _, rfl, hide rfl, Below.refl _ _⟩
  case round =>
    obtain ⟨k, hk, rfl, hno, hbel⟩ := hrel
    by_cases hlt : k < n
    · have hkl : k < l.length := HN.out ▸ hlt
      obtain ⟨c1, c2, c3, c4⟩ := ((unhide HL).stays (by omega) hbel (Nat.le_refl _)) k hkl
      by_cases hb : M.fault l[k].k l[k].n l[k].s = 0
      · have HV : Hid (∀ w, Calls Tryz.prog 87 #[.agg #[.int .i64 l[k].k, .int .i64 l[k].n, .string l[k].s]] w fun e w' => e = .returned (.int .i64 0) ∧ Below w.heap.size w w') := hide fun w => by have := refValue l[k].k l[k].n l[k].s w c4; rwa [hb] at this
        have HB := hide hb
        clear hb
        go_wp2_with fail
        refine (unhide HV _).mono ?_
        rintro e w1 ⟨rfl, hb1⟩
        go_wp2_with fail
        go_roundw
        case rel => exact ⟨k + 1, by omega, by go_num, hide ((firstF_take hkl hno.out).trans HB.out), hbel.trans (hb1.mono hbel.size)⟩
        case measure => simp [intOf]; omega
      · have HV : Hid (∀ w, Calls Tryz.prog 87 #[.agg #[.int .i64 l[k].k, .int .i64 l[k].n, .string l[k].s]] w fun e w' => e = .returned (.int .i64 (M.fault l[k].k l[k].n l[k].s)) ∧ Below w.heap.size w w') := hide fun w => refValue _ _ _ w c4
        have HB := hide hb
        have hb' : (M.fault l[k].k l[k].n l[k].s != 0) = true := by simpa using hb
        clear hb
        have hfin : Hid (M.firstF l = M.fault l[k].k l[k].n l[k].s) := hide (firstF_bad hkl hno.out HB.out)
        go_wp2_with fail
        refine (unhide HV _).mono ?_
        rintro e w1 ⟨rfl, hb1⟩
        go_wp2_with fail
        go_ret
        exact ⟨by rw [hfin.out]; rfl, hbel.trans (hb1.mono hbel.size)⟩
    · have hfin : Hid (M.firstF l = 0) := hide (by have := hno.out; rwa [List.take_of_length_le (by have := HN.out; omega)] at this)
      go_wp2
      go_ret
      exact ⟨by rw [hfin.out]; rfl, hbel⟩
theorem rlike (v : Value) (l : List M.Val) (w : World) (h : IsVals w v l) : Calls Tryz.prog 43 #[v] w fun e w' => e = .returned (.int .i64 (M.likeF l)) ∧ Below w.heap.size w w' := by
  unfold M.likeF
  by_cases h0 : l.length = 0
  · rw [if_pos h0]
    obtain ⟨ao, cap, rfl, _⟩ := h.shape
    rw [h0]
    exact rlike_none ao cap w
  · rw [if_neg h0]
    by_cases h5 : 5 < l.length
    · rw [if_pos h5]
      obtain ⟨ao, cap, rfl, _⟩ := h.shape
      exact rlike_many ao _ cap w h5
    · rw [if_neg h5]
      obtain ⟨b, off, cap, rfl, _, _, hl⟩ := h.some (by omega)
      exact rlike_some b off cap l w (by omega) (by omega) hl

theorem rtuple_bad (ao : Option Addr) (n cap : Nat) (e : Int) (w : World) (hn : n ≤ maxLen) (he : e ≠ 0) (hL : Calls Tryz.prog 43 #[.slice ao n cap] w fun x w' => x = .returned (.int .i64 e) ∧ Below w.heap.size w w') :
    Calls Tryz.prog 77 #[.slice ao n cap] w fun x w' => x = .returned (.int .i64 e) ∧ Below w.heap.size w w' := by
  unfold maxLen at hn
  have HL := hide hL
  have he' : (e == 0) = false := by simpa using he
  clear hL he
  go_enter Tryz.func77, Tryz.ntmps77
  go_wp2_with fail
  refine (unhide HL).mono ?_
  rintro x w1 ⟨rfl, hb1⟩
  go_wp2_with fail
  go_loopw [3, 4] (fun a i wr => a = .int .i64 e ∧ i = .int .i64 0 ∧ wr = w1) (fun _ _ _ => 0)
  case atStart => exact ⟨rfl, rfl, rfl⟩
  case round =>
    obtain ⟨rfl, rfl, rfl⟩ := hrel
    by_cases h0 : n = 0
    · subst h0
      go_wp2
      go_ret
      exact ⟨rfl, hb1⟩
    · have h0' : (0 : Int) < n := by omega
      go_wp2
      go_ret
      exact ⟨rfl, hb1⟩

def M.anyF (l : List M.Val) : Int := if M.hasAny l then 3 else 0
theorem anyF_yes {l : List M.Val} (h : M.hasAny l = true) : M.anyF l = 3 := by unfold M.anyF; rw [h]; rfl
theorem anyF_no {l : List M.Val} (h : M.hasAny l = false) : M.anyF l = 0 := by unfold M.anyF; rw [h]; rfl

theorem rtuple_ok (b off cap : Nat) (l : List M.Val) (w : World) (hl : Lie w b off l) (hcap : l.length ≤ cap) (hcm : cap ≤ maxLen) (hf : M.likeF l = 0) :
    Calls Tryz.prog 77 #[.slice (some ⟨b, off, none⟩) l.length cap] w fun e w' => e = .returned (.int .i64 (M.anyF l)) ∧ Below w.heap.size w w' := by
  obtain ⟨h0, h5⟩ := likeF_len hf
  have hv : IsVals w (.slice (.some ⟨b, off, none⟩) l.length cap) l := Or.inr (Or.inr ⟨b, off, cap, h0, rfl, hcap, hcm, hl⟩)
  have HK : Hid (Calls Tryz.prog 43 #[.slice (some ⟨b, off, none⟩) l.length cap] w fun e w' => e = .returned (.int .i64 0) ∧ Below w.heap.size w w') := hide (by have := rlike _ l w hv; rwa [hf] at this)
  have HL := hide hl
  clear hv hf hl hcap hcm
  obtain ⟨n, hn⟩ : ∃ n, n = l.length := ⟨_, rfl⟩
  rw [← hn] at h0 h5 HK ⊢
  have HN := hide hn
  clear hn
  go_enter Tryz.func77, Tryz.ntmps77
  go_wp2_with fail
  refine (unhide HK).mono ?_
  rintro x w1 ⟨rfl, hb1⟩
  go_wp2_with fail
  go_loopw [3, 4] (fun a i wr => ∃ k : Nat, ∃ e : Int, k ≤ n ∧ a = .int .i64 e ∧ i = .int .i64 k ∧ Hid ((e = 0 ∧ M.hasAny (l.take k) = false) ∨ (e = 3 ∧ M.hasAny l = true)) ∧ wr = w1) (fun a i _ => if intOf a = 0 then n + 1 - (intOf i).toNat else 0)
  case atStart => exact ⟨0, 0, Nat.zero_le _, rfl, rfl, hide (Or.inl ⟨rfl, rfl⟩), rfl⟩
  case round =>
    obtain ⟨k, e, hk, rfl, rfl, hno, rfl⟩ := hrel
    rcases hno.out with ⟨rfl, hno'⟩ | ⟨rfl, hyes⟩
    · have HNO := hide hno'
      clear hno' hno
      by_cases hlt : k < n
      · have hkl : k < l.length := HN.out ▸ hlt
        obtain ⟨c1, c2, c3, c4⟩ := ((unhide HL).stays (by omega) hb1 (Nat.le_refl _)) k hkl
        have HS : Hid (M.hasAny (l.take (k + 1)) = (l[k].k == 2)) := hide (by
          have h := HNO.out
          unfold M.hasAny at h ⊢
          rw [List.take_succ_eq_append_getElem hkl, List.any_append, h]; simp)
        cases hb : (l[k].k == 2)
        · have HB := hide hb
          go_wp2
          go_roundw
          case rel => exact ⟨k + 1, 0, by omega, rfl, by go_num, hide (Or.inl ⟨rfl, HS.out.trans HB.out⟩), by first | rfl | trivial⟩
          case measure => simp [intOf]; omega
        · have hfin : Hid (M.hasAny l = true) := hide (by
            have h := HS.out.trans hb
            unfold M.hasAny at h ⊢
            rw [← List.take_append_drop (k + 1) l, List.any_append, h]; rfl)
          go_wp2
          go_roundw
          case rel => exact ⟨k + 1, 3, by omega, rfl, by go_num, hide (Or.inr ⟨rfl, hfin.out⟩), by first | rfl | trivial⟩
          case measure => simp [intOf]; omega
      · have hfin : Hid (M.hasAny l = false) := hide (by have := HNO.out; rwa [List.take_of_length_le (by have := HN.out; omega)] at this)
        go_wp2
        go_ret
        exact ⟨by rw [anyF_no hfin.out]; rfl, hb1⟩
    · have HY := hide hyes
      clear hyes hno
      by_cases hlt : k < n
      · go_wp2
        go_ret
        exact ⟨by rw [anyF_yes HY.out]; rfl, hb1⟩
      · go_wp2
        go_ret
        exact ⟨by rw [anyF_yes HY.out]; rfl, hb1⟩

theorem rtuple (v : Value) (l : List M.Val) (w : World) (h : IsVals w v l) : Calls Tryz.prog 77 #[v] w fun e w' => e = .returned (.int .i64 (M.tupF l)) ∧ Below w.heap.size w w' := by
  unfold M.tupF
  by_cases hf : M.likeF l ≠ 0
  · rw [if_pos hf]
    have hL := rlike v l w h
    obtain ⟨ao, cap, rfl, hm⟩ := h.shape
    exact rtuple_bad ao _ cap _ w hm hf hL
  · rw [if_neg hf]
    have hf' : M.likeF l = 0 := by simpa using hf
    obtain ⟨b, off, cap, rfl, h1, h2, h3⟩ := h.some (likeF_len hf').1
    exact rtuple_ok b off cap l w h3 h1 h2 hf'

theorem rfits_other (ao1 ao2 : Option Addr) (n1 n2 cap1 cap2 : Nat) (w : World) (h : n1 ≠ n2) : Calls Tryz.prog 120 #[.slice ao1 n1 cap1, .slice ao2 n2 cap2] w fun e w' => e = .returned (.bool false) ∧ Below w.heap.size w w' := by
  have hb : ((n1 : Int) != (n2 : Int)) = true := by simpa using (by omega : ¬ (n1 : Int) = (n2 : Int))
  clear h
  go_enter Tryz.func120, Tryz.ntmps120
  go_wp2
  go_ret
  exact ⟨rfl, Below.refl _ _⟩

theorem rfits_walk (b1 off1 cap1 b2 off2 cap2 : Nat) (l1 l2 : List M.Val) (w : World) (hl1 : Lie w b1 off1 l1) (hl2 : Lie w b2 off2 l2) (h0 : 0 < l1.length) (h5 : l1.length ≤ 5) (hlen : l1.length = l2.length) :
    Calls Tryz.prog 120 #[.slice (some ⟨b1, off1, none⟩) l1.length cap1, .slice (some ⟨b2, off2, none⟩) l2.length cap2] w fun e w' => e = .returned (.bool (M.fitAll l1 l2)) ∧ Below w.heap.size w w' := by
  have HL1 := hide hl1
  have HL2 := hide hl2
  clear hl1 hl2
  obtain ⟨n, hn⟩ : ∃ n, n = l1.length := ⟨_, rfl⟩
  rw [← hn] at h0 h5 ⊢
  have hn2 : l2.length = n := by omega
  rw [hn2]
  have HN := hide hn
  have HN2 := hide hn2
  clear hn hn2 hlen
  go_enter Tryz.func120, Tryz.ntmps120
  go_wp2
  go_loopw [5] (fun i wr => ∃ k : Nat, k ≤ n ∧ i = .int .i64 k ∧ Hid (M.fitAll (l1.take k) (l2.take k) = true) ∧ Below w.heap.size w wr) (fun i _ => n - (intOf i).toNat)
  case atStart => exact ⟨0, Nat.zero_le _, rfl, hide rfl, Below.refl _ _⟩
  case round =>
    obtain ⟨k, hk, rfl, hno, hbel⟩ := hrel
    by_cases hlt : k < n
    · have hkl : k < l1.length := HN.out ▸ hlt
      have hkl2 : k < l2.length := HN2.out ▸ hlt
      have ik0 : (0 : Int) ≤ (k : Int) := by omega
      have ikn : (k : Int) < (n : Int) := by omega
      obtain ⟨c1, c2, c3, c4⟩ := ((unhide HL1).stays (by omega) hbel (Nat.le_refl _)) k hkl
      obtain ⟨d1, d2, d3, d4⟩ := ((unhide HL2).stays (by omega) hbel (Nat.le_refl _)) k hkl2
      have HS := hide (fitAll_take hkl hkl2 hno.out)
      clear c4 d4
      cases h2 : (l1[k].k == 2)
      · have hne : (l1[k].k != 2) = true := by simpa using h2
        have hf1 : M.fit1 l1[k] l2[k] = M.same l1[k].k l1[k].n l1[k].s l2[k].k l2[k].n l2[k].s := by unfold M.fit1; rw [h2]; rfl
        have HF1 := hide hf1
        clear hf1
        cases hb : M.same l1[k].k l1[k].n l1[k].s l2[k].k l2[k].n l2[k].s
        · have HB : Hid (M.fit1 l1[k] l2[k] = false) := hide (HF1.out.trans hb)
          have hb' : (!M.same l1[k].k l1[k].n l1[k].s l2[k].k l2[k].n l2[k].s) = true := by rw [hb]; rfl
          go_wp2_with fail
          go_quiet (fail)
          go_wp2
          go_ret
          exact ⟨by rw [fitAll_no hkl hkl2 HB.out]; rfl, Go.below_drewN hbel _⟩
        · have HB : Hid (M.fit1 l1[k] l2[k] = true) := hide (HF1.out.trans hb)
          have hb' : (!M.same l1[k].k l1[k].n l1[k].s l2[k].k l2[k].n l2[k].s) = false := by rw [hb]; rfl
          go_wp2_with fail
          go_quiet (fail)
          go_wp2
          go_roundw
          case rel => exact ⟨k + 1, by omega, by go_num, hide (HS.out.trans HB.out), Go.below_drewN hbel _⟩
          case measure => simp [intOf]; omega
      · have hne : (l1[k].k != 2) = false := by simpa using h2
        have HB : Hid (M.fit1 l1[k] l2[k] = true) := hide (by unfold M.fit1; rw [h2]; rfl)
        go_wp2_with fail
        go_quiet (fail)
        go_wp2
        go_roundw
        case rel => exact ⟨k + 1, by omega, by go_num, hide (HS.out.trans HB.out), Go.below_drewN hbel _⟩
        case measure => simp [intOf]; omega
    · have hfin : Hid (M.fitAll l1 l2 = true) := hide (by have := hno.out; rwa [List.take_of_length_le (by have := HN.out; omega), List.take_of_length_le (by have := HN2.out; omega)] at this)
      go_wp2
      go_ret
      exact ⟨by rw [hfin.out]; rfl, hbel⟩

theorem rfits (v1 v2 : Value) (l1 l2 : List M.Val) (w : World) (h1 : IsVals w v1 l1) (h2 : IsVals w v2 l2) (hf1 : M.likeF l1 = 0) :
    Calls Tryz.prog 120 #[v1, v2] w fun e w' => e = .returned (.bool (M.fitAll l1 l2)) ∧ Below w.heap.size w w' := by
  by_cases hlen : l1.length = l2.length
  · obtain ⟨g0, g5⟩ := likeF_len hf1
    obtain ⟨b1, off1, cap1, rfl, _, _, hl1⟩ := h1.some g0
    obtain ⟨b2, off2, cap2, rfl, _, _, hl2⟩ := h2.some (by omega)
    exact rfits_walk b1 off1 cap1 b2 off2 cap2 l1 l2 w hl1 hl2 g0 g5 hlen
  · obtain ⟨a1, c1, rfl, _⟩ := h1.shape
    obtain ⟨a2, c2, rfl, _⟩ := h2.shape
    rw [fitAll_len hlen]
    exact rfits_other a1 a2 _ _ c1 c2 w hlen

theorem data_eq {a b : ByteArray} (h : a.data.toList = b.data.toList) : a = b := by
  cases a; cases b; simp at h; rw [h]
theorem rline (v : Value) (l : List M.Val) (w : World) (h : IsVals w v l) (hf : M.likeF l = 0) :
    Calls Tryz.prog 50 #[v] w fun e w' => e = .returned (.string (M.line l)) ∧ Below w.heap.size w w' := by
  obtain ⟨h0, h5⟩ := likeF_len hf
  obtain ⟨b, off, cap, rfl, _, _, hl⟩ := h.some h0
  have HE := hide (likeF_each' hf)
  have HL := hide hl
  clear h hf hl
  obtain ⟨n, hn⟩ : ∃ n, n = l.length := ⟨_, rfl⟩
  rw [← hn] at h0 h5 ⊢
  have HN := hide hn
  clear hn
  go_enter Tryz.func50, Tryz.ntmps50
  go_wp2
  go_loopw [3, 4] (fun a i wr => ∃ k : Nat, ∃ q : ByteArray, k ≤ n ∧ a = .string q ∧ i = .int .i64 k ∧ Hid (q.data.toList = M.joinL (words (l.take k))) ∧ Below w.heap.size w wr) (fun _ i _ => n - (intOf i).toNat)
  case atStart => exact ⟨0, ⟨#[]⟩, Nat.zero_le _, rfl, rfl, hide rfl, Below.refl _ _⟩
  case round =>
    obtain ⟨k, q, hk, rfl, rfl, hq, hbel⟩ := hrel
    by_cases hlt : k < n
    · have hkl : k < l.length := HN.out ▸ hlt
      obtain ⟨c1, c2, c3, c4⟩ := ((unhide HL).stays (by omega) hbel (Nat.le_refl _)) k hkl
      have hfk : Hid (M.fault l[k].k l[k].n l[k].s = 0) := hide (HE.out _ (List.getElem_mem hkl))
      have hqz : q.size ≤ 70 := by
        have := words_len (l := l.take k) (fun v hv => HE.out v (List.mem_of_mem_take hv))
        rw [List.length_take] at this
        have h2 := congrArg List.length hq.out
        have h3 : q.data.toList.length = q.size := by simp
        omega
      have hwz : (M.word l[k].k l[k].n l[k].s).size ≤ 13 := by have := word_size (v := l[k]) (HE.out _ (List.getElem_mem hkl)); simpa [M.Val.word] using this
      have hadd1 : ∀ w, (Op.stringOp .add q ⟨#[44]⟩).run Tryz.prog w = .ok (.string (q ++ ⟨#[44]⟩)) w := fun w => run_string_add_sum w _ _ (by show q.size + 1 ≤ _; omega)
      have hadd2 : ∀ w, (Op.stringOp .add (q ++ ⟨#[44]⟩) (M.word l[k].k l[k].n l[k].s)).run Tryz.prog w = .ok (.string ((q ++ ⟨#[44]⟩) ++ M.word l[k].k l[k].n l[k].s)) w := fun w => run_string_add_sum w _ _ (by rw [ByteArray.size_append]; show q.size + 1 + _ ≤ _; omega)
      have hadd3 : ∀ w, (Op.stringOp .add q (M.word l[k].k l[k].n l[k].s)).run Tryz.prog w = .ok (.string (q ++ M.word l[k].k l[k].n l[k].s)) w := fun w => run_string_add_sum w _ _ (by omega)
      clear hqz hwz
      by_cases hk0 : k = 0
      · have hk1 : ¬ (0 : Int) < (k : Int) := by omega
        have HK0 := hide hk0
        clear hadd1 hadd2 hk0
        go_wp2_with fail
        refine (refWord _ _ _ _ hfk.out).mono ?_
        rintro e w2 ⟨rfl, hb2⟩
        go_wp2_with fail
        go_roundw
        case rel =>
          refine ⟨k + 1, _, by omega, rfl, by go_num, hide ?_, hbel.trans (hb2.mono hbel.size)⟩
          rw [words_take hkl, ByteArray.data_append, Array.toList_append, hq.out]
          have e0 : words (l.take k) = [] := by rw [HK0.out]; rfl
          rw [e0]
          rfl
        case measure => simp [intOf]; omega
      · have hk1 : (0 : Int) < (k : Int) := by omega
        clear hadd3
        go_wp2_with fail
        refine (refWord _ _ _ _ hfk.out).mono ?_
        rintro e w2 ⟨rfl, hb2⟩
        go_wp2_with fail
        go_roundw
        case rel =>
          refine ⟨k + 1, _, by omega, rfl, by go_num, hide ?_, hbel.trans (hb2.mono hbel.size)⟩
          rw [words_take hkl, join_snoc _ _ (by
            intro e
            have := congrArg List.length e
            unfold words at this
            rw [List.length_map, List.length_take] at this
            simp only [List.length_nil] at this
            omega), ByteArray.data_append, Array.toList_append, ByteArray.data_append, Array.toList_append, hq.out, List.append_assoc]
          rfl
        case measure => simp [intOf]; omega
    · have hfin : Hid (l.take k = l) := hide (List.take_of_length_le (by have := HN.out; omega))
      have hlast : Hid (q = M.line l) := hide (data_eq (by rw [hq.out, hfin.out, line_eq]))
      go_wp2
      go_ret
      exact ⟨by rw [← hlast.out]; rfl, hbel⟩

end Go.Proofs.YtlefhfmckimlaakGreatDoor
