/-
  What the document's own Digits and Word answer, as the statements write them.
-/
import Derived.Test.YtlefhfmckimlaacDoorPrintWalks
set_option linter.unusedSimpArgs false
namespace Go.Proofs.YtlefhfmckimlaacDoor
open Go.RowKit

theorem digit_slice (d : Nat) (h : d < 10) : (ByteArray.mk #[48, 49, 50, 51, 52, 53, 54, 55, 56, 57]).extract d (d + 1) = ⟨#[UInt8.ofNat (48 + d)]⟩ := by
  match d, h with
  | 0, _ => rfl
  | 1, _ => rfl
  | 2, _ => rfl
  | 3, _ => rfl
  | 4, _ => rfl
  | 5, _ => rfl
  | 6, _ => rfl
  | 7, _ => rfl
  | 8, _ => rfl
  | 9, _ => rfl

theorem ret_str {a b : ByteArray} (h : a = b) : Ending.returned (.string a) = .returned (.string b) := by rw [h]

theorem digits : ∀ (m : Nat) (n : Int) (w : World), n.toNat = m → 0 ≤ n → n ≤ 1000000 → Calls Tryd.prog 50 #[.int .i64 n] w fun e w' => e = .returned (.string ⟨(Lib.decDigits n.toNat).toArray⟩) ∧ w' = w := by
  intro m
  induction m using Nat.strongRecOn with
  | _ m ih =>
    intro n w hm h0 hu
    by_cases h : n < 10
    · have HF : Hid (Lib.decDigits n.toNat = [UInt8.ofNat (48 + n.toNat)]) := hide (Lib.decDigits_one (by omega))
      have HS := hide (digit_slice n.toNat (by omega))
      clear ih hm
      go_enter Tryd.func50, Tryd.ntmps50
      go_wp2
      go_ret
      exact ⟨ret_str (by rw [HF.out, show (n + 1).toNat = n.toNat + 1 by omega, HS.out]), rfl⟩
    · have HF : Hid (Lib.decDigits n.toNat = Lib.decDigits (n / 10).toNat ++ [UInt8.ofNat (48 + (n % 10).toNat)]) := hide (by
        rw [Lib.decDigits, dif_neg (by omega), show n.toNat / 10 = (n / 10).toNat by omega, show n.toNat % 10 = (n % 10).toNat by omega])
      have HS := hide (digit_slice (n % 10).toNat (by omega))
      have HI : Hid (∀ w, Calls Tryd.prog 50 #[.int .i64 (n / 10)] w fun e w' => e = .returned (.string ⟨(Lib.decDigits (n / 10).toNat).toArray⟩) ∧ w' = w) := fun w => ih (n / 10).toNat (by omega) (n / 10) w rfl (by omega) (by omega)
      have hlen : (Lib.decDigits (n / 10).toNat).length ≤ 7 := M.len_le _ (by omega)
      clear ih hm
      go_enter Tryd.func50, Tryd.ntmps50
      go_wp2_with fail
      refine (unhide HI _).mono ?_
      rintro e w1 ⟨rfl, rfl⟩
      go_wp2_with fail
      go_ret
      exact ⟨ret_str (by rw [HF.out, show (n % 10 + 1).toNat = (n % 10).toNat + 1 by omega, HS.out, ByteArray.mk_append_mk]), rfl⟩

theorem refWord (k n : Int) (s : ByteArray) (w : World) (h : M.fault k n s = 0) : Calls Tryd.prog 30 #[.agg #[.int .i64 k, .int .i64 n, .string s]] w fun e w' => e = .returned (.string (M.word k n s)) ∧ Below w.heap.size w w' := by
  rcases fault_kind h with rfl | rfl | rfl
  · obtain ⟨n1, n2, _⟩ := fault_num h
    clear h
    by_cases hneg : n < 0
    · have HF : Hid (M.word 0 n s = ⟨#[45]⟩ ++ ⟨(Lib.decDigits (-n).toNat).toArray⟩) := hide (by
        show (⟨(Lib.itoa n).toArray⟩ : ByteArray) = _
        unfold Lib.itoa; rw [if_pos hneg, show n.natAbs = (-n).toNat by omega, ByteArray.mk_append_mk]; simp)
      have hlen : (Lib.decDigits (-n).toNat).length ≤ 7 := M.len_le _ (by omega)
      go_enter Tryd.func30, Tryd.ntmps30
      go_wp2_with fail
      refine (digits _ (-n) _ rfl (by omega) (by omega)).mono ?_
      rintro e w1 ⟨rfl, rfl⟩
      go_wp2_with fail
      go_ret
      exact ⟨ret_str HF.out.symm, (Below.refl _ _).alloc (Nat.le_refl _) _⟩
    · have HF : Hid (M.word 0 n s = ⟨(Lib.decDigits n.toNat).toArray⟩) := hide (by
        show (⟨(Lib.itoa n).toArray⟩ : ByteArray) = _
        unfold Lib.itoa; rw [if_neg hneg])
      go_enter Tryd.func30, Tryd.ntmps30
      go_wp2_with fail
      refine (digits _ n _ rfl (by omega) (by omega)).mono ?_
      rintro e w1 ⟨rfl, rfl⟩
      go_wp2_with fail
      go_ret
      exact ⟨ret_str HF.out.symm, (Below.refl _ _).alloc (Nat.le_refl _) _⟩
  · obtain ⟨rfl, n2, _⟩ := fault_text h
    clear h
    have hadd : ∀ w, (Op.stringOp .add ⟨#[58]⟩ s).run Tryd.prog w = .ok (.string (⟨#[58]⟩ ++ s)) w := fun w => run_string_add_sum w _ _ (by show 1 + s.size ≤ _; omega)
    go_enter Tryd.func30, Tryd.ntmps30
    go_wp2
    go_ret
    exact ⟨rfl, (Below.refl _ _).alloc (Nat.le_refl _) _⟩
  · clear h
    go_enter Tryd.func30, Tryd.ntmps30
    go_wp2
    go_ret
    exact ⟨rfl, (Below.refl _ _).alloc (Nat.le_refl _) _⟩

end Go.Proofs.YtlefhfmckimlaacDoor
