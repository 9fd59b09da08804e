/-
  What digest's own number and the document's own Hash do, each as one law of its call.
-/
import Derived.Test.YtlefhfmckimlaagDoorValWalks3
import Derived.Test.YtlefhfmckimlaagDoorHashMath
namespace Go.Proofs.YtlefhfmckimlaagDoor
open Go.RowKit

theorem number (s : ByteArray) (w : World) (hs : s.size ≤ maxLen) : Calls Tryd.prog 84 #[.string s] w fun e w' => e = .returned (.int .i64 (M.hash s)) ∧ w' = w := by
  unfold maxLen at hs
  go_enter Tryd.func84, Tryd.ntmps84
  go_wp2
  go_loop [3, 4, 7] (fun a _ c => ∃ (k : Nat) (h : Int), k ≤ s.size ∧ a = .int .i64 h ∧ c = .int .i64 k ∧ 0 ≤ h ∧ h ≤ 10006 ∧ Hid (h = M.hashL (s.data.toList.take k))) (fun _ _ c => s.size - (intOf c).toNat)
  case atStart => exact ⟨0, 7, Nat.zero_le _, rfl, rfl, by decide, by decide, hide rfl⟩
  case round =>
    obtain ⟨k, h, hk, rfl, rfl, h0, h1, hh⟩ := hrel
    by_cases hlt : k < s.size
    · have HS : Hid (M.hashC h s[k] = M.hashL (s.data.toList.take (k + 1))) := hide (by rw [take_snoc s k hlt, M.hashL_snoc, ← hh.out])
      have hb := s[k].toNat_lt
      go_wp2
      go_round
      case rel => exact ⟨k + 1, M.hashC h s[k], by omega, by unfold M.hashC; go_num, by go_num, (M.hashC_range _ _).1, (M.hashC_range _ _).2, HS⟩
      case measure => simp [intOf]; omega
    · have hfin : Hid (h = M.hash s) := hide (by have h' := hh.out; rwa [List.take_of_length_le (by simp; omega)] at h')
      go_wp2
      go_ret
      exact ⟨by rw [← hfin.out]; rfl, rfl⟩


end Go.Proofs.YtlefhfmckimlaagDoor
