/-
  What the functions of package value do: checkText, Check, checkBoth, Fits, Order, each as one law of its call.
-/
import Derived.Test.YtlefhfmckimlaagDoorValWalks
import Derived.LaidEql
namespace Go.Proofs.YtlefhfmckimlaagDoor
open Go.RowKit

theorem checkText (k n : Int) (s : ByteArray) (w : World) (hs : s.size ≤ maxLen) : Calls Tryd.prog 71 #[.agg #[.int .i64 k, .int .i64 n, .string s]] w fun e w' => e = .returned (errV (M.faultT n s)) ∧ Below w.heap.size w w' := by
  unfold M.faultT
  by_cases h1 : 12 < s.size
  · rw [if_pos h1]
    have h1' : (12 : Int) < (s.size : Int) := by omega
    unfold maxLen at hs
    go_enter Tryd.func71, Tryd.ntmps71
    go_wp2
    go_ret
    exact ⟨rfl, (Below.refl _ _).alloc (Nat.le_refl _) _⟩
  · rw [if_neg h1]
    have h1' : ¬ (12 : Int) < (s.size : Int) := by omega
    by_cases h2 : n = 0
    · subst h2
      rw [if_pos rfl]
      have HA : Hid (∀ w, Calls Tryd.prog 85 #[.string s, .func (.func 86) #[] #[]] w fun e w' => e = .returned (.bool (M.bad s)) ∧ w' = w) := fun w => anyByte s w hs
      unfold maxLen at hs
      cases hb : M.bad s
      · rw [hb] at HA
        clear hb
        go_enter Tryd.func71, Tryd.ntmps71
        go_wp2_with (go_at_call 85; refine (unhide HA _).mono ?_; rintro e w' ⟨rfl, rfl⟩)
        go_ret
        exact ⟨rfl, (Below.refl _ _).alloc (Nat.le_refl _) _⟩
      · rw [hb] at HA
        clear hb
        go_enter Tryd.func71, Tryd.ntmps71
        go_wp2_with (go_at_call 85; refine (unhide HA _).mono ?_; rintro e w' ⟨rfl, rfl⟩)
        go_ret
        exact ⟨rfl, (Below.refl _ _).alloc (Nat.le_refl _) _⟩
    · rw [if_neg h2]
      have hn : (n != 0) = true := by simpa using h2
      unfold maxLen at hs
      go_enter Tryd.func71, Tryd.ntmps71
      go_wp2
      go_ret
      exact ⟨rfl, (Below.refl _ _).alloc (Nat.le_refl _) _⟩

theorem check (k n : Int) (s : ByteArray) (w : World) (hs : s.size ≤ maxLen) : Calls Tryd.prog 49 #[.agg #[.int .i64 k, .int .i64 n, .string s]] w fun e w' => e = .returned (errV (M.fault k n s)) ∧ Below w.heap.size w w' := by
  by_cases h0 : k = 0
  · subst h0
    have HF : Hid (M.fault 0 n s = M.faultN n s) := hide (by unfold M.fault; rw [if_pos rfl])
    go_enter Tryd.func49, Tryd.ntmps49
    go_wp2_with (go_at_call 70; refine (checkNumber _ _ _ _).mono ?_; rintro e w' ⟨rfl, hb⟩)
    go_ret
    exact ⟨by rw [HF.out]; rfl, ((Below.refl _ _).alloc (Nat.le_refl _) _).trans (hb.mono (by simp))⟩
  · have h0' : (k == 0) = false := by simpa using h0
    by_cases h1 : k = 1
    · subst h1
      have HF : Hid (M.fault 1 n s = M.faultT n s) := hide (by unfold M.fault; rw [if_neg (by decide), if_pos rfl])
      go_enter Tryd.func49, Tryd.ntmps49
      go_wp2_with (go_at_call 71; refine (checkText _ _ _ _ hs).mono ?_; rintro e w' ⟨rfl, hb⟩)
      go_ret
      exact ⟨by rw [HF.out]; rfl, ((Below.refl _ _).alloc (Nat.le_refl _) _).trans (hb.mono (by simp))⟩
    · have h1' : (k == 1) = false := by simpa using h1
      by_cases h2 : k = 2
      · subst h2
        have HF : Hid (M.fault 2 n s = M.faultA n s) := hide (by unfold M.fault; rw [if_neg (by decide), if_neg (by decide), if_pos rfl])
        go_enter Tryd.func49, Tryd.ntmps49
        go_wp2_with (go_at_call 72; refine (checkAny _ _ _ _).mono ?_; rintro e w' ⟨rfl, hb⟩)
        go_ret
        exact ⟨by rw [HF.out]; rfl, ((Below.refl _ _).alloc (Nat.le_refl _) _).trans (hb.mono (by simp))⟩
      · have h2' : (k == 2) = false := by simpa using h2
        have HF : Hid (M.fault k n s = 1) := hide (by unfold M.fault; rw [if_neg h0, if_neg h1, if_neg h2])
        go_enter Tryd.func49, Tryd.ntmps49
        go_wp2
        go_ret
        exact ⟨by rw [HF.out]; rfl, (Below.refl _ _).alloc (Nat.le_refl _) _⟩

end Go.Proofs.YtlefhfmckimlaagDoor
