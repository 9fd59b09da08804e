/-
  What the functions of package value do: checkText, Check, checkBoth, Fits, Order, each as one law of its call.
  What checkBoth, Fits and Order of package value do, each as one law of its call.
-/
import Derived.Test.YtlefhfmckimlaajDoorValWalks
import Derived.LaidEql
namespace Go.Proofs.YtlefhfmckimlaajDoor
open Go.RowKit

theorem checkText (k n : Int) (s : ByteArray) (w : World) (hs : s.size ≤ maxLen) : Calls Tryd.prog 122 #[.agg #[.int .i64 k, .int .i64 n, .string s]] w fun e w' => e = .returned (errV (M.faultT n s)) ∧ Below w.heap.size w w' := by
  unfold M.faultT
  by_cases h1 : 12 < s.size
  · rw [if_pos h1]
    have h1' : (12 : Int) < (s.size : Int) := by omega
    unfold maxLen at hs
    go_enter Tryd.func122, Tryd.ntmps122
    go_wp2
    go_ret
    exact ⟨rfl, (Below.refl _ _).alloc (Nat.le_refl _) _⟩
  · rw [if_neg h1]
    have h1' : ¬ (12 : Int) < (s.size : Int) := by omega
    by_cases h2 : n = 0
    · subst h2
      rw [if_pos rfl]
      have HA : Hid (∀ w, Calls Tryd.prog 138 #[.string s, .func (.func 139) #[] #[]] w fun e w' => e = .returned (.bool (M.bad s)) ∧ w' = w) := fun w => anyByte s w hs
      unfold maxLen at hs
      cases hb : M.bad s
      · rw [hb] at HA
        clear hb
        go_enter Tryd.func122, Tryd.ntmps122
        go_wp2_with (go_at_call 138; refine (unhide HA _).mono ?_; rintro e w' ⟨rfl, rfl⟩)
        go_ret
        exact ⟨rfl, (Below.refl _ _).alloc (Nat.le_refl _) _⟩
      · rw [hb] at HA
        clear hb
        go_enter Tryd.func122, Tryd.ntmps122
        go_wp2_with (go_at_call 138; refine (unhide HA _).mono ?_; rintro e w' ⟨rfl, rfl⟩)
        go_ret
        exact ⟨rfl, (Below.refl _ _).alloc (Nat.le_refl _) _⟩
    · rw [if_neg h2]
      have hn : (n != 0) = true := by simpa using h2
      unfold maxLen at hs
      go_enter Tryd.func122, Tryd.ntmps122
      go_wp2
      go_ret
      exact ⟨rfl, (Below.refl _ _).alloc (Nat.le_refl _) _⟩

theorem check (k n : Int) (s : ByteArray) (w : World) (hs : s.size ≤ maxLen) : Calls Tryd.prog 106 #[.agg #[.int .i64 k, .int .i64 n, .string s]] w fun e w' => e = .returned (errV (M.fault k n s)) ∧ Below w.heap.size w w' := by
  by_cases h0 : k = 0
  · subst h0
    have HF : Hid (M.fault 0 n s = M.faultN n s) := hide (by unfold M.fault; rw [if_pos rfl])
    go_enter Tryd.func106, Tryd.ntmps106
    go_wp2_with (go_at_call 121; refine (checkNumber _ _ _ _).mono ?_; rintro e w' ⟨rfl, hb⟩)
    go_ret
    exact ⟨by rw [HF.out]; rfl, ((Below.refl _ _).alloc (Nat.le_refl _) _).trans (hb.mono (by simp))⟩
  · have h0' : (k == 0) = false := by simpa using h0
    by_cases h1 : k = 1
    · subst h1
      have HF : Hid (M.fault 1 n s = M.faultT n s) := hide (by unfold M.fault; rw [if_neg (by decide), if_pos rfl])
      go_enter Tryd.func106, Tryd.ntmps106
      go_wp2_with (go_at_call 122; refine (checkText _ _ _ _ hs).mono ?_; rintro e w' ⟨rfl, hb⟩)
      go_ret
      exact ⟨by rw [HF.out]; rfl, ((Below.refl _ _).alloc (Nat.le_refl _) _).trans (hb.mono (by simp))⟩
    · have h1' : (k == 1) = false := by simpa using h1
      by_cases h2 : k = 2
      · subst h2
        have HF : Hid (M.fault 2 n s = M.faultA n s) := hide (by unfold M.fault; rw [if_neg (by decide), if_neg (by decide), if_pos rfl])
        go_enter Tryd.func106, Tryd.ntmps106
        go_wp2_with (go_at_call 123; refine (checkAny _ _ _ _).mono ?_; rintro e w' ⟨rfl, hb⟩)
        go_ret
        exact ⟨by rw [HF.out]; rfl, ((Below.refl _ _).alloc (Nat.le_refl _) _).trans (hb.mono (by simp))⟩
      · have h2' : (k == 2) = false := by simpa using h2
        have HF : Hid (M.fault k n s = 1) := hide (by unfold M.fault; rw [if_neg h0, if_neg h1, if_neg h2])
        go_enter Tryd.func106, Tryd.ntmps106
        go_wp2
        go_ret
        exact ⟨by rw [HF.out]; rfl, (Below.refl _ _).alloc (Nat.le_refl _) _⟩

end Go.Proofs.YtlefhfmckimlaajDoor

namespace Go.Proofs.YtlefhfmckimlaajDoor
open Go.RowKit

theorem checkOk (k n : Int) (s : ByteArray) (w : World) (hs : s.size ≤ maxLen) (h : M.fault k n s = 0) : Calls Tryd.prog 106 #[.agg #[.int .i64 k, .int .i64 n, .string s]] w fun e w' => e = .returned .nilIface ∧ Below w.heap.size w w' := by
  have := check k n s w hs; rwa [h] at this
theorem errV_bad {e : Int} (h : e ≠ 0) : errV e = .iface 66 (.int .i64 e) := by unfold errV; rw [if_neg h]
theorem checkBad (k n : Int) (s : ByteArray) (w : World) (hs : s.size ≤ maxLen) (h : M.fault k n s ≠ 0) : Calls Tryd.prog 106 #[.agg #[.int .i64 k, .int .i64 n, .string s]] w fun e w' => e = .returned (.iface 66 (.int .i64 (M.fault k n s))) ∧ Below w.heap.size w w' := by
  have := check k n s w hs; rwa [errV_bad h] at this

theorem checkBoth (k1 n1 : Int) (s1 : ByteArray) (k2 n2 : Int) (s2 : ByteArray) (w : World) (hs1 : s1.size ≤ maxLen) (hs2 : s2.size ≤ maxLen) :
    Calls Tryd.prog 149 #[.agg #[.int .i64 k1, .int .i64 n1, .string s1], .agg #[.int .i64 k2, .int .i64 n2, .string s2]] w fun e w' => e = .returned (errV (M.both (M.fault k1 n1 s1) (M.fault k2 n2 s2))) ∧ Below w.heap.size w w' := by
  by_cases h : M.fault k1 n1 s1 = 0
  · have HF : Hid (M.both (M.fault k1 n1 s1) (M.fault k2 n2 s2) = M.fault k2 n2 s2) := hide (by unfold M.both; rw [if_pos h])
    have H := hide h
    clear h
    go_enter Tryd.func149, Tryd.ntmps149
    go_wp2_with fail
    refine (checkOk k1 n1 s1 _ hs1 H.out).mono ?_
    rintro e w1 ⟨rfl, hb⟩
    obtain ⟨hc, hf⟩ := bcell hb
    go_wp2_with fail
    refine (check k2 n2 s2 _ hs2).mono ?_
    rintro e w2 ⟨rfl, hb2⟩
    go_wp2_with fail
    go_ret
    exact ⟨by rw [HF.out]; rfl, (((Below.refl _ _).alloc (Nat.le_refl _) _).alloc (by simp) _).trans ((hb.trans (hb2.mono hb.size)).mono (by simp; omega))⟩
  · have HF : Hid (M.both (M.fault k1 n1 s1) (M.fault k2 n2 s2) = M.fault k1 n1 s1) := hide (by unfold M.both; rw [if_neg h])
    have H := hide h
    clear h
    go_enter Tryd.func149, Tryd.ntmps149
    go_wp2_with fail
    refine (checkBad k1 n1 s1 _ hs1 H.out).mono ?_
    rintro e w1 ⟨rfl, hb⟩
    obtain ⟨hc, hf⟩ := bcell hb
    go_wp2_with fail
    go_ret
    exact ⟨by rw [HF.out, errV_bad H.out]; rfl, (((Below.refl _ _).alloc (Nat.le_refl _) _).alloc (by simp) _).trans (hb.mono (by simp; omega))⟩

theorem bothOk (k1 n1 : Int) (s1 : ByteArray) (k2 n2 : Int) (s2 : ByteArray) (w : World) (hs1 : s1.size ≤ maxLen) (hs2 : s2.size ≤ maxLen) (h : M.both (M.fault k1 n1 s1) (M.fault k2 n2 s2) = 0) :
    Calls Tryd.prog 149 #[.agg #[.int .i64 k1, .int .i64 n1, .string s1], .agg #[.int .i64 k2, .int .i64 n2, .string s2]] w fun e w' => e = .returned .nilIface ∧ Below w.heap.size w w' := by
  have := checkBoth k1 n1 s1 k2 n2 s2 w hs1 hs2; rwa [h] at this
theorem bothBad (k1 n1 : Int) (s1 : ByteArray) (k2 n2 : Int) (s2 : ByteArray) (w : World) (hs1 : s1.size ≤ maxLen) (hs2 : s2.size ≤ maxLen) (h : M.both (M.fault k1 n1 s1) (M.fault k2 n2 s2) ≠ 0) :
    Calls Tryd.prog 149 #[.agg #[.int .i64 k1, .int .i64 n1, .string s1], .agg #[.int .i64 k2, .int .i64 n2, .string s2]] w fun e w' => e = .returned (.iface 66 (.int .i64 (M.both (M.fault k1 n1 s1) (M.fault k2 n2 s2)))) ∧ Below w.heap.size w w' := by
  have := checkBoth k1 n1 s1 k2 n2 s2 w hs1 hs2; rwa [errV_bad h] at this

theorem fitsBad (k1 n1 : Int) (s1 : ByteArray) (k2 n2 : Int) (s2 : ByteArray) (w : World) (hs1 : s1.size ≤ maxLen) (hs2 : s2.size ≤ maxLen) (h : M.both (M.fault k1 n1 s1) (M.fault k2 n2 s2) ≠ 0) :
    Calls Tryd.prog 141 #[.agg #[.int .i64 k1, .int .i64 n1, .string s1], .agg #[.int .i64 k2, .int .i64 n2, .string s2]] w fun e w' => e = .returned (.tuple #[.bool false, .iface 66 (.int .i64 (M.both (M.fault k1 n1 s1) (M.fault k2 n2 s2)))]) ∧ Below w.heap.size w w' := by
  have H := hide h
  clear h
  go_enter Tryd.func141, Tryd.ntmps141
  go_wp2_with fail
  refine (bothBad k1 n1 s1 k2 n2 s2 _ hs1 hs2 H.out).mono ?_
  rintro e w1 ⟨rfl, hb⟩
  obtain ⟨hc, hf⟩ := bcell hb
  go_wp2_with fail
  go_ret2
  exact ⟨rfl, (((Below.refl _ _).alloc (Nat.le_refl _) _).alloc (by simp) _).trans (hb.mono (by simp; omega))⟩

theorem fitsAny (k1 n1 : Int) (s1 : ByteArray) (n2 : Int) (s2 : ByteArray) (w : World) (hs1 : s1.size ≤ maxLen) (hs2 : s2.size ≤ maxLen) (h : M.both (M.fault k1 n1 s1) (M.fault 2 n2 s2) = 0) :
    Calls Tryd.prog 141 #[.agg #[.int .i64 k1, .int .i64 n1, .string s1], .agg #[.int .i64 2, .int .i64 n2, .string s2]] w fun e w' => e = .returned (.tuple #[.bool false, .iface 66 (.int .i64 3)]) ∧ Below w.heap.size w w' := by
  have H := hide h
  clear h
  go_enter Tryd.func141, Tryd.ntmps141
  go_wp2_with fail
  refine (bothOk k1 n1 s1 2 n2 s2 _ hs1 hs2 H.out).mono ?_
  rintro e w1 ⟨rfl, hb⟩
  obtain ⟨hc, hf⟩ := bcell hb
  go_wp2_with fail
  go_ret2
  exact ⟨rfl, (((Below.refl _ _).alloc (Nat.le_refl _) _).alloc (by simp) _).trans (hb.mono (by simp; omega))⟩

theorem fitsAll (n1 : Int) (s1 : ByteArray) (k2 n2 : Int) (s2 : ByteArray) (w : World) (hs1 : s1.size ≤ maxLen) (hs2 : s2.size ≤ maxLen) (h : M.both (M.fault 2 n1 s1) (M.fault k2 n2 s2) = 0) (h2 : k2 ≠ 2) :
    Calls Tryd.prog 141 #[.agg #[.int .i64 2, .int .i64 n1, .string s1], .agg #[.int .i64 k2, .int .i64 n2, .string s2]] w fun e w' => e = .returned (.tuple #[.bool true, .nilIface]) ∧ Below w.heap.size w w' := by
  have H := hide h
  clear h
  have h2' : (k2 == 2) = false := by simpa using h2
  clear h2
  go_enter Tryd.func141, Tryd.ntmps141
  go_wp2_with fail
  refine (bothOk 2 n1 s1 k2 n2 s2 _ hs1 hs2 H.out).mono ?_
  rintro e w1 ⟨rfl, hb⟩
  obtain ⟨hc, hf⟩ := bcell hb
  go_wp2_with fail
  go_ret2
  exact ⟨rfl, (((Below.refl _ _).alloc (Nat.le_refl _) _).alloc (by simp) _).trans (hb.mono (by simp; omega))⟩

theorem fitsSame (k1 n1 : Int) (s1 : ByteArray) (k2 n2 : Int) (s2 : ByteArray) (w : World) (hs1 : s1.size ≤ maxLen) (hs2 : s2.size ≤ maxLen) (h : M.both (M.fault k1 n1 s1) (M.fault k2 n2 s2) = 0) (h1 : k1 ≠ 2) (h2 : k2 ≠ 2) :
    Calls Tryd.prog 141 #[.agg #[.int .i64 k1, .int .i64 n1, .string s1], .agg #[.int .i64 k2, .int .i64 n2, .string s2]] w fun e w' => e = .returned (.tuple #[.bool (M.same k1 n1 s1 k2 n2 s2), .nilIface]) ∧ Below w.heap.size w w' := by
  have H := hide h
  clear h
  have h1' : (k1 == 2) = false := by simpa using h1
  have h2' : (k2 == 2) = false := by simpa using h2
  clear h1 h2
  go_enter Tryd.func141, Tryd.ntmps141
  go_wp2_with fail
  refine (bothOk k1 n1 s1 k2 n2 s2 _ hs1 hs2 H.out).mono ?_
  rintro e w1 ⟨rfl, hb⟩
  obtain ⟨hc, hf⟩ := bcell hb
  go_wp2_with fail
  all_goals
    go_ret2
    refine ⟨?_, (((Below.refl _ _).alloc (Nat.le_refl _) _).alloc (by simp) _).trans (hb.mono (by simp; omega))⟩
    simp [M.same, *]


end Go.Proofs.YtlefhfmckimlaajDoor
