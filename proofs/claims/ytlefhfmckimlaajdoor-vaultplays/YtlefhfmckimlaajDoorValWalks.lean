/-
  What the functions of package value do, each as one law of its call: Check and what it calls, the comparisons, Order, Fits.
-/
import Derived.Test.YtlefhfmckimlaajDoorRows
import Derived.Test.YtlefhfmckimlaajDoorValMath
import Derived.WalkKit
import Derived.WalkLawsBesides
import Derived.WalkSpells
import Derived.Below
namespace Go.Proofs.YtlefhfmckimlaajDoor
open Go.RowKit

/-- an error value: nil for 0 -/
def errV (e : Int) : Value := if e = 0 then .nilIface else .iface 66 (.int .i64 e)
theorem errV_0 : errV 0 = .nilIface := rfl

def V (k n : Int) (s : ByteArray) : Value := .agg #[.int .i64 k, .int .i64 n, .string s]

theorem bcell {W w1 : World} (hb : Below W.heap.size W w1) : (∀ b o, b < W.heap.size → w1.cell? ⟨b, o, none⟩ = W.cell? ⟨b, o, none⟩) ∧ (∀ b o, b < W.heap.size → w1.frozen? ⟨b, o, none⟩ = W.frozen? ⟨b, o, none⟩) :=
  ⟨fun b o h => hb.cell (p := ⟨b, o, none⟩) h, fun b o h => hb.frozen (p := ⟨b, o, none⟩) h⟩

theorem hide {p : Prop} (h : p) : Hid p := h
theorem unhide {p : Prop} (h : Hid p) : p := h


theorem size0 {s : ByteArray} (h : s.size = 0) : s = ByteArray.empty := by
  cases s with | mk d => simp [ByteArray.size] at h; subst h; rfl
theorem empty_of {s : ByteArray} (h : ¬ s.size = 0) : s.toList.isEmpty = false ∧ (s.toList == []) = false := by
  rw [ByteArray.toList_eq]
  have : s.data.toList ≠ [] := by
    intro hd; apply h; show s.data.size = 0; rw [← Array.length_toList, hd]; rfl
  cases hd : s.data.toList with
  | nil => exact absurd hd this
  | cons a l => exact ⟨rfl, rfl⟩

theorem checkNumber (k n : Int) (s : ByteArray) (w : World) : Calls Tryd.prog 121 #[.agg #[.int .i64 k, .int .i64 n, .string s]] w fun e w' => e = .returned (errV (M.faultN n s)) ∧ Below w.heap.size w w' := by
  unfold M.faultN
  by_cases h1 : n < -1000000
  · rw [if_pos (Or.inl h1)]
    go_enter Tryd.func121, Tryd.ntmps121
    go_wp2
    go_ret
    exact ⟨rfl, (Below.refl _ _).alloc (Nat.le_refl _) _⟩
  · by_cases h2 : 1000000 < n
    · rw [if_pos (Or.inr h2)]
      go_enter Tryd.func121, Tryd.ntmps121
      go_wp2
      go_ret
      exact ⟨rfl, (Below.refl _ _).alloc (Nat.le_refl _) _⟩
    · rw [if_neg (by omega)]
      by_cases h3 : s.size = 0
      · rw [if_pos h3]; have := size0 h3; subst this; clear h3
        go_enter Tryd.func121, Tryd.ntmps121
        go_wp2
        go_ret
        exact ⟨rfl, (Below.refl _ _).alloc (Nat.le_refl _) _⟩
      · rw [if_neg h3]; obtain ⟨h4, h5⟩ := empty_of h3
        go_enter Tryd.func121, Tryd.ntmps121
        go_wp2
        go_ret
        exact ⟨rfl, (Below.refl _ _).alloc (Nat.le_refl _) _⟩

theorem checkAny (k n : Int) (s : ByteArray) (w : World) : Calls Tryd.prog 123 #[.agg #[.int .i64 k, .int .i64 n, .string s]] w fun e w' => e = .returned (errV (M.faultA n s)) ∧ Below w.heap.size w w' := by
  unfold M.faultA
  by_cases h1 : n = 0
  · subst h1
    by_cases h3 : s.size = 0
    · rw [if_pos ⟨rfl, h3⟩]; have := size0 h3; subst this; clear h3
      go_enter Tryd.func123, Tryd.ntmps123
      go_wp2
      go_ret
      exact ⟨rfl, (Below.refl _ _).alloc (Nat.le_refl _) _⟩
    · rw [if_neg (by omega)]; obtain ⟨h4, h5⟩ := empty_of h3
      go_enter Tryd.func123, Tryd.ntmps123
      go_wp2
      go_ret
      exact ⟨rfl, (Below.refl _ _).alloc (Nat.le_refl _) _⟩
  · rw [if_neg (by omega)]; have hb : (n != 0) = true := by simpa using h1
    go_enter Tryd.func123, Tryd.ntmps123
    go_wp2
    go_ret
    exact ⟨rfl, (Below.refl _ _).alloc (Nat.le_refl _) _⟩

theorem letter (c : UInt8) (w : World) : Calls Tryd.prog 139 #[.int .u8 c.toNat] w fun e w' => e = .returned (.bool (M.badC c)) ∧ w' = w := by
  by_cases h1 : (c.toNat : Int) < 97
  · have hc : M.badC c = true := by unfold M.badC; simp; omega
    rw [hc]; clear hc
    go_enter Tryd.func139, Tryd.ntmps139
    go_wp2
    go_ret
    exact ⟨rfl, rfl⟩
  · by_cases h2 : 122 < (c.toNat : Int)
    · have hc : M.badC c = true := by unfold M.badC; simp; omega
      rw [hc]; clear hc
      go_enter Tryd.func139, Tryd.ntmps139
      go_wp2
      go_ret
      exact ⟨rfl, rfl⟩
    · have hc : M.badC c = false := by unfold M.badC; simp; omega
      rw [hc]; clear hc
      go_enter Tryd.func139, Tryd.ntmps139
      go_wp2
      go_ret
      exact ⟨rfl, rfl⟩

theorem take_snoc (s : ByteArray) (k : Nat) (h : k < s.size) : s.data.toList.take (k + 1) = s.data.toList.take k ++ [s[k]] := by
  rw [List.take_succ_eq_append_getElem (by simpa using h)]; rfl

theorem anyByte (s : ByteArray) (w : World) (hs : s.size ≤ maxLen) : Calls Tryd.prog 138 #[.string s, .func (.func 139) #[] #[]] w fun e w' => e = .returned (.bool (M.bad s)) ∧ w' = w := by
  unfold maxLen at hs
  go_enter Tryd.func138, Tryd.ntmps138
  go_wp2
  go_loop [5, 8] (fun _ c => ∃ k : Nat, k ≤ s.size ∧ c = .int .i64 k ∧ (s.data.toList.take k).any M.badC = false) (fun _ c => s.size - (intOf c).toNat)
  case atStart => exact ⟨0, Nat.zero_le _, rfl, rfl⟩
  case round =>
    obtain ⟨k, hk, rfl, hno⟩ := hrel
    have HN : Hid ((s.data.toList.take k).any M.badC = false) := hno
    clear hno
    by_cases hlt : k < s.size
    · have HS : Hid ((s.data.toList.take (k + 1)).any M.badC = M.badC s[k]) := by
        have h := HN.out
        show (s.data.toList.take (k + 1)).any M.badC = M.badC s[k]
        rw [take_snoc s k hlt, List.any_append, h]; simp
      cases hb : M.badC s[k]
      · have hl : ∀ w, Calls Tryd.prog 139 #[.int .u8 s[k].toNat] w fun e w' => e = .returned (.bool false) ∧ w' = w := fun w => by rw [← hb]; exact letter _ _
        have HL := hide hl
        clear hl
        go_wp2_with (go_at_call 139; refine (unhide HL _).mono ?_; rintro e w' ⟨rfl, rfl⟩)
        go_round
        case rel => exact ⟨k + 1, by omega, by go_num, by rw [HS.out]; exact hb⟩
        case measure => simp [intOf]; omega
      · have hl : ∀ w, Calls Tryd.prog 139 #[.int .u8 s[k].toNat] w fun e w' => e = .returned (.bool true) ∧ w' = w := fun w => by rw [← hb]; exact letter _ _
        have HL := hide hl
        clear hl
        have hfin : Hid (M.bad s = true) := by
          have h := HS.out
          rw [hb] at h
          show M.bad s = true
          unfold M.bad
          rw [← List.take_append_drop (k + 1) s.data.toList, List.any_append, h]; rfl
        go_wp2_with (go_at_call 139; refine (unhide HL _).mono ?_; rintro e w' ⟨rfl, rfl⟩)
        go_ret
        exact ⟨by rw [hfin.out]; rfl, rfl⟩
    · have hfin : Hid (M.bad s = false) := by
        have h := HN.out
        rwa [List.take_of_length_le (by simp; omega)] at h
      go_wp2
      go_ret
      exact ⟨by rw [hfin.out]; rfl, rfl⟩

end Go.Proofs.YtlefhfmckimlaajDoor
