/-
  Plain functions on values: which fault a value has, and how two byte lists are ordered. No program is named here.
  What the functions of package value do, each as one law of its call: Check and what it calls, the comparisons, Order, Fits.
  What the functions of package value do: checkText, Check, checkBoth, Fits, Order, each as one law of its call.
  What checkBoth, Fits and Order of package value do, each as one law of its call.
-/
import Derived.WalkKit
import Derived.Test.YtlefhfmckimlaakGreatDoorRows
import Derived.WalkLawsBesides
import Derived.WalkSpells
import Derived.Below
import Derived.LaidEql
namespace Go.Proofs.YtlefhfmckimlaakGreatDoor.M

/-- a byte that is none of a to z -/
def badC (c : UInt8) : Bool := decide (c.toNat < 97) || decide (122 < c.toNat)
def bad (s : ByteArray) : Bool := s.data.toList.any badC

/-- the number of a value's fault, 0 for none: of a number, of a text, of anything, of any value -/
def faultN (n : Int) (s : ByteArray) : Int := if n < -1000000 ∨ 1000000 < n then 1 else if s.size = 0 then 0 else 3
def faultT (n : Int) (s : ByteArray) : Int := if 12 < s.size then 4 else if n = 0 then (if bad s then 3 else 0) else 3
def faultA (n : Int) (s : ByteArray) : Int := if n = 0 ∧ s.size = 0 then 0 else 3
def fault (k n : Int) (s : ByteArray) : Int := if k = 0 then faultN n s else if k = 1 then faultT n s else if k = 2 then faultA n s else 1

theorem fault_range (k n : Int) (s : ByteArray) : fault k n s = 0 ∨ fault k n s = 1 ∨ fault k n s = 3 ∨ fault k n s = 4 := by
  unfold fault faultN faultT faultA; repeat' split
  all_goals simp

def cmpI (a b : Int) : Int := if a < b then -1 else if b < a then 1 else 0
def cmpS (a b : ByteArray) : Int := if Op.bytesLess a.toList b.toList then -1 else if a.toList == b.toList then 0 else 1

/-- the first of two faults -/
def both (a b : Int) : Int := if a = 0 then b else a

def ord (k1 n1 : Int) (s1 : ByteArray) (k2 n2 : Int) (s2 : ByteArray) : Int :=
  if cmpI k1 k2 ≠ 0 then cmpI k1 k2 else if cmpI n1 n2 ≠ 0 then cmpI n1 n2 else cmpS s1 s2
def same (k1 n1 : Int) (s1 : ByteArray) (k2 n2 : Int) (s2 : ByteArray) : Bool := k1 == k2 && n1 == n2 && s1.toList == s2.toList

end Go.Proofs.YtlefhfmckimlaakGreatDoor.M

namespace Go.Proofs.YtlefhfmckimlaakGreatDoor
open Go.RowKit

/-- an error value: nil for 0 -/
def errV (e : Int) : Value := if e = 0 then .nilIface else .iface 87 (.int .i64 e)
theorem errV_0 : errV 0 = .nilIface := rfl

def V (k n : Int) (s : ByteArray) : Value := .agg #[.int .i64 k, .int .i64 n, .string s]

theorem bcell {W w1 : World} (hb : Below W.heap.size W w1) : (∀ b o, b < W.heap.size → w1.cell? ⟨b, o, none⟩ = W.cell? ⟨b, o, none⟩) ∧ (∀ b o, b < W.heap.size → w1.frozen? ⟨b, o, none⟩ = W.frozen? ⟨b, o, none⟩) :=
  ⟨fun b o h => hb.cell (p := ⟨b, o, none⟩) h, fun b o h => hb.frozen (p := ⟨b, o, none⟩) h⟩

theorem hide {p : Prop} (h : p) : Hid p := h
theorem unhide {p : Prop} (h : Hid p) : p := h


theorem size0 {s : ByteArray} (h : s.size = 0) : s = ByteArray.empty := by
  cases s with | mk d => simp [ByteArray.size] at h; subst h; rfl
theorem empty_of {s : ByteArray} (h : ¬ s.size = 0) : s.toList.isEmpty = false ∧ (s.toList == []) = false := by
  rw [ByteArray.toList_eq]
  have : s.data.toList ≠ [] := by
    intro hd; apply h; show s.data.size = 0; rw [← Array.length_toList, hd]; rfl
  cases hd : s.data.toList with
  | nil => exact absurd hd this
  | cons a l => exact ⟨rfl, rfl⟩

theorem checkNumber (k n : Int) (s : ByteArray) (w : World) : Calls Tryz.prog 166 #[.agg #[.int .i64 k, .int .i64 n, .string s]] w fun e w' => e = .returned (errV (M.faultN n s)) ∧ Below w.heap.size w w' := by
  unfold M.faultN
  by_cases h1 : n < -1000000
  · rw [if_pos (Or.inl h1)]
    go_enter Tryz.func166, Tryz.ntmps166
    go_wp2
    go_ret
    exact ⟨rfl, (Below.refl _ _).alloc (Nat.le_refl _) _⟩
  · by_cases h2 : 1000000 < n
    · rw [if_pos (Or.inr h2)]
      go_enter Tryz.func166, Tryz.ntmps166
      go_wp2
      go_ret
      exact ⟨rfl, (Below.refl _ _).alloc (Nat.le_refl _) _⟩
    · rw [if_neg (by omega)]
      by_cases h3 : s.size = 0
      · rw [if_pos h3]; have := size0 h3; subst this; clear h3
        go_enter Tryz.func166, Tryz.ntmps166
        go_wp2
        go_ret
        exact ⟨rfl, (Below.refl _ _).alloc (Nat.le_refl _) _⟩
      · rw [if_neg h3]; obtain ⟨h4, h5⟩ := empty_of h3
        go_enter Tryz.func166, Tryz.ntmps166
        go_wp2
        go_ret
        exact ⟨rfl, (Below.refl _ _).alloc (Nat.le_refl _) _⟩

theorem checkAny (k n : Int) (s : ByteArray) (w : World) : Calls Tryz.prog 168 #[.agg #[.int .i64 k, .int .i64 n, .string s]] w fun e w' => e = .returned (errV (M.faultA n s)) ∧ Below w.heap.size w w' := by
  unfold M.faultA
  by_cases h1 : n = 0
  · subst h1
    by_cases h3 : s.size = 0
    · rw [if_pos ⟨rfl, h3⟩]; have := size0 h3; subst this; clear h3
      go_enter Tryz.func168, Tryz.ntmps168
      go_wp2
      go_ret
      exact ⟨rfl, (Below.refl _ _).alloc (Nat.le_refl _) _⟩
    · rw [if_neg (by omega)]; obtain ⟨h4, h5⟩ := empty_of h3
      go_enter Tryz.func168, Tryz.ntmps168
      go_wp2
      go_ret
      exact ⟨rfl, (Below.refl _ _).alloc (Nat.le_refl _) _⟩
  · rw [if_neg (by omega)]; have hb : (n != 0) = true := by simpa using h1
    go_enter Tryz.func168, Tryz.ntmps168
    go_wp2
    go_ret
    exact ⟨rfl, (Below.refl _ _).alloc (Nat.le_refl _) _⟩

theorem letter (c : UInt8) (w : World) : Calls Tryz.prog 193 #[.int .u8 c.toNat] w fun e w' => e = .returned (.bool (M.badC c)) ∧ w' = w := by
  by_cases h1 : (c.toNat : Int) < 97
  · have hc : M.badC c = true := by unfold M.badC; simp; omega
    rw [hc]; clear hc
    go_enter Tryz.func193, Tryz.ntmps193
    go_wp2
    go_ret
    exact ⟨rfl, rfl⟩
  · by_cases h2 : 122 < (c.toNat : Int)
    · have hc : M.badC c = true := by unfold M.badC; simp; omega
      rw [hc]; clear hc
      go_enter Tryz.func193, Tryz.ntmps193
      go_wp2
      go_ret
      exact ⟨rfl, rfl⟩
    · have hc : M.badC c = false := by unfold M.badC; simp; omega
      rw [hc]; clear hc
      go_enter Tryz.func193, Tryz.ntmps193
      go_wp2
      go_ret
      exact ⟨rfl, rfl⟩

theorem take_snoc (s : ByteArray) (k : Nat) (h : k < s.size) : s.data.toList.take (k + 1) = s.data.toList.take k ++ [s[k]] := by
  rw [List.take_succ_eq_append_getElem (by simpa using h)]; rfl

theorem anyByte (s : ByteArray) (w : World) (hs : s.size ≤ maxLen) : Calls Tryz.prog 192 #[.string s, .func (.func 193) #[] #[]] w fun e w' => e = .returned (.bool (M.bad s)) ∧ w' = w := by
  unfold maxLen at hs
  go_enter Tryz.func192, Tryz.ntmps192
  go_wp2
  go_loop [5, 8] (fun _ c => ∃ k : Nat, k ≤ s.size ∧ c = .int .i64 k ∧ (s.data.toList.take k).any M.badC = false) (fun _ c => s.size - (intOf c).toNat)
  case atStart => exact ⟨0, Nat.zero_le _, rfl, rfl⟩
  case round =>
    obtain ⟨k, hk, rfl, hno⟩ := hrel
    have HN : Hid ((s.data.toList.take k).any M.badC = false) := hno
    clear hno
    by_cases hlt : k < s.size
    · have HS : Hid ((s.data.toList.take (k + 1)).any M.badC = M.badC s[k]) := by
        have h := HN.out
        show (s.data.toList.take (k + 1)).any M.badC = M.badC s[k]
        rw [take_snoc s k hlt, List.any_append, h]; simp
      cases hb : M.badC s[k]
      · have hl : ∀ w, Calls Tryz.prog 193 #[.int .u8 s[k].toNat] w fun e w' => e = .returned (.bool false) ∧ w' = w := fun w => by rw [← hb]; exact letter _ _
        have HL := hide hl
        clear hl
        go_wp2_with (go_at_call 193; refine (unhide HL _).mono ?_; rintro e w' ⟨rfl, rfl⟩)
        go_round
        case rel => exact ⟨k + 1, by omega, by go_num, by rw [HS.out]; exact hb⟩
        case measure => simp [intOf]; omega
      · have hl : ∀ w, Calls Tryz.prog 193 #[.int .u8 s[k].toNat] w fun e w' => e = .returned (.bool true) ∧ w' = w := fun w => by rw [← hb]; exact letter _ _
        have HL := hide hl
        clear hl
        have hfin : Hid (M.bad s = true) := by
          have h := HS.out
          rw [hb] at h
          show M.bad s = true
          unfold M.bad
          rw [← List.take_append_drop (k + 1) s.data.toList, List.any_append, h]; rfl
        go_wp2_with (go_at_call 193; refine (unhide HL _).mono ?_; rintro e w' ⟨rfl, rfl⟩)
        go_ret
        exact ⟨by rw [hfin.out]; rfl, rfl⟩
    · have hfin : Hid (M.bad s = false) := by
        have h := HN.out
        rwa [List.take_of_length_le (by simp; omega)] at h
      go_wp2
      go_ret
      exact ⟨by rw [hfin.out]; rfl, rfl⟩

end Go.Proofs.YtlefhfmckimlaakGreatDoor

namespace Go.Proofs.YtlefhfmckimlaakGreatDoor
open Go.RowKit

theorem checkText (k n : Int) (s : ByteArray) (w : World) (hs : s.size ≤ maxLen) : Calls Tryz.prog 167 #[.agg #[.int .i64 k, .int .i64 n, .string s]] w fun e w' => e = .returned (errV (M.faultT n s)) ∧ Below w.heap.size w w' := by
  unfold M.faultT
  by_cases h1 : 12 < s.size
  · rw [if_pos h1]
    have h1' : (12 : Int) < (s.size : Int) := by omega
    unfold maxLen at hs
    go_enter Tryz.func167, Tryz.ntmps167
    go_wp2
    go_ret
    exact ⟨rfl, (Below.refl _ _).alloc (Nat.le_refl _) _⟩
  · rw [if_neg h1]
    have h1' : ¬ (12 : Int) < (s.size : Int) := by omega
    by_cases h2 : n = 0
    · subst h2
      rw [if_pos rfl]
      have HA : Hid (∀ w, Calls Tryz.prog 192 #[.string s, .func (.func 193) #[] #[]] w fun e w' => e = .returned (.bool (M.bad s)) ∧ w' = w) := fun w => anyByte s w hs
      unfold maxLen at hs
      cases hb : M.bad s
      · rw [hb] at HA
        clear hb
        go_enter Tryz.func167, Tryz.ntmps167
        go_wp2_with (go_at_call 192; refine (unhide HA _).mono ?_; rintro e w' ⟨rfl, rfl⟩)
        go_ret
        exact ⟨rfl, (Below.refl _ _).alloc (Nat.le_refl _) _⟩
      · rw [hb] at HA
        clear hb
        go_enter Tryz.func167, Tryz.ntmps167
        go_wp2_with (go_at_call 192; refine (unhide HA _).mono ?_; rintro e w' ⟨rfl, rfl⟩)
        go_ret
        exact ⟨rfl, (Below.refl _ _).alloc (Nat.le_refl _) _⟩
    · rw [if_neg h2]
      have hn : (n != 0) = true := by simpa using h2
      unfold maxLen at hs
      go_enter Tryz.func167, Tryz.ntmps167
      go_wp2
      go_ret
      exact ⟨rfl, (Below.refl _ _).alloc (Nat.le_refl _) _⟩

theorem check (k n : Int) (s : ByteArray) (w : World) (hs : s.size ≤ maxLen) : Calls Tryz.prog 139 #[.agg #[.int .i64 k, .int .i64 n, .string s]] w fun e w' => e = .returned (errV (M.fault k n s)) ∧ Below w.heap.size w w' := by
  by_cases h0 : k = 0
  · subst h0
    have HF : Hid (M.fault 0 n s = M.faultN n s) := hide (by unfold M.fault; rw [if_pos rfl])
    go_enter Tryz.func139, Tryz.ntmps139
    go_wp2_with (go_at_call 166; refine (checkNumber _ _ _ _).mono ?_; rintro e w' ⟨rfl, hb⟩)
    go_ret
    exact ⟨by rw [HF.out]; rfl, ((Below.refl _ _).alloc (Nat.le_refl _) _).trans (hb.mono (by simp))⟩
  · have h0' : (k == 0) = false := by simpa using h0
    by_cases h1 : k = 1
    · subst h1
      have HF : Hid (M.fault 1 n s = M.faultT n s) := hide (by unfold M.fault; rw [if_neg (by decide), if_pos rfl])
      go_enter Tryz.func139, Tryz.ntmps139
      go_wp2_with (go_at_call 167; refine (checkText _ _ _ _ hs).mono ?_; rintro e w' ⟨rfl, hb⟩)
      go_ret
      exact ⟨by rw [HF.out]; rfl, ((Below.refl _ _).alloc (Nat.le_refl _) _).trans (hb.mono (by simp))⟩
    · have h1' : (k == 1) = false := by simpa using h1
      by_cases h2 : k = 2
      · subst h2
        have HF : Hid (M.fault 2 n s = M.faultA n s) := hide (by unfold M.fault; rw [if_neg (by decide), if_neg (by decide), if_pos rfl])
        go_enter Tryz.func139, Tryz.ntmps139
        go_wp2_with (go_at_call 168; refine (checkAny _ _ _ _).mono ?_; rintro e w' ⟨rfl, hb⟩)
        go_ret
        exact ⟨by rw [HF.out]; rfl, ((Below.refl _ _).alloc (Nat.le_refl _) _).trans (hb.mono (by simp))⟩
      · have h2' : (k == 2) = false := by simpa using h2
        have HF : Hid (M.fault k n s = 1) := hide (by unfold M.fault; rw [if_neg h0, if_neg h1, if_neg h2])
        go_enter Tryz.func139, Tryz.ntmps139
        go_wp2
        go_ret
        exact ⟨by rw [HF.out]; rfl, (Below.refl _ _).alloc (Nat.le_refl _) _⟩

end Go.Proofs.YtlefhfmckimlaakGreatDoor

namespace Go.Proofs.YtlefhfmckimlaakGreatDoor
open Go.RowKit

theorem checkOk (k n : Int) (s : ByteArray) (w : World) (hs : s.size ≤ maxLen) (h : M.fault k n s = 0) : Calls Tryz.prog 139 #[.agg #[.int .i64 k, .int .i64 n, .string s]] w fun e w' => e = .returned .nilIface ∧ Below w.heap.size w w' := by
  have := check k n s w hs; rwa [h] at this
theorem errV_bad {e : Int} (h : e ≠ 0) : errV e = .iface 87 (.int .i64 e) := by unfold errV; rw [if_neg h]
theorem checkBad (k n : Int) (s : ByteArray) (w : World) (hs : s.size ≤ maxLen) (h : M.fault k n s ≠ 0) : Calls Tryz.prog 139 #[.agg #[.int .i64 k, .int .i64 n, .string s]] w fun e w' => e = .returned (.iface 87 (.int .i64 (M.fault k n s))) ∧ Below w.heap.size w w' := by
  have := check k n s w hs; rwa [errV_bad h] at this

theorem checkBoth (k1 n1 : Int) (s1 : ByteArray) (k2 n2 : Int) (s2 : ByteArray) (w : World) (hs1 : s1.size ≤ maxLen) (hs2 : s2.size ≤ maxLen) :
    Calls Tryz.prog 212 #[.agg #[.int .i64 k1, .int .i64 n1, .string s1], .agg #[.int .i64 k2, .int .i64 n2, .string s2]] w fun e w' => e = .returned (errV (M.both (M.fault k1 n1 s1) (M.fault k2 n2 s2))) ∧ Below w.heap.size w w' := by
  by_cases h : M.fault k1 n1 s1 = 0
  · have HF : Hid (M.both (M.fault k1 n1 s1) (M.fault k2 n2 s2) = M.fault k2 n2 s2) := hide (by unfold M.both; rw [if_pos h])
    have H := hide h
    clear h
    go_enter Tryz.func212, Tryz.ntmps212
    go_wp2_with fail
    refine (checkOk k1 n1 s1 _ hs1 H.out).mono ?_
    rintro e w1 ⟨rfl, hb⟩
    obtain ⟨hc, hf⟩ := bcell hb
    go_wp2_with fail
    refine (check k2 n2 s2 _ hs2).mono ?_
    rintro e w2 ⟨rfl, hb2⟩
    go_wp2_with fail
    go_ret
    exact ⟨by rw [HF.out]; rfl, (((Below.refl _ _).alloc (Nat.le_refl _) _).alloc (by simp) _).trans ((hb.trans (hb2.mono hb.size)).mono (by simp; omega))⟩
  · have HF : Hid (M.both (M.fault k1 n1 s1) (M.fault k2 n2 s2) = M.fault k1 n1 s1) := hide (by unfold M.both; rw [if_neg h])
    have H := hide h
    clear h
    go_enter Tryz.func212, Tryz.ntmps212
    go_wp2_with fail
    refine (checkBad k1 n1 s1 _ hs1 H.out).mono ?_
    rintro e w1 ⟨rfl, hb⟩
    obtain ⟨hc, hf⟩ := bcell hb
    go_wp2_with fail
    go_ret
    exact ⟨by rw [HF.out, errV_bad H.out]; rfl, (((Below.refl _ _).alloc (Nat.le_refl _) _).alloc (by simp) _).trans (hb.mono (by simp; omega))⟩

theorem bothOk (k1 n1 : Int) (s1 : ByteArray) (k2 n2 : Int) (s2 : ByteArray) (w : World) (hs1 : s1.size ≤ maxLen) (hs2 : s2.size ≤ maxLen) (h : M.both (M.fault k1 n1 s1) (M.fault k2 n2 s2) = 0) :
    Calls Tryz.prog 212 #[.agg #[.int .i64 k1, .int .i64 n1, .string s1], .agg #[.int .i64 k2, .int .i64 n2, .string s2]] w fun e w' => e = .returned .nilIface ∧ Below w.heap.size w w' := by
  have := checkBoth k1 n1 s1 k2 n2 s2 w hs1 hs2; rwa [h] at this
theorem bothBad (k1 n1 : Int) (s1 : ByteArray) (k2 n2 : Int) (s2 : ByteArray) (w : World) (hs1 : s1.size ≤ maxLen) (hs2 : s2.size ≤ maxLen) (h : M.both (M.fault k1 n1 s1) (M.fault k2 n2 s2) ≠ 0) :
    Calls Tryz.prog 212 #[.agg #[.int .i64 k1, .int .i64 n1, .string s1], .agg #[.int .i64 k2, .int .i64 n2, .string s2]] w fun e w' => e = .returned (.iface 87 (.int .i64 (M.both (M.fault k1 n1 s1) (M.fault k2 n2 s2)))) ∧ Below w.heap.size w w' := by
  have := checkBoth k1 n1 s1 k2 n2 s2 w hs1 hs2; rwa [errV_bad h] at this

theorem fitsBad (k1 n1 : Int) (s1 : ByteArray) (k2 n2 : Int) (s2 : ByteArray) (w : World) (hs1 : s1.size ≤ maxLen) (hs2 : s2.size ≤ maxLen) (h : M.both (M.fault k1 n1 s1) (M.fault k2 n2 s2) ≠ 0) :
    Calls Tryz.prog 191 #[.agg #[.int .i64 k1, .int .i64 n1, .string s1], .agg #[.int .i64 k2, .int .i64 n2, .string s2]] w fun e w' => e = .returned (.tuple #[.bool false, .iface 87 (.int .i64 (M.both (M.fault k1 n1 s1) (M.fault k2 n2 s2)))]) ∧ Below w.heap.size w w' := by
  have H := hide h
  clear h
  go_enter Tryz.func191, Tryz.ntmps191
  go_wp2_with fail
  refine (bothBad k1 n1 s1 k2 n2 s2 _ hs1 hs2 H.out).mono ?_
  rintro e w1 ⟨rfl, hb⟩
  obtain ⟨hc, hf⟩ := bcell hb
  go_wp2_with fail
  go_ret2
  exact ⟨rfl, (((Below.refl _ _).alloc (Nat.le_refl _) _).alloc (by simp) _).trans (hb.mono (by simp; omega))⟩

theorem fitsAny (k1 n1 : Int) (s1 : ByteArray) (n2 : Int) (s2 : ByteArray) (w : World) (hs1 : s1.size ≤ maxLen) (hs2 : s2.size ≤ maxLen) (h : M.both (M.fault k1 n1 s1) (M.fault 2 n2 s2) = 0) :
    Calls Tryz.prog 191 #[.agg #[.int .i64 k1, .int .i64 n1, .string s1], .agg #[.int .i64 2, .int .i64 n2, .string s2]] w fun e w' => e = .returned (.tuple #[.bool false, .iface 87 (.int .i64 3)]) ∧ Below w.heap.size w w' := by
  have H := hide h
  clear h
  go_enter Tryz.func191, Tryz.ntmps191
  go_wp2_with fail
  refine (bothOk k1 n1 s1 2 n2 s2 _ hs1 hs2 H.out).mono ?_
  rintro e w1 ⟨rfl, hb⟩
  obtain ⟨hc, hf⟩ := bcell hb
  go_wp2_with fail
  go_ret2
  exact ⟨rfl, (((Below.refl _ _).alloc (Nat.le_refl _) _).alloc (by simp) _).trans (hb.mono (by simp; omega))⟩

theorem fitsAll (n1 : Int) (s1 : ByteArray) (k2 n2 : Int) (s2 : ByteArray) (w : World) (hs1 : s1.size ≤ maxLen) (hs2 : s2.size ≤ maxLen) (h : M.both (M.fault 2 n1 s1) (M.fault k2 n2 s2) = 0) (h2 : k2 ≠ 2) :
    Calls Tryz.prog 191 #[.agg #[.int .i64 2, .int .i64 n1, .string s1], .agg #[.int .i64 k2, .int .i64 n2, .string s2]] w fun e w' => e = .returned (.tuple #[.bool true, .nilIface]) ∧ Below w.heap.size w w' := by
  have H := hide h
  clear h
  have h2' : (k2 == 2) = false := by simpa using h2
  clear h2
  go_enter Tryz.func191, Tryz.ntmps191
  go_wp2_with fail
  refine (bothOk 2 n1 s1 k2 n2 s2 _ hs1 hs2 H.out).mono ?_
  rintro e w1 ⟨rfl, hb⟩
  obtain ⟨hc, hf⟩ := bcell hb
  go_wp2_with fail
  go_ret2
  exact ⟨rfl, (((Below.refl _ _).alloc (Nat.le_refl _) _).alloc (by simp) _).trans (hb.mono (by simp; omega))⟩

theorem fitsSame (k1 n1 : Int) (s1 : ByteArray) (k2 n2 : Int) (s2 : ByteArray) (w : World) (hs1 : s1.size ≤ maxLen) (hs2 : s2.size ≤ maxLen) (h : M.both (M.fault k1 n1 s1) (M.fault k2 n2 s2) = 0) (h1 : k1 ≠ 2) (h2 : k2 ≠ 2) :
    Calls Tryz.prog 191 #[.agg #[.int .i64 k1, .int .i64 n1, .string s1], .agg #[.int .i64 k2, .int .i64 n2, .string s2]] w fun e w' => e = .returned (.tuple #[.bool (M.same k1 n1 s1 k2 n2 s2), .nilIface]) ∧ Below w.heap.size w w' := by
  have H := hide h
  clear h
  have h1' : (k1 == 2) = false := by simpa using h1
  have h2' : (k2 == 2) = false := by simpa using h2
  clear h1 h2
  go_enter Tryz.func191, Tryz.ntmps191
  go_wp2_with fail
  refine (bothOk k1 n1 s1 k2 n2 s2 _ hs1 hs2 H.out).mono ?_
  rintro e w1 ⟨rfl, hb⟩
  obtain ⟨hc, hf⟩ := bcell hb
  go_wp2_with fail
  all_goals
    go_ret2
    refine ⟨?_, (((Below.refl _ _).alloc (Nat.le_refl _) _).alloc (by simp) _).trans (hb.mono (by simp; omega))⟩
    simp [M.same, *]


end Go.Proofs.YtlefhfmckimlaakGreatDoor
