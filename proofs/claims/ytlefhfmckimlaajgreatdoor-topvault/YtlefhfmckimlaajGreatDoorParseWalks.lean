/-
  What isDecimal, read, Parse and Print of package value do, each as one law of its call.
-/
import Derived.Test.YtlefhfmckimlaajGreatDoorJ7A
import Derived.Test.YtlefhfmckimlaajGreatDoorNumMath
import Derived.Test.YtlefhfmckimlaajGreatDoorShelf
import Derived.Lib.IndexBytes
namespace Go.Proofs.YtlefhfmckimlaajGreatDoor
open Go.RowKit

def M.nodig (c : UInt8) : Bool := decide (c.toNat < 48) || decide (57 < c.toNat)
def M.nodigs (s : ByteArray) : Bool := s.data.toList.any M.nodig
/-- the digits of a text: what follows a minus -/
def M.digsB (s : ByteArray) : ByteArray := ⟨(M.digs s.data.toList).toArray⟩

theorem digit (c : UInt8) (w : World) : Calls Tryz.prog 170 #[.int .u8 c.toNat] w fun e w' => e = .returned (.bool (M.nodig c)) ∧ w' = w := by
  by_cases h1 : (c.toNat : Int) < 48
  · have hc : M.nodig c = true := by unfold M.nodig; simp; omega
    rw [hc]; clear hc
    go_enter Tryz.func170, Tryz.ntmps170
    go_wp2
    go_ret
    exact ⟨rfl, rfl⟩
  · by_cases h2 : 57 < (c.toNat : Int)
    · have hc : M.nodig c = true := by unfold M.nodig; simp; omega
      rw [hc]; clear hc
      go_enter Tryz.func170, Tryz.ntmps170
      go_wp2
      go_ret
      exact ⟨rfl, rfl⟩
    · have hc : M.nodig c = false := by unfold M.nodig; simp; omega
      rw [hc]; clear hc
      go_enter Tryz.func170, Tryz.ntmps170
      go_wp2
      go_ret
      exact ⟨rfl, rfl⟩

theorem anyNodig (s : ByteArray) (w : World) (hs : s.size ≤ maxLen) : Calls Tryz.prog 134 #[.string s, .func (.func 170) #[] #[]] w fun e w' => e = .returned (.bool (M.nodigs s)) ∧ w' = w := by
  unfold maxLen at hs
  go_enter Tryz.func134, Tryz.ntmps134
  go_wp2
  go_loop [5, 8] (fun _ c => ∃ k : Nat, k ≤ s.size ∧ c = .int .i64 k ∧ (s.data.toList.take k).any M.nodig = false) (fun _ c => s.size - (intOf c).toNat)
  case atStart => exact ⟨0, Nat.zero_le _, rfl, rfl⟩
  case round =>
    obtain ⟨k, hk, rfl, hno⟩ := hrel
    have HN : Hid ((s.data.toList.take k).any M.nodig = false) := hno
    clear hno
    by_cases hlt : k < s.size
    · have HS : Hid ((s.data.toList.take (k + 1)).any M.nodig = M.nodig s[k]) := by
        have h := HN.out
        show (s.data.toList.take (k + 1)).any M.nodig = M.nodig s[k]
        rw [take_snoc s k hlt, List.any_append, h]; simp
      cases hb : M.nodig s[k]
      · have hl : ∀ w, Calls Tryz.prog 170 #[.int .u8 s[k].toNat] w fun e w' => e = .returned (.bool false) ∧ w' = w := fun w => by rw [← hb]; exact digit _ _
        have HL := hide hl
        clear hl
        go_wp2_with (go_at_call 170; refine (unhide HL _).mono ?_; rintro e w' ⟨rfl, rfl⟩)
        go_round
        case rel => exact ⟨k + 1, by omega, by go_num, by rw [HS.out]; exact hb⟩
        case measure => simp [intOf]; omega
      · have hl : ∀ w, Calls Tryz.prog 170 #[.int .u8 s[k].toNat] w fun e w' => e = .returned (.bool true) ∧ w' = w := fun w => by rw [← hb]; exact digit _ _
        have HL := hide hl
        clear hl
        have hfin : Hid (M.nodigs s = true) := by
          have h := HS.out
          rw [hb] at h
          show M.nodigs s = true
          unfold M.nodigs
          rw [← List.take_append_drop (k + 1) s.data.toList, List.any_append, h]; rfl
        go_wp2_with (go_at_call 170; refine (unhide HL _).mono ?_; rintro e w' ⟨rfl, rfl⟩)
        go_ret
        exact ⟨by rw [hfin.out]; rfl, rfl⟩
    · have hfin : Hid (M.nodigs s = false) := by
        have h := HN.out
        rwa [List.take_of_length_le (by simp; omega)] at h
      go_wp2
      go_ret
      exact ⟨by rw [hfin.out]; rfl, rfl⟩


theorem trim_digs (l : List UInt8) : Lib.trimPrefix l [45] = M.digs l := by
  cases l with
  | nil => rfl
  | cons a r =>
    by_cases h : a = 45
    · subst h; rfl
    · have e1 : M.isMinus (a :: r) = false := by simpa [M.isMinus] using h
      have e2 : Lib.hasPrefix (a :: r) [45] = false := by simp [Lib.hasPrefix, List.isPrefixOf, Ne.symm h]
      unfold Lib.trimPrefix M.digs; rw [e1, e2]; rfl

theorem trimMinus (s : ByteArray) (w : World) : Calls Tryz.prog 169 #[.string s, .string ⟨#[45]⟩] w fun e w' => e = .returned (.string (M.digsB s)) ∧ w' = w := by
  have h := Tryz.strings_TrimPrefix s ⟨#[45]⟩ w
  rw [show (ByteArray.mk #[45]).data.toList = [45] from rfl, trim_digs] at h
  exact h

theorem isDec_none (s : ByteArray) (w : World) (h : (M.digsB s).size = 0) : Calls Tryz.prog 154 #[.string s] w fun e w' => e = .returned (.bool false) ∧ w' = w := by
  have he := size0 h
  have HT : Hid (∀ w, Calls Tryz.prog 169 #[.string s, .string ⟨#[45]⟩] w fun e w' => e = .returned (.string ByteArray.empty) ∧ w' = w) := fun w => by rw [← he]; exact trimMinus s w
  clear he h
  go_enter Tryz.func154, Tryz.ntmps154
  go_wp2_with fail
  refine (unhide HT _).mono ?_
  rintro e w1 ⟨rfl, rfl⟩
  go_wp2
  go_ret
  exact ⟨rfl, rfl⟩

theorem isDec_long (s : ByteArray) (w : World) (h : 7 < (M.digsB s).size) : Calls Tryz.prog 154 #[.string s] w fun e w' => e = .returned (.bool false) ∧ w' = w := by
  obtain ⟨h4, h5⟩ := empty_of (s := M.digsB s) (by omega)
  have h1 : (7 : Int) < ((M.digsB s).size : Int) := by omega
  go_enter Tryz.func154, Tryz.ntmps154
  go_wp2_with fail
  refine (trimMinus s _).mono ?_
  rintro e w1 ⟨rfl, rfl⟩
  go_wp2
  go_ret
  exact ⟨rfl, rfl⟩

theorem isDec_zero (s : ByteArray) (w : World) (hs : (M.digsB s).size ≤ 7) (h : 0 < (M.digsB s).size) (hz : (M.digsB s)[0] = 48) : Calls Tryz.prog 154 #[.string s] w fun e w' => e = .returned (.bool (s.toList == [48])) ∧ w' = w := by
  obtain ⟨h4, h5⟩ := empty_of (s := M.digsB s) (by omega)
  have h1 : ¬ (7 : Int) < ((M.digsB s).size : Int) := by omega
  go_enter Tryz.func154, Tryz.ntmps154
  go_wp2_with fail
  refine (trimMinus s _).mono ?_
  rintro e w1 ⟨rfl, rfl⟩
  go_wp2
  go_ret
  exact ⟨rfl, rfl⟩

theorem isDec_some (s : ByteArray) (w : World) (hs : (M.digsB s).size ≤ 7) (h : 0 < (M.digsB s).size) (hz : (M.digsB s)[0] ≠ 48) : Calls Tryz.prog 154 #[.string s] w fun e w' => e = .returned (.bool (!M.nodigs (M.digsB s))) ∧ w' = w := by
  obtain ⟨h4, h5⟩ := empty_of (s := M.digsB s) (by omega)
  have h1 : ¬ (7 : Int) < ((M.digsB s).size : Int) := by omega
  have hz' : (((M.digsB s)[0].toNat : Int) == 48) = false := by
    rw [beq_eq_false_iff_ne]
    intro e
    exact hz (UInt8.toNat_inj.1 (by show (M.digsB s)[0].toNat = 48; omega))
  have HA : Hid (∀ w, Calls Tryz.prog 134 #[.string (M.digsB s), .func (.func 170) #[] #[]] w fun e w' => e = .returned (.bool (M.nodigs (M.digsB s))) ∧ w' = w) := fun w => anyNodig (M.digsB s) w (by unfold maxLen; omega)
  clear hz
  go_enter Tryz.func154, Tryz.ntmps154
  go_wp2_with fail
  refine (trimMinus s _).mono ?_
  rintro e w1 ⟨rfl, rfl⟩
  go_wp2_with fail
  refine (unhide HA _).mono ?_
  rintro e w2 ⟨rfl, rfl⟩
  go_wp2_with fail
  go_ret
  exact ⟨rfl, rfl⟩

theorem digsB_size (s : ByteArray) : (M.digsB s).size = (M.digs s.data.toList).length := by simp [M.digsB, ByteArray.size]
theorem digsB_list (s : ByteArray) : (M.digsB s).data.toList = M.digs s.data.toList := by simp [M.digsB]
theorem digsB_head (s : ByteArray) (h : 0 < (M.digsB s).size) : (M.digs s.data.toList).head? = some (M.digsB s)[0] := by
  have e := digsB_list s
  rw [← e, List.head?_eq_getElem?, List.getElem?_eq_getElem (by rw [Array.length_toList]; exact h)]; rfl

theorem nodigs_all (s : ByteArray) : (!M.nodigs s) = s.data.toList.all M.digC := by
  have e : M.digC = fun c => !M.nodig c := by
    funext c
    unfold M.nodig M.digC
    rw [Bool.eq_iff_iff]
    simp
  unfold M.nodigs
  rw [e, ← List.not_any_eq_all_not]

theorem isDecimal (s : ByteArray) (w : World) : Calls Tryz.prog 154 #[.string s] w fun e w' => e = .returned (.bool (M.isNum s.data.toList)) ∧ w' = w := by
  have hsz := digsB_size s
  by_cases h0 : (M.digsB s).size = 0
  · have e : M.isNum s.data.toList = false := by unfold M.isNum; rw [← hsz, h0]; rfl
    rw [e]; exact isDec_none s w h0
  by_cases h7 : 7 < (M.digsB s).size
  · have e : M.isNum s.data.toList = false := by
      unfold M.isNum; rw [← hsz]
      have : decide ((M.digsB s).size ≤ 7) = false := by simp; omega
      rw [this]; simp
    rw [e]; exact isDec_long s w h7
  have hh := digsB_head s (by omega)
  by_cases hz : (M.digsB s)[0] = 48
  · rw [hz] at hh
    have e : M.isNum s.data.toList = (s.toList == [48]) := by
      rw [ByteArray.toList_eq]
      by_cases hs : s.data.toList = [48]
      · rw [hs]; rfl
      · have e1 : (s.data.toList == [48]) = false := by simpa using hs
        rw [e1, Bool.eq_false_iff]
        intro hn
        obtain ⟨n1, n2, n3, n4⟩ := M.isNum_parts hn
        obtain ⟨m1, m2⟩ := n4 hh
        apply hs
        have e2 : M.digs s.data.toList = s.data.toList := by unfold M.digs; rw [m2]; rfl
        rw [e2] at hh m1
        match hl : s.data.toList, m1, hh with
        | [a], _, hh => simpa using hh
    rw [e]; exact isDec_zero s w (by omega) (by omega) hz
  · have e : M.isNum s.data.toList = (!M.nodigs (M.digsB s)) := by
      rw [nodigs_all, digsB_list]
      unfold M.isNum
      have e1 : ((M.digs s.data.toList).head? == some 48) = false := by rw [hh]; simpa using hz
      have e2 : decide (1 ≤ (M.digs s.data.toList).length) = true := by rw [← hsz]; simp; omega
      have e3 : decide ((M.digs s.data.toList).length ≤ 7) = true := by rw [← hsz]; simp; omega
      rw [e1, e2, e3]; simp
    rw [e]; exact isDec_some s w (by omega) (by omega) hz

end Go.Proofs.YtlefhfmckimlaajGreatDoor
