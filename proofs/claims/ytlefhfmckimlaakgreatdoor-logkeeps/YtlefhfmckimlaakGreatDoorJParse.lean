/-
  What isDecimal, read, Parse and Print of package value do, each as one law of its call.
  What read and Parse of package value do, each as one law of its call.
-/
import Derived.Test.YtlefhfmckimlaakGreatDoorJVal
import Derived.Test.YtlefhfmckimlaakGreatDoorJHash
import Derived.Test.YtlefhfmckimlaakGreatDoorShelf
import Derived.Lib.IndexBytes
import Derived.Lib.AtoiErrMem
namespace Go.Proofs.YtlefhfmckimlaakGreatDoor
open Go.RowKit

def M.nodig (c : UInt8) : Bool := decide (c.toNat < 48) || decide (57 < c.toNat)
def M.nodigs (s : ByteArray) : Bool := s.data.toList.any M.nodig
/-- the digits of a text: what follows a minus -/
def M.digsB (s : ByteArray) : ByteArray := ⟨(M.digs s.data.toList).toArray⟩

theorem digit (c : UInt8) (w : World) : Calls Tryz.prog 209 #[.int .u8 c.toNat] w fun e w' => e = .returned (.bool (M.nodig c)) ∧ w' = w := by
  by_cases h1 : (c.toNat : Int) < 48
  · have hc : M.nodig c = true := by unfold M.nodig; simp; omega
    rw [hc]; clear hc
    go_enter Tryz.func209, Tryz.ntmps209
    go_wp2
    go_ret
    exact ⟨rfl, rfl⟩
  · by_cases h2 : 57 < (c.toNat : Int)
    · have hc : M.nodig c = true := by unfold M.nodig; simp; omega
      rw [hc]; clear hc
      go_enter Tryz.func209, Tryz.ntmps209
      go_wp2
      go_ret
      exact ⟨rfl, rfl⟩
    · have hc : M.nodig c = false := by unfold M.nodig; simp; omega
      rw [hc]; clear hc
      go_enter Tryz.func209, Tryz.ntmps209
      go_wp2
      go_ret
      exact ⟨rfl, rfl⟩

theorem anyNodig (s : ByteArray) (w : World) (hs : s.size ≤ maxLen) : Calls Tryz.prog 192 #[.string s, .func (.func 209) #[] #[]] w fun e w' => e = .returned (.bool (M.nodigs s)) ∧ w' = w := by
  unfold maxLen at hs
  go_enter Tryz.func192, Tryz.ntmps192
  go_wp2
  go_loop [5, 8] (fun _ c => ∃ k : Nat, k ≤ s.size ∧ c = .int .i64 k ∧ (s.data.toList.take k).any M.nodig = false) (fun _ c => s.size - (intOf c).toNat)
  case atStart => exact ⟨0, Nat.zero_le _, rfl, rfl⟩
  case round =>
    obtain ⟨k, hk, rfl, hno⟩ := hrel
    have HN : Hid ((s.data.toList.take k).any M.nodig = false) := hno
    clear hno
    by_cases hlt : k < s.size
    · have HS : Hid ((s.data.toList.take (k + 1)).any M.nodig = M.nodig s[k]) := by
        have h := HN.out
        show (s.data.toList.take (k + 1)).any M.nodig = M.nodig s[k]
        rw [take_snoc s k hlt, List.any_append, h]; simp
      cases hb : M.nodig s[k]
      · have hl : ∀ w, Calls Tryz.prog 209 #[.int .u8 s[k].toNat] w fun e w' => e = .returned (.bool false) ∧ w' = w := fun w => by rw [← hb]; exact digit _ _
        have HL := hide hl
        clear hl
        go_wp2_with (go_at_call 209; refine (unhide HL _).mono ?_; rintro e w' ⟨rfl, rfl⟩)
        go_round
        case rel => exact ⟨k + 1, by omega, by go_num, by rw [HS.out]; exact hb⟩
        case measure => simp [intOf]; omega
      · have hl : ∀ w, Calls Tryz.prog 209 #[.int .u8 s[k].toNat] w fun e w' => e = .returned (.bool true) ∧ w' = w := fun w => by rw [← hb]; exact digit _ _
        have HL := hide hl
        clear hl
        have hfin : Hid (M.nodigs s = true) := by
          have h := HS.out
          rw [hb] at h
          show M.nodigs s = true
          unfold M.nodigs
          rw [← List.take_append_drop (k + 1) s.data.toList, List.any_append, h]; rfl
        go_wp2_with (go_at_call 209; refine (unhide HL _).mono ?_; rintro e w' ⟨rfl, rfl⟩)
        go_ret
        exact ⟨by rw [hfin.out]; rfl, rfl⟩
    · have hfin : Hid (M.nodigs s = false) := by
        have h := HN.out
        rwa [List.take_of_length_le (by simp; omega)] at h
      go_wp2
      go_ret
      exact ⟨by rw [hfin.out]; rfl, rfl⟩


theorem trim_digs (l : List UInt8) : Lib.trimPrefix l [45] = M.digs l := by
  cases l with
  | nil => rfl
  | cons a r =>
    by_cases h : a = 45
    · subst h; rfl
    · have e1 : M.isMinus (a :: r) = false := by simpa [M.isMinus] using h
      have e2 : Lib.hasPrefix (a :: r) [45] = false := by simp [Lib.hasPrefix, List.isPrefixOf, Ne.symm h]
      unfold Lib.trimPrefix M.digs; rw [e1, e2]; rfl

theorem trimMinus (s : ByteArray) (w : World) : Calls Tryz.prog 208 #[.string s, .string ⟨#[45]⟩] w fun e w' => e = .returned (.string (M.digsB s)) ∧ w' = w := by
  have h := Tryz.strings_TrimPrefix s ⟨#[45]⟩ w
  rw [show (ByteArray.mk #[45]).data.toList = [45] from rfl, trim_digs] at h
  exact h

theorem isDec_none (s : ByteArray) (w : World) (h : (M.digsB s).size = 0) : Calls Tryz.prog 185 #[.string s] w fun e w' => e = .returned (.bool false) ∧ w' = w := by
  have he := size0 h
  have HT : Hid (∀ w, Calls Tryz.prog 208 #[.string s, .string ⟨#[45]⟩] w fun e w' => e = .returned (.string ByteArray.empty) ∧ w' = w) := fun w => by rw [← he]; exact trimMinus s w
  clear he h
  go_enter Tryz.func185, Tryz.ntmps185
  go_wp2_with fail
  refine (unhide HT _).mono ?_
  rintro e w1 ⟨rfl, rfl⟩
  go_wp2
  go_ret
  exact ⟨rfl, rfl⟩

theorem isDec_long (s : ByteArray) (w : World) (h : 7 < (M.digsB s).size) : Calls Tryz.prog 185 #[.string s] w fun e w' => e = .returned (.bool false) ∧ w' = w := by
  obtain ⟨h4, h5⟩ := empty_of (s := M.digsB s) (by omega)
  have h1 : (7 : Int) < ((M.digsB s).size : Int) := by omega
  go_enter Tryz.func185, Tryz.ntmps185
  go_wp2_with fail
  refine (trimMinus s _).mono ?_
  rintro e w1 ⟨rfl, rfl⟩
  go_wp2
  go_ret
  exact ⟨rfl, rfl⟩

theorem isDec_zero (s : ByteArray) (w : World) (hs : (M.digsB s).size ≤ 7) (h : 0 < (M.digsB s).size) (hz : (M.digsB s)[0] = 48) : Calls Tryz.prog 185 #[.string s] w fun e w' => e = .returned (.bool (s.toList == [48])) ∧ w' = w := by
  obtain ⟨h4, h5⟩ := empty_of (s := M.digsB s) (by omega)
  have h1 : ¬ (7 : Int) < ((M.digsB s).size : Int) := by omega
  go_enter Tryz.func185, Tryz.ntmps185
  go_wp2_with fail
  refine (trimMinus s _).mono ?_
  rintro e w1 ⟨rfl, rfl⟩
  go_wp2
  go_ret
  exact ⟨rfl, rfl⟩

theorem isDec_some (s : ByteArray) (w : World) (hs : (M.digsB s).size ≤ 7) (h : 0 < (M.digsB s).size) (hz : (M.digsB s)[0] ≠ 48) : Calls Tryz.prog 185 #[.string s] w fun e w' => e = .returned (.bool (!M.nodigs (M.digsB s))) ∧ w' = w := by
  obtain ⟨h4, h5⟩ := empty_of (s := M.digsB s) (by omega)
  have h1 : ¬ (7 : Int) < ((M.digsB s).size : Int) := by omega
  have hz' : (((M.digsB s)[0].toNat : Int) == 48) = false := by
    rw [beq_eq_false_iff_ne]
    intro e
    exact hz (UInt8.toNat_inj.1 (by show (M.digsB s)[0].toNat = 48; omega))
  have HA : Hid (∀ w, Calls Tryz.prog 192 #[.string (M.digsB s), .func (.func 209) #[] #[]] w fun e w' => e = .returned (.bool (M.nodigs (M.digsB s))) ∧ w' = w) := fun w => anyNodig (M.digsB s) w (by unfold maxLen; omega)
  clear hz
  go_enter Tryz.func185, Tryz.ntmps185
  go_wp2_with fail
  refine (trimMinus s _).mono ?_
  rintro e w1 ⟨rfl, rfl⟩
  go_wp2_with fail
  refine (unhide HA _).mono ?_
  rintro e w2 ⟨rfl, rfl⟩
  go_wp2_with fail
  go_ret
  exact ⟨rfl, rfl⟩

theorem digsB_size (s : ByteArray) : (M.digsB s).size = (M.digs s.data.toList).length := by simp [M.digsB, ByteArray.size]
theorem digsB_list (s : ByteArray) : (M.digsB s).data.toList = M.digs s.data.toList := by simp [M.digsB]
theorem digsB_head (s : ByteArray) (h : 0 < (M.digsB s).size) : (M.digs s.data.toList).head? = some (M.digsB s)[0] := by
  have e := digsB_list s
  rw [← e, List.head?_eq_getElem?, List.getElem?_eq_getElem (by rw [Array.length_toList]; exact h)]; rfl

theorem nodigs_all (s : ByteArray) : (!M.nodigs s) = s.data.toList.all M.digC := by
  have e : M.digC = fun c => !M.nodig c := by
    funext c
    unfold M.nodig M.digC
    rw [Bool.eq_iff_iff]
    simp
  unfold M.nodigs
  rw [e, ← List.not_any_eq_all_not]

theorem isDecimal (s : ByteArray) (w : World) : Calls Tryz.prog 185 #[.string s] w fun e w' => e = .returned (.bool (M.isNum s.data.toList)) ∧ w' = w := by
  have hsz := digsB_size s
  by_cases h0 : (M.digsB s).size = 0
  · have e : M.isNum s.data.toList = false := by unfold M.isNum; rw [← hsz, h0]; rfl
    rw [e]; exact isDec_none s w h0
  by_cases h7 : 7 < (M.digsB s).size
  · have e : M.isNum s.data.toList = false := by
      unfold M.isNum; rw [← hsz]
      have : decide ((M.digsB s).size ≤ 7) = false := by simp; omega
      rw [this]; simp
    rw [e]; exact isDec_long s w h7
  have hh := digsB_head s (by omega)
  by_cases hz : (M.digsB s)[0] = 48
  · rw [hz] at hh
    have e : M.isNum s.data.toList = (s.toList == [48]) := by
      rw [ByteArray.toList_eq]
      by_cases hs : s.data.toList = [48]
      · rw [hs]; rfl
      · have e1 : (s.data.toList == [48]) = false := by simpa using hs
        rw [e1, Bool.eq_false_iff]
        intro hn
        obtain ⟨n1, n2, n3, n4⟩ := M.isNum_parts hn
        obtain ⟨m1, m2⟩ := n4 hh
        apply hs
        have e2 : M.digs s.data.toList = s.data.toList := by unfold M.digs; rw [m2]; rfl
        rw [e2] at hh m1
        match hl : s.data.toList, m1, hh with
        | [a], _, hh => simpa using hh
    rw [e]; exact isDec_zero s w (by omega) (by omega) hz
  · have e : M.isNum s.data.toList = (!M.nodigs (M.digsB s)) := by
      rw [nodigs_all, digsB_list]
      unfold M.isNum
      have e1 : ((M.digs s.data.toList).head? == some 48) = false := by rw [hh]; simpa using hz
      have e2 : decide (1 ≤ (M.digs s.data.toList).length) = true := by rw [← hsz]; simp; omega
      have e3 : decide ((M.digs s.data.toList).length ≤ 7) = true := by rw [← hsz]; simp; omega
      rw [e1, e2, e3]; simp
    rw [e]; exact isDec_some s w (by omega) (by omega) hz

end Go.Proofs.YtlefhfmckimlaakGreatDoor

set_option linter.unusedSimpArgs false
namespace Go.Proofs.YtlefhfmckimlaakGreatDoor
open Go.RowKit

theorem atoiOk (s : ByteArray) (w : World) (h : M.isNum s.data.toList = true) : Calls Tryz.prog 130 #[.string s] w fun e w' => e = .returned (.tuple #[.int .i64 (M.num s.data.toList), .nilIface]) ∧ Below w.heap.size w w' := by
  have hl : s.size ≤ 18 := by
    obtain ⟨h1, h2, h3, h4⟩ := M.isNum_parts h
    have : s.size = s.data.toList.length := Lib.size_eq s
    unfold M.digs at h2
    split at h2
    · simp at h2; omega
    · omega
  refine (Tryz.strconv_Atoi s _ hl (M.atoi_num h) w).mono ?_
  rintro e w' ⟨rfl, t, rfl⟩
  exact ⟨rfl, Lib.bytesWorld_below _ _ _⟩

/-- behind a first byte -/
def M.rest (s : ByteArray) : ByteArray := ⟨s.data.toList.tail.toArray⟩
def M.colon (s : ByteArray) : Bool := s.data.toList.head? == some 58

theorem cutColon (s : ByteArray) (w : World) (h : M.colon s = true) : Calls Tryz.prog 184 #[.string s, .string ⟨#[58]⟩] w fun e w' => e = .returned (.tuple #[.string (M.rest s), .bool true]) ∧ w' = w := by
  have hc := Tryz.strings_CutPrefix s ⟨#[58]⟩ w
  have e1 : Lib.hasPrefix s.data.toList [58] = true := by
    cases hl : s.data.toList with
    | nil => simp [M.colon, hl] at h
    | cons a r => have : a = 58 := by simpa [M.colon, hl] using h
                  subst this; rfl
  have e2 : Lib.trimPrefix s.data.toList [58] = s.data.toList.tail := by
    unfold Lib.trimPrefix; rw [e1, if_pos rfl]; simp
  rw [show (ByteArray.mk #[58]).data.toList = [58] from rfl, e1, e2] at hc
  exact hc
theorem cutNone (s : ByteArray) (w : World) (h : M.colon s = false) : Calls Tryz.prog 184 #[.string s, .string ⟨#[58]⟩] w fun e w' => (∃ x, e = .returned (.tuple #[.string x, .bool false])) ∧ w' = w := by
  have hc := Tryz.strings_CutPrefix s ⟨#[58]⟩ w
  have e1 : Lib.hasPrefix s.data.toList [58] = false := by
    cases hl : s.data.toList with
    | nil => rfl
    | cons a r => have : ¬ a = 58 := by simpa [M.colon, hl] using h
                  simp [Lib.hasPrefix, List.isPrefixOf, Ne.symm this]
  rw [show (ByteArray.mk #[58]).data.toList = [58] from rfl, e1] at hc
  refine hc.mono ?_
  rintro e w' ⟨rfl, rfl⟩
  exact ⟨⟨_, rfl⟩, rfl⟩

theorem read_star (s : ByteArray) (w : World) (h : (s.toList == [42]) = true) : Calls Tryz.prog 157 #[.string s] w fun e w' => e = .returned (.tuple #[.agg #[.int .i64 2, .int .i64 0, .string ⟨#[]⟩], .nilIface]) ∧ Below w.heap.size w w' := by
  go_enter Tryz.func157, Tryz.ntmps157
  go_wp2_with fail
  exact bodyPost_ret (v := .tuple #[.agg #[.int .i64 2, .int .i64 0, .string ⟨#[]⟩], .nilIface]) (by simp [results, Tryz.results157, go_sem]) rfl ⟨rfl, (Below.refl _ _).alloc (Nat.le_refl _) _⟩

theorem read_text (s : ByteArray) (w : World) (h : (s.toList == [42]) = false) (hc : M.colon s = true) : Calls Tryz.prog 157 #[.string s] w fun e w' => e = .returned (.tuple #[.agg #[.int .i64 1, .int .i64 0, .string (M.rest s)], .nilIface]) ∧ Below w.heap.size w w' := by
  have HC := hide (cutColon s · hc)
  clear hc
  go_enter Tryz.func157, Tryz.ntmps157
  go_wp2_with fail
  refine (unhide HC _).mono ?_
  rintro e w1 ⟨rfl, rfl⟩
  go_wp2_with fail
  exact bodyPost_ret (v := .tuple #[.agg #[.int .i64 1, .int .i64 0, .string (M.rest s)], .nilIface]) (by simp [results, Tryz.results157, go_sem]) rfl ⟨rfl, (Below.refl _ _).alloc (Nat.le_refl _) _⟩

theorem read_none (s : ByteArray) (w : World) (h : (s.toList == [42]) = false) (hc : M.colon s = false) (hn : M.isNum s.data.toList = false) : Calls Tryz.prog 157 #[.string s] w fun e w' => e = .returned (.tuple #[.agg #[.int .i64 0, .int .i64 0, .string ⟨#[]⟩], .iface 87 (.int .i64 2)]) ∧ Below w.heap.size w w' := by
  have HC := hide (cutNone s · hc)
  have HN : Hid (∀ w, Calls Tryz.prog 185 #[.string s] w fun e w' => e = .returned (.bool false) ∧ w' = w) := fun w => by rw [← hn]; exact isDecimal s w
  clear hc hn
  go_enter Tryz.func157, Tryz.ntmps157
  go_wp2_with fail
  refine (unhide HC _).mono ?_
  rintro e w1 ⟨⟨x, rfl⟩, rfl⟩
  go_wp2_with fail
  refine (unhide HN _).mono ?_
  rintro e w2 ⟨rfl, rfl⟩
  go_wp2_with fail
  exact bodyPost_ret (v := .tuple #[.agg #[.int .i64 0, .int .i64 0, .string ⟨#[]⟩], .iface 87 (.int .i64 2)]) (by simp [results, Tryz.results157, go_sem]) rfl ⟨rfl, (Below.refl _ _).alloc (Nat.le_refl _) _⟩

theorem read_num (s : ByteArray) (w : World) (h : (s.toList == [42]) = false) (hc : M.colon s = false) (hn : M.isNum s.data.toList = true) : Calls Tryz.prog 157 #[.string s] w fun e w' => e = .returned (.tuple #[.agg #[.int .i64 0, .int .i64 (M.num s.data.toList), .string ⟨#[]⟩], .nilIface]) ∧ Below w.heap.size w w' := by
  have HC := hide (cutNone s · hc)
  have HN : Hid (∀ w, Calls Tryz.prog 185 #[.string s] w fun e w' => e = .returned (.bool true) ∧ w' = w) := fun w => by rw [← hn]; exact isDecimal s w
  have HA := hide (atoiOk s · hn)
  clear hc hn
  go_enter Tryz.func157, Tryz.ntmps157
  go_wp2_with fail
  refine (unhide HC _).mono ?_
  rintro e w1 ⟨⟨x, rfl⟩, rfl⟩
  go_wp2_with fail
  refine (unhide HN _).mono ?_
  rintro e w2 ⟨rfl, rfl⟩
  go_wp2_with fail
  refine (unhide HA _).mono ?_
  rintro e w3 ⟨rfl, hb⟩
  obtain ⟨hc, hf⟩ := bcell hb
  go_wp2_with fail
  refine bodyPost_ret (v := .tuple #[.agg #[.int .i64 0, .int .i64 (M.num s.data.toList), .string ⟨#[]⟩], .nilIface]) (by simp [results, Tryz.results157, go_sem, hc]) rfl ⟨rfl, ?_⟩
  exact (((((Below.refl _ _).alloc (Nat.le_refl _) _).trans (hb.mono (by simp))).setCell (by simp) _).setCell (by simp) _).setCell (by simp) _

theorem clone (s : ByteArray) (w : World) (hs : s.size ≤ 281474976710656) : Calls Tryz.prog 61 #[.string s] w fun e w' => e = .returned (.string s) ∧ Below w.heap.size w w' := by
  go_enter Tryz.func61, Tryz.ntmps61
  go_wp2_with fail
  refine (Tryz.stringslite_Clone s _ hs).mono ?_
  rintro e w1 ⟨rfl, hb⟩
  go_wp2_with fail
  go_ret
  exact ⟨rfl, hb⟩

theorem parse_none (s : ByteArray) (w : World) (hr : ∀ w, Calls Tryz.prog 157 #[.string s] w fun e w' => e = .returned (.tuple #[.agg #[.int .i64 0, .int .i64 0, .string ⟨#[]⟩], .iface 87 (.int .i64 2)]) ∧ Below w.heap.size w w') :
    Calls Tryz.prog 129 #[.string s] w fun e w' => e = .returned (.tuple #[.agg #[.int .i64 0, .int .i64 0, .string ⟨#[]⟩], .iface 87 (.int .i64 2)]) ∧ Below w.heap.size w w' := by
  have HR := hide hr
  clear hr
  go_enter Tryz.func129, Tryz.ntmps129
  go_wp2_with fail
  refine (unhide HR _).mono ?_
  rintro e w1 ⟨rfl, hb⟩
  obtain ⟨hc, hf⟩ := bcell hb
  have hz : w.heap.size < w1.heap.size := by have := hb.size; simp at this; omega
  go_wp2_with fail
  refine bodyPost_ret (v := .tuple #[.agg #[.int .i64 0, .int .i64 0, .string ⟨#[]⟩], .iface 87 (.int .i64 2)]) (by simp [results, Tryz.results129, go_sem, hc, hz]) rfl ⟨rfl, ?_⟩
  have B0 : Below w.heap.size w w1 := ((Below.refl _ _).alloc (Nat.le_refl _) _).trans (hb.mono (by simp))
  exact (((B0.setCell (by simp) _).setCell (by simp) _).setCell (by simp) _).alloc (by simp; omega) _

theorem parse_bad (k n : Int) (x : ByteArray) (hx : x.size ≤ maxLen) (h : M.fault k n x ≠ 0) (s : ByteArray) (w : World) (hr : ∀ w, Calls Tryz.prog 157 #[.string s] w fun e w' => e = .returned (.tuple #[.agg #[.int .i64 k, .int .i64 n, .string x], .nilIface]) ∧ Below w.heap.size w w') :
    Calls Tryz.prog 129 #[.string s] w fun e w' => e = .returned (.tuple #[.agg #[.int .i64 0, .int .i64 0, .string ⟨#[]⟩], .iface 87 (.int .i64 (M.fault k n x))]) ∧ Below w.heap.size w w' := by
  have HR := hide hr
  have H := hide h
  clear hr h
  go_enter Tryz.func129, Tryz.ntmps129
  go_wp2_with fail
  refine (unhide HR _).mono ?_
  rintro e w1 ⟨rfl, hb⟩
  obtain ⟨hc, hf⟩ := bcell hb
  have hz : w.heap.size < w1.heap.size := by have := hb.size; simp at this; omega
  go_wp2_with fail
  refine (checkBad k n x _ hx H.out).mono ?_
  rintro e w2 ⟨rfl, hb2⟩
  obtain ⟨hc2, hf2⟩ := bcell hb2
  have hz2 : w1.heap.size < w2.heap.size := by have := hb2.size; simp at this; omega
  go_wp2_with fail
  have hc3 : ∀ o, w2.cell? ⟨w.heap.size, o, none⟩ = w1.cell? ⟨w.heap.size, o, none⟩ := fun o => by rw [hc2 _ _ (by simp; omega)]; exact World.cell?_alloc_lt _ _ ⟨w.heap.size, o, none⟩ hz
  refine bodyPost_ret (v := .tuple #[.agg #[.int .i64 0, .int .i64 0, .string ⟨#[]⟩], .iface 87 (.int .i64 (M.fault k n x))]) (by simp [results, Tryz.results129, go_sem, hc3, hc]) rfl ⟨rfl, ?_⟩
  have B0 : Below w.heap.size w w1 := ((Below.refl _ _).alloc (Nat.le_refl _) _).trans (hb.mono (by simp))
  have B1 : Below w.heap.size w w2 := (B0.alloc (by omega) _).trans (hb2.mono (by simp; omega))
  exact ((B1.setCell (by simp) _).setCell (by simp) _).setCell (by simp) _

theorem parse_ok (k n : Int) (x : ByteArray) (hx : x.size ≤ 12) (h : M.fault k n x = 0) (s : ByteArray) (w : World) (hr : ∀ w, Calls Tryz.prog 157 #[.string s] w fun e w' => e = .returned (.tuple #[.agg #[.int .i64 k, .int .i64 n, .string x], .nilIface]) ∧ Below w.heap.size w w') :
    Calls Tryz.prog 129 #[.string s] w fun e w' => e = .returned (.tuple #[.agg #[.int .i64 k, .int .i64 n, .string x], .nilIface]) ∧ Below w.heap.size w w' := by
  have HR := hide hr
  have H := hide h
  clear hr h
  go_enter Tryz.func129, Tryz.ntmps129
  go_wp2_with fail
  refine (unhide HR _).mono ?_
  rintro e w1 ⟨rfl, hb⟩
  obtain ⟨hc, hf⟩ := bcell hb
  have hz : w.heap.size < w1.heap.size := by have := hb.size; simp at this; omega
  go_wp2_with fail
  refine (checkOk k n x _ (by unfold maxLen; omega) H.out).mono ?_
  rintro e w2 ⟨rfl, hb2⟩
  obtain ⟨hc2, hf2⟩ := bcell hb2
  have hz2 : w1.heap.size < w2.heap.size := by have := hb2.size; simp at this; omega
  go_wp2_with fail
  refine (clone x _ (by omega)).mono ?_
  rintro e w3 ⟨rfl, hb3⟩
  obtain ⟨hc3, hf3⟩ := bcell hb3
  have hz3 : w1.heap.size < w3.heap.size := by have := hb3.size; omega
  have hz4 : w.heap.size < w2.heap.size := by omega
  have hz5 : w.heap.size < w1.heap.size + 1 := by omega
  have hne : ¬ w.heap.size = w1.heap.size := by omega
  have hne2 : ¬ w1.heap.size = w.heap.size := by omega
  go_wp2_with fail
  refine bodyPost_ret (v := .tuple #[.agg #[.int .i64 k, .int .i64 n, .string x], .nilIface]) (by simp [results, Tryz.results129, go_sem, hc3, hc2, hc, hz4, hz5, hz, hne, hne2]) rfl ⟨rfl, ?_⟩
  have B0 : Below w.heap.size w w1 := ((Below.refl _ _).alloc (Nat.le_refl _) _).trans (hb.mono (by simp))
  have B1 : Below w.heap.size w w2 := (B0.alloc (by omega) _).trans (hb2.mono (by simp; omega))
  have B2 : Below w.heap.size w w3 := B1.trans (hb3.mono (by omega))
  exact (((B2.setCell (by simp; omega) _).setCell (by simp) _).setCell (by simp) _).setCell (by simp) _

/-- what is wrong with a text, and the value that it tells -/
def M.pErr (s : ByteArray) : Int :=
  if s.toList == [42] then 0 else if M.colon s then M.fault 1 0 (M.rest s) else if M.isNum s.data.toList then M.fault 0 (M.num s.data.toList) ⟨#[]⟩ else 2
def M.pK (s : ByteArray) : Int := if M.pErr s ≠ 0 then 0 else if s.toList == [42] then 2 else if M.colon s then 1 else 0
def M.pN (s : ByteArray) : Int := if M.pErr s ≠ 0 then 0 else if s.toList == [42] then 0 else if M.colon s then 0 else M.num s.data.toList
def M.pS (s : ByteArray) : ByteArray := if M.pErr s ≠ 0 then ⟨#[]⟩ else if s.toList == [42] then ⟨#[]⟩ else if M.colon s then M.rest s else ⟨#[]⟩

theorem rest_size (s : ByteArray) : (M.rest s).size ≤ s.size := by
  show s.data.toList.tail.toArray.size ≤ s.data.size
  simp

theorem text_short {x : ByteArray} (h : M.fault 1 0 x = 0) : x.size ≤ 12 := by
  rcases Nat.lt_or_ge 12 x.size with h12 | h12
  · exfalso
    unfold M.fault M.faultT at h
    rw [if_neg (by decide), if_pos rfl, if_pos h12] at h
    exact absurd h (by decide)
  · exact h12

theorem parse (s : ByteArray) (w : World) (hs : s.size ≤ maxLen) :
    Calls Tryz.prog 129 #[.string s] w fun e w' => e = .returned (.tuple #[.agg #[.int .i64 (M.pK s), .int .i64 (M.pN s), .string (M.pS s)], errV (M.pErr s)]) ∧ Below w.heap.size w w' := by
  cases h : (s.toList == [42])
  · cases hc : M.colon s
    · cases hn : M.isNum s.data.toList
      · have e : M.pErr s = 2 := by unfold M.pErr; rw [h, hc, hn]; rfl
        have ek : M.pK s = 0 := by unfold M.pK; rw [e]; rfl
        have en : M.pN s = 0 := by unfold M.pN; rw [e]; rfl
        have es : M.pS s = ⟨#[]⟩ := by unfold M.pS; rw [e]; rfl
        rw [ek, en, es, e]
        exact parse_none s w (fun w => read_none s w h hc hn)
      · have e : M.pErr s = M.fault 0 (M.num s.data.toList) ⟨#[]⟩ := by unfold M.pErr; rw [h, hc, hn]; rfl
        by_cases hf : M.fault 0 (M.num s.data.toList) ⟨#[]⟩ = 0
        · have e0 : M.pErr s = 0 := e.trans hf
          have ek : M.pK s = 0 := by unfold M.pK; rw [e0, h, hc]; rfl
          have en : M.pN s = M.num s.data.toList := by unfold M.pN; rw [e0, h, hc]; rfl
          have es : M.pS s = ⟨#[]⟩ := by unfold M.pS; rw [e0, h, hc]; rfl
          rw [ek, en, es, e0]
          exact parse_ok _ _ _ (by decide) hf s w (fun w => read_num s w h hc hn)
        · have e0 : M.pErr s ≠ 0 := by rw [e]; exact hf
          have ek : M.pK s = 0 := by unfold M.pK; rw [if_pos e0]
          have en : M.pN s = 0 := by unfold M.pN; rw [if_pos e0]
          have es : M.pS s = ⟨#[]⟩ := by unfold M.pS; rw [if_pos e0]
          rw [ek, en, es, e, errV_bad hf]
          exact parse_bad _ _ _ (by decide) hf s w (fun w => read_num s w h hc hn)
    · have e : M.pErr s = M.fault 1 0 (M.rest s) := by unfold M.pErr; rw [h, hc]; rfl
      by_cases hf : M.fault 1 0 (M.rest s) = 0
      · have e0 : M.pErr s = 0 := e.trans hf
        have ek : M.pK s = 1 := by unfold M.pK; rw [e0, h, hc]; rfl
        have en : M.pN s = 0 := by unfold M.pN; rw [e0, h, hc]; rfl
        have es : M.pS s = M.rest s := by unfold M.pS; rw [e0, h, hc]; rfl
        rw [ek, en, es, e0]
        exact parse_ok _ _ _ (text_short hf) hf s w (fun w => read_text s w h hc)
      · have e0 : M.pErr s ≠ 0 := by rw [e]; exact hf
        have ek : M.pK s = 0 := by unfold M.pK; rw [if_pos e0]
        have en : M.pN s = 0 := by unfold M.pN; rw [if_pos e0]
        have es : M.pS s = ⟨#[]⟩ := by unfold M.pS; rw [if_pos e0]
        rw [ek, en, es, e, errV_bad hf]
        exact parse_bad _ _ _ (Nat.le_trans (rest_size s) hs) hf s w (fun w => read_text s w h hc)
  · have e : M.pErr s = 0 := by unfold M.pErr; rw [h]; rfl
    have ek : M.pK s = 2 := by unfold M.pK; rw [e, h]; rfl
    have en : M.pN s = 0 := by unfold M.pN; rw [e, h]; rfl
    have es : M.pS s = ⟨#[]⟩ := by unfold M.pS; rw [e, h]; rfl
    rw [ek, en, es, e]
    exact parse_ok _ _ _ (by decide) (by decide) s w (fun w => read_star s w h)

end Go.Proofs.YtlefhfmckimlaakGreatDoor
