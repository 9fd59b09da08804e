/-
  What read and Parse of package value do, each as one law of its call.
-/
import Derived.Test.YtlefhfmckimlaajGreatDoorParseWalks
import Derived.Lib.AtoiErrMem
set_option linter.unusedSimpArgs false
namespace Go.Proofs.YtlefhfmckimlaajGreatDoor
open Go.RowKit

theorem atoiOk (s : ByteArray) (w : World) (h : M.isNum s.data.toList = true) : Calls Tryz.prog 106 #[.string s] w fun e w' => e = .returned (.tuple #[.int .i64 (M.num s.data.toList), .nilIface]) ∧ Below w.heap.size w w' := by
  have hl : s.size ≤ 18 := by
    obtain ⟨h1, h2, h3, h4⟩ := M.isNum_parts h
    have : s.size = s.data.toList.length := Lib.size_eq s
    unfold M.digs at h2
    split at h2
    · simp at h2; omega
    · omega
  refine (Tryz.strconv_Atoi s _ hl (M.atoi_num h) w).mono ?_
  rintro e w' ⟨rfl, t, rfl⟩
  exact ⟨rfl, Lib.bytesWorld_below _ _ _⟩

/-- behind a first byte -/
def M.rest (s : ByteArray) : ByteArray := ⟨s.data.toList.tail.toArray⟩
def M.colon (s : ByteArray) : Bool := s.data.toList.head? == some 58

theorem cutColon (s : ByteArray) (w : World) (h : M.colon s = true) : Calls Tryz.prog 153 #[.string s, .string ⟨#[58]⟩] w fun e w' => e = .returned (.tuple #[.string (M.rest s), .bool true]) ∧ w' = w := by
  have hc := Tryz.strings_CutPrefix s ⟨#[58]⟩ w
  have e1 : Lib.hasPrefix s.data.toList [58] = true := by
    cases hl : s.data.toList with
    | nil => simp [M.colon, hl] at h
    | cons a r => have : a = 58 := by simpa [M.colon, hl] using h
                  subst this; rfl
  have e2 : Lib.trimPrefix s.data.toList [58] = s.data.toList.tail := by
    unfold Lib.trimPrefix; rw [e1, if_pos rfl]; simp
  rw [show (ByteArray.mk #[58]).data.toList = [58] from rfl, e1, e2] at hc
  exact hc
theorem cutNone (s : ByteArray) (w : World) (h : M.colon s = false) : Calls Tryz.prog 153 #[.string s, .string ⟨#[58]⟩] w fun e w' => (∃ x, e = .returned (.tuple #[.string x, .bool false])) ∧ w' = w := by
  have hc := Tryz.strings_CutPrefix s ⟨#[58]⟩ w
  have e1 : Lib.hasPrefix s.data.toList [58] = false := by
    cases hl : s.data.toList with
    | nil => rfl
    | cons a r => have : ¬ a = 58 := by simpa [M.colon, hl] using h
                  simp [Lib.hasPrefix, List.isPrefixOf, Ne.symm this]
  rw [show (ByteArray.mk #[58]).data.toList = [58] from rfl, e1] at hc
  refine hc.mono ?_
  rintro e w' ⟨rfl, rfl⟩
  exact ⟨⟨_, rfl⟩, rfl⟩

theorem read_star (s : ByteArray) (w : World) (h : (s.toList == [42]) = true) : Calls Tryz.prog 130 #[.string s] w fun e w' => e = .returned (.tuple #[.agg #[.int .i64 2, .int .i64 0, .string ⟨#[]⟩], .nilIface]) ∧ Below w.heap.size w w' := by
  go_enter Tryz.func130, Tryz.ntmps130
  go_wp2_with fail
  exact bodyPost_ret (v := .tuple #[.agg #[.int .i64 2, .int .i64 0, .string ⟨#[]⟩], .nilIface]) (by simp [results, Tryz.results130, go_sem]) rfl ⟨rfl, (Below.refl _ _).alloc (Nat.le_refl _) _⟩

theorem read_text (s : ByteArray) (w : World) (h : (s.toList == [42]) = false) (hc : M.colon s = true) : Calls Tryz.prog 130 #[.string s] w fun e w' => e = .returned (.tuple #[.agg #[.int .i64 1, .int .i64 0, .string (M.rest s)], .nilIface]) ∧ Below w.heap.size w w' := by
  have HC := hide (cutColon s · hc)
  clear hc
  go_enter Tryz.func130, Tryz.ntmps130
  go_wp2_with fail
  refine (unhide HC _).mono ?_
  rintro e w1 ⟨rfl, rfl⟩
  go_wp2_with fail
  exact bodyPost_ret (v := .tuple #[.agg #[.int .i64 1, .int .i64 0, .string (M.rest s)], .nilIface]) (by simp [results, Tryz.results130, go_sem]) rfl ⟨rfl, (Below.refl _ _).alloc (Nat.le_refl _) _⟩

theorem read_none (s : ByteArray) (w : World) (h : (s.toList == [42]) = false) (hc : M.colon s = false) (hn : M.isNum s.data.toList = false) : Calls Tryz.prog 130 #[.string s] w fun e w' => e = .returned (.tuple #[.agg #[.int .i64 0, .int .i64 0, .string ⟨#[]⟩], .iface 66 (.int .i64 2)]) ∧ Below w.heap.size w w' := by
  have HC := hide (cutNone s · hc)
  have HN : Hid (∀ w, Calls Tryz.prog 154 #[.string s] w fun e w' => e = .returned (.bool false) ∧ w' = w) := fun w => by rw [← hn]; exact isDecimal s w
  clear hc hn
  go_enter Tryz.func130, Tryz.ntmps130
  go_wp2_with fail
  refine (unhide HC _).mono ?_
  rintro e w1 ⟨⟨x, rfl⟩, rfl⟩
  go_wp2_with fail
  refine (unhide HN _).mono ?_
  rintro e w2 ⟨rfl, rfl⟩
  go_wp2_with fail
  exact bodyPost_ret (v := .tuple #[.agg #[.int .i64 0, .int .i64 0, .string ⟨#[]⟩], .iface 66 (.int .i64 2)]) (by simp [results, Tryz.results130, go_sem]) rfl ⟨rfl, (Below.refl _ _).alloc (Nat.le_refl _) _⟩

theorem read_num (s : ByteArray) (w : World) (h : (s.toList == [42]) = false) (hc : M.colon s = false) (hn : M.isNum s.data.toList = true) : Calls Tryz.prog 130 #[.string s] w fun e w' => e = .returned (.tuple #[.agg #[.int .i64 0, .int .i64 (M.num s.data.toList), .string ⟨#[]⟩], .nilIface]) ∧ Below w.heap.size w w' := by
  have HC := hide (cutNone s · hc)
  have HN : Hid (∀ w, Calls Tryz.prog 154 #[.string s] w fun e w' => e = .returned (.bool true) ∧ w' = w) := fun w => by rw [← hn]; exact isDecimal s w
  have HA := hide (atoiOk s · hn)
  clear hc hn
  go_enter Tryz.func130, Tryz.ntmps130
  go_wp2_with fail
  refine (unhide HC _).mono ?_
  rintro e w1 ⟨⟨x, rfl⟩, rfl⟩
  go_wp2_with fail
  refine (unhide HN _).mono ?_
  rintro e w2 ⟨rfl, rfl⟩
  go_wp2_with fail
  refine (unhide HA _).mono ?_
  rintro e w3 ⟨rfl, hb⟩
  obtain ⟨hc, hf⟩ := bcell hb
  go_wp2_with fail
  refine bodyPost_ret (v := .tuple #[.agg #[.int .i64 0, .int .i64 (M.num s.data.toList), .string ⟨#[]⟩], .nilIface]) (by simp [results, Tryz.results130, go_sem, hc]) rfl ⟨rfl, ?_⟩
  exact (((((Below.refl _ _).alloc (Nat.le_refl _) _).trans (hb.mono (by simp))).setCell (by simp) _).setCell (by simp) _).setCell (by simp) _

theorem clone (s : ByteArray) (w : World) (hs : s.size ≤ 281474976710656) : Calls Tryz.prog 26 #[.string s] w fun e w' => e = .returned (.string s) ∧ Below w.heap.size w w' := by
  go_enter Tryz.func26, Tryz.ntmps26
  go_wp2_with fail
  refine (Tryz.stringslite_Clone s _ hs).mono ?_
  rintro e w1 ⟨rfl, hb⟩
  go_wp2_with fail
  go_ret
  exact ⟨rfl, hb⟩

theorem parse_none (s : ByteArray) (w : World) (hr : ∀ w, Calls Tryz.prog 130 #[.string s] w fun e w' => e = .returned (.tuple #[.agg #[.int .i64 0, .int .i64 0, .string ⟨#[]⟩], .iface 66 (.int .i64 2)]) ∧ Below w.heap.size w w') :
    Calls Tryz.prog 105 #[.string s] w fun e w' => e = .returned (.tuple #[.agg #[.int .i64 0, .int .i64 0, .string ⟨#[]⟩], .iface 66 (.int .i64 2)]) ∧ Below w.heap.size w w' := by
  have HR := hide hr
  clear hr
  go_enter Tryz.func105, Tryz.ntmps105
  go_wp2_with fail
  refine (unhide HR _).mono ?_
  rintro e w1 ⟨rfl, hb⟩
  obtain ⟨hc, hf⟩ := bcell hb
  have hz : w.heap.size < w1.heap.size := by have := hb.size; simp at this; omega
  go_wp2_with fail
  refine bodyPost_ret (v := .tuple #[.agg #[.int .i64 0, .int .i64 0, .string ⟨#[]⟩], .iface 66 (.int .i64 2)]) (by simp [results, Tryz.results105, go_sem, hc, hz]) rfl ⟨rfl, ?_⟩
  have B0 : Below w.heap.size w w1 := ((Below.refl _ _).alloc (Nat.le_refl _) _).trans (hb.mono (by simp))
  exact (((B0.setCell (by simp) _).setCell (by simp) _).setCell (by simp) _).alloc (by simp; omega) _

theorem parse_bad (k n : Int) (x : ByteArray) (hx : x.size ≤ maxLen) (h : M.fault k n x ≠ 0) (s : ByteArray) (w : World) (hr : ∀ w, Calls Tryz.prog 130 #[.string s] w fun e w' => e = .returned (.tuple #[.agg #[.int .i64 k, .int .i64 n, .string x], .nilIface]) ∧ Below w.heap.size w w') :
    Calls Tryz.prog 105 #[.string s] w fun e w' => e = .returned (.tuple #[.agg #[.int .i64 0, .int .i64 0, .string ⟨#[]⟩], .iface 66 (.int .i64 (M.fault k n x))]) ∧ Below w.heap.size w w' := by
  have HR := hide hr
  have H := hide h
  clear hr h
  go_enter Tryz.func105, Tryz.ntmps105
  go_wp2_with fail
  refine (unhide HR _).mono ?_
  rintro e w1 ⟨rfl, hb⟩
  obtain ⟨hc, hf⟩ := bcell hb
  have hz : w.heap.size < w1.heap.size := by have := hb.size; simp at this; omega
  go_wp2_with fail
  refine (checkBad k n x _ hx H.out).mono ?_
  rintro e w2 ⟨rfl, hb2⟩
  obtain ⟨hc2, hf2⟩ := bcell hb2
  have hz2 : w1.heap.size < w2.heap.size := by have := hb2.size; simp at this; omega
  go_wp2_with fail
  have hc3 : ∀ o, w2.cell? ⟨w.heap.size, o, none⟩ = w1.cell? ⟨w.heap.size, o, none⟩ := fun o => by rw [hc2 _ _ (by simp; omega)]; exact World.cell?_alloc_lt _ _ ⟨w.heap.size, o, none⟩ hz
  refine bodyPost_ret (v := .tuple #[.agg #[.int .i64 0, .int .i64 0, .string ⟨#[]⟩], .iface 66 (.int .i64 (M.fault k n x))]) (by simp [results, Tryz.results105, go_sem, hc3, hc]) rfl ⟨rfl, ?_⟩
  have B0 : Below w.heap.size w w1 := ((Below.refl _ _).alloc (Nat.le_refl _) _).trans (hb.mono (by simp))
  have B1 : Below w.heap.size w w2 := (B0.alloc (by omega) _).trans (hb2.mono (by simp; omega))
  exact ((B1.setCell (by simp) _).setCell (by simp) _).setCell (by simp) _

theorem parse_ok (k n : Int) (x : ByteArray) (hx : x.size ≤ 12) (h : M.fault k n x = 0) (s : ByteArray) (w : World) (hr : ∀ w, Calls Tryz.prog 130 #[.string s] w fun e w' => e = .returned (.tuple #[.agg #[.int .i64 k, .int .i64 n, .string x], .nilIface]) ∧ Below w.heap.size w w') :
    Calls Tryz.prog 105 #[.string s] w fun e w' => e = .returned (.tuple #[.agg #[.int .i64 k, .int .i64 n, .string x], .nilIface]) ∧ Below w.heap.size w w' := by
  have HR := hide hr
  have H := hide h
  clear hr h
  go_enter Tryz.func105, Tryz.ntmps105
  go_wp2_with fail
  refine (unhide HR _).mono ?_
  rintro e w1 ⟨rfl, hb⟩
  obtain ⟨hc, hf⟩ := bcell hb
  have hz : w.heap.size < w1.heap.size := by have := hb.size; simp at this; omega
  go_wp2_with fail
  refine (checkOk k n x _ (by unfold maxLen; omega) H.out).mono ?_
  rintro e w2 ⟨rfl, hb2⟩
  obtain ⟨hc2, hf2⟩ := bcell hb2
  have hz2 : w1.heap.size < w2.heap.size := by have := hb2.size; simp at this; omega
  go_wp2_with fail
  refine (clone x _ (by omega)).mono ?_
  rintro e w3 ⟨rfl, hb3⟩
  obtain ⟨hc3, hf3⟩ := bcell hb3
  have hz3 : w1.heap.size < w3.heap.size := by have := hb3.size; omega
  have hz4 : w.heap.size < w2.heap.size := by omega
  have hz5 : w.heap.size < w1.heap.size + 1 := by omega
  have hne : ¬ w.heap.size = w1.heap.size := by omega
  have hne2 : ¬ w1.heap.size = w.heap.size := by omega
  go_wp2_with fail
  refine bodyPost_ret (v := .tuple #[.agg #[.int .i64 k, .int .i64 n, .string x], .nilIface]) (by simp [results, Tryz.results105, go_sem, hc3, hc2, hc, hz4, hz5, hz, hne, hne2]) rfl ⟨rfl, ?_⟩
  have B0 : Below w.heap.size w w1 := ((Below.refl _ _).alloc (Nat.le_refl _) _).trans (hb.mono (by simp))
  have B1 : Below w.heap.size w w2 := (B0.alloc (by omega) _).trans (hb2.mono (by simp; omega))
  have B2 : Below w.heap.size w w3 := B1.trans (hb3.mono (by omega))
  exact (((B2.setCell (by simp; omega) _).setCell (by simp) _).setCell (by simp) _).setCell (by simp) _

/-- what is wrong with a text, and the value that it tells -/
def M.pErr (s : ByteArray) : Int :=
  if s.toList == [42] then 0 else if M.colon s then M.fault 1 0 (M.rest s) else if M.isNum s.data.toList then M.fault 0 (M.num s.data.toList) ⟨#[]⟩ else 2
def M.pK (s : ByteArray) : Int := if M.pErr s ≠ 0 then 0 else if s.toList == [42] then 2 else if M.colon s then 1 else 0
def M.pN (s : ByteArray) : Int := if M.pErr s ≠ 0 then 0 else if s.toList == [42] then 0 else if M.colon s then 0 else M.num s.data.toList
def M.pS (s : ByteArray) : ByteArray := if M.pErr s ≠ 0 then ⟨#[]⟩ else if s.toList == [42] then ⟨#[]⟩ else if M.colon s then M.rest s else ⟨#[]⟩

theorem rest_size (s : ByteArray) : (M.rest s).size ≤ s.size := by
  show s.data.toList.tail.toArray.size ≤ s.data.size
  simp

theorem text_short {x : ByteArray} (h : M.fault 1 0 x = 0) : x.size ≤ 12 := by
  rcases Nat.lt_or_ge 12 x.size with h12 | h12
  · exfalso
    unfold M.fault M.faultT at h
    rw [if_neg (by decide), if_pos rfl, if_pos h12] at h
    exact absurd h (by decide)
  · exact h12

theorem parse (s : ByteArray) (w : World) (hs : s.size ≤ maxLen) :
    Calls Tryz.prog 105 #[.string s] w fun e w' => e = .returned (.tuple #[.agg #[.int .i64 (M.pK s), .int .i64 (M.pN s), .string (M.pS s)], errV (M.pErr s)]) ∧ Below w.heap.size w w' := by
  cases h : (s.toList == [42])
  · cases hc : M.colon s
    · cases hn : M.isNum s.data.toList
      · have e : M.pErr s = 2 := by unfold M.pErr; rw [h, hc, hn]; rfl
        have ek : M.pK s = 0 := by unfold M.pK; rw [e]; rfl
        have en : M.pN s = 0 := by unfold M.pN; rw [e]; rfl
        have es : M.pS s = ⟨#[]⟩ := by unfold M.pS; rw [e]; rfl
        rw [ek, en, es, e]
        exact parse_none s w (fun w => read_none s w h hc hn)
      · have e : M.pErr s = M.fault 0 (M.num s.data.toList) ⟨#[]⟩ := by unfold M.pErr; rw [h, hc, hn]; rfl
        by_cases hf : M.fault 0 (M.num s.data.toList) ⟨#[]⟩ = 0
        · have e0 : M.pErr s = 0 := e.trans hf
          have ek : M.pK s = 0 := by unfold M.pK; rw [e0, h, hc]; rfl
          have en : M.pN s = M.num s.data.toList := by unfold M.pN; rw [e0, h, hc]; rfl
          have es : M.pS s = ⟨#[]⟩ := by unfold M.pS; rw [e0, h, hc]; rfl
          rw [ek, en, es, e0]
          exact parse_ok _ _ _ (by decide) hf s w (fun w => read_num s w h hc hn)
        · have e0 : M.pErr s ≠ 0 := by rw [e]; exact hf
          have ek : M.pK s = 0 := by unfold M.pK; rw [if_pos e0]
          have en : M.pN s = 0 := by unfold M.pN; rw [if_pos e0]
          have es : M.pS s = ⟨#[]⟩ := by unfold M.pS; rw [if_pos e0]
          rw [ek, en, es, e, errV_bad hf]
          exact parse_bad _ _ _ (by decide) hf s w (fun w => read_num s w h hc hn)
    · have e : M.pErr s = M.fault 1 0 (M.rest s) := by unfold M.pErr; rw [h, hc]; rfl
      by_cases hf : M.fault 1 0 (M.rest s) = 0
      · have e0 : M.pErr s = 0 := e.trans hf
        have ek : M.pK s = 1 := by unfold M.pK; rw [e0, h, hc]; rfl
        have en : M.pN s = 0 := by unfold M.pN; rw [e0, h, hc]; rfl
        have es : M.pS s = M.rest s := by unfold M.pS; rw [e0, h, hc]; rfl
        rw [ek, en, es, e0]
        exact parse_ok _ _ _ (text_short hf) hf s w (fun w => read_text s w h hc)
      · have e0 : M.pErr s ≠ 0 := by rw [e]; exact hf
        have ek : M.pK s = 0 := by unfold M.pK; rw [if_pos e0]
        have en : M.pN s = 0 := by unfold M.pN; rw [if_pos e0]
        have es : M.pS s = ⟨#[]⟩ := by unfold M.pS; rw [if_pos e0]
        rw [ek, en, es, e, errV_bad hf]
        exact parse_bad _ _ _ (Nat.le_trans (rest_size s) hs) hf s w (fun w => read_text s w h hc)
  · have e : M.pErr s = 0 := by unfold M.pErr; rw [h]; rfl
    have ek : M.pK s = 2 := by unfold M.pK; rw [e, h]; rfl
    have en : M.pN s = 0 := by unfold M.pN; rw [e, h]; rfl
    have es : M.pS s = ⟨#[]⟩ := by unfold M.pS; rw [e, h]; rfl
    rw [ek, en, es, e]
    exact parse_ok _ _ _ (by decide) (by decide) s w (fun w => read_star s w h)

end Go.Proofs.YtlefhfmckimlaajGreatDoor
