/-
  The walk of the Go function RunBegins: it returns true, whatever comes in.
-/
import Derived.Test.YtlefhfmckimlaakGreatDoorRunCalls
import Derived.Deep.CutRange
set_option linter.unusedVariables false
namespace Go.Proofs.YtlefhfmckimlaakGreatDoor.runBegins
open Go.RowKit

def fT : ByteArray := ⟨#[112, 117, 116, 32, 49, 44, 58, 97, 10, 112, 117, 116, 32, 50, 44, 58, 97, 10, 114, 101, 97, 100, 32, 42, 44, 58, 97, 10, 102, 108, 121, 10, 116, 97, 107, 101, 32, 42, 44, 42, 10, 99, 111, 117, 110, 116, 32, 42, 44, 42, 10, 111, 110, 99, 101, 32, 51, 44, 42, 32, 51, 44, 58, 98, 10, 111, 110, 99, 101, 32, 51, 44, 42, 32, 51, 44, 58, 99, 10, 114, 101, 97, 100, 32, 55, 10, 112, 114, 105, 110, 116, 32, 53, 10, 100, 101, 97, 108, 32, 53, 32, 50, 32, 51, 10]⟩
def fA : ByteArray := ⟨#[111, 107, 10, 111, 107, 10, 49, 44, 58, 97, 10, 98, 97, 100, 10, 49, 44, 58, 97, 10, 49, 10, 121, 101, 115, 10, 110, 111, 10, 69, 114, 114, 78, 111, 110, 101, 10, 50, 55, 48, 10, 55, 32, 57, 32, 49, 49, 10]⟩
theorem fact (w : World) (ht : Env w) : Calls Tryz.prog 32 #[.string fT] w fun e w' => e = .returned (.string fA) ∧ Below w.heap.size w w' := by
  have := runT fT w ht
  rwa [show (⟨(M.runR fT.data.toList).toArray⟩ : ByteArray) = fA by rw [show M.runR fT.data.toList = fA.data.toList from M.run_fact]] at this

set_option maxRecDepth 100000 in
set_option maxHeartbeats 1000000 in
theorem walk (t : ByteArray) (many : Int) (w : World) (hs : t.size ≤ maxLen) (ht : Env w) :
    Calls Tryz.prog 6 #[.string t, .int .i64 many] w fun e w' => e = .returned (.bool true) ∧ Below w.heap.size w w' := by
  have HF := hide (fact w ht)
  have HT := hide ht
  unfold maxLen at hs
  unfold fT fA at HF
  have lt : t.data.toList.length = t.size := by simp
  by_cases h : 3000 < t.size
  · have h1 : (3000 : Int) < (t.size : Int) := by omega
    have HR : Hid (∀ wx, Below w.heap.size w wx → Calls Tryz.prog 32 #[.string t] wx fun e w' => e = .returned (.string ⟨#[116, 111, 111, 32, 108, 111, 110, 103, 10]⟩) ∧ Below wx.heap.size wx w') := hide fun wx hb => by
      have := runT t wx (HT.out.stays hb (Nat.le_refl _))
      rwa [M.run_long (by rw [lt]; exact h)] at this
    clear ht lt
    go_enter Tryz.func6, Tryz.ntmps6
    go_wp2_with fail
    refine (unhide HF).mono ?_
    rintro e w2 ⟨rfl, hb2⟩
    dsimp only
    have HB2 := hide hb2
    clear hb2 HF
    go_wp2_with fail
    refine (HR.out _ HB2.out).mono ?_
    rintro e w3 ⟨rfl, hb3⟩
    dsimp only
    have HB3 := hide (HB2.out.trans (hb3.mono HB2.out.size))
    clear hb3 HR HB2
    go_wp2_with fail
    go_ret
    exact ⟨rfl, HB3.out⟩
  · have h1 : ¬ (3000 : Int) < (t.size : Int) := by omega
    clear ht
    have HLT := hide lt
    clear lt
    go_enter Tryz.func6, Tryz.ntmps6
    go_wp2_with fail
    refine (unhide HF).mono ?_
    rintro e w2 ⟨rfl, hb2⟩
    dsimp only
    have HB2 := hide hb2
    clear hb2 HF
    go_wp2_with fail
    go_loopw [7, 8] (fun sk sn wx => ∃ (k n : Nat), sk = .int .i64 k ∧ sn = .int .i64 n ∧ k ≤ t.size ∧ n ≤ k ∧ Hid (k = 0 ∨ (n : Int) < many ∨ ∃ (h1 : k - 1 < t.data.toList.length), 0 < k ∧ t.data.toList[k - 1] = 10) ∧ wx = w2) (fun sk _ _ => t.size - (intOf sk).toNat)
    case atStart => exact ⟨0, 0, rfl, rfl, Nat.zero_le _, Nat.le_refl _, hide (Or.inl rfl), rfl⟩
    case round =>
      obtain ⟨k, n, rfl, rfl, hk, hn, HI, hwx⟩ := hrel
      obtain rfl := hwx.symm
      have k0 : (0 : Int) ≤ (k : Int) := by omega
      by_cases hg : k < t.size ∧ (n : Int) < many
      · obtain ⟨h2, h3⟩ := hg
        have h4 : (k : Int) < (t.size : Int) := by omega
        by_cases hc : t[k] = 10
        · have c1 : ((t[k].toNat : Int) == 10) = true := by rw [hc]; rfl
          have HN : Hid (k + 1 = 0 ∨ ((n + 1 : Nat) : Int) < many ∨ ∃ (h1 : k + 1 - 1 < t.data.toList.length), 0 < k + 1 ∧ t.data.toList[k + 1 - 1] = 10) := hide (Or.inr (Or.inr ⟨by rw [HLT.out]; omega, by omega, by simp only [Nat.add_sub_cancel]; exact hc⟩))
          clear hc HI
          go_wp2_with fail
          go_roundw
          case rel => exact ⟨k + 1, n + 1, by go_num, by go_num, by omega, by omega, HN, by first | rfl | trivial⟩
          case measure => simp [intOf]; omega
        · have c1 : ((t[k].toNat : Int) == 10) = false := by
            cases hh : ((t[k].toNat : Int) == 10)
            · rfl
            · exact absurd (UInt8.toNat_inj.1 (by have : (t[k].toNat : Int) = 10 := by simpa using hh
                                                  show t[k].toNat = 10; omega)) hc
          have HN : Hid (k + 1 = 0 ∨ (n : Int) < many ∨ ∃ (h1 : k + 1 - 1 < t.data.toList.length), 0 < k + 1 ∧ t.data.toList[k + 1 - 1] = 10) := hide (Or.inr (Or.inl h3))
          clear hc HI
          go_wp2_with fail
          go_roundw
          case rel => exact ⟨k + 1, n, by go_num, by first | rfl | go_num, by omega, by omega, HN, by first | rfl | trivial⟩
          case measure => simp [intOf]; omega
      · have hx : ¬ (k : Int) < (t.size : Int) ∨ ((k : Int) < (t.size : Int) ∧ ¬ (n : Int) < many) := by omega
        have HE : Hid (∃ r, M.runR t.data.toList = M.runR (t.data.toList.take k) ++ r) := hide (M.run_take _ _ (by rw [HLT.out]; omega) (by
          rcases HI.out with q | q | q
          · exact Or.inl q
          · exact Or.inr (Or.inl (by rw [HLT.out]; omega))
          · exact Or.inr (Or.inr q)))
        obtain ⟨A, hA⟩ : ∃ A : ByteArray, A = ⟨(M.runR (t.data.toList.take k)).toArray⟩ := ⟨_, rfl⟩
        obtain ⟨B, hB⟩ : ∃ B : ByteArray, B = ⟨(M.runR t.data.toList).toArray⟩ := ⟨_, rfl⟩
        have ex : (t.extract 0 k).data.toList = t.data.toList.take k := by
          rw [ByteArray.data_extract, Array.toList_extract, List.extract_eq_take_drop]; simp
        have HRA : Hid (∀ wx, Below w.heap.size w wx → Calls Tryz.prog 32 #[.string (t.extract 0 k)] wx fun e w' => e = .returned (.string A) ∧ Below wx.heap.size wx w') := hide fun wx hb => by
          have := runT (t.extract 0 k) wx (HT.out.stays hb (Nat.le_refl _))
          rwa [ex, ← hA] at this
        have HRB : Hid (∀ wx, Below w.heap.size w wx → Calls Tryz.prog 32 #[.string t] wx fun e w' => e = .returned (.string B) ∧ Below wx.heap.size wx w') := hide fun wx hb => by
          have := runT t wx (HT.out.stays hb (Nat.le_refl _))
          rwa [← hB] at this
        have sB : B.size ≤ 9000000 := by rw [hB]; exact M.run_size _
        have sA : A.size ≤ B.size := by
          obtain ⟨r, hr⟩ := HE.out
          rw [hA, hB]
          show (M.runR _).length ≤ (M.runR _).length
          rw [hr, List.length_append]; omega
        have hAB : B.extract 0 A.size = A := by
          obtain ⟨r, hr⟩ := HE.out
          apply ByteArray.ext
          apply Array.ext'
          rw [ByteArray.data_extract, Array.toList_extract, List.extract_eq_take_drop, hA, hB, hr]
          show List.take ((M.runR (t.data.toList.take k)).length - 0) (List.drop 0 (M.runR (t.data.toList.take k) ++ r)) = M.runR (t.data.toList.take k)
          simp
        have i1 : (A.size : Int) ≤ (B.size : Int) := by omega
        have i2 : (0 : Int) ≤ (A.size : Int) := by omega
        have i3 : (k : Int) ≤ (t.size : Int) := by omega
        have ee : (A.toList == A.toList) = true := by simp
        clear hA hB ex HE HI hg
        rcases hx with h2 | ⟨h2, h3⟩
        all_goals
          go_wp2_with fail
          refine (HRA.out _ HB2.out).mono ?_
          rintro e w3 ⟨rfl, hb3⟩
          dsimp only
          have HB3 := hide (HB2.out.trans (hb3.mono HB2.out.size))
          clear hb3
          go_wp2_with fail
          refine (HRB.out _ HB3.out).mono ?_
          rintro e w4 ⟨rfl, hb4⟩
          dsimp only
          have HB4 := hide (HB3.out.trans (hb4.mono HB3.out.size))
          clear hb4
          go_wp2_with fail
          go_ret
          exact ⟨by simp, HB4.out⟩

end Go.Proofs.YtlefhfmckimlaakGreatDoor.runBegins
