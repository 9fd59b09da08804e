/-
  The walk of the Go function RuleTells: it returns true, whatever comes in, if the library's error type reads as its text lays it.
-/
import Derived.Test.YtlefhfmckimlaagDoorRuleRef
import Derived.Test.YtlefhfmckimlaagDoorErrTold
import Derived.Deep.RegionWith
import Derived.Deep.DeepCutAuto
import Derived.Deep.CutBlock
set_option linter.unusedVariables false
namespace Go.Proofs.YtlefhfmckimlaagDoor.ruleTells
open Go.RowKit

/-- what a call answers in every world that has what w had -/
def Ask (w : World) (f : Nat) (args : Array Value) (v : Value) : Prop := ∀ wx, Below w.heap.size w wx → Calls Tryd.prog f args wx fun e w' => e = .returned v ∧ Below wx.heap.size wx w'

set_option maxRecDepth 100000 in
set_option maxHeartbeats 8000000 in
theorem ways (av : Option Addr) (n cap : Nat) (who deed : Int) (tv : Value) (E0 E T F p r : Int) (b : Bool) (w : World)
    (hR : Ask w 20 #[.slice av n cap] (.int .i64 E0)) (hC : Ask w 22 #[.slice av n cap] (errV E0)) (hS : ∀ k, Ask w 21 #[errV k, .int .i64 k] (.bool true))
    (hT : Ask w 23 #[tv] (.int .i64 T))
    (hE : (E0 ≠ 0 ∧ E = E0) ∨ (E0 = 0 ∧ (who < 0 ∨ 1000000 < who ∨ deed < 0 ∨ 2 < deed) ∧ E = 1) ∨ (E0 = 0 ∧ ¬ (who < 0 ∨ 1000000 < who ∨ deed < 0 ∨ 2 < deed) ∧ E = T))
    (hM : (E ≠ 0 ∧ b = false ∧ F = E ∧ r = 0) ∨ (E = 0 ∧ Ask w 24 #[.slice av n cap, .int .i64 who, .int .i64 deed, tv] (.bool b) ∧ Ask w 26 #[.slice av n cap, .int .i64 who, .int .i64 deed, tv] (.int .i64 p) ∧ ((0 ≤ p ∧ F = 0 ∧ r = p) ∨ (p < 0 ∧ F = 5 ∧ r = 0))))
    (hP : Ask w 25 #[.slice av n cap, .int .i64 who, .int .i64 deed, tv] (.tuple #[.bool b, errV E])) (hQ : Ask w 27 #[.slice av n cap, .int .i64 who, .int .i64 deed, tv] (.tuple #[.int .i64 r, errV F])) :
    Calls Tryd.prog 6 #[.slice av n cap, .int .i64 who, .int .i64 deed, tv] w fun e w' => e = .returned (.bool true) ∧ Below w.heap.size w w' := by
  have HR := hide hR
  have HC := hide hC
  have HS := hide hS
  have HT := hide hT
  have HE := hide hE
  have HM := hide hM
  have HP := hide hP
  have HQ := hide hQ
  clear hR hC hS hT hE hM hP hQ
  go_enter Tryd.func6, Tryd.ntmps6
  go_wp2_with fail
  refine (HR.out _ (Below.refl _ _)).mono ?_
  rintro e w1 ⟨rfl, hb1⟩
  have HB1 := hide hb1
  clear hb1
  go_wp2_with fail
  refine (HC.out _ HB1.out).mono ?_
  rintro e w2 ⟨rfl, hb2⟩
  have HB2 := hide (HB1.out.trans (hb2.mono HB1.out.size))
  clear hb2 HB1
  go_wp2_with fail
  refine (HS.out E0 _ HB2.out).mono ?_
  rintro e w3 ⟨rfl, hb3⟩
  have HB3 := hide (HB2.out.trans (hb3.mono HB2.out.size))
  clear hb3 HB2 HR HC
  go_upto_region 3 with fail
  go_cut [41] from 24 to 41 (fun c wx => c = .bool (decide (E0 = 0 ∧ (who < 0 ∨ 1000000 < who ∨ deed < 0 ∨ 2 < deed))) ∧ Hid (Below w.heap.size w wx))
  case first =>
    clear HE HM HP HQ HS HT
    by_cases h0 : E0 = 0
    · have hz : (E0 == 0) = true := by simpa using h0
      by_cases q1 : who < 0
      · have D : Hid (decide (E0 = 0 ∧ (who < 0 ∨ 1000000 < who ∨ deed < 0 ∨ 2 < deed)) = true) := hide (by simp [h0, q1])
        clear h0
        go_wp2_with fail
        go_meet
        case rel => exact ⟨by rw [D.out], HB3⟩
      · by_cases q2 : 1000000 < who
        · have D : Hid (decide (E0 = 0 ∧ (who < 0 ∨ 1000000 < who ∨ deed < 0 ∨ 2 < deed)) = true) := hide (by simp [h0, q2])
          clear h0
          go_wp2_with fail
          go_meet
          case rel => exact ⟨by rw [D.out], HB3⟩
        · by_cases q3 : deed < 0
          · have D : Hid (decide (E0 = 0 ∧ (who < 0 ∨ 1000000 < who ∨ deed < 0 ∨ 2 < deed)) = true) := hide (by simp [h0, q3])
            clear h0
            go_wp2_with fail
            go_meet
            case rel => exact ⟨by rw [D.out], HB3⟩
          · have D : Hid (decide (E0 = 0 ∧ (who < 0 ∨ 1000000 < who ∨ deed < 0 ∨ 2 < deed)) = decide (2 < deed)) := hide (by simp [h0, q1, q2, q3])
            clear h0
            go_wp2_with fail
            go_meet
            case rel => exact ⟨by rw [D.out], HB3⟩
    · have hz : (E0 == 0) = false := by simpa using h0
      have D : Hid (decide (E0 = 0 ∧ (who < 0 ∨ 1000000 < who ∨ deed < 0 ∨ 2 < deed)) = false) := hide (by simp [h0])
      clear h0
      go_wp2_with fail
      go_meet
      case rel => exact ⟨by rw [D.out], HB3⟩
  case rest =>
    clear HB3
    obtain ⟨rfl, HB3⟩ := hcut
    obtain ⟨E1, HE1⟩ : ∃ E1, Hid ((if E0 = 0 ∧ (who < 0 ∨ 1000000 < who ∨ deed < 0 ∨ 2 < deed) then 1 else E0) = E1) := ⟨_, hide rfl⟩
    go_upto_if 41 with fail
    go_cut [9] from 41 to 41 (fun s wx => s = .int .i64 E1 ∧ Hid (Below w.heap.size w wx))
    case first =>
      clear HE HM HP HQ HS HT
      by_cases h : E0 = 0 ∧ (who < 0 ∨ 1000000 < who ∨ deed < 0 ∨ 2 < deed)
      · have hz : decide (E0 = 0 ∧ (who < 0 ∨ 1000000 < who ∨ deed < 0 ∨ 2 < deed)) = true := decide_eq_true h
        have D : Hid (E1 = 1) := hide (by rw [← HE1.out, if_pos h])
        rw [hz]
        clear h hz
        go_wp2_with fail
        go_meet
        case rel => exact ⟨by rw [D.out], HB3⟩
      · have hz : decide (E0 = 0 ∧ (who < 0 ∨ 1000000 < who ∨ deed < 0 ∨ 2 < deed)) = false := decide_eq_false h
        have D : Hid (E1 = E0) := hide (by rw [← HE1.out, if_neg h])
        rw [hz]
        clear h hz
        go_wp2_with fail
        go_meet
        case rel => exact ⟨by rw [D.out], HB3⟩
    case rest =>
      clear HB3
      obtain ⟨rfl, HB3⟩ := hcut
      go_upto_if 43 with fail
      go_cut [9] from 43 to 45 (fun s wx => s = .int .i64 E ∧ Hid (Below w.heap.size w wx))
      case first =>
        rcases HE.out with ⟨h1, h2⟩ | ⟨h1, h2, h3⟩ | ⟨h1, h2, h3⟩
        · have e1 : E1 = E := by rw [← HE1.out, if_neg (by simp [h1]), h2]
          subst e1
          have hz : (E1 == 0) = false := by simpa [h2] using h1
          clear h1 h2 HE HM HP HQ HS HT
          go_wp2_with fail
          go_meet
          case rel => exact ⟨rfl, HB3⟩
        · have e1 : E1 = E := by rw [← HE1.out, if_pos ⟨h1, h2⟩, h3]
          subst e1
          have hz : (E1 == 0) = false := by rw [h3]; rfl
          clear h1 h2 h3 HE HM HP HQ HS HT
          go_wp2_with fail
          go_meet
          case rel => exact ⟨rfl, HB3⟩
        · have e1 : E1 = 0 := by rw [← HE1.out, if_neg (by simp only [h1, true_and]; exact h2), h1]
          have hz : (E1 == 0) = true := by rw [e1]; rfl
          subst h3
          clear h1 h2 e1 HE HM HP HQ HS
          go_wp2_with fail
          refine (HT.out _ HB3.out).mono ?_
          rintro e w4 ⟨rfl, hb4⟩
          have HB4 := hide (HB3.out.trans (hb4.mono HB3.out.size))
          clear hb4
          go_wp2_with fail
          go_meet
          case rel => exact ⟨rfl, HB4⟩
      case rest =>
        clear HB3 HE HT HE1
        obtain ⟨rfl, hb⟩ := hcut
        go_upto_region 7 with fail
        go_cut [11] from 46 to 54 (fun s wx => s = .bool b ∧ Hid (Below w.heap.size w wx))
        case first =>
          rcases HM.out with ⟨h1, h2, h3, h4⟩ | ⟨h1, h2, h3, h4⟩
          · have hz : (E == 0) = false := by simpa using h1
            have H2 := hide h2
            clear h1 h2 h3 h4 HM HP HQ HS
            go_wp2_with fail
            go_meet
            case rel => exact ⟨by rw [H2.out], hb⟩
          · have hz : (E == 0) = true := by simpa using h1
            have H2 := hide h2
            clear h1 h2 h3 h4 HM HP HQ HS
            go_wp2_with fail
            refine (H2.out _ hb.out).mono ?_
            rintro e w4 ⟨rfl, hb4⟩
            have HB4 := hide (hb.out.trans (hb4.mono hb.out.size))
            clear hb4
            go_wp2_with fail
            go_meet
            case rel => exact ⟨rfl, HB4⟩
        case rest =>
          clear hb
          obtain ⟨rfl, hb⟩ := hcut
          go_wp2_with fail
          refine (HP.out _ hb.out).mono ?_
          rintro e w4 ⟨rfl, hb4⟩
          have HB4 := hide (hb.out.trans (hb4.mono hb.out.size))
          clear hb4 hb
          go_wp2_with fail
          refine (HS.out E _ HB4.out).mono ?_
          rintro e w5 ⟨rfl, hb5⟩
          have HB5 := hide (HB4.out.trans (hb5.mono HB4.out.size))
          clear hb5 HB4 HP
          go_upto_if 72 with fail
          go_cut [9, 15] from 72 to 79 (fun s a wx => s = .int .i64 F ∧ a = .int .i64 r ∧ Hid (Below w.heap.size w wx))
          case first =>
            rcases HM.out with ⟨h1, h2, h3, h4⟩ | ⟨h1, h2, h3, h4⟩
            · have hz : (E == 0) = false := by simpa using h1
              subst h3 h4
              clear h1 h2 HM HQ HS
              go_wp2_with fail
              go_meet
              case rel => exact ⟨rfl, rfl, HB5⟩
            · have hz : (E == 0) = true := by simpa using h1
              have H3 := hide h3
              clear h2 h3 HM HQ HS
              rcases h4 with ⟨q1, q2, q3⟩ | ⟨q1, q2, q3⟩
              · subst q2 q3
                have q4 : ¬ r < 0 := by omega
                have H1 := hide h1
                clear h1 q1
                go_wp2_with fail
                refine (H3.out _ HB5.out).mono ?_
                rintro e w6 ⟨rfl, hb6⟩
                have HB6 := hide (HB5.out.trans (hb6.mono HB5.out.size))
                clear hb6
                go_wp2_with fail
                go_meet
                case rel => exact ⟨by rw [H1.out], rfl, HB6⟩
              · subst q2 q3
                clear h1
                go_wp2_with fail
                refine (H3.out _ HB5.out).mono ?_
                rintro e w6 ⟨rfl, hb6⟩
                have HB6 := hide (HB5.out.trans (hb6.mono HB5.out.size))
                clear hb6
                go_wp2_with fail
                go_meet
                case rel => exact ⟨rfl, rfl, HB6⟩
          case rest =>
            clear HB5 HM
            obtain ⟨rfl, rfl, hb⟩ := hcut
            go_wp2_with fail
            refine (HQ.out _ hb.out).mono ?_
            rintro e w6 ⟨rfl, hb6⟩
            have HB6 := hide (hb.out.trans (hb6.mono hb.out.size))
            clear hb6 hb
            go_wp2_with fail
            refine (HS.out F _ HB6.out).mono ?_
            rintro e w7 ⟨rfl, hb7⟩
            have HB7 := hide (HB6.out.trans (hb7.mono HB6.out.size))
            clear hb7 HB6
            go_wp2_with fail
            go_ret
            exact ⟨by simp, HB7.out⟩

theorem walk (av : Option Addr) (n cap : Nat) (l : List M.Rul) (who deed : Int) (tv : Value) (t : List M.Val) (w : World) (hn : n = l.length) (hm : n ≤ maxLen) (hl : AtR w av l) (ht : IsVals w tv t) (hg : Hand w) :
    Calls Tryd.prog 6 #[.slice av n cap, .int .i64 who, .int .i64 deed, tv] w fun e w' => e = .returned (.bool true) ∧ Below w.heap.size w w' := by
  refine ways av n cap who deed tv (M.rulE l) (M.mayE l who deed t) (M.tupF t) (M.firE l who deed t) (M.placeR l who deed t) (M.firR l who deed t) (M.mayR l who deed t) w ?_ ?_ ?_ ?_ ?_ ?_ ?_ ?_
  · exact fun wx hb => refRules av n cap l wx hn hm (hl.stays hb (Nat.le_refl _))
  · exact fun wx hb => rCheck av n cap l wx hn hm (hl.stays hb (Nat.le_refl _))
  · intro k wx hb
    have h := sameErr k k wx (hg.stays hb (Nat.le_refl _))
    have e : (k == k) = true := by simp
    rwa [e] at h
  · exact fun wx hb => rtuple tv t wx (ht.stays hb (Nat.le_refl _))
  · by_cases h0 : M.rulE l = 0
    · cases ha : M.askB who deed
      · exact Or.inr (Or.inl ⟨h0, M.askB_no ha, M.mayE_ask h0 ha⟩)
      · exact Or.inr (Or.inr ⟨h0, by have := M.askB_yes ha; omega, M.mayE_tup h0 ha⟩)
    · exact Or.inl ⟨h0, M.mayE_rul h0⟩
  · by_cases hE : M.mayE l who deed t = 0
    · refine Or.inr ⟨hE, fun wx hb => refMay av n cap l who deed tv t wx hn (hl.stays hb (Nat.le_refl _)) hE (ht.stays hb (Nat.le_refl _)), fun wx hb => ?_, ?_⟩
      · obtain ⟨e1, _, _⟩ := M.mayE_ok hE
        exact refFirst av n cap l who deed tv t wx hn (by rw [hn]; exact (M.rulE_ok e1).1) (hl.stays hb (Nat.le_refl _)) (M.rulE_like e1) (ht.stays hb (Nat.le_refl _))
      · by_cases hs : M.spotR l who deed t < l.length
        · have hp : M.placeR l who deed t = (M.spotR l who deed t : Int) := by unfold M.placeR; rw [if_pos hs]
          exact Or.inl ⟨by omega, M.firE_hit hE hs, by rw [M.firR_hit (M.firE_hit hE hs), hp]⟩
        · have hp : M.placeR l who deed t = -1 := by unfold M.placeR; rw [if_neg hs]
          exact Or.inr ⟨by omega, M.firE_none hE hs, M.firR_bad (by rw [M.firE_none hE hs]; decide)⟩
    · exact Or.inl ⟨hE, M.mayR_bad hE, M.firE_bad hE, M.firR_bad (by rw [M.firE_bad hE]; exact hE)⟩
  · exact fun wx hb => rMay av n cap l who deed tv t wx hn hm (hl.stays hb (Nat.le_refl _)) (ht.stays hb (Nat.le_refl _))
  · exact fun wx hb => rFirst av n cap l who deed tv t wx hn hm (hl.stays hb (Nat.le_refl _)) (ht.stays hb (Nat.le_refl _))

end Go.Proofs.YtlefhfmckimlaagDoor.ruleTells
