/-
  The walk of the Go function ModTells: it returns true, whatever the numbers, if the library's variable reads as its text lays it.
-/
import Derived.Test.YtlefhfmckimlaadDoorModRef
import Derived.Test.YtlefhfmckimlaadDoorErrTold
import Derived.Deep.DeepCutAuto
import Derived.Outline
set_option linter.unusedVariables false
namespace Go.Proofs.YtlefhfmckimlaadDoor.modTells
open Go.RowKit

def twoB (a b : Int) : Bool := Md.inB a && Md.inB b
def twoE (a b : Int) : Int := if twoB a b = true then 0 else 1
def sumR (a b : Int) : Int := if twoB a b = true then (a + b) % 257 else 0
def timR (a b : Int) : Int := if twoB a b = true then a * b % 257 else 0
def powB (a n b : Int) : Bool := decide (2 ≤ b ∧ b ≤ 1000000 ∧ 0 ≤ a ∧ a < b ∧ 0 ≤ n ∧ n ≤ 1000000)
def powE (a n b : Int) : Int := if powB a n b = true then 0 else 1
def powR (a n b : Int) : Int := if powB a n b = true then M.pwI a n b else 0
def invE (a : Int) : Int := if Md.inB a = true then (if a = 0 then 5 else 0) else 1
def invR (a : Int) : Int := if Md.inB a = true then (if a = 0 then 0 else M.invI a) else 0

theorem two_yes {a b : Int} (h : twoB a b = true) : Md.Two a b := by
  unfold twoB at h; rw [Bool.and_eq_true] at h; exact ⟨Md.inB_yes h.1, Md.inB_yes h.2⟩
theorem two_no {a b : Int} (h : twoB a b = false) : ¬ Md.Two a b := fun g => by
  unfold twoB Md.inB at h; rw [decide_eq_true g.1, decide_eq_true g.2] at h; exact Bool.noConfusion h

theorem twoE_yes {a b : Int} (h : twoB a b = true) : twoE a b = 0 := by unfold twoE; rw [if_pos h]
theorem twoE_no {a b : Int} (h : twoB a b = false) : twoE a b = 1 := by unfold twoE; rw [h]; rfl
theorem sumR_yes {a b : Int} (h : twoB a b = true) : sumR a b = (a + b) % 257 := by unfold sumR; rw [if_pos h]
theorem sumR_no {a b : Int} (h : twoB a b = false) : sumR a b = 0 := by unfold sumR; rw [h]; rfl
theorem timR_yes {a b : Int} (h : twoB a b = true) : timR a b = a * b % 257 := by unfold timR; rw [if_pos h]
theorem timR_no {a b : Int} (h : twoB a b = false) : timR a b = 0 := by unfold timR; rw [h]; rfl
theorem pow_yes {a n b : Int} (h : powB a n b = true) : Md.Pow a n b := by unfold powB at h; have := of_decide_eq_true h; exact this
theorem pow_no {a n b : Int} (h : powB a n b = false) : ¬ Md.Pow a n b := by unfold powB at h; have := of_decide_eq_false h; exact this
theorem powE_yes {a n b : Int} (h : powB a n b = true) : powE a n b = 0 := by unfold powE; rw [if_pos h]
theorem powE_no {a n b : Int} (h : powB a n b = false) : powE a n b = 1 := by unfold powE; rw [h]; rfl
theorem powR_yes {a n b : Int} (h : powB a n b = true) : powR a n b = M.pwI a n b := by unfold powR; rw [if_pos h]
theorem powR_no {a n b : Int} (h : powB a n b = false) : powR a n b = 0 := by unfold powR; rw [h]; rfl
theorem invE_no {a : Int} (h : Md.inB a = false) : invE a = 1 := by unfold invE; rw [h]; rfl
theorem invR_no {a : Int} (h : Md.inB a = false) : invR a = 0 := by unfold invR; rw [h]; rfl
theorem invE_yes {a : Int} (h : Md.inB a = true) (h0 : a ≠ 0) : invE a = 0 := by unfold invE; rw [if_pos h, if_neg h0]
theorem invR_yes {a : Int} (h : Md.inB a = true) (h0 : a ≠ 0) : invR a = M.invI a := by unfold invR; rw [if_pos h, if_neg h0]

theorem add (a b : Int) (w : World) : Calls Tryd.prog 11 #[.int .i64 a, .int .i64 b] w fun e w' => e = .returned (.tuple #[.int .i64 (sumR a b), errV (twoE a b)]) ∧ w' = w := by
  cases h : twoB a b
  · rw [sumR_no h, twoE_no h]; exact Md.addBad a b w (two_no h)
  · rw [sumR_yes h, twoE_yes h]; exact Md.addOk a b w (two_yes h)
theorem times (a b : Int) (w : World) : Calls Tryd.prog 13 #[.int .i64 a, .int .i64 b] w fun e w' => e = .returned (.tuple #[.int .i64 (timR a b), errV (twoE a b)]) ∧ w' = w := by
  cases h : twoB a b
  · rw [timR_no h, twoE_no h]; exact Md.timesBad a b w (two_no h)
  · rw [timR_yes h, twoE_yes h]; exact Md.timesOk a b w (two_yes h)
theorem pow (a n b : Int) (w : World) : Calls Tryd.prog 15 #[.int .i64 a, .int .i64 n, .int .i64 b] w fun e w' => e = .returned (.tuple #[.int .i64 (powR a n b), errV (powE a n b)]) ∧ w' = w := by
  cases h : powB a n b
  · rw [powR_no h, powE_no h]; exact Md.powBad a n b w (pow_no h)
  · rw [powR_yes h, powE_yes h]; exact Md.powOk a n b w (pow_yes h)
theorem inv (a : Int) (w : World) : Calls Tryd.prog 16 #[.int .i64 a] w fun e w' => e = .returned (.tuple #[.int .i64 (invR a), errV (invE a)]) ∧ w' = w := by
  cases h : Md.inB a
  · rw [invR_no h, invE_no h]; exact Md.invBad a w (Md.inB_no h)
  · by_cases h0 : a = 0
    · subst h0; exact Md.invNone w
    · rw [invR_yes h h0, invE_yes h h0]
      exact Md.invOk a w (by have := Md.inB_yes h; omega) (Md.inB_yes h).2
theorem same (n : Int) (w : World) (hg : Hand w) : Calls Tryd.prog 12 #[errV n, .int .i64 n] w fun e w' => e = .returned (.bool true) ∧ Below w.heap.size w w' := by
  have h := sameErr n n w hg
  have e : (n == n) = true := by simp
  rwa [e] at h

set_option maxRecDepth 100000 in
set_option maxHeartbeats 4000000 in
theorem walk (a b n y : Int) (w : World) (hg : Hand w) : Calls Tryd.prog 5 #[.int .i64 a, .int .i64 b, .int .i64 n, .int .i64 y] w fun e w' => e = .returned (.bool true) ∧ Below w.heap.size w w' := by
  have HG := hide hg
  clear hg
  go_enter Tryd.func5, Tryd.ntmps5
  go_wp2_with fail
  refine (Md.refIn a _).mono ?_
  rintro e w' ⟨rfl, hw⟩
  obtain rfl := hw.symm
  go_wp2_with fail
  refine (Md.refIn b _).mono ?_
  rintro e w' ⟨rfl, hw⟩
  obtain rfl := hw.symm
  go_upto_region 6 with fail
  go_cut [9, 10, 28] (fun p q t wx => p = .bool (Md.inB a) ∧ q = .bool (Md.inB b) ∧ t = .bool (twoB a b) ∧ wx = w)
  case first =>
    cases ha : Md.inB a <;> cases hb : Md.inB b
    all_goals
      have HA := hide ha
      have HB := hide hb
      go_wp2_with fail
      go_meet
      exact ⟨by rw [HA.out], by rw [HB.out], by unfold twoB; rw [HA.out, HB.out]; rfl, rfl⟩
  case rest =>
    obtain ⟨rfl, rfl, rfl, hw⟩ := hcut
    obtain rfl := hw.symm
    go_upto_if 28 with fail
    go_cut [11, 12, 13] (fun e s t wx => e = .int .i64 (twoE a b) ∧ s = .int .i64 (sumR a b) ∧ t = .int .i64 (timR a b) ∧ wx = w)
    case first =>
      cases h : twoB a b
      · have HH := hide h
        go_wp2_with fail
        go_meet
        exact ⟨by rw [twoE_no HH.out], by rw [sumR_no HH.out], by rw [timR_no HH.out], rfl⟩
      · have HH := hide h
        obtain ⟨p0, p1⟩ := Md.times_range (two_yes h)
        obtain ⟨⟨h0, h1⟩, h2, h3⟩ := two_yes h
        go_wp2_with fail
        go_meet
        exact ⟨by rw [twoE_yes HH.out], by rw [sumR_yes HH.out], by rw [timR_yes HH.out], rfl⟩
    case rest =>
      obtain ⟨rfl, rfl, rfl, hw⟩ := hcut
      obtain rfl := hw.symm
      go_wp2_with fail
      refine (add a b _).mono ?_
      rintro e w' ⟨rfl, hw⟩
      obtain rfl := hw.symm
      go_wp2_with fail
      refine (same _ _ HG.out).mono ?_
      rintro e w1 ⟨rfl, hb1⟩
      have HB1 := hide hb1
      clear hb1
      go_wp2_with fail
      refine (times a b _).mono ?_
      rintro e w' ⟨rfl, hw⟩
      obtain rfl := hw.symm
      go_wp2_with fail
      refine (same _ _ (HG.out.stays HB1.out (Nat.le_refl _))).mono ?_
      rintro e w2 ⟨rfl, hb2⟩
      have HB2 := hide (HB1.out.trans (hb2.mono HB1.out.size))
      clear hb2 HB1
      go_upto_region 16 with fail
      go_cut [87] (fun t wx => t = .bool (powB a n y) ∧ wx = w2)
      case first =>
        cases h : powB a n y
        · have HH := hide h
          rcases Md.pow_no (pow_no h) with h1 | ⟨h1, h2⟩ | ⟨h1, h2, h3⟩ | ⟨h1, h2, h3, h4⟩ | ⟨h1, h2, h3, h4, h5⟩ | ⟨h1, h2, h3, h4, h5, h6⟩
          all_goals
            clear h
            go_wp2_with fail
            go_meet
            exact ⟨by rw [HH.out]; try (simp; omega), rfl⟩
        · have HH := hide h
          obtain ⟨h1, h2, h3, h4, h5, h6⟩ := pow_yes h
          clear h
          go_wp2_with fail
          go_meet
          exact ⟨by rw [HH.out], rfl⟩
      case rest =>
        obtain ⟨rfl, hw⟩ := hcut
        obtain rfl := hw.symm
        go_upto_if 87 with fail
        go_cut [11, 18] (fun e x wx => e = .int .i64 (powE a n y) ∧ x = .int .i64 (powR a n y) ∧ wx = w2)
        case first =>
          cases h : powB a n y
          · have HH := hide h
            go_wp2_with fail
            go_meet
            exact ⟨by rw [powE_no HH.out], by rw [powR_no HH.out], rfl⟩
          · have HH := hide h
            have HP := hide (Md.refPowerI a n y w2 (pow_yes h))
            go_wp2_with fail
            refine (unhide HP).mono ?_
            rintro e w' ⟨rfl, hw⟩
            obtain rfl := hw.symm
            go_wp2_with fail
            go_meet
            exact ⟨by rw [powE_yes HH.out], by rw [powR_yes HH.out], rfl⟩
        case rest =>
          obtain ⟨rfl, rfl, hw⟩ := hcut
          obtain rfl := hw.symm
          go_wp2_with fail
          refine (pow a n y _).mono ?_
          rintro e w' ⟨rfl, hw⟩
          obtain rfl := hw.symm
          go_wp2_with fail
          refine (same _ _ (HG.out.stays HB2.out (Nat.le_refl _))).mono ?_
          rintro e w3 ⟨rfl, hb3⟩
          have HB3 := hide (HB2.out.trans (hb3.mono HB2.out.size))
          clear hb3 HB2
          go_upto_if 108 with fail
          go_cut [9, 11, 18] (fun p e x wx => p = .bool (Md.inB a) ∧ e = .int .i64 (invE a) ∧ x = .int .i64 (invR a) ∧ wx = w3)
          case first =>
            cases h : Md.inB a
            · have HH := hide h
              go_wp2_with fail
              go_meet
              exact ⟨by rw [HH.out], by rw [invE_no HH.out], by rw [invR_no HH.out], rfl⟩
            · by_cases h0 : a = 0
              · subst h0
                have HH := hide h
                go_wp2_with fail
                go_meet
                exact ⟨by rw [HH.out], rfl, rfl, rfl⟩
              · have HH := hide h
                have HE0 := hide (invE_yes h h0)
                have HR0 := hide (invR_yes h h0)
                have hz : (a == 0) = false := by simpa using h0
                obtain ⟨g0, g1⟩ := Md.inB_yes h
                have g2 : 0 < a := by omega
                have HU : Hid (M.invI a * a % 257 = 1) := hide (by rw [Int.mul_comm]; exact M.invI_is g2 g1)
                have HR := hide (M.invI_range a)
                clear h0
                go_wp2_with fail
                go_loop [18] (fun sx => ∃ x : Int, sx = .int .i64 x ∧ 0 ≤ x ∧ Hid (x ≤ M.invI a)) (fun sx => (257 - intOf sx).toNat)
                case atStart => exact ⟨0, rfl, Int.le_refl _, hide HR.out.1⟩
                case round =>
                  obtain ⟨x, rfl, hx, HX⟩ := hrel
                  have hx1 : x < 257 := by have := HX.out; have := HR.out; omega
                  obtain ⟨p0, p1⟩ := Md.times_range (a := x) (b := a) ⟨⟨hx, hx1⟩, g0, g1⟩
                  by_cases hd : x * a % 257 = 1
                  · have HE := hide (M.invI_only g2 g1 hx hx1 hd)
                    go_wp2_with fail
                    go_meet
                    exact ⟨by rw [HH.out], by rw [HE0.out], by rw [HR0.out, ← HE.out], rfl⟩
                  · have hd2 : (x * a % 257 != 1) = true := by simpa using hd
                    have HN : Hid (x + 1 ≤ M.invI a) := hide (by
                      have h1 := HX.out
                      have h2 : x ≠ M.invI a := fun e => hd (by rw [e]; exact HU.out)
                      omega)
                    go_wp2_with fail
                    go_round
                    case rel => exact ⟨x + 1, rfl, by omega, HN⟩
                    case measure => simp [intOf]; omega
          case rest =>
            obtain ⟨rfl, rfl, rfl, hw⟩ := hcut
            obtain rfl := hw.symm
            go_wp2_with fail
            refine (inv a _).mono ?_
            rintro e w' ⟨rfl, hw⟩
            obtain rfl := hw.symm
            go_wp2_with fail
            refine (same _ _ (HG.out.stays HB3.out (Nat.le_refl _))).mono ?_
            rintro e w4 ⟨rfl, hb4⟩
            go_wp2_with fail
            go_ret
            exact ⟨by simp, HB3.out.trans (hb4.mono HB3.out.size)⟩

end Go.Proofs.YtlefhfmckimlaadDoor.modTells
