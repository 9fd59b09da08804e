/-
  The walk of the Go function LogStops: it returns true, whatever comes in.
-/
import Derived.Test.YtlefhfmckimlaajGreatDoorLogStopsA
set_option linter.unusedVariables false
namespace Go.Proofs.YtlefhfmckimlaajGreatDoor.logStops
open Go.RowKit
attribute [local go_sem ↓] Go.wp_at_zero Go.wp_at_succ

theorem At.same {w wx : World} {J : Nat} {g : M.Lg} (h : At w wx J g) (hg : Hand w) (E d : Int) : Calls Tryz.prog 11 #[errV E, .int .i64 d] wx fun e w' => e = .returned (.bool (E == d)) ∧ At w w' J g :=
  (sameErr E d wx (hg.stays h.2 (Nat.le_refl _))).mono fun _ _ he => ⟨he.1, h.quiet he.2⟩

set_option maxRecDepth 100000 in
set_option maxHeartbeats 2000000 in
theorem walk_bad (a m keep : Int) (w : World) (h : a < 0 ∨ (¬ a < 0 ∧ 15 < a) ∨ (¬ a < 0 ∧ ¬ 15 < a ∧ m < 0) ∨ (¬ a < 0 ∧ ¬ 15 < a ∧ ¬ m < 0 ∧ 15 < m)) :
    Calls Tryz.prog 4 #[.int .i64 a, .int .i64 m, .int .i64 keep] w fun e w' => e = .returned (.bool true) ∧ Below w.heap.size w w' := by
  have HN := hide (log1 w)
  rcases h with h1 | ⟨h1, h2⟩ | ⟨h1, h2, h3⟩ | ⟨h1, h2, h3, h4⟩
  all_goals
    go_enter Tryz.func4, Tryz.ntmps4
    go_wp2_with fail
    refine (unhide HN).mono ?_
    rintro e w2 ⟨J, F, rfl, hJ, hb2⟩
    have HB2 := hide hb2
    clear hJ hb2 HN
    go_wp2_with fail
    go_ret
    exact ⟨rfl, HB2.out⟩

set_option maxRecDepth 100000 in
set_option maxHeartbeats 4000000 in
theorem walk_ok (a m : Nat) (keep : Int) (w : World) (ha : a ≤ 15) (hm : m ≤ 15) (hg : Hand w) (ht : Tab w) :
    Calls Tryz.prog 4 #[.int .i64 a, .int .i64 m, .int .i64 keep] w fun e w' => e = .returned (.bool true) ∧ Below w.heap.size w w' := by
  have HN := hide (log1 w)
  have HH := hide hg
  have HT := hide ht
  have g1 : ¬ (a : Int) < 0 := by omega
  have g2 : ¬ (15 : Int) < (a : Int) := by omega
  have g3 : ¬ (m : Int) < 0 := by omega
  have g4 : ¬ (15 : Int) < (m : Int) := by omega
  clear hg ht
  go_enter Tryz.func4, Tryz.ntmps4
  go_wp2_with fail
  refine (unhide HN).mono ?_
  rintro e w2 ⟨J, F, rfl, hJ, hb2⟩
  have HF := hide (At.fail (w := w) ⟨⟨F, hJ⟩, hb2⟩ (a : Int) (by omega))
  clear hJ hb2 HN
  go_wp2_with fail
  refine (unhide HF).mono ?_
  rintro e w3 ⟨rfl, hA⟩
  have HA := hide hA
  clear hA HF
  go_wp2_with fail
  go_loopw [9, 10] (fun s9 s10 wr => ∃ (i : Nat) (g : M.Lg), s9 = .int .i64 i ∧ s10 = .int .i64 i ∧ i ≤ m ∧ Hid (At w wr J g) ∧ Hid (Lo a i g)) (fun _ s10 _ => m - (intOf s10).toNat)
  case atStart => exact ⟨0, _, rfl, rfl, Nat.zero_le _, HA, hide (Lo.start a)⟩
  case round =>
    clear HA
    obtain ⟨i, g, rfl, rfl, him, hA, hL⟩ := hrel
    by_cases hlt : i < m
    · have i1 : (i : Int) < (m : Int) := by omega
      have HB := hide (hA.out.bad ((i : Int) + 1) HT.out)
      go_wp2_with fail
      refine (unhide HB).mono ?_
      rintro e w4 ⟨k0, _, rfl, hA4⟩
      have hst := fun k => Lo.step hA.out.ok hL.out ha (show i < 15 by omega) k0 k
      rw [(hst 2).1] at hA4
      have HST := hide hst
      have HA4 := hide hA4
      obtain ⟨E1, hE1⟩ : ∃ E1, E1 = (M.lgDo R1 g (xB ((i : Int) + 1)) k0).1 := ⟨_, rfl⟩
      rw [← hE1] at HST ⊢
      clear hst hA4 hE1 HB
      generalize (M.lgDo R1 g (xB ((i : Int) + 1)) k0).2.1 = s1
      have HP := hide (HA4.out.put 1 ((i : Int) + 1) (i : Int) HT.out)
      go_wp2_with fail
      refine (unhide HP).mono ?_
      rintro e w5 ⟨k, _, rfl, hA5⟩
      obtain ⟨_, hL5, hways⟩ := HST.out k
      obtain ⟨E2, hE2⟩ : ∃ E2, E2 = (M.lgDo R1 g (xP 1 ((i : Int) + 1) i) k).1 := ⟨_, rfl⟩
      obtain ⟨g5, hg5⟩ : ∃ g5, g5 = (M.lgDo R1 g (xP 1 ((i : Int) + 1) i) k).2.2 := ⟨_, rfl⟩
      rw [← hE2] at hways ⊢
      rw [← hg5] at hA5 hL5
      have HA5 := hide hA5
      have HL5 := hide hL5
      have HW := hide hways
      clear hA5 hL5 hways hE2 hg5 HST HP HA4
      generalize (M.lgDo R1 g (xP 1 ((i : Int) + 1) i) k).2.1 = s2
      have HS1 := hide (HA5.out.same HH.out E1 6)
      go_wp2_with fail
      refine (unhide HS1).mono ?_
      rintro e w6 ⟨rfl, hA6⟩
      have HS2 := hide (hA6.same HH.out E1 5)
      clear hA6 HS1
      go_wp2_with fail
      refine (unhide HS2).mono ?_
      rintro e w7 ⟨rfl, hA7⟩
      have HS3 := hide (hA7.same HH.out E2 6)
      clear hA7 HS2
      go_wp2_with fail
      refine (unhide HS3).mono ?_
      rintro e w8 ⟨rfl, hA8⟩
      have HA8 := hide hA8
      clear hA8 HS3 HA5
      rcases HW.out with ⟨q, rfl, rfl⟩ | ⟨q, rfl, rfl⟩ | ⟨q, rfl, rfl⟩
      · rw [errV_bad (show (6 : Int) ≠ 0 by decide)]
        have q1 : (a : Int) < (i : Int) := by omega
        have q2 : ¬ (i : Int) ≤ (a : Int) := by omega
        have q3 : ((i : Int) == (a : Int)) = false := by simp; omega
        have q4 : ¬ (i : Int) < (a : Int) := by omega
        clear HW q
        go_wp2_with fail
        go_roundw
        case rel => exact ⟨i + 1, g5, by go_num, by go_num, by omega, HA8, HL5⟩
        case measure => simp [intOf]; omega
      · rw [errV_bad (show (5 : Int) ≠ 0 by decide), errV_bad (show (6 : Int) ≠ 0 by decide)]
        have q1 : ¬ (a : Int) < (i : Int) := by omega
        have q2 : (i : Int) ≤ (a : Int) := by omega
        have q3 : ((i : Int) == (a : Int)) = true := by simp; omega
        have q4 : ¬ (i : Int) < (a : Int) := by omega
        clear HW q
        go_wp2_with fail
        go_roundw
        case rel => exact ⟨i + 1, g5, by go_num, by go_num, by omega, HA8, HL5⟩
        case measure => simp [intOf]; omega
      · rw [errV_bad (show (5 : Int) ≠ 0 by decide), show errV 0 = Value.nilIface from rfl]
        have q1 : ¬ (a : Int) < (i : Int) := by omega
        have q2 : (i : Int) ≤ (a : Int) := by omega
        have q3 : ((i : Int) == (a : Int)) = false := by simp; omega
        have q4 : (i : Int) < (a : Int) := by omega
        clear HW q
        go_wp2_with fail
        go_roundw
        case rel => exact ⟨i + 1, g5, by go_num, by go_num, by omega, HA8, HL5⟩
        case measure => simp [intOf]; omega
    · have i1 : ¬ (i : Int) < (m : Int) := by omega
      have hSG := hide hL.out.sg
      clear hL
      go_wp2_with fail
      go_loopw [9] (fun s9 wx => ∃ (j : Nat) (g' : M.Lg), s9 = .int .i64 j ∧ j ≤ 16 ∧ Hid (At w wx J g') ∧ Hid (Sg a j g')) (fun s9 _ => 16 - (intOf s9).toNat)
      case atStart => exact ⟨i, g, rfl, by omega, hA, hSG⟩
      case round =>
        clear hA hSG
        obtain ⟨wz, rfl⟩ : ∃ wz, wz = wr := ⟨_, rfl⟩
        obtain ⟨j, g', rfl, hj, hA, hS⟩ := hrel
        have HY := hide (Sg.sync hA.out.ok hS.out)
        have HSY := hide hA.out.sync
        by_cases hja : j ≤ a
        · have j1 : (j : Int) ≤ (a : Int) := by omega
          obtain ⟨g2', hg2'⟩ : ∃ g2', g2' = (M.lgSync g').2 := ⟨_, rfl⟩
          have hE := HY.out.2
          have HS2 := hide HY.out.1
          rw [← hg2'] at HSY HS2
          rw [hE] at HSY
          clear HY hE hg2'
          by_cases hje : j = a
          · rw [if_pos (by omega), errV_bad (show (6 : Int) ≠ 0 by decide)] at HSY
            have j2 : ((j : Int) == (a : Int)) = true := by simp; omega
            go_wp2_with fail
            refine (unhide HSY).mono ?_
            rintro e w4 ⟨rfl, hA4⟩
            have HA4 := hide hA4
            clear hA4 HSY
            go_wp2_with fail
            go_roundw
            case rel => exact ⟨j + 1, g2', by go_num, by omega, HA4, HS2⟩
            case measure => simp [intOf]; omega
          · rw [if_neg (by omega)] at HSY
            have HSZ : Hid (Calls Tryz.prog 15 #[.pointer (some ⟨J, 0, none⟩)] wz fun e w' => e = .returned .nilIface ∧ At w w' J g2') := HSY
            have j2 : ((j : Int) == (a : Int)) = false := by simp; omega
            clear HSY
            go_wp2_with fail
            refine (unhide HSZ).mono ?_
            rintro e w4 ⟨rfl, hA4⟩
            have HA4 := hide hA4
            clear hA4 HSZ
            go_wp2_with fail
            go_roundw
            case rel => exact ⟨j + 1, g2', by go_num, by omega, HA4, HS2⟩
            case measure => simp [intOf]; omega
        · have j1 : ¬ (j : Int) ≤ (a : Int) := by omega
          have hstop : g'.stop = true := by rw [hS.out.st]; exact decide_eq_true (by omega)
          have e6 : M.lgSync g' = (6, g') := by unfold M.lgSync; rw [if_pos hstop]
          rw [e6, errV_bad (show (6 : Int) ≠ 0 by decide)] at HSY
          have HDO : Hid (∀ k, M.lgDo R1 g' (xP 2 1 3) k = (6, M.sNo, g')) := hide fun k => M.lgDo_stop hstop
          have HGO := hide (fun k => Sg.goes hA.out.ok hS.out keep k)
          clear HY e6 hstop hS hj
          go_wp2_with fail
          refine (unhide HSY).mono ?_
          rintro e w4 ⟨rfl, hA4⟩
          have HP := hide (hA4.put 2 1 3 HT.out)
          clear hA4 HSY hA
          go_wp2_with fail
          refine (unhide HP).mono ?_
          rintro e w5 ⟨k, _, rfl, hA5⟩
          rw [HDO.out k] at hA5 ⊢
          have HS1 := hide (hA5.same HH.out 6 6)
          rw [errV_bad (show (6 : Int) ≠ 0 by decide)] at HS1 ⊢
          clear hA5 HP HDO
          go_wp2_with fail
          refine (unhide HS1).mono ?_
          rintro e w6 ⟨rfl, hA6⟩
          have HS2 := hide (hA6.same HH.out 6 6)
          rw [errV_bad (show (6 : Int) ≠ 0 by decide)] at HS2
          clear hA6 HS1
          go_wp2_with fail
          refine (unhide HS2).mono ?_
          rintro e w7 ⟨rfl, hA7⟩
          have HC := hide (hA7.crash keep HT.out)
          clear hA7 HS2
          go_wp2_with fail
          refine (unhide HC).mono ?_
          rintro e w8 ⟨rfl, hA8⟩
          have HM := hide (hA8.mark HT.out)
          clear hA8 HC
          go_wp2_with fail
          refine (unhide HM).mono ?_
          rintro e w9 ⟨rfl, hA9⟩
          have HP2 := hide (hA9.put 2 1 3 HT.out)
          have HN9 : Hid ((M.lgCrash g' keep).cop.n ≤ 31) := hide (by have := hA9.ok.cop_ok.2; have := hA9.ok.len; have := hA9.ok.few; omega)
          clear hA9 HM
          go_wp2_with fail
          refine (unhide HP2).mono ?_
          rintro e w10 ⟨k2, _, rfl, hA10⟩
          obtain ⟨r1, r2, r3, r4, r5, r6⟩ := HGO.out k2
          rw [r1, r2, show errV 0 = Value.nilIface from rfl]
          have HSY2 := hide hA10.sync
          obtain ⟨g9, hg9⟩ : ∃ g9, g9 = (M.lgSync (M.lgDo R1 (M.lgCrash g' keep) (xP 2 1 3) k2).2.2).2 := ⟨_, rfl⟩
          obtain ⟨nn, hnn⟩ : ∃ nn, nn = (M.lgCrash g' keep).cop.n := ⟨_, rfl⟩
          rw [r4, ← hg9] at HSY2
          rw [← hg9, ← hnn] at r5
          rw [← hg9] at r6
          rw [← hnn] at HN9 ⊢
          generalize M.mark (M.lgCrash g' keep).cop.l = mk1
          have HSY3 : Hid (Calls Tryz.prog 15 #[.pointer (some ⟨J, 0, none⟩)] w10 fun e w' => e = .returned .nilIface ∧ At w w' J g9) := HSY2
          have HR5 := hide r5
          have HR6 := hide r6
          have hn31 := HN9.out
          clear r1 r2 r3 r4 r5 r6 hA10 HP2 HGO hg9 hnn HSY2 HN9
          simp only [M.sOk]
          go_wp2_with fail
          refine (unhide HSY3).mono ?_
          rintro e w11 ⟨rfl, hA11⟩
          have HM2 := hide (hA11.mark HT.out)
          rw [HR5.out] at HM2
          clear hA11 HSY3
          go_wp2_with fail
          refine (unhide HM2).mono ?_
          rintro e w12 ⟨rfl, hA12⟩
          have HSF := hide hA12.safe
          rw [HR6.out] at HSF
          clear hA12 HM2
          go_wp2_with fail
          refine (unhide HSF).mono ?_
          rintro e w13 ⟨rfl, hA13⟩
          have HBY := hide hA13.bytes
          clear hA13 HSF
          go_wp2_with fail
          refine (unhide HBY).mono ?_
          rintro e w14 ⟨rfl, hA14⟩
          have HA14 := hide hA14
          clear hA14 HBY
          go_wp2_with fail
          go_ret
          exact ⟨rfl, HA14.out.2⟩

theorem walk (a m keep : Int) (w : World) (hg : Hand w) (ht : Tab w) :
    Calls Tryz.prog 4 #[.int .i64 a, .int .i64 m, .int .i64 keep] w fun e w' => e = .returned (.bool true) ∧ Below w.heap.size w w' := by
  by_cases h : (0 ≤ a ∧ a ≤ 15) ∧ 0 ≤ m ∧ m ≤ 15
  · obtain ⟨a', rfl⟩ : ∃ a' : Nat, a = a' := ⟨a.toNat, by omega⟩
    obtain ⟨m', rfl⟩ : ∃ m' : Nat, m = m' := ⟨m.toNat, by omega⟩
    exact walk_ok a' m' keep w (by omega) (by omega) hg ht
  · exact walk_bad a m keep w (by omega)

end Go.Proofs.YtlefhfmckimlaajGreatDoor.logStops
