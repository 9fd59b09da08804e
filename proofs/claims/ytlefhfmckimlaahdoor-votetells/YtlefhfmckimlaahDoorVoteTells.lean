/-
  The walk of the Go function VoteTells: it returns true, whatever comes in, if the library's error type reads as its text lays it.
-/
import Derived.Test.YtlefhfmckimlaahDoorVoteRef
import Derived.Test.YtlefhfmckimlaahDoorErrTold
import Derived.BigQuiet
import Derived.Deep.QuietTactic
import Derived.Deep.RegionWith
import Derived.Deep.DeepCutAuto
import Derived.Deep.CutBlock
set_option linter.unusedVariables false
namespace Go.Proofs.YtlefhfmckimlaahDoor.voteTells
open Go.RowKit

theorem win_two {l : List ByteArray} {need : Int} (hr : ¬ (need < 1 ∨ 7 < need)) (h7 : ¬ 7 < l.length) : (∃ h : M.winI l need < l.length, M.winE l need = 0 ∧ M.winS l need = l[M.winI l need]) ∨ (¬ M.winI l need < l.length ∧ M.winE l need = 5 ∧ M.winS l need = ⟨#[]⟩) := by
  by_cases h : M.winI l need < l.length
  · have e := M.winE_hit hr h7 h
    exact Or.inl ⟨h, e, M.winS_hit e h⟩
  · have e := M.winE_none hr h7 h
    exact Or.inr ⟨h, e, M.winS_bad (by rw [e]; decide)⟩

set_option maxRecDepth 100000 in
set_option maxHeartbeats 8000000 in
theorem walk (n : Int) (av : Option Addr) (m cap : Nat) (l : List ByteArray) (need : Int) (w : World) (hm : m = l.length) (hmm : m ≤ maxLen) (hl : AtS w av l) (hg : Hand w) :
    Calls Tryd.prog 3 #[.int .i64 n, .slice av m cap, .int .i64 need] w fun e w' => e = .returned (.bool true) ∧ Below w.heap.size w w' := by
  have HS : Hid (∀ k wx, Below w.heap.size w wx → Calls Tryd.prog 8 #[errV k, .int .i64 k] wx fun e w' => e = .returned (.bool true) ∧ Below wx.heap.size wx w') := hide fun k wx hb => by
    have h := sameErr k k wx (hg.stays hb (Nat.le_refl _))
    have e : (k == k) = true := by simp
    rwa [e] at h
  have HF : Hid (∀ wx, Calls Tryd.prog 7 #[.int .i64 n] wx fun e w' => e = .returned (.tuple #[.int .i64 (M.fltR n), errV (M.fltE n)]) ∧ w' = wx) := hide fun wx => vFaults n wx
  have HW : Hid (∀ wx, Below w.heap.size w wx → Calls Tryd.prog 10 #[.slice av m cap, .int .i64 need] wx fun e w' => e = .returned (.tuple #[.string (M.winS l need), errV (M.winE l need)]) ∧ Below wx.heap.size wx w') := hide fun wx hb => vWin av m cap l need wx hm hmm (hl.stays hb (Nat.le_refl _))
  have HM : Hid (∀ wx, Below w.heap.size w wx → Calls Tryd.prog 11 #[.slice av m cap] wx fun e w' => e = .returned (.tuple #[.int .i64 (M.mostR l), errV (M.mostE l)]) ∧ Below wx.heap.size wx w') := hide fun wx hb => vMost av m cap l wx hm hmm (hl.stays hb (Nat.le_refl _))
  have HR : Hid (m ≤ 7 → ∀ wx, Below w.heap.size w wx → Calls Tryd.prog 9 #[.slice av m cap, .int .i64 need] wx fun e w' => ((∃ h : M.winI l need < l.length, e = .returned (.tuple #[.string l[M.winI l need], .bool true])) ∨ (¬ M.winI l need < l.length ∧ e = .returned (.tuple #[.string ⟨#[]⟩, .bool false]))) ∧ Below wx.heap.size wx w') := hide fun h7 wx hb => refWin av m cap l need wx hm h7 (hl.stays hb (Nat.le_refl _))
  have HL := hide hl
  have HN := hide hm
  unfold maxLen at hmm
  clear hl hm hg
  go_enter Tryd.func3, Tryd.ntmps3
  go_upto_region 3 with fail
  obtain ⟨B, HBd⟩ : ∃ B, Hid (decide (n < 1 ∨ 7 < n) = B) := ⟨_, hide rfl⟩
  go_cut [26] from 21 to 26 (fun c wx => c = .bool B ∧ Hid (Below w.heap.size w wx))
  case first =>
    clear HS HF HW HM HR HL
    by_cases q1 : n < 1
    · have D : Hid (B = true) := hide (HBd.out.symm.trans (decide_eq_true (Or.inl q1)))
      go_wp2_with fail
      go_meet
      case rel => exact ⟨by rw [D.out], hide (Below.refl _ _)⟩
    · have D : Hid (B = decide (7 < n)) := hide (HBd.out.symm.trans (by simp [q1]))
      go_wp2_with fail
      go_meet
      case rel => exact ⟨by rw [D.out], hide (Below.refl _ _)⟩
  case rest =>
    obtain ⟨rfl, hb⟩ := hcut
    go_upto_if 26 with fail
    go_cut [7, 8] from 26 to 29 (fun s v wx => s = .int .i64 (M.fltE n) ∧ v = .int .i64 (M.fltR n) ∧ Hid (Below w.heap.size w wx))
    case first =>
      clear HS HF HW HM HR HL
      cases B
      · have h := of_decide_eq_false HBd.out
        clear HBd
        have E1 := hide (M.fltE_ok h)
        have E2 := hide (M.fltR_ok h)
        rcases (by omega : n = 1 ∨ n = 2 ∨ n = 3 ∨ n = 4 ∨ n = 5 ∨ n = 6 ∨ n = 7) with rfl | rfl | rfl | rfl | rfl | rfl | rfl
        all_goals
          clear h
          go_wp2_with fail
          go_meet
          case rel => exact ⟨by rw [E1.out], by rw [E2.out]; rfl, hb⟩
      · have h := of_decide_eq_true HBd.out
        clear HBd
        have E1 := hide (M.fltE_bad h)
        have E2 := hide (M.fltR_bad h)
        clear h
        go_wp2_with fail
        go_meet
        case rel => exact ⟨by rw [E1.out], by rw [E2.out], hb⟩
    case rest =>
      clear hb HBd
      obtain ⟨rfl, rfl, hb⟩ := hcut
      generalize M.fltE n = FE at *
      generalize M.fltR n = FR at *
      go_wp2_with fail
      refine (HF.out _).mono ?_
      rintro e w1 ⟨rfl, hw⟩
      obtain rfl := hw.symm
      clear HF hw
      go_wp2_with fail
      refine (HS.out FE _ hb.out).mono ?_
      rintro e w2 ⟨rfl, hb2⟩
      have HB2 := hide (hb.out.trans (hb2.mono hb.out.size))
      clear hb2 hb
      go_upto_region 10 with fail
      obtain ⟨B, HBd⟩ : ∃ B, Hid (decide (need < 1 ∨ 7 < need) = B) := ⟨_, hide rfl⟩
      go_cut [48] from 43 to 48 (fun c wx => c = .bool B ∧ Hid (Below w.heap.size w wx))
      case first =>
        clear HS HW HM HR HL
        by_cases q1 : need < 1
        · have D : Hid (B = true) := hide (HBd.out.symm.trans (decide_eq_true (Or.inl q1)))
          go_wp2_with fail
          go_meet
          case rel => exact ⟨by rw [D.out], HB2⟩
        · have D : Hid (B = decide (7 < need)) := hide (HBd.out.symm.trans (by simp [q1]))
          go_wp2_with fail
          go_meet
          case rel => exact ⟨by rw [D.out], HB2⟩
      case rest =>
        clear HB2
        obtain ⟨rfl, hb⟩ := hcut
        go_upto_if 48 with fail
        go_cut [7, 12, 13, 14] from 48 to 60 (fun s v _ _ wx => s = .int .i64 (M.winE l need) ∧ v = .string (M.winS l need) ∧ Hid (Below w.heap.size w wx))
        case first =>
          clear HS HW HM HL
          cases B
          · have h := of_decide_eq_false HBd.out
            clear HBd
            by_cases h7 : 7 < m
            · have e := M.winE_full h (HN.out ▸ h7)
              have E1 := hide e
              have E2 := hide (M.winS_bad (l := l) (need := need) (by rw [e]; decide))
              have h7' : (7 : Int) < m := by omega
              clear h e HR
              go_wp2_with fail
              go_meet
              case rel => exact ⟨by rw [E1.out], by rw [E2.out], hb⟩
            · have h7' : ¬ (7 : Int) < m := by omega
              have HT := hide (win_two h (HN.out ▸ h7))
              have HR7 := hide (HR.out (by omega) _ hb.out)
              clear h HR h7
              go_wp2_with fail
              refine (unhide HR7).mono ?_
              rintro e w3 ⟨he, hb3⟩
              have HB3 := hide (hb.out.trans (hb3.mono hb.out.size))
              clear hb3 HR7
              rcases he with ⟨hw, rfl⟩ | ⟨hw, rfl⟩
              · have HE : Hid (M.winE l need = 0 ∧ M.winS l need = l[M.winI l need]) := hide (by
                  rcases HT.out with ⟨_, h1, h2⟩ | ⟨h1, _⟩
                  · exact ⟨h1, h2⟩
                  · exact absurd hw h1)
                clear HT
                generalize l[M.winI l need] = x at *
                clear hw
                go_wp2_with fail
                go_meet
                case rel => exact ⟨by rw [HE.out.1], by rw [HE.out.2], HB3⟩
              · have HE : Hid (M.winE l need = 5 ∧ M.winS l need = ⟨#[]⟩) := hide (by
                  rcases HT.out with ⟨h1, _⟩ | ⟨_, h1, h2⟩
                  · exact absurd h1 hw
                  · exact ⟨h1, h2⟩)
                clear HT hw
                go_wp2_with fail
                go_meet
                case rel => exact ⟨by rw [HE.out.1], by rw [HE.out.2], HB3⟩
          · have h := of_decide_eq_true HBd.out
            clear HBd
            have e := M.winE_range (l := l) h
            have E1 := hide e
            have E2 := hide (M.winS_bad (l := l) (need := need) (by rw [e]; decide))
            clear h e HR
            go_wp2_with fail
            go_meet
            case rel => exact ⟨by rw [E1.out], by rw [E2.out], hb⟩
        case rest =>
          clear hb HBd HR
          obtain ⟨rfl, rfl, hb⟩ := hcut
          generalize M.winE l need = WE at *
          generalize M.winS l need = WS at *
          go_wp2_with fail
          refine (HW.out _ hb.out).mono ?_
          rintro e w3 ⟨rfl, hb3⟩
          have HB3 := hide (hb.out.trans (hb3.mono hb.out.size))
          clear hb3 hb HW
          go_wp2_with fail
          refine (HS.out WE _ HB3.out).mono ?_
          rintro e w4 ⟨rfl, hb4⟩
          have HB4 := hide (HB3.out.trans (hb4.mono HB3.out.size))
          clear hb4 HB3
          by_cases h7 : 7 < m
          · have h7' : (7 : Int) < m := by omega
            have h0' : (0 : Int) < m := by omega
            have HE : Hid (M.mostE l = 4) := hide (M.mostE_full (HN.out ▸ h7))
            have HE2 : Hid (M.mostR l = 0) := hide (M.mostR_full (HN.out ▸ h7))
            rw [HE.out, HE2.out] at HM
            clear HE HE2 HL h7
            go_wp2_with fail
            go_loopw [8, 17] (fun v i wx => v = .int .i64 0 ∧ i = .int .i64 0 ∧ Hid (Below w.heap.size w wx)) (fun _ _ _ => 0)
            case atStart => exact ⟨rfl, rfl, HB4⟩
            case round =>
              clear HB4
              obtain ⟨rfl, rfl, hb⟩ := hrel
              go_wp2_with fail
              refine (HM.out _ hb.out).mono ?_
              rintro e w5 ⟨rfl, hb5⟩
              have HB5 := hide (hb.out.trans (hb5.mono hb.out.size))
              clear hb5 hb
              go_wp2_with fail
              refine (HS.out 4 _ HB5.out).mono ?_
              rintro e w6 ⟨rfl, hb6⟩
              have HB6 := hide (HB5.out.trans (hb6.mono HB5.out.size))
              clear hb6 HB5
              go_wp2_with fail
              go_ret
              exact ⟨rfl, HB6.out⟩
          · have h7' : ¬ (7 : Int) < m := by omega
            have HE : Hid (M.mostE l = 0) := hide (M.mostE_ok (HN.out ▸ h7))
            have HE2 : Hid (M.mostR l = M.mostN l) := hide (M.mostR_ok (HN.out ▸ h7))
            rw [HE.out, HE2.out] at HM
            clear HE HE2
            go_wp2_with fail
            go_loopw [8, 17] (fun v si wx => ∃ i : Nat, i ≤ m ∧ v = .int .i64 (M.mostT l i) ∧ si = .int .i64 i ∧ Hid (Below w.heap.size w wx)) (fun _ si _ => m - (intOf si).toNat)
            case atStart => exact ⟨0, Nat.zero_le _, rfl, rfl, HB4⟩
            case round =>
              clear HB4
              obtain ⟨i, hi, rfl, rfl, hb⟩ := hrel
              by_cases hlt : i < m
              · have hil : i < l.length := HN.out ▸ hlt
                have ii0 : (0 : Int) ≤ (i : Int) := by omega
                have iin : (i : Int) < (m : Int) := by omega
                obtain ⟨b, off, rfl, hlie⟩ := HL.out (by omega)
                have HLI := hide hlie
                have HNX := hide (M.mostT_next hil)
                have HMT : Hid (M.mostT l i ≤ 7) := hide (Nat.le_trans (M.mostT_le l i) (by have := HN.out; omega))
                obtain ⟨s, hs⟩ : ∃ s, s = l[i] := ⟨_, rfl⟩
                have HSI := hide hs
                rw [← hs] at HNX
                clear hlie hs
                generalize M.mostT l i = wt at *
                go_wp2_with fail
                go_loopw [18, 19] (fun sc sk wx => ∃ k : Nat, k ≤ m ∧ sc = .int .i64 (M.cntV (l.take k) s) ∧ sk = .int .i64 k ∧ Hid (Below w.heap.size w wx)) (fun _ sk _ => m - (intOf sk).toNat)
                case atStart => exact ⟨0, Nat.zero_le _, rfl, rfl, hb⟩
                case round =>
                  clear hb
                  obtain ⟨k, hk, rfl, rfl, hb⟩ := hrel
                  by_cases hkm : k < m
                  · have hkl : k < l.length := HN.out ▸ hkm
                    have ik0 : (0 : Int) ≤ (k : Int) := by omega
                    have ikn : (k : Int) < (m : Int) := by omega
                    obtain ⟨c1, _⟩ := (HLI.out.stays hb.out (Nat.le_refl _)) k hkl
                    obtain ⟨c2, _⟩ := (HLI.out.stays hb.out (Nat.le_refl _)) i hil
                    rw [← HSI.out] at c2
                    have hq : M.cntV (l.take k) s ≤ 7 := Nat.le_trans (M.cntV_le _ _) (by rw [List.length_take]; omega)
                    have HX : Hid (∀ b, (l[k].toList == s.toList) = b → M.cntV (l.take (k + 1)) s = M.cntV (l.take k) s + if b = true then 1 else 0) := hide fun b hb => cntV_more hkl rfl hb
                    generalize l[k] = x at *
                    generalize M.cntV (l.take k) s = q at *
                    cases hxs : (x.toList == s.toList)
                    · have HE : Hid (M.cntV (l.take (k + 1)) s = q) := hide (by rw [HX.out _ hxs]; rfl)
                      clear HX
                      go_wp2_with fail
                      go_quiet (fail)
                      go_wp2
                      go_roundw
                      case rel => exact ⟨k + 1, by omega, by rw [HE.out], by go_num, hide (Go.below_drewN hb.out _)⟩
                      case measure => simp [intOf]; omega
                    · have HE : Hid (M.cntV (l.take (k + 1)) s = q + 1) := hide (by rw [HX.out _ hxs]; rfl)
                      clear HX
                      go_wp2_with fail
                      go_quiet (fail)
                      go_wp2
                      go_roundw
                      case rel => exact ⟨k + 1, by omega, by rw [HE.out]; simp, by go_num, hide (Go.below_drewN hb.out _)⟩
                      case measure => simp [intOf]; omega
                  · have HC : Hid (M.cntV (l.take k) s = M.cntV l s) := hide (M.cntV_take_full (by have := HN.out; omega) s)
                    rw [HC.out]
                    have hq : M.cntV l s ≤ 7 := Nat.le_trans (M.cntV_le _ _) (by have := HN.out; omega)
                    generalize M.cntV l s = q at *
                    by_cases hqw : (wt : Int) < q
                    · have HX : Hid (M.mostT l (i + 1) = q) := hide (by rw [HNX.out]; exact Nat.max_eq_right (by omega))
                      clear HC HNX
                      go_wp2_with fail
                      go_roundw
                      case rel => exact ⟨i + 1, by omega, by rw [HX.out], by go_num, hb⟩
                      case measure => simp [intOf]; omega
                    · have HX : Hid (M.mostT l (i + 1) = wt) := hide (by rw [HNX.out]; exact Nat.max_eq_left (by omega))
                      clear HC HNX
                      go_wp2_with fail
                      go_roundw
                      case rel => exact ⟨i + 1, by omega, by rw [HX.out], by go_num, hb⟩
                      case measure => simp [intOf]; omega
              · have HX : Hid (M.mostT l i = M.mostN l) := hide (by unfold M.mostN; rw [← HN.out, show i = m by omega])
                rw [HX.out]
                generalize M.mostN l = q at HM ⊢
                clear HX
                go_wp2_with fail
                refine (HM.out _ hb.out).mono ?_
                rintro e w5 ⟨rfl, hb5⟩
                have HB5 := hide (hb.out.trans (hb5.mono hb.out.size))
                clear hb5 hb
                go_wp2_with fail
                refine (HS.out 0 _ HB5.out).mono ?_
                rintro e w6 ⟨rfl, hb6⟩
                have HB6 := hide (HB5.out.trans (hb6.mono HB5.out.size))
                clear hb6 HB5
                go_wp2_with fail
                go_ret
                exact ⟨by simp, HB6.out⟩

end Go.Proofs.YtlefhfmckimlaahDoor.voteTells
