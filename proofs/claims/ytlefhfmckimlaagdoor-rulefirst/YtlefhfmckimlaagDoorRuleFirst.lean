/-
  The walk of the Go function RuleFirst: it returns true, whatever comes in, if the library's error type reads as its text lays it and the rules are not too many for any memory.
-/
import Derived.Test.YtlefhfmckimlaagDoorRuleFirstA
import Derived.Test.YtlefhfmckimlaagDoorRuleFind
import Derived.Test.YtlefhfmckimlaagDoorRuleOwn
import Derived.Test.YtlefhfmckimlaagDoorAppTidy
import Derived.Test.YtlefhfmckimlaagDoorErrTold
import Derived.Deep.AppendLies
import Derived.Deep.RegionWith
import Derived.Deep.DeepCutAuto
import Derived.Deep.CutBlock
set_option linter.unusedVariables false
namespace Go.Proofs.YtlefhfmckimlaagDoor.ruleFirst
open Go.RowKit

set_option maxRecDepth 100000 in
set_option maxHeartbeats 8000000 in
theorem walk (av : Option Addr) (n cap : Nat) (l : List M.Rul) (who deed : Int) (ta : Option Addr) (tn tc : Nat) (t : List M.Val) (bv : Option Addr) (m bc : Nat) (more : List M.Rul) (my : Bool) (w : World)
    (hn : n = l.length) (hnm : n ≤ maxLen) (hl : AtR w av l) (hlt : av = none → n = 0 ∧ cap = 0) (ht : IsVals w (.slice ta tn tc) t) (hm : m = more.length) (hmt : bv = none → m = 0 ∧ bc = 0) (hmo : AtR w bv more) (hsz : m * 48 ≤ 140737488351232) (hg : Hand w) :
    Calls Tryd.prog 7 #[.slice av n cap, .int .i64 who, .int .i64 deed, .slice ta tn tc, .slice bv m bc, .bool my] w fun e w' => e = .returned (.bool true) ∧ Below w.heap.size w w' := by
  obtain ⟨i0, hi, hz0, hz1, hz2⟩ := info_parts infoR
  have HI := hide (And.intro hi (And.intro hz0 (And.intro hz1 hz2)))
  have HS1 := hide (start1 w)
  have HS2 := hide (start2 w)
  have HMAY : Hid (∀ wx a k c L, Below w.heap.size w wx → k = L.length → k ≤ maxLen → AtR wx a L → Calls Tryd.prog 25 #[.slice a k c, .int .i64 who, .int .i64 deed, .slice ta tn tc] wx fun e w' => e = .returned (.tuple #[.bool (M.mayR L who deed t), errV (M.mayE L who deed t)]) ∧ Below wx.heap.size wx w') := hide fun wx a k c L hb h1 h2 h3 => rMay a k c L who deed _ t wx h1 h2 h3 (ht.stays hb (Nat.le_refl _))
  have hM : ∀ wx, Below w.heap.size w wx → Calls Tryd.prog 25 #[.slice av n cap, .int .i64 who, .int .i64 deed, .slice ta tn tc] wx fun e w' => e = .returned (.tuple #[.bool (M.mayR l who deed t), errV (M.mayE l who deed t)]) ∧ Below wx.heap.size wx w' := fun wx hb => HMAY.out wx av n cap l hb hn hnm (hl.stays hb (Nat.le_refl _))
  have HFIR : Hid (∀ wx, Below w.heap.size w wx → Calls Tryd.prog 27 #[.slice av n cap, .int .i64 who, .int .i64 deed, .slice ta tn tc] wx fun e w' => e = .returned (.tuple #[.int .i64 (M.firR l who deed t), errV (M.firE l who deed t)]) ∧ Below wx.heap.size wx w') := hide fun wx hb => rFirst av n cap l who deed _ t wx hn hnm (hl.stays hb (Nat.le_refl _)) (ht.stays hb (Nat.le_refl _))
  have HSAM : Hid (∀ wx, Below w.heap.size w wx → Calls Tryd.prog 21 #[.iface 64 (.int .i64 5), .int .i64 5] wx fun e w' => e = .returned (.bool true) ∧ Below wx.heap.size wx w') := hide fun wx hb => by
    have := sameErr 5 5 wx (hg.stays hb (Nat.le_refl _))
    rwa [errV_bad (by decide)] at this
  obtain ⟨xl, rl, cl⟩ := hl.row
  obtain ⟨xm, rm, cm⟩ := hmo.row
  have HRL := hide rl
  have HRM := hide rm
  have HCL : Hid (∀ wx, Below w.heap.size w wx → ∀ ad, av = some ad → ∀ j u, xl[j]? = some u → wx.cell? (ad.add j) = some u) := hide fun wx hb ad he j u hu => by
    have h1 := cl ad he j u hu
    exact (hb.cell (p := ad.add j) (World.block_lt_of_cell? w _ h1)).trans h1
  have HCM : Hid (∀ wx, Below w.heap.size w wx → ∀ ad, bv = some ad → ∀ j u, xm[j]? = some u → wx.cell? (ad.add j) = some u) := hide fun wx hb ad he j u hu => by
    have h1 := cm ad he j u hu
    exact (hb.cell (p := ad.add j) (World.block_lt_of_cell? w _ h1)).trans h1
  have HRT : Hid (∀ wx, Below w.heap.size w wx → RowR wx [.int .i64 deed, .int .i64 who, .slice ta tn tc, .bool my] [⟨deed, who, t, my⟩]) := hide fun wx hb => rowR_one ⟨deed, who, t, my⟩ (ht.stays hb (Nat.le_refl _))
  have HLIT : Hid (∀ W : World, w.heap.size ≤ W.heap.size → (W.alloc (.cells #[.int .i64 deed, .int .i64 who, .slice ta tn tc, .bool my] 58)).ownsRow w.heap.size 58 4 (.slice (some ⟨W.heap.size, 0, none⟩) 1 1) 1 (#[Value.int .i64 deed, .int .i64 who, .slice ta tn tc, .bool my] : Array Value).toList) := hide fun W h => World.ownsRow_lit W #[.int .i64 deed, .int .i64 who, .slice ta tn tc, .bool my] 1 h (by unfold maxLen; decide) rfl
  have HXL : Hid (xl.length = n * 4) := hide (by rw [rl.len, hn])
  have HXM : Hid (xm.length = m * 4) := hide (by rw [rm.len, hm])
  have HOL := hide rl.oneCell
  have HOM := hide rm.oneCell
  have HLT := hide hlt
  have HMT := hide hmt
  have HLEN := hide hn
  have HMLEN := hide hm
  have HL := hide hl
  clear hi hz0 hz1 hz2 rl rm cl cm hlt hmt hn hm ht hg hl hmo
  by_cases hE : M.mayE l who deed t = 0
  · rw [hE] at hM
    have HM : Hid (∀ wx, Below w.heap.size w wx → Calls Tryd.prog 25 #[.slice av n cap, .int .i64 who, .int .i64 deed, .slice ta tn tc] wx fun e w' => e = .returned (.tuple #[.bool (M.mayR l who deed t), .nilIface]) ∧ Below wx.heap.size wx w') := hide hM
    clear hM
    have h8 : n ≤ 8 := by rw [HLEN.out]; exact (M.rulE_ok (M.mayE_ok hE).1).1
    have HF : Hid ((M.firE l who deed t = 0 ∧ (∃ p : Nat, M.firR l who deed t = (p : Int) ∧ p < n ∧ ∀ wx, Below w.heap.size w wx → ∃ b off, av = some ⟨b, off, none⟩ ∧ wx.cell? ⟨b, off + p * 4 + 3, none⟩ = some (.bool (M.mayR l who deed t)))) ∨ (M.firE l who deed t = 5 ∧ M.mayR l who deed t = false)) := hide (by
      by_cases hs : M.spotR l who deed t < l.length
      · refine Or.inl ⟨M.firE_hit hE hs, M.spotR l who deed t, M.firR_hit (M.firE_hit hE hs), by rw [HLEN.out]; exact hs, fun wx hb => ?_⟩
        obtain ⟨b, off, e, hlie⟩ := HL.out (by omega)
        exact ⟨b, off, e, by rw [M.mayR_hit hE hs]; exact ((hlie.stays hb (Nat.le_refl _)) _ hs).2.2.2⟩
      · exact Or.inr ⟨M.firE_none hE hs, M.mayR_none hE hs⟩)
    have HMORE : Hid (M.firE l who deed t = 0 → M.mayE (l ++ more) who deed t = 0 → M.mayR (l ++ more) who deed t = M.mayR l who deed t) := hide fun h1 h2 => M.may_more h1 h2
    have HAHD : Hid (M.mayE (⟨deed, who, t, my⟩ :: l) who deed t = 0 → M.mayR (⟨deed, who, t, my⟩ :: l) who deed t = my) := hide fun h => M.may_ahead h
    clear hE HL
    generalize M.mayR l who deed t = is at *
    generalize M.firE l who deed t = F at *
    generalize M.firR l who deed t = r at *
    go_enter Tryd.func7, Tryd.ntmps7
    go_wp2_with fail
    refine (unhide HS1).mono ?_
    rintro e w1 ⟨rfl, hb1⟩
    have HB1 := hide hb1
    clear hb1 HS1
    go_wp2_with fail
    refine (HS2.out _ HB1.out).mono ?_
    rintro e w2 ⟨rfl, hb2⟩
    have HB2 := hide hb2
    clear hb2 HS2 HB1
    go_wp2_with fail
    refine (HM.out _ HB2.out).mono ?_
    rintro e w3 ⟨rfl, hb3⟩
    have HB3 := hide (HB2.out.trans (hb3.mono HB2.out.size))
    clear hb3 HB2 HM
    go_wp2_with fail
    refine (HFIR.out _ HB3.out).mono ?_
    rintro e w4 ⟨rfl, hb4⟩
    have HB4 := hide (HB3.out.trans (hb4.mono HB3.out.size))
    clear hb4 HB3 HFIR
    go_upto_region 10 with fail
    go_cut [84] from 75 to 84 (fun c wx => c = .bool false ∧ Hid (Below w.heap.size w wx))
    case first =>
      clear HMORE HAHD HMAY HRL HRM HCL HCM HRT HLT HMT HLEN HMLEN HI HLIT HXL HXM HOL HOM
      rcases HF.out with ⟨h1, _⟩ | ⟨h1, h2⟩
      · subst h1
        rw [show errV 0 = .nilIface from rfl]
        clear HF HSAM
        go_wp2_with fail
        go_meet
        case rel => exact ⟨rfl, HB4⟩
      · subst h1 h2
        rw [show errV 5 = .iface 64 (.int .i64 5) from errV_bad (by decide)]
        clear HF
        go_wp2_with fail
        refine (HSAM.out _ HB4.out).mono ?_
        rintro e w5 ⟨rfl, hb5⟩
        have HB5 := hide (HB4.out.trans (hb5.mono HB4.out.size))
        clear hb5
        go_wp2_with fail
        go_meet
        case rel => exact ⟨rfl, HB5⟩
    case rest =>
      clear HB4 HSAM
      obtain ⟨rfl, hb⟩ := hcut
      go_wp2_with (at_builtin; refine append_tidy _ rfl (.tmp 85) (.tmp 86) 47 rfl w.heap.size 58 i0 (.agg #[.int .i64 0, .int .i64 0, .slice none 0 0, .bool false]) 4 48 Tryd.underlying47 HI.out.1 HI.out.2.1 HI.out.2.2.1 HI.out.2.2.2 rfl (by decide) (.slice none 0 0) 0 [] rfl (World.ownsRow_nil _ _ _ _) av n cap xl rfl HLT.out HXL.out (HCL.out _ hb.out) HOL.out (by unfold maxLen; omega) (by omega) hb.out.size ?_)
      intro v1 w5 hown hgrow
      have HB5 := hide (hb.out.grown hgrow hb.out.size (fun k hk => by cases hk))
      have HO1 := hide hown
      clear hown hgrow hb
      go_wp2_with (at_builtin; refine append_tidy _ rfl (.tmp 88) (.tmp 89) 47 rfl w.heap.size 58 i0 (.agg #[.int .i64 0, .int .i64 0, .slice none 0 0, .bool false]) 4 48 Tryd.underlying47 HI.out.1 HI.out.2.1 HI.out.2.2.1 HI.out.2.2.2 rfl (by decide) v1 n xl rfl HO1.out bv m bc xm rfl HMT.out HXM.out (HCM.out _ HB5.out) HOM.out (by unfold maxLen; omega) (by omega) HB5.out.size ?_)
      intro v2 w6 hown hgrow
      have HB6 := hide (HB5.out.grown hgrow HB5.out.size (fun k hk => (HO1.out.lt k hk).1))
      have hlen : n + m = (l ++ more).length := by rw [List.length_append, HLEN.out, HMLEN.out]
      obtain ⟨a6, c6, rfl, hat⟩ := atR_own (l := l ++ more) hlen (RowR.append (RowR.stays HB6.out (Nat.le_refl _) HRM.out) (RowR.stays HB6.out (Nat.le_refl _) HRL.out)) hown
      have HC6 := hide (HMAY.out _ a6 (n + m) c6 (l ++ more) HB6.out hlen (by unfold maxLen; omega) hat)
      clear hown hgrow hat hlen HB5 HO1 HRM HCM HMT HMLEN HXM HOM
      generalize M.mayE (l ++ more) who deed t = E2 at HC6 HMORE
      generalize M.mayR (l ++ more) who deed t = b2 at HC6 HMORE
      obtain ⟨x2, hx⟩ : ∃ x, x = errV E2 := ⟨_, rfl⟩
      rw [← hx] at HC6
      have HXx2 := hide hx
      clear hx
      go_wp2_with fail
      refine (unhide HC6).mono ?_
      rintro e w7 ⟨rfl, hb7⟩
      have HB7 := hide (HB6.out.trans (hb7.mono HB6.out.size))
      clear hb7 HB6 HC6
      go_upto_region 16 with fail
      go_cut [109] from 99 to 109 (fun c wx => c = .bool false ∧ Hid (Below w.heap.size w wx))
      case first =>
        clear HAHD HMAY HRL HCL HRT HLT HLEN HI HXL HOL
        by_cases h2 : E2 = 0
        · rcases HF.out with ⟨h1, _⟩ | ⟨h1, _⟩
          · have hbi := HMORE.out h1 h2
            have hx : x2 = .nilIface := by rw [HXx2.out, h2]; rfl
            clear HF HMORE HXx2
            subst h1 h2 hbi hx
            rw [show errV 0 = .nilIface from rfl]
            go_wp2_with fail
            go_meet
            case rel => exact ⟨by simp, HB7⟩
          · have hx : x2 = .nilIface := by rw [HXx2.out, h2]; rfl
            clear HF HMORE HXx2
            subst h1 h2 hx
            rw [show errV 5 = .iface 64 (.int .i64 5) from errV_bad (by decide)]
            go_wp2_with fail
            go_meet
            case rel => exact ⟨rfl, HB7⟩
        · have hx : x2 = .iface 64 (.int .i64 E2) := by rw [HXx2.out, errV_bad h2]
          clear HF HMORE h2 HXx2
          subst hx
          go_wp2_with fail
          go_meet
          case rel => exact ⟨rfl, HB7⟩
      case rest =>
        clear HB7 HMORE HXx2
        obtain ⟨rfl, hb⟩ := hcut
        go_wp2_with (at_builtin; refine append_tidy _ rfl (.tmp 116) (.tmp 117) 47 rfl w.heap.size 58 i0 (.agg #[.int .i64 0, .int .i64 0, .slice none 0 0, .bool false]) 4 48 Tryd.underlying47 HI.out.1 HI.out.2.1 HI.out.2.2.1 HI.out.2.2.2 rfl (by decide) _ 1 _ rfl (HLIT.out _ hb.out.size) av n cap xl rfl HLT.out HXL.out (HCL.out _ (hb.out.alloc hb.out.size _)) HOL.out (by unfold maxLen; omega) (by omega) (Nat.le_trans hb.out.size (by simp)) ?_)
        intro v3 w8 hown hgrow
        have HB8 := hide ((hb.out.alloc hb.out.size _).grown hgrow (Nat.le_trans hb.out.size (by simp)) (fun k hk => ((HLIT.out _ hb.out.size).lt k hk).1))
        have hlen : 1 + n = (⟨deed, who, t, my⟩ :: l : List M.Rul).length := by rw [List.length_cons, HLEN.out]; omega
        obtain ⟨a8, c8, rfl, hat⟩ := atR_own (l := ⟨deed, who, t, my⟩ :: l) hlen (RowR.append (RowR.stays HB8.out (Nat.le_refl _) HRL.out) (HRT.out _ HB8.out)) hown
        have HC8 := hide (HMAY.out _ a8 (1 + n) c8 (⟨deed, who, t, my⟩ :: l) HB8.out hlen (by unfold maxLen; omega) hat)
        clear hown hgrow hat hlen hb HMAY HRL HCL HRT HLT HLEN HI HXL HOL HLIT
        generalize M.mayE (⟨deed, who, t, my⟩ :: l) who deed t = E3 at HC8 HAHD
        generalize M.mayR (⟨deed, who, t, my⟩ :: l) who deed t = b3 at HC8 HAHD
        obtain ⟨x3, hx⟩ : ∃ x, x = errV E3 := ⟨_, rfl⟩
        rw [← hx] at HC8
        have HXx3 := hide hx
        clear hx
        go_wp2_with fail
        refine (unhide HC8).mono ?_
        rintro e w9 ⟨rfl, hb9⟩
        have HB9 := hide (HB8.out.trans (hb9.mono HB8.out.size))
        clear hb9 HB8 HC8
        go_upto_region 21 with fail
        go_cut [133] from 127 to 133 (fun c wx => c = .bool false ∧ Hid (Below w.heap.size w wx))
        case first =>
          by_cases h2 : E3 = 0
          · have hbi := HAHD.out h2
            have hx : x3 = .nilIface := by rw [HXx3.out, h2]; rfl
            clear HF HAHD HXx3
            subst h2 hbi hx
            go_wp2_with fail
            go_meet
            case rel => exact ⟨by simp, HB9⟩
          · have hx : x3 = .iface 64 (.int .i64 E3) := by rw [HXx3.out, errV_bad h2]
            clear HF HAHD h2 HXx3
            subst hx
            go_wp2_with fail
            go_meet
            case rel => exact ⟨rfl, HB9⟩
        case rest =>
          clear HB9 HAHD HXx3
          obtain ⟨rfl, hb⟩ := hcut
          rcases HF.out with ⟨h1, p, hp, hpn, hc⟩ | ⟨h1, h2⟩
          · obtain ⟨b, off, rfl, c1⟩ := hc _ hb.out
            subst h1 hp
            rw [show errV 0 = .nilIface from rfl]
            have p0 : (0 : Int) ≤ (p : Int) := by omega
            have pn : (p : Int) < (n : Int) := by omega
            clear HF hc
            go_wp2_with fail
            go_ret
            exact ⟨by simp, hb.out⟩
          · subst h1 h2
            rw [show errV 5 = .iface 64 (.int .i64 5) from errV_bad (by decide)]
            clear HF
            go_wp2_with fail
            go_ret
            exact ⟨rfl, hb.out⟩
  · have HM : Hid (∀ wx, Below w.heap.size w wx → Calls Tryd.prog 25 #[.slice av n cap, .int .i64 who, .int .i64 deed, .slice ta tn tc] wx fun e w' => e = .returned (.tuple #[.bool (M.mayR l who deed t), .iface 64 (.int .i64 (M.mayE l who deed t))]) ∧ Below wx.heap.size wx w') := hide fun wx hb => by have := hM wx hb; rwa [errV_bad hE] at this
    clear hM hE HMAY HFIR HSAM HRL HRM HCL HCM HRT HLT HMT HLEN HMLEN HL HI HLIT HXL HXM HOL HOM
    generalize M.mayR l who deed t = is at *
    generalize M.mayE l who deed t = E at *
    go_enter Tryd.func7, Tryd.ntmps7
    go_wp2_with fail
    refine (unhide HS1).mono ?_
    rintro e w1 ⟨rfl, hb1⟩
    have HB1 := hide hb1
    clear hb1 HS1
    go_wp2_with fail
    refine (HS2.out _ HB1.out).mono ?_
    rintro e w2 ⟨rfl, hb2⟩
    have HB2 := hide hb2
    clear hb2 HS2 HB1
    go_wp2_with fail
    refine (HM.out _ HB2.out).mono ?_
    rintro e w3 ⟨rfl, hb3⟩
    have HB3 := hide (HB2.out.trans (hb3.mono HB2.out.size))
    clear hb3 HB2 HM
    go_wp2_with fail
    go_ret
    exact ⟨rfl, HB3.out⟩

end Go.Proofs.YtlefhfmckimlaagDoor.ruleFirst
