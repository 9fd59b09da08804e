/-
  The walk of the Go function CrowdTrue: it returns true, whatever comes in.
-/
import Derived.Test.YtlefhfmckimlaaiDoorCrowdTrueA
import Derived.Test.YtlefhfmckimlaaiDoorPolyMem
import Derived.Deep.AppendLies
import Derived.Deep.RegionWith
import Derived.Deep.DeepCutAuto
import Derived.Deep.CutBlock
import Derived.Deep.QuietTactic
import Derived.Laws.OwnMore
set_option linter.unusedVariables false
namespace Go.Proofs.YtlefhfmckimlaaiDoor.crowdTrue
open Go.RowKit
attribute [local go_sem ↓] Go.wp_at_zero Go.wp_at_succ

theorem infoStr : (Tryd.prog.info? 9).map (fun i => (i.zero, i.size, i.bytes)) = some (some (.string ⟨#[]⟩), 1, 16) := by kernel_rfl

set_option maxRecDepth 100000 in
set_option maxHeartbeats 1000000 in
/-- where no crowd can be made -/
theorem walk_bad (n : Int) (rav : Option Addr) (rn rcap : Nat) (R : List M.Rul) (v2 v3 v4 : Value) (w : World) (hrn : rn = R.length) (hrm : rn ≤ maxLen) (hR : AtR w rav R) (ht : Tab w) (X : Int) (hX : X ≠ 0) (hN : ∀ wx, Below w.heap.size w wx → Calls Tryd.prog 12 #[.int .i64 n, .slice rav rn rcap] wx fun e w' => e = .returned (.tuple #[.pointer none, errV X]) ∧ Below wx.heap.size wx w') :
    Calls Tryd.prog 5 #[.int .i64 n, .slice rav rn rcap, v2, v3, v4] w fun e w' => e = .returned (.bool true) ∧ Below w.heap.size w w' := by
  have HN4 := hide (crowd4 w)
  have HDO : Hid (∀ w2 K F, CwIs w.heap.size w2 F K 4 M.Cop.new R1 → Below w.heap.size w w2 → Calls Tryd.prog 14 #[.pointer (some ⟨K, 0, none⟩), aggA 1 1 1 (some ⟨w2.heap.size, 0, none⟩) 1 1, .slice (some ⟨w2.heap.size + 1, 0, none⟩) 2 2] ((w2.alloc (.cells #[.int .i64 0, .int .i64 4, .string ⟨#[]⟩] 25)).alloc (.cells #[.string ⟨#[]⟩, .string ⟨#[55]⟩] 9)) fun e w' => e = .returned (.tuple #[.string ⟨#[110, 111, 110, 101]⟩, .nilIface]) ∧ Below w.heap.size w w') := hide fun w2 K F h hb => doOne h hb ht
  have HCN : Hid (∀ wx, Below w.heap.size w wx → Calls Tryd.prog 12 #[.int .i64 n, .slice rav rn rcap] wx fun e w' => e = .returned (.tuple #[.pointer none, .iface 82 (.int .i64 X)]) ∧ Below wx.heap.size wx w') := hide fun wx hb => by
    have := hN wx hb
    rwa [errV_bad hX] at this
  have HMN : Hid (∀ wx, Below w.heap.size w wx → Calls Tryd.prog 7 #[.slice rav rn rcap] wx fun e w' => (∃ p q, e = .returned (.tuple #[p, q])) ∧ Below wx.heap.size wx w') := hide fun wx hb => by
    by_cases hE : M.rulE R = 0
    · refine (mNew_ok w.heap.size rav rn rcap R wx hb.size hrn hrm (hR.stays hb (Nat.le_refl _)) hE).mono ?_
      rintro e w' ⟨C, F, rfl, _, _, h⟩
      exact ⟨⟨_, _, rfl⟩, h⟩
    · refine (mNew_bad rav rn rcap R wx hrn hrm (hR.stays hb (Nat.le_refl _)) hE).mono ?_
      rintro e w' ⟨rfl, h⟩
      exact ⟨⟨_, _, rfl⟩, h⟩
  clear hrn hrm hR ht hX hN
  go_enter Tryd.func5, Tryd.ntmps5
  go_wp2_with fail
  refine (unhide HN4).mono ?_
  rintro e w1 ⟨K1, F1, rfl, hC1, hb1⟩
  have HC1 := hide hC1
  have HB1 := hide hb1
  have HND := hide (crNeed hC1)
  rw [show M.need 4 = 2 by decide] at HND
  have HD2 := hide (HDO.out w1 K1 F1 hC1 hb1)
  clear hC1 hb1 HDO HN4
  go_wp2_with fail
  refine (unhide HND).mono ?_
  rintro e w2 ⟨rfl, hw2⟩
  obtain rfl := hw2.symm
  go_wp2_with fail
  refine (unhide HD2).mono ?_
  rintro e w3 ⟨rfl, hb3⟩
  have HB3 := hide hb3
  clear hb3
  go_wp2_with fail
  refine (HCN.out _ HB3.out).mono ?_
  rintro e w4 ⟨rfl, hb4⟩
  have HB4 := hide (HB3.out.trans (hb4.mono HB3.out.size))
  clear hb4
  go_wp2_with fail
  refine (HMN.out _ HB4.out).mono ?_
  rintro e w5 ⟨⟨p, q, rfl⟩, hb5⟩
  have HB5 := hide (HB4.out.trans (hb5.mono HB4.out.size))
  clear hb5
  go_wp2_with fail
  go_ret
  exact ⟨rfl, HB5.out⟩

set_option maxRecDepth 100000 in
set_option maxHeartbeats 4000000 in
theorem walk_ok (n : Nat) (rav : Option Addr) (rn rcap : Nat) (R : List M.Rul) (av : Option Addr) (m cap : Nat) (l : List M.Ask) (wv : Option Addr) (wn wc : Nat) (who : List Int) (lv : Option Addr) (ln lc : Nat) (lie : List ByteArray) (w : World) (h1 : 1 ≤ n) (h7 : n ≤ 7) (hrn : rn = R.length) (hrm : rn ≤ maxLen) (hR : AtR w rav R) (hE : M.rulE R = 0)
    (hm : m = l.length) (hmm : m ≤ maxLen) (hl : AtA w av l) (hwn : wn = who.length) (hwm : wn ≤ maxLen) (hw : AtI w wv who) (hln : ln = lie.length) (hlm : ln ≤ maxLen) (hli : AtS w lv lie) (ht : Tab w) :
    Calls Tryd.prog 5 #[.int .i64 n, .slice rav rn rcap, .slice av m cap, .slice wv wn wc, .slice lv ln lc] w fun e w' => e = .returned (.bool true) ∧ Below w.heap.size w w' := by
  obtain ⟨i0, hi, hz0, hz1, hz2⟩ := info_parts infoStr
  have HI := hide (And.intro hi (And.intro hz0 (And.intro hz1 hz2)))
  have HN4 := hide (crowd4 w)
  have HDO : Hid (∀ w2 K F, CwIs w.heap.size w2 F K 4 M.Cop.new R1 → Below w.heap.size w w2 → Calls Tryd.prog 14 #[.pointer (some ⟨K, 0, none⟩), aggA 1 1 1 (some ⟨w2.heap.size, 0, none⟩) 1 1, .slice (some ⟨w2.heap.size + 1, 0, none⟩) 2 2] ((w2.alloc (.cells #[.int .i64 0, .int .i64 4, .string ⟨#[]⟩] 25)).alloc (.cells #[.string ⟨#[]⟩, .string ⟨#[55]⟩] 9)) fun e w' => e = .returned (.tuple #[.string ⟨#[110, 111, 110, 101]⟩, .nilIface]) ∧ Below w.heap.size w w') := hide fun w2 K F h hb => doOne h hb ht
  have HCN : Hid (∀ wx, Below w.heap.size w wx → Calls Tryd.prog 12 #[.int .i64 n, .slice rav rn rcap] wx fun e w' => ∃ K F, e = .returned (.tuple #[.pointer (some ⟨K, 0, none⟩), .nilIface]) ∧ CwIs w.heap.size w' F K n M.Cop.new R ∧ Below wx.heap.size wx w') := hide fun wx hb => by
    refine (crNew_ok w.heap.size n rav rn rcap R wx hb.size h1 h7 hrn hrm (hR.stays hb (Nat.le_refl _)) hE).mono ?_
    rintro e w' ⟨K, F, rfl, q1, _, q3⟩
    exact ⟨K, F, rfl, q1, q3⟩
  have HMN : Hid (∀ wx K F, Below w.heap.size w wx → CwIs w.heap.size wx F K n M.Cop.new R → Calls Tryd.prog 7 #[.slice rav rn rcap] wx fun e w' => ∃ C, e = .returned (.tuple #[.pointer (some ⟨C, 0, none⟩), .nilIface]) ∧ CT w w' K C n M.Cop.new M.Cop.new R) := hide fun wx K F hb hC => by
    refine (mNew_ok w.heap.size rav rn rcap R wx hb.size hrn hrm (hR.stays hb (Nat.le_refl _)) hE).mono ?_
    rintro e w' ⟨C, G, rfl, q1, q2, q3⟩
    exact ⟨C, rfl, ⟨F, G, hC.quiet q3, q1, (Off.new (w := wx) hC.highs q2).symm⟩, hb.trans (q3.mono hb.size), ht⟩
  have HLA : Hid (∀ k (hk : k < l.length), ∃ b off a n c, av = some ⟨b, off, none⟩ ∧ IsVals w (.slice a n c) l[k].t ∧ ∀ wy, Below w.heap.size w wy → wy.cell? ⟨b, off + k * 4, none⟩ = some (.int .i64 l[k].who) ∧ wy.cell? ⟨b, off + k * 4 + 1, none⟩ = some (.int .i64 l[k].seq) ∧ wy.cell? ⟨b, off + k * 4 + 2, none⟩ = some (.int .i64 l[k].deed) ∧ wy.cell? ⟨b, off + k * 4 + 3, none⟩ = some (.slice a n c)) := hide fun k hk => by
    obtain ⟨b, off, e, hlie⟩ := hl (by omega)
    obtain ⟨a, n, c, h1, h2, h3, h4, h5⟩ := hlie.get hk
    have hlt := World.block_lt_of_cell? w _ h1
    exact ⟨b, off, a, n, c, e, h5, fun wy hy => ⟨(hy.cell (p := ⟨b, off + k * 4, none⟩) hlt).trans h1, (hy.cell (p := ⟨b, off + k * 4 + 1, none⟩) hlt).trans h2, (hy.cell (p := ⟨b, off + k * 4 + 2, none⟩) hlt).trans h3, (hy.cell (p := ⟨b, off + k * 4 + 3, none⟩) hlt).trans h4⟩⟩
  have HWH : Hid (∀ j (hj : j < who.length), ∃ b off, wv = some ⟨b, off, none⟩ ∧ ∀ wy, Below w.heap.size w wy → wy.cell? ⟨b, off + j, none⟩ = some (.int .i64 who[j])) := hide fun j hj => by
    obtain ⟨b, off, e, hlie⟩ := hw (by omega)
    exact ⟨b, off, e, fun wy hy => (hlie.stays hy (Nat.le_refl _)) j hj⟩
  have HLI : Hid (∀ j (hj : j < lie.length), ∃ b off, lv = some ⟨b, off, none⟩ ∧ lie[j].size ≤ reachBytes ∧ ∀ wy, Below w.heap.size w wy → wy.cell? ⟨b, off + j, none⟩ = some (.string lie[j])) := hide fun j hj => by
    obtain ⟨b, off, e, hlie⟩ := hli (by omega)
    exact ⟨b, off, e, (hlie j hj).2, fun wy hy => ((hlie.stays hy (Nat.le_refl _)) j hj).1⟩
  obtain ⟨Q, hQ⟩ : ∃ Q : Nat, Q = (n - 1) / 3 := ⟨_, rfl⟩
  have hnd : M.need n = (Q : Int) + 1 := by unfold M.need; omega
  have HNE : Hid (∀ wx K C c d, CT w wx K C n c d R → Calls Tryd.prog 13 #[.pointer (some ⟨K, 0, none⟩)] wx fun e w' => e = .returned (.int .i64 ((Q : Int) + 1)) ∧ w' = wx) := hide fun wx K C c d h => by
    have := h.need
    rwa [hnd] at this
  have HQ := hide hQ
  have HM := hide hm
  have HWN := hide hwn
  have HLN := hide hln
  have n1 : ¬ (n : Int) < 1 := by omega
  have n7 : ¬ (7 : Int) < (n : Int) := by omega
  have hQ2 : Q ≤ 2 := by omega
  unfold maxLen at hmm hwm hlm
  clear hrn hrm hR hE ht hl hm hw hwn hli hln hQ hnd hi hz0 hz1 hz2
  go_enter Tryd.func5, Tryd.ntmps5
  go_wp2_with fail
  refine (unhide HN4).mono ?_
  rintro e w1 ⟨K1, F1, rfl, hC1, hb1⟩
  have HB1 := hide hb1
  have HND := hide (crNeed hC1)
  rw [show M.need 4 = 2 by decide] at HND
  have HD2 := hide (HDO.out w1 K1 F1 hC1 hb1)
  clear hC1 hb1 HDO HN4
  go_wp2_with fail
  refine (unhide HND).mono ?_
  rintro e w2 ⟨rfl, hw2⟩
  obtain rfl := hw2.symm
  go_wp2_with fail
  refine (unhide HD2).mono ?_
  rintro e w3 ⟨rfl, hb3⟩
  have HB3 := hide hb3
  clear hb3
  go_wp2_with fail
  refine (HCN.out _ HB3.out).mono ?_
  rintro e w4 ⟨K, F, rfl, hC4, hb4⟩
  have HB4 := hide (HB3.out.trans (hb4.mono HB3.out.size))
  have HC4 := hide hC4
  clear hb4 hC4
  go_wp2_with fail
  refine (HMN.out _ K F HB4.out HC4.out).mono ?_
  rintro e w5 ⟨C, rfl, hK5⟩
  have HK5 := hide hK5
  clear hK5 HCN HMN HND HD2 HB1 HB3 HB4 HC4
  go_wp2_with fail
  go_loopw [18] (fun si wr => ∃ (k : Nat) (c : M.Cop), si = .int .i64 k ∧ k ≤ m ∧ k ≤ 30 ∧ Hid (c.n ≤ k) ∧ Hid (CT w wr K C n c c R)) (fun si _ => 30 - (intOf si).toNat)
  case atStart => exact ⟨0, M.Cop.new, rfl, Nat.zero_le _, by omega, hide (Nat.le_refl _), HK5⟩
  case round =>
    clear HK5
    obtain ⟨k, c, rfl, hk1, hk2, hcn, hK⟩ := hrel
    by_cases hlt : k < m ∧ k < 30
    · obtain ⟨hlm2, hl3⟩ := hlt
      have hkl : k < l.length := HM.out ▸ hlm2
      have i1 : (k : Int) < (m : Int) := by omega
      have i2 : (k : Int) < 30 := by omega
      have i3 : (0 : Int) ≤ (k : Int) := by omega
      obtain ⟨b, off, a, an, ac, rfl, hv, hat⟩ := HLA.out k hkl
      have HV := hide hv
      have HAT := hide hat
      generalize l[k] = x at *
      obtain ⟨xw, xs, xd, xt⟩ := x
      simp only at HV HAT
      clear hv hat
      have HSZ := hide hK.out.bel.size
      obtain ⟨B0, hB0⟩ : ∃ B0, B0 = wr.heap.size := ⟨_, rfl⟩
      go_wp2_with (at_make; refine wpList_make_full _ rfl (.tmp 93) (.tmp 93) 46 rfl wr.heap.size 9 i0 (.string ⟨#[]⟩) 1 Tryd.underlying46 HI.out.1 HI.out.2.1 HI.out.2.2.1 .i64 .i64 _ _ n rfl rfl rfl rfl (by rw [HI.out.2.2.2]; omega) (by unfold maxLen; omega) (Nat.le_refl _) ?_)
      intro w2 hown hgrow
      have HT2 : Hid (Txt B0 w2 (some ⟨B0, 0, none⟩) n n (List.replicate n M.sNo)) := hide (by
        rw [toList_madeCells_one, ← hB0] at hown
        refine ⟨?_, List.length_replicate .., fun y hy => by rw [List.eq_of_mem_replicate hy]; unfold reachBytes; decide⟩
        unfold cellsS
        rw [List.map_replicate]
        exact hown)
      have HK2 := hide (hK.out.quiet ((Below.refl wr.heap.size wr).grown hgrow (Nat.le_refl _) (fun k hk => by cases hk)))
      have HB0 : Hid (w.heap.size ≤ B0) := hide (by rw [hB0]; exact HSZ.out)
      rw [← hB0]
      clear hown hgrow hK hB0
      go_wp2_with fail
      go_loopw [20, 21] (fun sy sj wx => ∃ (y j : Nat) (L : List ByteArray), sy = .int .i64 y ∧ sj = .int .i64 j ∧ y ≤ Q ∧ j ≤ wn ∧ Hid (M.lieN n L ≤ y) ∧ Hid (Txt B0 wx (some ⟨B0, 0, none⟩) n n L) ∧ Hid (CT w wx K C n c c R)) (fun _ sj _ => wn - (intOf sj).toNat)
      case atStart => exact ⟨0, 0, _, rfl, rfl, Nat.zero_le _, Nat.zero_le _, hide (Nat.le_of_eq (M.lieN_none n)), HT2, HK2⟩
      case round =>
        clear HT2 HK2
        obtain ⟨y, j, L, rfl, rfl, hy, hj, hlie, hT, hK⟩ := hrel
        go_upto_region 17 with fail
        go_cut [105] from 95 to 148 (fun s wx => ∃ Bd : Bool, s = .bool Bd ∧ Hid (Bd = true → j < wn ∧ y < Q) ∧ wx = wr)
        case first =>
          by_cases q1 : (j : Int) < wn
          · by_cases q2 : (y : Int) < Q
            · go_wp2_with fail
              refine (HNE.out _ _ _ _ _ hK.out).mono ?_
              rintro e w3 ⟨rfl, hw3⟩
              obtain rfl := hw3.symm
              go_wp2_with fail
              go_meet
              case rel => exact ⟨true, rfl, hide (fun _ => ⟨by omega, by omega⟩), rfl⟩
            · go_wp2_with fail
              refine (HNE.out _ _ _ _ _ hK.out).mono ?_
              rintro e w3 ⟨rfl, hw3⟩
              obtain rfl := hw3.symm
              go_wp2_with fail
              go_meet
              case rel => exact ⟨false, by first | rfl | (simp; omega), hide (fun h => by cases h), rfl⟩
          · go_wp2_with fail
            go_meet
            case rel => exact ⟨false, rfl, hide (fun h => by cases h), rfl⟩
        case rest =>
          obtain ⟨Bd, rfl, hBd, rfl⟩ := hcut
          cases Bd
          · have HL : Hid (M.lieN n L ≤ (n - 1) / 3) := hide (by have := hlie.out; have := HQ.out; omega)
            obtain ⟨s0, hs0⟩ : ∃ s0, s0 = (M.doR R c ⟨xw, xs, xd, xt⟩).2.1 := ⟨_, rfl⟩
            obtain ⟨E0, hE0⟩ : ∃ E0, E0 = (M.doR R c ⟨xw, xs, xd, xt⟩).1 := ⟨_, rfl⟩
            obtain ⟨c1, hc1⟩ : ∃ c1, c1 = (M.doR R c ⟨xw, xs, xd, xt⟩).2.2 := ⟨_, rfl⟩
            have HN1 : Hid (c1.n ≤ k + 1) := hide (by have := M.doR_many R c ⟨xw, xs, xd, xt⟩; rw [← hc1] at this; have := hcn.out; omega)
            have HXD : Hid (∀ wx, CT w wx K C n c c R → Txt B0 wx (some ⟨B0, 0, none⟩) n n L → Calls Tryd.prog 8 #[.pointer (some ⟨C, 0, none⟩), aggA xw xs xd a an ac] wx fun e w' => e = .returned (.tuple #[.string s0, errV E0]) ∧ CT w w' K C n c c1 R ∧ Txt B0 w' (some ⟨B0, 0, none⟩) n n L) := hide fun wx h hT => by
              have := h.xdo ⟨xw, xs, xd, xt⟩ HV.out (by have := hcn.out; omega) hT
              rwa [← hs0, ← hE0, ← hc1] at this
            have HCD : Hid (∀ wx, CT w wx K C n c c1 R → Txt B0 wx (some ⟨B0, 0, none⟩) n n L → Calls Tryd.prog 14 #[.pointer (some ⟨K, 0, none⟩), aggA xw xs xd a an ac, .slice (some ⟨B0, 0, none⟩) n n] wx fun e w' => e = .returned (.tuple #[.string s0, errV E0]) ∧ CT w w' K C n c1 c1 R) := hide fun wx h hT => by
              have := h.cdo ⟨xw, xs, xd, xt⟩ HV.out (by have := hcn.out; omega) hT HL.out
              rwa [← hs0, ← hE0, ← hc1] at this
            have hss : (s0.toList == s0.toList) = true := by simp
            obtain ⟨q0, q1, q2, q3⟩ := HAT.out _ hK.out.bel
            clear hs0 hE0 hc1 hBd hlie HL hy hj
            by_cases h0 : E0 = 0
            · subst h0
              rw [show errV 0 = Value.nilIface from rfl] at HXD HCD
              go_wp2_with fail
              refine (HXD.out _ hK.out hT.out).mono ?_
              rintro e w5 ⟨rfl, hK5, hT5⟩
              have HK5 := hide hK5
              have HT5 := hide hT5
              clear hK5 hT5 q0 q1 q2 q3
              obtain ⟨q0, q1, q2, q3⟩ := HAT.out w5 HK5.out.bel
              go_wp2_with fail
              refine (HCD.out _ HK5.out HT5.out).mono ?_
              rintro e w6 ⟨rfl, hK6⟩
              have HK6 := hide hK6
              clear hK6 q0 q1 q2 q3
              go_wp2_with fail
              go_quiet (fail)
              have HK7 := hide (HK6.out.quiet (Go.below_drewN (Below.refl _ _) nq))
              go_wp2_with fail
              go_roundw
              case rel => exact ⟨k + 1, c1, by go_num, by omega, by omega, HN1, HK7⟩
              case measure => simp [intOf]; omega
            · rw [errV_bad h0] at HXD HCD
              clear h0
              go_wp2_with fail
              refine (HXD.out _ hK.out hT.out).mono ?_
              rintro e w5 ⟨rfl, hK5, hT5⟩
              have HK5 := hide hK5
              have HT5 := hide hT5
              clear hK5 hT5 q0 q1 q2 q3
              obtain ⟨q0, q1, q2, q3⟩ := HAT.out w5 HK5.out.bel
              go_wp2_with fail
              refine (HCD.out _ HK5.out HT5.out).mono ?_
              rintro e w6 ⟨rfl, hK6⟩
              have HK6 := hide hK6
              clear hK6 q0 q1 q2 q3
              go_wp2_with fail
              go_quiet (fail)
              have HK7 := hide (HK6.out.quiet (Go.below_drewN (Below.refl _ _) nq))
              go_wp2_with fail
              go_roundw
              case rel => exact ⟨k + 1, c1, by go_num, by omega, by omega, HN1, HK7⟩
              case measure => simp [intOf]; omega
          · obtain ⟨q1, q2⟩ := hBd.out rfl
            have hjw : j < who.length := HWN.out ▸ q1
            obtain ⟨b1, o1, rfl, hz⟩ := HWH.out j hjw
            have c1 := hz _ hK.out.bel
            generalize who[j] = z at c1
            have i4 : (j : Int) < wn := by omega
            have i5 : (0 : Int) ≤ (j : Int) := by omega
            have g1 := World.block_lt_of_cell? _ _ c1
            clear hBd hz
            go_upto_region 19 with fail
            go_cut [136] from 106 to 148 (fun s wx => ∃ Cd : Bool, s = .bool Cd ∧ Hid (Cd = true → 0 ≤ z ∧ z < (n : Int) ∧ k < ln) ∧ wx = wc)
            case first =>
              by_cases r1 : 0 ≤ z
              · by_cases r2 : z < (n : Int)
                · obtain ⟨Z, rfl⟩ : ∃ Z : Nat, z = Z := ⟨z.toNat, by omega⟩
                  have hZ : Z < L.length := by rw [hT.out.2.1]; omega
                  have c3 : wc.cell? ⟨B0, Z, none⟩ = some (.string L[Z]) := by rw [hT.out.1.cellAt Z (by omega), cellsS_at hZ]
                  have g3 := World.block_lt_of_cell? _ _ c3
                  by_cases hno : L[Z] = M.sNo
                  · rw [hno] at c3
                    have c3' : wc.cell? ⟨B0, Z, none⟩ = some (.string ⟨#[]⟩) := c3
                    clear hno c3 hZ
                    by_cases r4 : (k : Int) < ln
                    · go_wp2_with fail
                      go_meet
                      case rel => exact ⟨true, rfl, hide (fun _ => ⟨by omega, by omega, by omega⟩), rfl⟩
                    · go_wp2_with fail
                      go_meet
                      case rel => exact ⟨false, rfl, hide (fun h => by cases h), rfl⟩
                  · have hne : (L[Z].toList == (⟨#[]⟩ : ByteArray).toList) = false := by
                      cases hq : (L[Z].toList == (⟨#[]⟩ : ByteArray).toList)
                      · rfl
                      · exact absurd (txt_eq.1 hq) hno
                    have hne2 : (L[Z].toList == []) = false := by
                      rw [show (⟨#[]⟩ : ByteArray).toList = [] by simp [ByteArray.toList_eq]] at hne
                      exact hne
                    generalize L[Z] = o3 at *
                    clear hno hZ
                    go_wp2_with fail
                    go_meet
                    case rel => exact ⟨false, rfl, hide (fun h => by cases h), rfl⟩
                · go_wp2_with fail
                  go_meet
                  case rel => exact ⟨false, rfl, hide (fun h => by cases h), rfl⟩
              · go_wp2_with fail
                go_meet
                case rel => exact ⟨false, rfl, hide (fun h => by cases h), rfl⟩
            case rest =>
              obtain ⟨Cd, rfl, hCd, rfl⟩ := hcut
              cases Cd
              · clear hCd
                go_wp2_with fail
                go_roundw
                case rel => exact ⟨y, j + 1, L, rfl, by go_num, hy, by omega, hlie, hT, hK⟩
                case measure => simp [intOf]; omega
              · obtain ⟨r1, r2, r3⟩ := hCd.out rfl
                obtain ⟨Z, rfl⟩ : ∃ Z : Nat, z = Z := ⟨z.toNat, by omega⟩
                have hkl : k < lie.length := HLN.out ▸ r3
                obtain ⟨b2, o2, rfl, hsz, hx⟩ := HLI.out k hkl
                have c2 := hx _ hK.out.bel
                generalize lie[k] = x at c2 hsz
                have HX1 := hide hsz
                have g2 := World.block_lt_of_cell? _ _ c2
                have hZ : Z < L.length := by rw [hT.out.2.1]; omega
                have c3 : wc.cell? ⟨B0, Z, none⟩ = some (.string L[Z]) := by rw [hT.out.1.cellAt Z (by omega), cellsS_at hZ]
                have f3 : wc.frozen? ⟨B0, Z, none⟩ = false := hT.out.1.frozenAt _
                have g3 := World.block_lt_of_cell? _ _ c3
                generalize L[Z] = o3 at c3
                have i6 : (k : Int) < ln := by omega
                have HT1 : Hid (Txt B0 (wc.setCell ⟨B0, Z, none⟩ (.string x)) (some ⟨B0, 0, none⟩) n n (L.set Z x)) := hide ⟨by rw [cellsS_set]; exact (hT.out.1.stored Z (.string x)).1, by rw [List.length_set]; exact hT.out.2.1, fun y hy => by
                  rcases List.mem_or_eq_of_mem_set hy with h | h
                  · exact hT.out.2.2 y h
                  · rw [h]; exact HX1.out⟩
                have HK1 : Hid (CT w (wc.setCell ⟨B0, Z, none⟩ (.string x)) K C n c c R) := hide (by
                  obtain ⟨_, cc, fr, hh⟩ := ownsRow_tag hT.out.1 (g := B0) rfl
                  exact hK.out.row hh HB0.out Z _)
                have HLI2 : Hid (M.lieN n (L.set Z x) ≤ y + 1) := hide (by have := M.lieN_set n L Z x; have := hlie.out; omega)
                clear hCd hsz hx hZ r1
                go_wp2_with fail
                go_region_with (fail)
                all_goals
                  go_wp2_with fail
                  go_roundw
                  case rel => exact ⟨y + 1, j + 1, L.set Z x, by go_num, by go_num, by omega, by omega, HLI2, hide (HT1.out.quiet ((Below.refl _ _).drew)), hide (HK1.out.quiet ((Below.refl _ _).drew))⟩
                  case measure => simp [intOf]; omega
    · have hx : ¬ (k : Int) < (m : Int) ∨ ((k : Int) < (m : Int) ∧ ¬ (k : Int) < 30) := by omega
      clear hlt
      rcases hx with h1 | ⟨h1, h2⟩
      all_goals
        go_wp2_with fail
        go_ret
        exact ⟨rfl, hK.out.bel⟩

theorem walk (n : Int) (rav : Option Addr) (rn rcap : Nat) (R : List M.Rul) (av : Option Addr) (m cap : Nat) (l : List M.Ask) (wv : Option Addr) (wn wc : Nat) (who : List Int) (lv : Option Addr) (ln lc : Nat) (lie : List ByteArray) (w : World) (hrn : rn = R.length) (hrm : rn ≤ maxLen) (hR : AtR w rav R)
    (hm : m = l.length) (hmm : m ≤ maxLen) (hl : AtA w av l) (hwn : wn = who.length) (hwm : wn ≤ maxLen) (hw : AtI w wv who) (hln : ln = lie.length) (hlm : ln ≤ maxLen) (hli : AtS w lv lie) (ht : Tab w) :
    Calls Tryd.prog 5 #[.int .i64 n, .slice rav rn rcap, .slice av m cap, .slice wv wn wc, .slice lv ln lc] w fun e w' => e = .returned (.bool true) ∧ Below w.heap.size w w' := by
  by_cases h : n < 1 ∨ 7 < n
  · exact walk_bad n rav rn rcap R _ _ _ w hrn hrm hR ht 1 (by decide) (fun wx hb => crNew_range n rav rn rcap wx h)
  · obtain ⟨N, rfl⟩ : ∃ N : Nat, n = N := ⟨n.toNat, by omega⟩
    by_cases hE : M.rulE R = 0
    · exact walk_ok N rav rn rcap R av m cap l wv wn wc who lv ln lc lie w (by omega) (by omega) hrn hrm hR hE hm hmm hl hwn hwm hw hln hlm hli ht
    · exact walk_bad N rav rn rcap R _ _ _ w hrn hrm hR ht (M.rulE R) hE (fun wx hb => crNew_bad N rav rn rcap R wx (by omega) (by omega) hrn hrm (hR.stays hb (Nat.le_refl _)) hE)

end Go.Proofs.YtlefhfmckimlaaiDoor.crowdTrue
