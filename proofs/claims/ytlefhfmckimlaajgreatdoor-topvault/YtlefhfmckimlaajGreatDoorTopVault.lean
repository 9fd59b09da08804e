/-
  The walk of the Go function TopVault: it returns true, whatever comes in.
-/
import Derived.Test.YtlefhfmckimlaajGreatDoorTopVaultA
import Derived.Test.YtlefhfmckimlaajGreatDoorJ63A
import Derived.Test.YtlefhfmckimlaajGreatDoorJ52A
import Derived.Deep.RegionHeld3
import Derived.Deep.CutRange
set_option linter.unusedVariables false
namespace Go.Proofs.YtlefhfmckimlaajGreatDoor.topVault
open Go.RowKit
attribute [local go_sem ↓] Go.wp_at_zero Go.wp_at_succ

theorem infoT : (Tryz.prog.info? 9).map (fun i => (i.zero, i.size, i.bytes)) = some (some (.string ⟨#[]⟩), 1, 16) := by kernel_rfl

/-- all but the first -/
theorem lie_one {w : World} {b off : Nat} {l : List (Int × Int)} (h : LieP w b off l) : LieP w b (off + 2) (l.drop 1) := fun i hi => by
  have hi' : 1 + i < l.length := by rw [List.length_drop] at hi; omega
  have e : off + 2 + i * 2 = off + (1 + i) * 2 := by omega
  rw [List.getElem_drop, e]
  exact h (1 + i) hi'

set_option maxRecDepth 100000 in
/-- where no such vault can be -/
theorem walk_bad (v0 v1 : Value) (ra : Option Addr) (rn rc : Nat) (many nd : Int) (w : World) (hrm : rn ≤ maxLen) (hw : IntKind.i64.wrap ((rn : Int) + 1) = nd) (h : many < 1 ∨ 7 < many ∨ nd < 1 ∨ many < nd) :
    Calls Tryz.prog 3 #[v0, v1, .slice ra rn rc, .int .i64 many] w fun e w' => e = .returned (.bool true) ∧ Below w.heap.size w w' := by
  have HN : Hid (∀ wx, Calls Tryz.prog 6 #[.int .i64 many, .int .i64 nd] wx fun e w' => e = .returned (.tuple #[.pointer none, .iface 66 (.int .i64 1)]) ∧ w' = wx) := hide fun wx => vNew_bad many nd wx h
  clear h hrm
  go_enter Tryz.func3, Tryz.ntmps3
  go_wp2_with fail
  refine (tOne _).mono ?_
  rintro e w1 ⟨rfl, hb1⟩
  have HB1 := hide hb1
  clear hb1
  go_wp2_with fail
  refine (HN.out _).mono ?_
  rintro e w2 ⟨rfl, hw2⟩
  obtain rfl := hw2.symm
  go_wp2_with fail
  go_ret
  exact ⟨rfl, HB1.out⟩

set_option maxRecDepth 100000 in
set_option maxHeartbeats 4000000 in
theorem walk_ok (m : Nat) (tv : Value) (T : List (List M.Val)) (sa : Option Addr) (sn sc : Nat) (S : List Int) (ra : Option Addr) (rn rc : Nat) (r : List Int) (w : World)
    (h2 : rn + 1 ≤ m) (h7 : m ≤ 7) (hT : IsTups w tv T) (hsn : sn = S.length) (hsm : sn ≤ maxLen) (hS : AtI w sa S) (hrn : rn = r.length) (hR : AtI w ra r) (hRT : Tidy ra rn rc) (hg : Hand w) (ht : Tab w) :
    Calls Tryz.prog 3 #[tv, .slice sa sn sc, .slice ra rn rc, .int .i64 m] w fun e w' => e = .returned (.bool true) ∧ Below w.heap.size w w' := by
  obtain ⟨tT, hi, hz0, hz1, hz2⟩ := info_parts infoT
  have HI := hide (And.intro hi (And.intro hz0 (And.intro hz1 hz2)))
  obtain ⟨tI, gi, gz0, gz1, gz2⟩ := info_parts infoInt
  have GI := hide (And.intro gi (And.intro gz0 (And.intro gz1 gz2)))
  obtain ⟨tP, pi, pz0, pz1, pz2⟩ := info_parts infoP
  have PI := hide (And.intro pi (And.intro pz0 (And.intro pz1 pz2)))
  obtain ⟨ta, tc, rfl, htm⟩ := hT.shape
  obtain ⟨tn, htn⟩ : ∃ tn, tn = T.length := ⟨_, rfl⟩
  rw [← htn] at hT htm ⊢
  have HNEW : Hid (∀ wx, w.heap.size ≤ wx.heap.size → Calls Tryz.prog 6 #[.int .i64 m, .int .i64 ((rn : Int) + 1)] wx fun e w' => ∃ V F, e = .returned (.tuple #[.pointer (some ⟨V, 0, none⟩), .nilIface]) ∧ VtIs w.heap.size w' F V (M.Vlt.new m (rn + 1)) ∧ (∀ i, F i → wx.heap.size ≤ i) ∧ Below wx.heap.size wx w') := hide fun wx hb => vNew_ok w.heap.size m (rn + 1) wx hb (by omega) h2 h7
  have HSE : Hid (∀ wx, Below w.heap.size w wx → Calls Tryz.prog 11 #[.iface 66 (.int .i64 5), .int .i64 5] wx fun e w' => e = .returned (.bool true) ∧ Below wx.heap.size wx w') := hide fun wx hb => by
    have := sameErr 5 5 wx (hg.stays hb (Nat.le_refl _))
    rwa [show ((5 : Int) == 5) = true by decide, errV_bad (by decide)] at this
  have HTU : Hid (∀ k (hk : k < T.length), ∃ b off x, ta = some ⟨b, off, none⟩ ∧ IsVals w x T[k] ∧ ∀ wy, Below w.heap.size w wy → wy.cell? ⟨b, off + k, none⟩ = some x) := hide fun k hk => by
    obtain ⟨b, off, cap, e, _, _, hl⟩ := hT.some (by omega)
    simp only [Value.slice.injEq] at e
    obtain ⟨x, g1, g2⟩ := hl k hk
    exact ⟨b, off, x, e.1, g2, fun wy hy => (hy.cell (p := ⟨b, off + k, none⟩) (World.block_lt_of_cell? w _ g1)).trans g1⟩
  have HSC : Hid (∀ k (hk : k < S.length), ∃ b off, sa = some ⟨b, off, none⟩ ∧ ∀ wy, Below w.heap.size w wy → wy.cell? ⟨b, off + k, none⟩ = some (.int .i64 S[k])) := hide fun k hk => by
    obtain ⟨b, off, e, hlie⟩ := hS (by omega)
    have g1 := hlie k hk
    exact ⟨b, off, e, fun wy hy => (hy.cell (p := ⟨b, off + k, none⟩) (World.block_lt_of_cell? w _ g1)).trans g1⟩
  have HDI : Hid (∀ wx v l, Below w.heap.size w wx → IsVals w v l → Calls Tryz.prog 7 #[v] wx fun e w' => ((∃ E : Int, E ≠ 0 ∧ e = .returned (.tuple #[.int .i64 0, .iface 66 (.int .i64 E)])) ∨ ∃ n : Nat, n ≤ 10006 ∧ e = .returned (.tuple #[.int .i64 n, .nilIface])) ∧ Below wx.heap.size wx w') := hide fun wx v l hb hv => by
    by_cases hf : M.likeF l = 0
    · refine (dtupOk v l wx (hv.stays hb (Nat.le_refl _)) hf (ht.stays hb (Nat.le_refl _))).mono ?_
      rintro e w' ⟨rfl, hb'⟩
      obtain ⟨g1, g2⟩ := M.hash_range (M.line l)
      exact ⟨Or.inr ⟨(M.hash (M.line l)).toNat, by omega, by rw [Int.toNat_of_nonneg g1]⟩, hb'⟩
    · refine (dtupBad v l wx (hv.stays hb (Nat.le_refl _)) hf).mono ?_
      rintro e w' ⟨rfl, hb'⟩
      exact ⟨Or.inl ⟨_, hf, rfl⟩, hb'⟩
  have HRN := hide hrn
  have HRA := hide hR
  have HRT := hide hRT
  have HTN := hide htn
  have HSN := hide hsn
  unfold maxLen at htm hsm
  clear hi hz0 hz1 hz2 gi gz0 gz1 gz2 pi pz0 pz1 pz2 hT hS hR hRT hg ht hrn hsn htn
  go_enter Tryz.func3, Tryz.ntmps3
  go_wp2_with fail
  refine (tOne _).mono ?_
  rintro e w1 ⟨rfl, hb1⟩
  have HB1 := hide hb1
  clear hb1
  go_wp2_with fail
  refine (HNEW.out _ HB1.out.size).mono ?_
  rintro e w2 ⟨V, F0, rfl, hV, hF0, hb2⟩
  have HK0 : Hid (Tv w w2 F0 V (M.Vlt.new m (rn + 1)) (.slice none 0 0) [] (.slice none 0 0) []) := hide ⟨hV, World.ownsRow_nil _ _ _ _, World.ownsRow_nil _ _ _ _, fun b _ => ⟨by simp [Value.ownBlock], by simp [Value.ownBlock]⟩, HB1.out.trans (hb2.mono HB1.out.size)⟩
  clear hV hF0 hb2 HNEW HB1
  go_wp2_with fail
  go_loopw [12, 13, 14] (fun s12 s13 si wr => ∃ (k : Nat) (v : M.Vlt) (F : Nat → Prop) (ha : Option Addr) (hc : Nat) (ka : Option Addr) (kc hn : Nat) (H : List ByteArray) (Ks : List Int), s12 = .slice ha hn hc ∧ s13 = .slice ka hn kc ∧ si = .int .i64 k ∧ k ≤ 15 ∧ hn ≤ k ∧ Hid (v.many = m ∧ v.need = rn + 1 ∧ H.length = hn ∧ Ks.length = hn ∧ KeptAll v H Ks r ∧ ∀ x ∈ H, x.size ≤ 12) ∧ Hid (Tv w wr F V v (.slice ha hn hc) H (.slice ka hn kc) Ks)) (fun _ _ si _ => 15 - (intOf si).toNat)
  case atStart => exact ⟨0, _, F0, none, 0, none, 0, 0, [], [], rfl, rfl, rfl, Nat.zero_le _, Nat.zero_le _, hide ⟨rfl, rfl, rfl, rfl, KeptAll.new _ _, fun x hx => by simp at hx⟩, HK0⟩
  case round =>
    clear HK0
    obtain ⟨k, v, F, ha, hc, ka, kc, hn, H, Ks, rfl, rfl, rfl, hk15, hnk, hST, hK⟩ := hrel
    go_upto_region 10 with fail
    go_cut [54] from 41 to 54 (fun s wx => ∃ Bd : Bool, s = .bool Bd ∧ Hid (Bd = true → k < tn ∧ k < sn ∧ k < 15) ∧ wx = wr)
    case first =>
      by_cases c1 : (k : Int) < tn
      · by_cases c2 : (k : Int) < sn
        · by_cases c3 : (k : Int) < 15
          · go_wp2_with fail
            go_meet
            case rel => exact ⟨true, rfl, hide (fun _ => ⟨by omega, by omega, by omega⟩), rfl⟩
          · go_wp2_with fail
            go_meet
            case rel => exact ⟨false, by first | rfl | (simp; omega), hide (fun h => by cases h), rfl⟩
        · go_wp2_with fail
          go_meet
          case rel => exact ⟨false, rfl, hide (fun h => by cases h), rfl⟩
      · go_wp2_with fail
        go_meet
        case rel => exact ⟨false, rfl, hide (fun h => by cases h), rfl⟩
    case rest =>
      obtain ⟨Bd, rfl, hBd, hwx⟩ := hcut
      obtain rfl := hwx.symm
      cases Bd
      · clear hBd
        go_wp2_with fail
        go_loopw [19] (fun si wx => ∃ j : Nat, si = .int .i64 j ∧ j ≤ hn ∧ Hid (Tv w wx F V v (.slice ha hn hc) H (.slice ka hn kc) Ks)) (fun si _ => hn - (intOf si).toNat)
        case atStart => exact ⟨0, rfl, Nat.zero_le _, hK⟩
        case round =>
          clear hK
          obtain ⟨wz, rfl⟩ : ∃ wz, wz = wr := ⟨_, rfl⟩
          obtain ⟨j, rfl, hj, hK⟩ := hrel
          by_cases hjn : j < hn
          · have j0 : (0 : Int) ≤ (j : Int) := by omega
            have j1 : (j : Int) < (hn : Int) := by omega
            have hjH : j < H.length := by have := hST.out.2.2.1; omega
            have hjK : j < Ks.length := by have := hST.out.2.2.2.1; omega
            obtain ⟨gN, rfl, c0⟩ := hK.out.nameAt hST.out.2.2.1 hjH
            obtain ⟨gK, rfl, d0⟩ := hK.out.keptAt hST.out.2.2.2.1 hjK
            have HGA := hide (hST.out.2.2.2.2.1 j hjH hjK)
            have HSZ := hide (hST.out.2.2.2.2.2 _ (List.getElem_mem hjH))
            obtain ⟨a, hna⟩ : ∃ a, a = H[j] := ⟨_, rfl⟩
            obtain ⟨s, hks⟩ : ∃ s, s = Ks[j] := ⟨_, rfl⟩
            rw [← hna] at c0 HGA HSZ
            rw [← hks] at d0 HGA
            have HCN : Hid (∀ wx, Below wz.heap.size wz wx → wx.cell? ⟨gN, j, none⟩ = some (.string a)) := hide fun wx hb => (hb.cell (p := ⟨gN, j, none⟩) (World.block_lt_of_cell? wz _ c0)).trans c0
            have HCK : Hid (∀ wx, Below wz.heap.size wz wx → wx.cell? ⟨gK, j, none⟩ = some (.int .i64 s)) := hide fun wx hb => (hb.cell (p := ⟨gK, j, none⟩) (World.block_lt_of_cell? wz _ d0)).trans d0
            have HKB : Hid (∀ wx, Below wz.heap.size wz wx → Tv w wx F V v (.slice (some ⟨gN, 0, none⟩) hn hc) H (.slice (some ⟨gK, 0, none⟩) hn kc) Ks) := hide fun wx hb => hK.out.quiet hb
            have HLA : Hid (a.size ≤ maxLen) := hide (Nat.le_trans HSZ.out (by decide))
            have HPA : Hid (∀ wx (q : Nat), q < rn + 1 → Below wz.heap.size wz wx → Calls Tryz.prog 9 #[.pointer (some ⟨V, 0, none⟩), .string a, .int .i64 ((m : Int) - (q : Int))] wx fun e w' => e = .returned (.tuple #[.agg #[.int .i64 ((m : Int) - (q : Int)), .int .i64 (M.ev (s :: r) ((m : Int) - (q : Int)))], .nilIface]) ∧ Below wx.heap.size wx w') := hide fun wx q hq hb => by
              have := vPart a ((m : Int) - (q : Int)) (HKB.out wx hb).vt HLA.out
              have hin : 1 ≤ (m : Int) - (q : Int) ∧ (m : Int) - (q : Int) ≤ (v.many : Int) := by rw [hST.out.1]; omega
              have r1 : M.partR v a ((m : Int) - (q : Int)) = ((m : Int) - (q : Int), M.ev (s :: r) ((m : Int) - (q : Int))) := by
                unfold M.partR
                rw [HGA.out]
                exact if_pos hin
              have r2 : M.partE v a ((m : Int) - (q : Int)) = 0 := by
                unfold M.partE
                rw [HGA.out]
                exact if_pos hin
              rw [r1, r2] at this
              exact this
            have HGO : Hid (∀ wx la lc, Below wz.heap.size wz wx → AtP wx la (downP (s :: r) m (rn + 1)) → Calls Tryz.prog 10 #[.pointer (some ⟨V, 0, none⟩), .string a, .slice la (rn + 1) lc] wx fun e w' => e = .returned (.tuple #[.int .i64 s, .nilIface]) ∧ Below wx.heap.size wx w') := hide fun wx la lc hb ha => by
              have := vGet (lc := lc) (HKB.out wx hb).vt HLA.out (downP_len _ _ _).symm (by unfold maxLen; omega) ha
              obtain ⟨e1, e2⟩ := down_get (HKB.out wx hb).vt.ok HGA.out hST.out.1 hST.out.2.1
              rw [e1, e2] at this
              exact this
            have HGF : Hid (∀ wx la lc, Below wz.heap.size wz wx → AtP wx la ((downP (s :: r) m (rn + 1)).drop 1) → Calls Tryz.prog 10 #[.pointer (some ⟨V, 0, none⟩), .string a, .slice la rn lc] wx fun e w' => e = .returned (.tuple #[.int .i64 0, .iface 66 (.int .i64 5)]) ∧ Below wx.heap.size wx w') := hide fun wx la lc hb ha => by
              have := vGet (ln := rn) (lc := lc) (l := (downP (s :: r) m (rn + 1)).drop 1) (HKB.out wx hb).vt HLA.out (Eq.symm (by rw [List.length_drop, downP_len, Nat.add_sub_cancel])) (by unfold maxLen; omega) ha
              have e1 := down_few (HKB.out wx hb).vt.ok HGA.out hST.out.1 hST.out.2.1
              rw [M.getR_bad (by rw [e1]; decide), e1, errV_bad (by decide)] at this
              exact this
            clear hna hks c0 d0 HGA HSZ hjH hjK
            go_wp2_with fail
            go_loopw [20, 21] (fun sv sat wx => ∃ (q : Nat) (va : Option Addr) (vc : Nat), sv = .slice va q vc ∧ sat = .int .i64 ((m : Int) - (q : Int)) ∧ q ≤ rn + 1 ∧ Hid (wx.ownsRow wz.heap.size 37 2 (.slice va q vc) q (flatP (downP (s :: r) m q))) ∧ Hid (Below wz.heap.size wz wx)) (fun _ sat _ => (intOf sat + 10 - m).toNat)
            case atStart => exact ⟨0, none, 0, rfl, by simp, Nat.zero_le _, hide (World.ownsRow_nil _ _ _ _), hide (Below.refl _ _)⟩
            case round =>
              obtain ⟨q, va, vc, rfl, rfl, hq, hRW, hB⟩ := hrel
              by_cases hqr : q < rn + 1
              · have y1 : (m : Int) - (rn : Int) - 1 < (m : Int) - (q : Int) := by omega
                have c0 := HCN.out _ hB.out
                obtain ⟨Y, hY⟩ : ∃ Y, Y = M.ev (s :: r) ((m : Int) - (q : Int)) := ⟨_, rfl⟩
                have HPQ := hide (HPA.out wr q hqr hB.out)
                rw [← hY] at HPQ
                have HDN : Hid (downP (s :: r) m (q + 1) = downP (s :: r) m q ++ [((m : Int) - (q : Int), Y)]) := hide (by rw [hY]; exact downP_next _ _ _)
                clear hY
                go_wp2_with fail
                refine (unhide HPQ).mono ?_
                rintro e w4 ⟨rfl, hb4⟩
                dsimp only
                have HB4 : Hid (Below wz.heap.size wz w4) := hide (hB.out.trans (hb4.mono hB.out.size))
                have HR4 := hide (rowB hRW.out hb4)
                clear hb4 c0 HPQ
                have HNW : Hid (∀ jj u, [Value.int .i64 ((m : Int) - (q : Int)), .int .i64 Y][jj]? = some u → ((w4.alloc (.cells #[.int .i64 ((m : Int) - (q : Int)), .int .i64 Y] 37)).alloc (.cells #[.int .i64 ((m : Int) - (q : Int)), .int .i64 Y] 37)).cell? ((⟨w4.heap.size + 1, 0, none⟩ : Addr).add jj) = some u) := hide (by
                  have := World.news_of_block (heap_alloc_new (w4.alloc (.cells #[.int .i64 ((m : Int) - (q : Int)), .int .i64 Y] 37)) (.cells #[.int .i64 ((m : Int) - (q : Int)), .int .i64 Y] 37))
                  rw [show (w4.alloc (.cells #[.int .i64 ((m : Int) - (q : Int)), .int .i64 Y] 37)).heap.size = w4.heap.size + 1 by simp] at this
                  exact this)
                have HRW2 : Hid (((w4.alloc (.cells #[.int .i64 ((m : Int) - (q : Int)), .int .i64 Y] 37)).alloc (.cells #[.int .i64 ((m : Int) - (q : Int)), .int .i64 Y] 37)).ownsRow wz.heap.size 37 2 (.slice va q vc) q (flatP (downP (s :: r) m q))) := hide ((HR4.out.alloc _).alloc _)
                have HB5 : Hid (Below wz.heap.size wz ((w4.alloc (.cells #[.int .i64 ((m : Int) - (q : Int)), .int .i64 Y] 37)).alloc (.cells #[.int .i64 ((m : Int) - (q : Int)), .int .i64 Y] 37))) := hide ((HB4.out.alloc HB4.out.size _).alloc (Nat.le_trans HB4.out.size (by simp)) _)
                have HBS : Hid (wz.heap.size ≤ w4.heap.size) := hide HB4.out.size
                go_wp2_with (at_builtin; refine wpList_append_lies _ rfl (.tmp 127) (.tmp 129) 35 rfl wz.heap.size 37 tP (.agg #[.int .i64 0, .int .i64 0]) 2 16 Tryz.underlying35 PI.out.1 PI.out.2.1 PI.out.2.2.1 PI.out.2.2.2 rfl (by decide) (.slice va q vc) q (flatP (downP (s :: r) m q)) rfl HRW2.out ⟨w4.heap.size + 1, 0, none⟩ 1 1 [.int .i64 ((m : Int) - (q : Int)), .int .i64 Y] rfl rfl HNW.out (flatP_oneCell [((m : Int) - (q : Int), Y)]) (by decide) (by unfold maxLen; omega) (by omega) (Nat.le_trans HBS.out (by simp; omega)) (w4.heap.size + 1 + 1) (by simp) ?_)
                intro g5 k5 w5 hown5 hgrow5 hat5 hlt5
                have HO5 : Hid (w5.ownsRow wz.heap.size 37 2 (.slice (some ⟨g5, 0, none⟩) (q + 1) k5) (q + 1) (flatP (downP (s :: r) m (q + 1)))) := hide (by rw [HDN.out, flatP_append]; exact hown5)
                have HB6 := hide (HB5.out.grown hgrow5 HB5.out.size (fun b hb => (HRW2.out.lt b hb).1))
                clear hown5 hgrow5 hat5 hlt5 HNW HRW2 HB5
                go_wp2_with fail
                go_roundw
                case rel => exact ⟨q + 1, some ⟨g5, 0, none⟩, k5, rfl, by first | go_num | (simp; omega), by omega, HO5, HB6⟩
                case measure => simp [intOf]; omega
              · obtain rfl : q = rn + 1 := by omega
                have y1 : ¬ (m : Int) - (rn : Int) - 1 < (m : Int) - ((rn + 1 : Nat) : Int) := by omega
                have y2 : ¬ (m : Int) - (rn : Int) - 1 < (m : Int) - ((rn : Int) + 1) := by omega
                obtain ⟨ax, cx, hax, hxc, hxm, hAT⟩ := atP_own (downP_len (s :: r) m (rn + 1)).symm hRW.out
                cases hax
                obtain ⟨gS, rfl, hcl⟩ := cellsR hRW.out (by rw [hRW.out.1]; omega)
                have c0 := HCN.out _ hB.out
                have HG1 := hide (HGO.out wr _ vc hB.out hAT)
                have HLP : Hid (LieP wr gS 0 (downP (s :: r) m (rn + 1))) := hide (by
                  obtain ⟨b5, o5, e, hl⟩ := hAT (by rw [downP_len]; omega)
                  cases e
                  exact hl)
                unfold maxLen at hxm
                clear hcl hAT
                go_wp2_with fail
                refine (unhide HG1).mono ?_
                rintro e w6 ⟨rfl, hb6⟩
                dsimp only
                have HB6 : Hid (Below wz.heap.size wz w6) := hide (hB.out.trans (hb6.mono hB.out.size))
                have HL6 := hide (HLP.out.stays hb6 (Nat.le_refl _))
                clear hb6 c0 HG1 HLP
                have c0 := HCN.out _ HB6.out
                have k1 := World.block_lt_of_cell? w6 _ c0
                have y3 : (rn : Int) + 1 ≤ (vc : Int) := by omega
                have y4 : (1 : Int) ≤ (rn : Int) + 1 := by omega
                have hss : (s == s) = true := by simp
                have HFIN : Hid (∀ w7, Below w6.drew.heap.size w6.drew w7 → Below wz.heap.size wz w7) := hide fun w7 hb => HB6.out.trans (Below.mono (((Below.refl _ _).drew).trans hb) HB6.out.size)
                have HAD : Hid (AtP w6.drew (if vc = 1 then some ⟨gS, 0, none⟩ else some ⟨gS, 2, none⟩) ((downP (s :: r) m (rn + 1)).drop 1)) := hide (fun hl => by
                  rw [List.length_drop, downP_len] at hl
                  rw [if_neg (by omega)]
                  exact ⟨gS, 2, rfl, by have := lie_one HL6.out; rwa [Nat.zero_add] at this⟩)
                obtain ⟨ad, hif⟩ : ∃ ad, (if vc = 1 then some (⟨gS, 0, none⟩ : Addr) else some ⟨gS, 2, none⟩) = ad := ⟨_, rfl⟩
                rw [hif] at HAD
                have HF := hide (HGF.out w6.drew ad (vc - 1) HB6.out.drew HAD.out)
                go_wp2_with fail
                go_region_held3 (fun w' => w'.cell? ⟨gN, j, none⟩ = some (.string a)) (first | go_keep | assumption)
                  (first
                    | (go_at_call 10; refine (unhide HF).mono ?_; rintro e w7 ⟨rfl, hb7⟩; have HB7 := hide (HFIN.out _ hb7); have p0 : w7.cell? ⟨gN, j, none⟩ = some (.string a) := (hb7.cell (p := ⟨gN, j, none⟩) k1).trans c0; clear hb7))
                have k0 := HCK.out _ HB7.out
                have HS7 := hide (HSE.out _ (HKB.out _ HB7.out).bel)
                clear c0 k1 p0
                go_wp2_with fail
                refine (unhide HS7).mono ?_
                rintro e w8 ⟨rfl, hb8⟩
                dsimp only
                have HB8 := hide (HB7.out.trans (hb8.mono HB7.out.size))
                clear hb8
                go_wp2_with fail
                go_roundw
                case rel => exact ⟨j + 1, by go_num, by omega, hide (HKB.out _ HB8.out)⟩
                case measure => simp [intOf]; omega
          · have j1 : ¬ (j : Int) < (hn : Int) := by omega
            go_wp2_with fail
            go_ret
            exact ⟨rfl, hK.out.bel⟩
      · obtain ⟨k1, k2, k3⟩ := hBd.out rfl
        clear hBd
        obtain ⟨b, off, x, rfl, hx, hxc⟩ := HTU.out k (by have := HTN.out; omega)
        have HX := hide hx
        have c1 := hxc _ hK.out.bel
        obtain ⟨b2, o2, rfl, hsc⟩ := HSC.out k (by have := HSN.out; omega)
        have HSK := hide hsc
        obtain ⟨sec, hsec⟩ : ∃ sec, sec = S[k]'(by have := HSN.out; omega) := ⟨_, rfl⟩
        rw [← hsec] at HSK
        have HDX := hide (HDI.out wr x _ hK.out.bel hx)
        have y1 : (0 : Int) ≤ (k : Int) := by omega
        have y2 : (k : Int) < (tn : Int) := by omega
        have y3 : (k : Int) < (sn : Int) := by omega
        clear hx hxc hsc hsec HX
        go_wp2_with fail
        refine (unhide HDX).mono ?_
        rintro e w3 ⟨⟨E, hE, rfl⟩ | ⟨n, hn6, rfl⟩, hb3⟩
        · dsimp only
          have HK3 := hide (hK.out.quiet hb3)
          clear hb3 hE HDX
          go_wp2_with fail
          go_roundw
          case rel => exact ⟨k + 1, v, F, ha, hc, ka, kc, hn, H, Ks, rfl, rfl, by go_num, by omega, by omega, hST, HK3⟩
          case measure => simp [intOf]; omega
        · dsimp only
          have HK3 := hide (hK.out.quiet hb3)
          clear hb3 HDX hK c1
          go_wp2_with fail
          go_loopw [15, 17] (fun sn' sx wx => ∃ (n' : Nat) (a : ByteArray), sn' = .int .i64 n' ∧ sx = .string a ∧ n' + a.size ≤ 10006 ∧ wx = w3) (fun sn' _ _ => (intOf sn').toNat)
          case atStart => exact ⟨n, ⟨#[]⟩, rfl, rfl, by show n + 0 ≤ _; omega, rfl⟩
          case round =>
            obtain ⟨n', a, rfl, rfl, hna, rfl⟩ := hrel
            by_cases hp : 0 < n'
            · have z0 : (0 : Int) < (n' : Int) := by omega
              have z1 : (n' : Int) % 10 < 10 := by omega
              have z2 : 0 ≤ (n' : Int) % 10 := by omega
              have HDG : Hid ((ByteArray.extract ⟨#[48, 49, 50, 51, 52, 53, 54, 55, 56, 57]⟩ (n' % 10) (n' % 10 + 1)).size = 1) := hide (by
                rw [ByteArray.size_extract]
                show min (n' % 10 + 1) 10 - n' % 10 = 1
                omega)
              go_wp2_with fail
              go_roundw
              case rel => exact ⟨n' / 10, _, by go_num, rfl, by first | (rw [ByteArray.size_append, HDG.out]; omega) | rw [ByteArray.size_append, HDG.out], trivial⟩
              case measure => simp [intOf]; omega
            · have z0 : ¬ (0 : Int) < (n' : Int) := by omega
              have c5 := HSK.out _ HK3.out.bel
              obtain ⟨E, hE⟩ : ∃ E, E = M.vputE v a sec r := ⟨_, rfl⟩
              have HPU : Hid (Calls Tryz.prog 8 #[.pointer (some ⟨V, 0, none⟩), .string a, .int .i64 sec, .slice ra rn rc] wr fun e w' => e = .returned (errV E) ∧ ∃ F', Tv w w' F' V (M.vputV v a sec r) (.slice ha hn hc) H (.slice ka hn kc) Ks) := hide (by
                have := HK3.out.xput (a := a) (s := sec) (by unfold maxLen; omega) HRN.out (by unfold maxLen; omega) HRA.out HRT.out
                rwa [← hE] at this)
              have HE := hide hE
              by_cases hE0 : E = 0
              · subst hE0
                have HST2 : Hid ((M.vputV v a sec r).many = m ∧ (M.vputV v a sec r).need = rn + 1 ∧ (H ++ [a]).length = hn + 1 ∧ (Ks ++ [sec]).length = hn + 1 ∧ KeptAll (M.vputV v a sec r) (H ++ [a]) (Ks ++ [sec]) r ∧ ∀ x ∈ H ++ [a], x.size ≤ 12) := hide (by
                  obtain ⟨e1, e2⟩ := M.vputV_many (v := v) (a := a) (s := sec) (r := r)
                  refine ⟨e1.trans hST.out.1, e2.trans hST.out.2.1, by simp [hST.out.2.2.1], by simp [hST.out.2.2.2.1], hST.out.2.2.2.2.1.put (by rw [hST.out.2.2.1, hST.out.2.2.2.1]) HE.out.symm, fun x hx => ?_⟩
                  rcases List.mem_append.1 hx with h | h
                  · exact hST.out.2.2.2.2.2 x h
                  · rw [List.mem_singleton.1 h]; exact (M.vputE_ok HE.out.symm).1)
                have HPU0 : Hid (Calls Tryz.prog 8 #[.pointer (some ⟨V, 0, none⟩), .string a, .int .i64 sec, .slice ra rn rc] wr fun e w' => e = .returned .nilIface ∧ ∃ F', Tv w w' F' V (M.vputV v a sec r) (.slice ha hn hc) H (.slice ka hn kc) Ks) := HPU
                obtain ⟨v', hv'⟩ : ∃ v', v' = M.vputV v a sec r := ⟨_, rfl⟩
                rw [← hv'] at HST2 HPU0
                clear hE HPU hv'
                go_wp2_with fail
                refine (unhide HPU0).mono ?_
                rintro e w4 ⟨rfl, F', hK4⟩
                dsimp only
                have HK4 := hide hK4
                clear hK4 HPU0 c5 HE
                have HNW : Hid (∀ j u, [Value.string a][j]? = some u → (w4.alloc (.cells #[.string a] 9)).cell? ((⟨w4.heap.size, 0, none⟩ : Addr).add j) = some u) := hide (World.news_of_block (heap_alloc_new w4 _))
                have HAL : Hid (∀ o, Below w4.heap.size w4 (w4.alloc o)) := hide fun o => (Below.refl _ _).alloc (Nat.le_refl _) o
                have HRW : Hid ((w4.alloc (.cells #[.string a] 9)).ownsRow w.heap.size 9 1 (.slice ha hn hc) hn (cellsS H)) := hide (by have := (HK4.out.quiet (HAL.out (.cells #[.string a] 9))).has; rwa [hST.out.2.2.1] at this)
                have HBS : Hid (w.heap.size ≤ w4.heap.size) := hide HK4.out.bel.size
                go_wp2_with (at_builtin; refine wpList_append_lies _ rfl (.tmp 88) (.tmp 90) 30 rfl w.heap.size 9 tT (.string ⟨#[]⟩) 1 16 Tryz.underlying30 HI.out.1 HI.out.2.1 HI.out.2.2.1 HI.out.2.2.2 rfl (by decide) (.slice ha hn hc) hn (cellsS H) rfl HRW.out ⟨w4.heap.size, 0, none⟩ 1 1 [.string a] rfl rfl HNW.out (by intro u hu; simp at hu; subst hu; rfl) (by decide) (by unfold maxLen; omega) (by omega) (Nat.le_trans HBS.out (by simp)) (w4.heap.size + 1) (by simp) ?_)
                intro g5 k5 w5 hown5 hgrow5 hat5 hlt5
                have HK5 := hide (HK4.out.addH hST.out.2.2.1 hgrow5 hown5 hat5)
                clear hown5 hgrow5 hat5 hlt5 HRW HNW HAL HBS HK4
                have c6 := HSK.out _ HK5.out.bel
                have HNW : Hid (∀ j u, [Value.int .i64 sec][j]? = some u → (w5.alloc (.cells #[.int .i64 sec] 3)).cell? ((⟨w5.heap.size, 0, none⟩ : Addr).add j) = some u) := hide (World.news_of_block (heap_alloc_new w5 _))
                have HAL : Hid (∀ o, Below w5.heap.size w5 (w5.alloc o)) := hide fun o => (Below.refl _ _).alloc (Nat.le_refl _) o
                have HRW : Hid ((w5.alloc (.cells #[.int .i64 sec] 3)).ownsRow w.heap.size 3 1 (.slice ka hn kc) hn (cellsI Ks)) := hide (by have := (HK5.out.quiet (HAL.out (.cells #[.int .i64 sec] 3))).ks; rwa [hST.out.2.2.2.1] at this)
                have HBS : Hid (w.heap.size ≤ w5.heap.size) := hide HK5.out.bel.size
                go_wp2_with (at_builtin; refine wpList_append_lies _ rfl (.tmp 92) (.tmp 97) 23 rfl w.heap.size 3 tI (.int .i64 0) 1 8 Tryz.underlying23 GI.out.1 GI.out.2.1 GI.out.2.2.1 GI.out.2.2.2 rfl (by decide) (.slice ka hn kc) hn (cellsI Ks) rfl HRW.out ⟨w5.heap.size, 0, none⟩ 1 1 [.int .i64 sec] rfl rfl HNW.out (by intro u hu; simp at hu; subst hu; rfl) (by decide) (by unfold maxLen; omega) (by omega) (Nat.le_trans HBS.out (by simp)) (w5.heap.size + 1) (by simp) ?_)
                intro g6 k6 w6 hown6 hgrow6 hat6 hlt6
                have HK6 := hide (HK5.out.addK hST.out.2.2.2.1 hgrow6 hown6 hat6)
                clear hown6 hgrow6 hat6 hlt6 HRW HNW HAL HBS HK5 c6
                go_wp2_with fail
                go_roundw
                case rel => exact ⟨k + 1, v', F', some ⟨g5, 0, none⟩, k5, some ⟨g6, 0, none⟩, k6, hn + 1, H ++ [a], Ks ++ [sec], rfl, rfl, by go_num, by omega, by omega, HST2, HK6⟩
                case measure => simp [intOf]; omega
              · have HPU0 : Hid (Calls Tryz.prog 8 #[.pointer (some ⟨V, 0, none⟩), .string a, .int .i64 sec, .slice ra rn rc] wr fun e w' => e = .returned (.iface 66 (.int .i64 E)) ∧ ∃ F', Tv w w' F' V v (.slice ha hn hc) H (.slice ka hn kc) Ks) := hide (by
                  have := HPU.out
                  rwa [errV_bad hE0, M.vputV_bad (by rw [← HE.out]; exact hE0)] at this)
                clear hE HPU HE hE0
                go_wp2_with fail
                refine (unhide HPU0).mono ?_
                rintro e w4 ⟨rfl, F', hK4⟩
                dsimp only
                have HK4 := hide hK4
                clear hK4 HPU0 c5
                go_wp2_with fail
                go_roundw
                case rel => exact ⟨k + 1, v, F', ha, hc, ka, kc, hn, H, Ks, rfl, rfl, by go_num, by omega, by omega, hST, HK4⟩
                case measure => simp [intOf]; omega

end Go.Proofs.YtlefhfmckimlaajGreatDoor.topVault
