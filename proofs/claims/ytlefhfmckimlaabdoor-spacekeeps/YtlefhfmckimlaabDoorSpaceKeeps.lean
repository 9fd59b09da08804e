/-
  The walk of SpaceKeeps.
-/
import Derived.Test.YtlefhfmckimlaabDoorKeepState
namespace Go.Proofs.YtlefhfmckimlaabDoor
open Go.RowKit

theorem likeNo (v : Value) (a : List M.Val) (w : World) (hv : IsVals w v a) (ha : M.likeF a ≠ 0) : Calls Tryd.prog 11 #[v] w fun e w' => e = .returned (.iface 53 (.int .i64 (M.likeF a))) ∧ Below w.heap.size w w' := by rw [← errV_bad ha]; exact like v a w hv
theorem sameT (v1 v2 : Value) (l : List M.Val) (w : World) (h1 : IsVals w v1 l) (h2 : IsVals w v2 l) : Calls Tryd.prog 14 #[v1, v2] w fun e w' => e = .returned (.bool true) ∧ Below w.heap.size w w' := by
  have := tsame v1 v2 l l w h1 h2
  rwa [sameAll_self] at this
theorem five (w : World) (hg : Hand w) : Calls Tryd.prog 15 #[.iface 53 (.int .i64 5), .int .i64 5] w fun e w' => e = .returned (.bool true) ∧ Below w.heap.size w w' := sameErr 5 5 w hg

set_option maxHeartbeats 1000000 in
set_option maxRecDepth 1000000 in
theorem keeps (n cap : Nat) (ao : Option Addr) (av : Value) (Ls : List (List M.Val)) (a : List M.Val) (w : World) (hn : n = Ls.length) (hm : n ≤ maxLen) (hl : 0 < n → ∃ b off, ao = some ⟨b, off, none⟩ ∧ LieT w b off Ls) (hav : IsVals w av a) (hg : Hand w) :
    Calls Tryd.prog 3 #[.slice ao n cap, av] w fun e w' => e = .returned (.bool true) ∧ Below w.heap.size w w' := by
  unfold maxLen at hm
  obtain ⟨i0, hi, hz0, hz1, hz2⟩ := info_parts infoT
  have HI := hide (And.intro hi (And.intro hz0 (And.intro hz1 hz2)))
  have HN := hide hn
  have HL := hide hl
  have HA := hide hav
  have HG := hide hg
  clear hn hl hav hg hi hz0 hz1 hz2
  go_enter Tryd.func3, Tryd.ntmps3
  go_wp2_with fail
  refine (new _).mono ?_
  rintro e w0 ⟨rfl, hw0⟩
  have HS0 : Hid (Space w.heap.size w0 w.heap.size (.slice none 0 0) []) := hide (by rw [hw0]; exact space0 w)
  have HB0 : Hid (Below w.heap.size w w0) := hide (by rw [hw0]; exact (Below.refl w.heap.size w).alloc (Nat.le_refl _) _)
  clear hw0
  go_wp2_with fail
  refine (putOne _ _ _ _ HS0.out).mono ?_
  rintro e w1 ⟨rfl, ⟨v1, hS1⟩, hb1⟩
  have HS1 := hide hS1
  have HB1 := hide (HB0.out.trans hb1)
  clear hS1 hb1
  go_wp2_with fail
  refine (putTwo _ _ _ _ HS1.out).mono ?_
  rintro e w2 ⟨rfl, ⟨v2, hS2⟩, hb2⟩
  have HS2 := hide hS2
  have HB2 := hide (HB1.out.trans hb2)
  clear hS2 hb2
  go_wp2_with fail
  refine (takeAny _ _ _ _ HS2.out).mono ?_
  rintro e w3 ⟨g, c, rfl, hc3, ⟨v3, hS3⟩, hb3⟩
  have HS3 := hide hS3
  have HB3 := hide (HB2.out.trans hb3)
  clear hS3 hb3
  go_wp2_with fail
  refine (allTwo _ _ _ _ HS3.out).mono ?_
  rintro e w4 ⟨ao4, c4, rfl, hb4⟩
  have HB4 := hide (HB3.out.trans hb4)
  clear hb4 hc3
  go_wp2_with fail
  refine (new _).mono ?_
  rintro e w5 ⟨rfl, hw5⟩
  have HK : Hid (K2 w w5 w4.heap.size (.slice none 0 0) (.slice none 0 0) (.slice none 0 0) [] [] []) := hide (by rw [hw5]; exact K2.start HB4.out)
  generalize w4.heap.size = S at *
  clear hw5 HS0 HS1 HS2 HS3 HB0 HB1 HB2 HB3 HB4
  go_wp2_with fail
  go_loopw [12, 11] (fun i c wr => ∃ k : Nat, ∃ v u : Value, ∃ L : List (List M.Val), k ≤ n ∧ k ≤ 30 ∧ u = c ∧ i = .int .i64 k ∧ Hid (K2 w wr S v (.slice none 0 0) u L [] L)) (fun i _ _ => n - (intOf i).toNat)
  case atStart => exact ⟨0, _, _, _, Nat.zero_le _, Nat.zero_le _, rfl, rfl, HK⟩
  case round =>
    clear HK
    obtain ⟨k, v, u, L, hk, hk30, rfl, rfl, hK⟩ := hrel
    by_cases hlt : k < n ∧ k < 30
    · obtain ⟨hkn, hk3⟩ := hlt
      have hkl : k < Ls.length := HN.out ▸ hkn
      have ik1 : (k : Int) < (n : Int) := by omega
      have ik2 : (k : Int) < 30 := by omega
      obtain ⟨b, off, rfl, hlie⟩ := HL.out (by omega)
      obtain ⟨x, hx, hxv⟩ := hlie k hkl
      obtain ⟨ax, kx, rfl, _⟩ := hxv.shape
      have hbw : b < w.heap.size := World.block_lt_of_cell? w _ hx
      have hxr : ∀ wr : World, Below w.heap.size w wr → wr.cell? ⟨b, off + k, none⟩ = some (.slice ax Ls[k].length kx) := fun wr hb => (hb.cell (p := ⟨b, off + k, none⟩) hbw).trans hx
      have HXR := hide hxr
      have HXV := hide hxv
      have cx := hxr wr hK.out.bel
      clear hlie hx hxv hxr
      by_cases hp : M.putF L Ls[k] = 0
      · have HP : Hid (Calls Tryd.prog 7 #[.pointer (some ⟨S, 0, none⟩), .slice ax Ls[k].length kx] wr fun e w' => e = .returned .nilIface ∧ ∃ v', K2 w w' S v' (.slice none 0 0) u (L ++ [Ls[k]]) [] L) := hide (by have := hK.out.put HXV.out; rwa [hp, putL_yes hp] at this)
        clear hp
        generalize hmx : Ls[k].length = mx at *
        clear hmx
        go_wp2_with fail
        refine (unhide HP).mono ?_
        rintro e w1 ⟨rfl, v', hK1⟩
        have cx1 := HXR.out w1 hK1.bel
        have HKA := hide (hK1.quiet ((Below.refl _ _).alloc (Nat.le_refl _) (.cells #[.slice ax mx kx] 23)))
        obtain ⟨xs, hx1, hx2⟩ := HKA.out.rz
        have hL20 : L.length ≤ 20 := hK.out.fine.2
        obtain ⟨q, hq⟩ : ∃ q, q = L.length := ⟨_, rfl⟩
        rw [← hq] at hx1 hL20
        have HX := hide hx1
        have HX2 := hide hx2
        have HQ := hide hq
        have HNW : Hid (∀ j u, [Value.slice ax mx kx][j]? = some u → (w1.alloc (.cells #[.slice ax mx kx] 23)).cell? ((⟨w1.heap.size, 0, none⟩ : Addr).add j) = some u) := hide (World.news_of_block (heap_alloc_new w1 _))
        have HWS : Hid (w.heap.size ≤ (w1.alloc (.cells #[.slice ax mx kx] 23)).heap.size) := hide HKA.out.bel.size
        clear hx1 hx2 hq hK1
        go_wp2_with (at_builtin; refine wpList_append_lies _ rfl (.tmp 87) (.tmp 92) 22 rfl w.heap.size 23 i0 (.slice none 0 0) 1 24 Tryd.underlying22 HI.out.1 HI.out.2.1 HI.out.2.2.1 HI.out.2.2.2 rfl (by decide) u q xs rfl HX.out ⟨w1.heap.size, 0, none⟩ 1 1 [.slice ax mx kx] rfl rfl HNW.out (by intro u hu; simp at hu; subst hu; rfl) (by decide) (by unfold maxLen; omega) (by omega) HWS.out (w1.heap.size + 1) (by simp) ?_)
        intro g3 k3 w3 hown3 hgrow3 hat3 hlt3
        have HO3 := hide hown3
        have HG3 := hide hgrow3
        have HAT := hide hat3
        clear hown3 hgrow3 hat3
        go_wp2
        go_roundw
        case rel => exact ⟨k + 1, v', _, L ++ [Ls[k]], by omega, by omega, rfl, by go_num, hide (K2.more HKA.out (HQ.out ▸ HX.out) HX2.out HXV.out (HQ.out ▸ HO3.out) HG3.out (near_lies HAT.out (by simp)))⟩
        case measure => simp [intOf]; omega
      · have HP : Hid (Calls Tryd.prog 7 #[.pointer (some ⟨S, 0, none⟩), .slice ax Ls[k].length kx] wr fun e w' => e = .returned (.iface 53 (.int .i64 (M.putF L Ls[k]))) ∧ ∃ v', K2 w w' S v' (.slice none 0 0) u L [] L) := hide (by have := hK.out.put HXV.out; rwa [putL_no hp, errV_bad hp] at this)
        clear hp
        generalize M.putF L Ls[k] = er at *
        generalize Ls[k].length = mx at *
        go_wp2_with fail
        refine (unhide HP).mono ?_
        rintro e w1 ⟨rfl, v', hK1⟩
        have HK1 := hide hK1
        clear hK1
        go_wp2_with fail
        go_roundw
        case rel => exact ⟨k + 1, v', u, L, by omega, by omega, rfl, by go_num, HK1⟩
        case measure => simp [intOf]; omega
    · clear HL HN
      have HC := hide (count w.heap.size S v av a L wr hK.out.sp hK.out.fine (HA.out.stays hK.out.bel (Nat.le_refl _)))
      rcases (by omega : ¬ (k : Int) < (n : Int) ∨ (k : Int) < (n : Int) ∧ ¬ (k : Int) < 30) with hex | ⟨hex, hex2⟩
      all_goals
        by_cases ha : M.likeF a = 0
        · have HCM : Hid (Calls Tryd.prog 10 #[.pointer (some ⟨S, 0, none⟩), av] wr fun e w' => e = .returned (.tuple #[.int .i64 (M.many a L), .nilIface]) ∧ Below wr.heap.size wr w') := hide (by have := HC.out; unfold M.cnt at this; rwa [if_pos ha, ha] at this)
          have HLA := hide ha
          have HFL := hide hK.out.fine
          have HM0 : Hid (M.many a L ≤ 20) := hide (Nat.le_trans (many_le a L) HFL.out.2)
          obtain ⟨q0, hq0⟩ : ∃ q, q = M.many a L := ⟨_, rfl⟩
          rw [← hq0] at HCM HM0
          have hq20 := HM0.out
          obtain ⟨ao2, cap2, hu⟩ := hK.out.rz.shape
          obtain ⟨nL, hnL⟩ : ∃ q, q = L.length := ⟨_, rfl⟩
          have hn20 : nL ≤ 20 := by rw [hnL]; exact HFL.out.2
          rw [← hnL] at hu
          subst hu
          have HNL := hide hnL
          have HQ0 := hide hq0
          have HK1 := hide hK.out.swap
          clear ha HC hK hnL hq0 HM0
          go_wp2_with fail
          refine (unhide HCM).mono ?_
          rintro e w6 ⟨rfl, hb6⟩
          have HK6 : Hid (K2 w w6 S v (.slice ao2 nL cap2) (.slice none 0 0) (M.mid a L 0) L (M.keepL a (L.take 0))) := hide (by rw [mid_zero]; exact HK1.out.quiet hb6)
          clear hb6 HCM HK1
          go_wp2_with fail
          go_loopw [16, 15, 13] (fun i c m wr => ∃ j q : Nat, ∃ v2 z : Value, j ≤ nL ∧ q ≤ 20 ∧ z = c ∧ i = .int .i64 j ∧ m = .int .i64 q ∧ Hid (q = M.many a (L.drop j)) ∧ Hid (K2 w wr S v2 (.slice ao2 nL cap2) z (M.mid a L j) L (M.keepL a (L.take j)))) (fun i _ _ _ => nL - (intOf i).toNat)
          case atStart => exact ⟨0, q0, v, _, Nat.zero_le _, hq20, rfl, rfl, rfl, HQ0, HK6⟩
          case round =>
            clear HK6
            obtain ⟨j, q, v2, z, hj, hq20', rfl, rfl, rfl, hq, hK⟩ := hrel
            by_cases hlt : j < nL
            · have hjl : j < L.length := HNL.out ▸ hlt
              have ij1 : (j : Int) < (nL : Int) := by omega
              have hmd := hide (many_drop (a := a) hjl)
              have HAT : Hid (∀ wr, RowOf (IsVals w) w.heap.size wr (.slice ao2 nL cap2) L → ∃ g x, ao2 = some ⟨g, 0, none⟩ ∧ wr.cell? ⟨g, j, none⟩ = some x ∧ IsVals w x L[j]) := hide fun wr hr => by
                obtain ⟨g, cu, hu, hat⟩ := hr.at (by omega)
                obtain ⟨x, h1, h2⟩ := hat j hjl
                simp only [Value.slice.injEq] at hu
                exact ⟨g, x, hu.1, h1, h2⟩
              obtain ⟨gu, x, rfl, cx, hxv⟩ := HAT.out _ hK.out.ru
              have hF := fitsOk av x a L[j] wr (HA.out.stays hK.out.bel (Nat.le_refl _)) (hxv.stays hK.out.bel (Nat.le_refl _)) HLA.out (HFL.out.1 _ (List.getElem_mem hjl))
              obtain ⟨ax, kx, rfl, _⟩ := hxv.shape
              have HXV := hide hxv
              clear hxv
              cases hb : M.fitAll a L[j]
              · rw [hb] at hF
                have HB := hide hb
                have HF := hide hF
                clear hb hF
                generalize hmx : L[j].length = mx at *
                clear hmx
                go_wp2_with fail
                refine (unhide HF).mono ?_
                rintro e w7 ⟨rfl, hb7⟩
                have cx7 : w7.cell? ⟨gu, j, none⟩ = some (.slice ax mx kx) := (hb7.cell (p := ⟨gu, j, none⟩) (World.block_lt_of_cell? wr _ cx)).trans cx
                have HKA := hide ((hK.out.quiet hb7).quiet ((Below.refl _ _).alloc (Nat.le_refl _) (.cells #[.slice ax mx kx] 23)))
                obtain ⟨xs, hx1, hx2⟩ := HKA.out.rz
                obtain ⟨qz, hqz⟩ : ∃ q, q = (M.keepL a (L.take j)).length := ⟨_, rfl⟩
                have hqz20 : qz ≤ 20 := by
                  have h1 : (M.keepL a (L.take j)).length ≤ (L.take j).length := List.length_filter_le _ _
                  rw [List.length_take] at h1
                  omega
                rw [← hqz] at hx1
                have HX := hide hx1
                have HX2 := hide hx2
                have HQZ := hide hqz
                have HNW : Hid (∀ j u, [Value.slice ax mx kx][j]? = some u → (w7.alloc (.cells #[.slice ax mx kx] 23)).cell? ((⟨w7.heap.size, 0, none⟩ : Addr).add j) = some u) := hide (World.news_of_block (heap_alloc_new w7 _))
                have HWS : Hid (w.heap.size ≤ (w7.alloc (.cells #[.slice ax mx kx] 23)).heap.size) := hide HKA.out.bel.size
                clear hx1 hx2 hqz hb7
                go_wp2_with (at_builtin; refine wpList_append_lies _ rfl (.tmp 124) (.tmp 129) 22 rfl w.heap.size 23 i0 (.slice none 0 0) 1 24 Tryd.underlying22 HI.out.1 HI.out.2.1 HI.out.2.2.1 HI.out.2.2.2 rfl (by decide) z qz xs rfl HX.out ⟨w7.heap.size, 0, none⟩ 1 1 [.slice ax mx kx] rfl rfl HNW.out (by intro u hu; simp at hu; subst hu; rfl) (by decide) (by unfold maxLen; omega) (by omega) HWS.out (w7.heap.size + 1) (by simp) ?_)
                intro g3 k3 w3 hown3 hgrow3 hat3 hlt3
                have HO3 := hide hown3
                have HG3 := hide hgrow3
                have HAT3 := hide hat3
                clear hown3 hgrow3 hat3
                go_wp2
                go_roundw
                case rel =>
                  refine ⟨j + 1, q, v2, _, by omega, hq20', rfl, by go_num, rfl, hide (by have h := hmd.out; rw [HB.out] at h; have := hq.out; simpa [h] using this), hide ?_⟩
                  rw [mid_no hjl HB.out, keep_no hjl HB.out]
                  exact K2.more HKA.out (HQZ.out ▸ HX.out) HX2.out HXV.out (HQZ.out ▸ HO3.out) HG3.out (near_lies HAT3.out (by simp))
                case measure => simp [intOf]; omega
              · rw [hb] at hF
                have HB := hide hb
                have HF := hide hF
                obtain ⟨q', rfl⟩ : ∃ q', q = q' + 1 := ⟨q - 1, by have h := hmd.out; rw [hb] at h; have := hq.out; simp at h; omega⟩
                have hmg := hide (mid_get HLA.out hjl hb)
                clear hb hF
                generalize hmx : L[j].length = mx at *
                clear hmx
                go_wp2_with fail
                refine (unhide HF).mono ?_
                rintro e w7 ⟨rfl, hb7⟩
                have HK7 := hide (hK.out.quiet hb7)
                have HR7 : Hid (Calls Tryd.prog 13 #[.pointer (some ⟨S, 0, none⟩), av] w7 fun e w' => ∃ r, e = .returned (.tuple #[r, .nilIface]) ∧ OwnT w7.heap.size w' r L[j] ∧ Below w7.heap.size w7 w') := hide (by
                  have := read w.heap.size S v2 av a (M.mid a L j) w7 HK7.out.sp HK7.out.fine (HA.out.stays HK7.out.bel (Nat.le_refl _))
                  rwa [hmg.out.1, hmg.out.2.1] at this)
                clear hb7 HF cx
                go_wp2_with fail
                refine (unhide HR7).mono ?_
                rintro e w8 ⟨r, rfl, hO8, hb8⟩
                have HK8 := hide (HK7.out.quiet hb8)
                have HO8 := hide hO8
                have HT8 : Hid (Calls Tryd.prog 8 #[.pointer (some ⟨S, 0, none⟩), av] w8 fun e w' => ∃ t v', e = .returned (.tuple #[t, .nilIface]) ∧ IsVals w' t L[j] ∧ K2 w w' S v' (.slice (some ⟨gu, 0, none⟩) nL cap2) z (M.mid a L (j + 1)) L (M.keepL a (L.take j)) ∧ Solid w8 w') := hide (by
                  have := HK8.out.take HA.out
                  rwa [hmg.out.1, hmg.out.2.1, hmg.out.2.2] at this)
                clear hb8 hO8 HK7 HR7
                go_wp2_with fail
                refine (unhide HT8).mono ?_
                rintro e w9 ⟨tv, v3, rfl, ht9, hK9, hso9⟩
                have HR9 := hide ((HO8.out.solid hso9).vals)
                have HT9 := hide ht9
                have HK9 := hide hK9
                clear ht9 hK9 hso9 HT8 HK8
                go_wp2_with fail
                refine (sameT _ _ _ _ HR9.out HT9.out).mono ?_
                rintro e w10 ⟨rfl, hb10⟩
                have HK10 := hide (HK9.out.quiet hb10)
                have HT10 := hide (HT9.out.stays hb10 (Nat.le_refl _))
                obtain ⟨gu2, x2, hgu, cx10, hxv10⟩ := HAT.out _ HK10.out.ru
                have hgu' : gu2 = gu := by simpa using hgu.symm
                subst hgu'
                have HX10 := hide (hxv10.stays HK10.out.bel (Nat.le_refl _))
                clear hb10 HT9 HR9 HK9 hgu hxv10
                go_wp2_with fail
                refine (sameT _ _ _ _ HT10.out HX10.out).mono ?_
                rintro e w11 ⟨rfl, hb11⟩
                have HK11 := hide (HK10.out.quiet hb11)
                clear hb11 HT10 HX10 HK10 cx10
                go_wp2_with fail
                go_roundw
                case rel =>
                  refine ⟨j + 1, q', v3, z, by omega, by omega, rfl, by go_num, by go_num, hide (by have h := hmd.out; rw [HB.out] at h; have := hq.out; simp at h; omega), hide ?_⟩
                  rw [keep_yes hjl HB.out]
                  exact HK11.out
                case measure => simp [intOf]; omega
            · have hjn : j = L.length := by have := HNL.out; omega
              have hq0 : q = 0 := by have := hq.out; rw [hjn, List.drop_length] at this; exact this
              subst hq0
              have HT : Hid (Calls Tryd.prog 8 #[.pointer (some ⟨S, 0, none⟩), av] wr fun e w' => ∃ t v', e = .returned (.tuple #[t, .iface 53 (.int .i64 5)]) ∧ K2 w w' S v' (.slice ao2 nL cap2) z (M.keepL a L) L (M.keepL a L)) := hide (by
                have h := hK.out
                rw [hjn, mid_end, List.take_length] at h
                have h5 : M.getF a (M.keepL a L) = 5 := by rw [← mid_end]; exact mid_last HLA.out
                have := h.take HA.out
                rw [h5, lessL_no (by rw [h5]; decide)] at this
                refine this.mono ?_
                rintro e w' ⟨t, v', rfl, _, h2, _⟩
                exact ⟨t, v', rfl, h2⟩)
              clear hK hq hjn
              have ij1 : ¬ (j : Int) < (nL : Int) := by omega
              go_wp2_with fail
              refine (unhide HT).mono ?_
              rintro e w7 ⟨tv, v3, rfl, hK7⟩
              have HK7 := hide hK7
              clear hK7 HT
              go_wp2_with fail
              refine (five _ (HG.out.stays HK7.out.bel (Nat.le_refl _))).mono ?_
              rintro e w8 ⟨rfl, hb8⟩
              have HK8 := hide (HK7.out.quiet hb8)
              clear hb8 HK7
              go_wp2_with fail
              refine (all _ _ _ _ _ HK8.out.sp HK8.out.fine).mono ?_
              rintro e w9 ⟨ao9, c9, rfl, ht9, hb9⟩
              have HK9 := hide (HK8.out.quiet hb9)
              have HT9 := hide ht9
              have HZ9 := hide (HK9.out.rz.tups fun _ _ h => h.stays HK9.out.bel (Nat.le_refl _))
              clear hb9 ht9 HK8
              generalize (M.keepL a L).length = nk at *
              go_wp2_with fail
              refine (sameTups _ _ _ _ HT9.out HZ9.out).mono ?_
              rintro e w10 ⟨rfl, hb10⟩
              go_wp2_with fail
              go_ret
              exact ⟨rfl, HK9.out.bel.trans (hb10.mono HK9.out.bel.size)⟩
        · rw [errV_bad ha] at HC
          have HLN := hide (fun w1 (h : IsVals w1 av a) => likeNo av a w1 h ha)
          generalize M.likeF a = lf at *
          generalize M.cnt a L = cn at *
          clear ha
          go_wp2_with fail
          refine (unhide HC).mono ?_
          rintro e w1 ⟨rfl, hb1⟩
          have HB1 := hide (hK.out.bel.trans (hb1.mono hK.out.bel.size))
          clear hb1
          go_wp2_with fail
          refine (unhide HLN _ (HA.out.stays HB1.out (Nat.le_refl _))).mono ?_
          rintro e w2 ⟨rfl, hb2⟩
          go_wp2_with fail
          go_ret
          exact ⟨rfl, HB1.out.trans (hb2.mono HB1.out.size)⟩

theorem keepsWalk (lv av : Value) (Ls : List (List M.Val)) (a : List M.Val) (w : World) (hl : IsTups w lv Ls) (hav : IsVals w av a) (hg : Hand w) :
    Calls Tryd.prog 3 #[lv, av] w fun e w' => e = .returned (.bool true) ∧ Below w.heap.size w w' := by
  obtain ⟨ao, cap, rfl, hm⟩ := hl.shape
  refine keeps Ls.length cap ao av Ls a w rfl hm (fun h0 => ?_) hav hg
  obtain ⟨b, off, c, h1, _, _, h2⟩ := hl.some h0
  simp only [Value.slice.injEq] at h1
  exact ⟨b, off, h1.1, h2⟩

end Go.Proofs.YtlefhfmckimlaabDoor
