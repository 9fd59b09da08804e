/-
  The walk of the Go function CoverClosed: it returns true, whatever comes in, if the library's table reads as its text lays it.
-/
import Derived.Test.YtlefhfmckimlaagDoorCoverSeen
import Derived.Test.YtlefhfmckimlaagDoorIntsOwn
import Derived.Test.YtlefhfmckimlaagDoorTupSame
import Derived.Laws.AppendOwnNone
set_option linter.unusedVariables false
namespace Go.Proofs.YtlefhfmckimlaagDoor.coverClosed
open Go.RowKit

theorem covE_closed (l : List M.Val) : M.covE l (List.replicate l.length 2) = M.tupF l := by
  by_cases h : M.tupF l = 0
  · rw [M.covE_shw h, h]; exact M.shw_all (by decide) (by decide)
  · exact M.covE_tup h
theorem covR_closed {l : List M.Val} (h : M.tupF l = 0) : M.covR l (List.replicate l.length 2) = List.replicate l.length (M.numV 0) := by
  rw [M.covR_ok (by rw [covE_closed]; exact h), M.cover_closed]
theorem same_alike (n m : Nat) (v : M.Val) : M.sameAll (List.replicate n v) (List.replicate m v) = ((n : Int) == (m : Int)) := by
  by_cases h : n = m
  · subst h
    rw [sameAll_self]; simp
  · rw [sameAll_len (by simpa using h)]
    symm
    simpa using (by omega : ¬ (n : Int) = (m : Int))
theorem news2 (w : World) : ∀ j u, (cellsI [2])[j]? = some u → (w.alloc (.cells #[.int .i64 2] 3)).cell? ((⟨w.heap.size, 0, none⟩ : Addr).add j) = some u := World.news_of_block (heap_alloc_new w _)
theorem twos (k : Nat) : cellsI (List.replicate (k + 1) 2) = cellsI (List.replicate k 2) ++ cellsI [2] := by
  unfold cellsI; rw [← List.map_append, List.replicate_succ']

set_option maxRecDepth 100000 in
set_option maxHeartbeats 4000000 in
theorem walk (va vb : Value) (la lb : List M.Val) (w : World) (ha : IsVals w va la) (hb : IsVals w vb lb) (ht : Tab w) (hsa : la.length * 32 ≤ 140737488351232) (hsb : lb.length * 32 ≤ 140737488351232) :
    Calls Tryd.prog 4 #[va, vb] w fun e w' => e = .returned (.bool true) ∧ Below w.heap.size w w' := by
  obtain ⟨i0, hi, hz0, hz1, hz2⟩ := info_parts infoInt
  have HI := hide (And.intro hi (And.intro hz0 (And.intro hz1 hz2)))
  obtain ⟨aa, ca, rfl, hma⟩ := ha.shape
  obtain ⟨ab, cb, rfl, hmb⟩ := hb.shape
  have HA := hide ha
  have HBV := hide hb
  have HT := hide ht
  obtain ⟨n, hn⟩ : ∃ n, n = la.length := ⟨_, rfl⟩
  obtain ⟨m, hm⟩ : ∃ m, m = lb.length := ⟨_, rfl⟩
  rw [← hn] at HA hsa hma ⊢
  rw [← hm] at HBV hsb hmb ⊢
  have HN := hide hn
  have HM := hide hm
  unfold maxLen at hma hmb
  clear ha hb ht hn hm hi hz0 hz1 hz2
  go_enter Tryd.func4, Tryd.ntmps4
  go_wp2_with fail
  go_loopw [5, 7] (fun sx si wr => ∃ (v : Value) (k : Nat), v = sx ∧ si = .int .i64 k ∧ k ≤ n ∧ Hid (wr.ownsRow w.heap.size 3 1 v k (cellsI (List.replicate k 2))) ∧ Hid (Below w.heap.size w wr)) (fun _ si _ => n - (intOf si).toNat)
  case atStart => exact ⟨_, 0, rfl, rfl, Nat.zero_le _, hide (World.ownsRow_nil _ _ _ _), hide (Below.refl _ _)⟩
  case round =>
    obtain ⟨v, k, rfl, rfl, hk, hrow, hbel⟩ := hrel
    by_cases hlt : k < n
    · have HR := hide (hrow.out.alloc (.cells #[.int .i64 2] 3))
      have HNW := hide (news2 wr)
      have hz := hbel.out.size
      go_wp2_with (at_builtin; refine wpList_append_own _ rfl (.tmp 19) (.tmp 20) 23 rfl w.heap.size 3 i0 (.int .i64 0) 1 8 Tryd.underlying23 HI.out.1 HI.out.2.1 HI.out.2.2.1 HI.out.2.2.2 rfl (by decide) v k (cellsI (List.replicate k 2)) rfl HR.out ⟨wr.heap.size, 0, none⟩ 1 1 (cellsI [2]) rfl rfl HNW.out (cellsI_oneCell [2]) (by unfold maxLen; omega) (by omega) (Nat.le_trans hz (by simp)) ?_)
      intro v' w3 hown hgrow _
      rw [← twos] at hown
      have HO := hide hown
      have HB3 := hide ((hbel.out.alloc hz _).grown hgrow (Nat.le_trans hz (by simp)) (fun j hj => (HR.out.lt j hj).1))
      clear hown hgrow
      go_wp2
      go_roundw
      case rel => exact ⟨v', k + 1, rfl, by go_num, by omega, HO, HB3⟩
      case measure => simp [intOf]; omega
    · have hkn : k = n := by omega
      subst hkn
      obtain ⟨ax, cx, rfl, _, _, hatx⟩ := atI_own (by simp) hrow.out
      have HX := hide hatx
      clear hatx hrow hlt hk
      obtain ⟨w1, hw1⟩ : ∃ w1, w1 = wr := ⟨_, rfl⟩
      rw [← hw1] at HX hbel ⊢
      clear hw1
      go_wp2_with fail
      go_loopw [6, 8] (fun sx si wr => ∃ (v : Value) (j : Nat), v = sx ∧ si = .int .i64 j ∧ j ≤ m ∧ Hid (wr.ownsRow w1.heap.size 3 1 v j (cellsI (List.replicate j 2))) ∧ Hid (Below w1.heap.size w1 wr)) (fun _ si _ => m - (intOf si).toNat)
      case atStart => exact ⟨_, 0, rfl, rfl, Nat.zero_le _, hide (World.ownsRow_nil _ _ _ _), hide (Below.refl _ _)⟩
      case round =>
        obtain ⟨v, j, rfl, rfl, hj, hrow, hbel2⟩ := hrel
        by_cases hlt : j < m
        · have HR := hide (hrow.out.alloc (.cells #[.int .i64 2] 3))
          have HNW := hide (news2 wr)
          have hz := hbel2.out.size
          go_wp2_with (at_builtin; refine wpList_append_own _ rfl (.tmp 28) (.tmp 29) 23 rfl w1.heap.size 3 i0 (.int .i64 0) 1 8 Tryd.underlying23 HI.out.1 HI.out.2.1 HI.out.2.2.1 HI.out.2.2.2 rfl (by decide) v j (cellsI (List.replicate j 2)) rfl HR.out ⟨wr.heap.size, 0, none⟩ 1 1 (cellsI [2]) rfl rfl HNW.out (cellsI_oneCell [2]) (by unfold maxLen; omega) (by omega) (Nat.le_trans hz (by simp)) ?_)
          intro v' w3 hown hgrow _
          rw [← twos] at hown
          have HO := hide hown
          have HB3 := hide ((hbel2.out.alloc hz _).grown hgrow (Nat.le_trans hz (by simp)) (fun j hj => (HR.out.lt j hj).1))
          clear hown hgrow
          go_wp2
          go_roundw
          case rel => exact ⟨v', j + 1, rfl, by go_num, by omega, HO, HB3⟩
          case measure => simp [intOf]; omega
        · have hjm : j = m := by omega
          subst hjm
          obtain ⟨ay, cy, rfl, _, _, haty⟩ := atI_own (by simp) hrow.out
          have hX2 := HX.out.stays hbel2.out (Nat.le_refl _)
          have hB2 := hbel.out.trans (hbel2.out.mono hbel.out.size)
          have HB2 := hide hB2
          clear hrow hlt hj
          have hP := cTuple _ la ax k cx (List.replicate k 2) wr (HA.out.stays hB2 (Nat.le_refl _)) (by simp) (by unfold maxLen; omega) hX2 (HT.out.stays hB2 (Nat.le_refl _))
          have hQ : ∀ wx, Below wr.heap.size wr wx → Calls Tryd.prog 9 #[.slice ab j cb, .slice ay j cy] wx fun e w' => ∃ v', e = .returned (.tuple #[v', errV (M.tupF lb)]) ∧ OwnT wx.heap.size w' v' (M.covR lb (List.replicate j 2)) ∧ Below wx.heap.size wx w' := fun wx hb => by
            have hBx := hB2.trans (hb.mono hB2.size)
            have := cTuple _ lb ay j cy (List.replicate j 2) wx (HBV.out.stays hBx (Nat.le_refl _)) (by simp) (by unfold maxLen; omega) (haty.stays hb (Nat.le_refl _)) (HT.out.stays hBx (Nat.le_refl _))
            have e : M.covE lb (List.replicate j 2) = M.tupF lb := by rw [HM.out]; exact covE_closed lb
            rwa [e] at this
          have e : M.covE la (List.replicate k 2) = M.tupF la := by rw [HN.out]; exact covE_closed la
          rw [e] at hP
          clear e
          have HP := hide hP
          have HQ := hide hQ
          clear hP hQ haty hX2 hB2 hbel hbel2 HX
          by_cases h1 : M.tupF la = 0
          · have HR1 : Hid (M.covR la (List.replicate k 2) = List.replicate k (M.numV 0)) := hide (by rw [HN.out]; exact covR_closed h1)
            rw [h1, HR1.out] at HP
            have HP1 : Hid (Calls Tryd.prog 9 #[.slice aa k ca, .slice ax k cx] wr fun e w' => ∃ v', e = .returned (.tuple #[v', .nilIface]) ∧ OwnT wr.heap.size w' v' (List.replicate k (M.numV 0)) ∧ Below wr.heap.size wr w') := HP
            clear HP HR1 h1
            by_cases h2 : M.tupF lb = 0
            · have HR2 : Hid (M.covR lb (List.replicate j 2) = List.replicate j (M.numV 0)) := hide (by rw [HM.out]; exact covR_closed h2)
              rw [h2, HR2.out] at HQ
              have HQ1 : Hid (∀ wx, Below wr.heap.size wr wx → Calls Tryd.prog 9 #[.slice ab j cb, .slice ay j cy] wx fun e w' => ∃ v', e = .returned (.tuple #[v', .nilIface]) ∧ OwnT wx.heap.size w' v' (List.replicate j (M.numV 0)) ∧ Below wx.heap.size wx w') := HQ
              clear HQ HR2 h2
              go_wp2_with fail
              refine (unhide HP1).mono ?_
              rintro e w2 ⟨p, rfl, hp, hb2⟩
              have HPV := hide hp.vals
              have HB3 := hide hb2
              clear hp hb2
              go_wp2_with fail
              refine (HQ1.out _ HB3.out).mono ?_
              rintro e w3 ⟨q, rfl, hq, hb3⟩
              have HS := hide (tsame p q _ _ w3 (HPV.out.stays hb3 (Nat.le_refl _)) hq.vals)
              rw [same_alike] at HS
              have HB4 := hide (HB3.out.trans (hb3.mono HB3.out.size))
              clear hq hb3
              go_wp2_with fail
              refine (unhide HS).mono ?_
              rintro e w4 ⟨rfl, hb4⟩
              have HB5 := hide (HB2.out.trans ((HB4.out.trans (hb4.mono HB4.out.size)).mono HB2.out.size))
              clear hb4
              go_wp2_with fail
              go_ret
              exact ⟨by simp, HB5.out⟩
            · rw [errV_bad h2] at HQ
              generalize M.tupF lb = E at HQ
              clear h2
              go_wp2_with fail
              refine (unhide HP1).mono ?_
              rintro e w2 ⟨p, rfl, hp, hb2⟩
              have HB3 := hide hb2
              clear hp hb2
              go_wp2_with fail
              refine (HQ.out _ HB3.out).mono ?_
              rintro e w3 ⟨q, rfl, hq, hb3⟩
              have HB4 := hide (HB2.out.trans ((HB3.out.trans (hb3.mono HB3.out.size)).mono HB2.out.size))
              clear hq hb3
              go_wp2_with fail
              go_ret
              exact ⟨rfl, HB4.out⟩
          · have HC : Hid (∀ wx, Below w.heap.size w wx → Calls Tryd.prog 11 #[.slice aa k ca] wx fun e w' => e = .returned (.iface 64 (.int .i64 (M.tupF la))) ∧ Below wx.heap.size wx w') := hide fun wx hb => by
              have := tcheck _ la wx (HA.out.stays hb (Nat.le_refl _))
              rwa [errV_bad h1] at this
            rw [errV_bad h1] at HP
            generalize M.tupF la = E at HP HC
            clear h1
            by_cases h2 : M.tupF lb = 0
            · rw [h2] at HQ
              have HQ1 : Hid (∀ wx, Below wr.heap.size wr wx → Calls Tryd.prog 9 #[.slice ab j cb, .slice ay j cy] wx fun e w' => ∃ v', e = .returned (.tuple #[v', .nilIface]) ∧ OwnT wx.heap.size w' v' (M.covR lb (List.replicate j 2)) ∧ Below wx.heap.size wx w') := HQ
              clear HQ h2
              go_wp2_with fail
              refine (unhide HP).mono ?_
              rintro e w2 ⟨p, rfl, hp, hb2⟩
              have HB3 := hide hb2
              clear hp hb2
              go_wp2_with fail
              refine (HQ1.out _ HB3.out).mono ?_
              rintro e w3 ⟨q, rfl, hq, hb3⟩
              have HB4 := hide (HB2.out.trans ((HB3.out.trans (hb3.mono HB3.out.size)).mono HB2.out.size))
              clear hq hb3
              go_wp2_with fail
              refine (HC.out _ HB4.out).mono ?_
              rintro e w4 ⟨rfl, hb4⟩
              have HB5 := hide (HB4.out.trans (hb4.mono HB4.out.size))
              clear hb4
              go_wp2_with fail
              go_ret
              exact ⟨rfl, HB5.out⟩
            · rw [errV_bad h2] at HQ
              generalize M.tupF lb = F at HQ
              clear h2
              go_wp2_with fail
              refine (unhide HP).mono ?_
              rintro e w2 ⟨p, rfl, hp, hb2⟩
              have HB3 := hide hb2
              clear hp hb2
              go_wp2_with fail
              refine (HQ.out _ HB3.out).mono ?_
              rintro e w3 ⟨q, rfl, hq, hb3⟩
              have HB4 := hide (HB2.out.trans ((HB3.out.trans (hb3.mono HB3.out.size)).mono HB2.out.size))
              clear hq hb3
              go_wp2_with fail
              refine (HC.out _ HB4.out).mono ?_
              rintro e w4 ⟨rfl, hb4⟩
              have HB5 := hide (HB4.out.trans (hb4.mono HB4.out.size))
              clear hb4
              go_wp2_with fail
              go_ret
              exact ⟨rfl, HB5.out⟩

end Go.Proofs.YtlefhfmckimlaagDoor.coverClosed
