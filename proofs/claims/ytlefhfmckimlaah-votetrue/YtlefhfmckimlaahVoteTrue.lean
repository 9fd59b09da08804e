/-
  The walk of the Go function VoteTrue: it returns true, whatever comes in.
-/
import Derived.Test.YtlefhfmckimlaahVoteWalks
import Derived.Test.YtlefhfmckimlaahPolyMem
import Derived.Deep.AppendLies
import Derived.Deep.RegionWith
import Derived.Deep.DeepCutAuto
import Derived.Deep.CutBlock
import Derived.Laws.OwnMore
set_option linter.unusedVariables false
namespace Go.Proofs.Ytlefhfmckimlaah.voteTrue
open Go.RowKit

/-- the law's own first call -/
def abb : List ByteArray := [⟨#[97]⟩, ⟨#[98]⟩, ⟨#[98]⟩]
theorem abbE : M.winE abb 2 = 0 := by decide +kernel
theorem abbS : M.winS abb 2 = ⟨#[98]⟩ := by decide +kernel
theorem lit_abb (w : World) : AtS (w.alloc (.cells #[.string ⟨#[97]⟩, .string ⟨#[98]⟩, .string ⟨#[98]⟩] 9)) (some ⟨w.heap.size, 0, none⟩) abb := by
  have h := World.ownsRow_lit (base := w.heap.size) (e := 9) (size := 1) w #[.string ⟨#[97]⟩, .string ⟨#[98]⟩, .string ⟨#[98]⟩] 3 (Nat.le_refl _) (by unfold maxLen; decide) rfl
  obtain ⟨a, c, e, _, _, h2⟩ := atS_own (l := abb) rfl (by unfold reachBytes; decide) h
  cases e
  exact h2
/-- what is said so far, and nothing behind it -/
def halfT (t : ByteArray) (n k : Nat) : List ByteArray := List.replicate k t ++ List.replicate (n - k) ⟨#[]⟩
theorem halfT_len (t : ByteArray) {n k : Nat} (h : k ≤ n) : (halfT t n k).length = n := by unfold halfT; rw [List.length_append, List.length_replicate, List.length_replicate]; omega
theorem halfT_all (t : ByteArray) (n : Nat) : halfT t n n = List.replicate n t := by unfold halfT; rw [Nat.sub_self, List.replicate_zero, List.append_nil]
theorem halfT_next (t : ByteArray) {n k : Nat} (h : k < n) : (halfT t n k).set k t = halfT t n (k + 1) := by
  unfold halfT
  have e : n - k = (n - (k + 1)) + 1 := by omega
  rw [e, List.replicate_succ, List.set_append_right _ _ (by rw [List.length_replicate]; exact Nat.le_refl _), List.length_replicate, Nat.sub_self, List.set_cons_zero, List.replicate_succ', List.append_assoc, List.singleton_append]
theorem infoStr : (Try.prog.info? 9).map (fun i => (i.zero, i.size, i.bytes)) = some (some (.string ⟨#[]⟩), 1, 16) := by kernel_rfl

set_option maxRecDepth 100000 in
set_option maxHeartbeats 4000000 in
theorem walk_in (N F : Nat) (t : ByteArray) (bv : Option Addr) (m bc : Nat) (lies : List ByteArray) (av : Option Addr) (k ac : Nat) (at_ : List Int) (w : World) (h1 : 1 ≤ N) (h7 : N ≤ 7) (hF : (F : Int) = M.fltR (N : Int)) (hF3 : 3 * F + 1 ≤ N) (hs : t.size ≤ reachBytes)
    (hm : m = lies.length) (hmm : m ≤ maxLen) (hb : AtS w bv lies) (hk : k = at_.length) (hkm : k ≤ maxLen) (ha : AtI w av at_) :
    Calls Try.prog 3 #[.int .i64 N, .string t, .slice bv m bc, .slice av k ac] w fun e w' => e = .returned (.bool true) ∧ Below w.heap.size w w' := by
  obtain ⟨i0, hi, hz0, hz1, hz2⟩ := info_parts infoStr
  have HI := hide (And.intro hi (And.intro hz0 (And.intro hz1 hz2)))
  have hW := vWin (some ⟨w.heap.size, 0, none⟩) 3 3 abb 2 _ rfl (by unfold maxLen; decide) (lit_abb w)
  rw [abbE, abbS] at hW
  have HW : Hid (Calls Try.prog 5 #[.slice (some ⟨w.heap.size, 0, none⟩) 3 3, .int .i64 2] (w.alloc (.cells #[.string ⟨#[97]⟩, .string ⟨#[98]⟩, .string ⟨#[98]⟩] 9)) fun e w' => e = .returned (.tuple #[.string ⟨#[98]⟩, .nilIface]) ∧ Below w.heap.size w w') := hide (hW.mono fun e w' ⟨he, hb⟩ => ⟨he, ((Below.refl _ _).alloc (Nat.le_refl _) _).trans (hb.mono (by simp))⟩)
  have HFL : Hid (∀ wx, Calls Try.prog 6 #[.int .i64 N] wx fun e w' => e = .returned (.tuple #[.int .i64 F, .nilIface]) ∧ w' = wx) := hide fun wx => by
    have := vFaults N wx
    rwa [M.fltE_ok (by omega), ← hF] at this
  have HWS : Hid (∀ wx a c S, S.length = N → AtS wx a S → M.Few S t F → Calls Try.prog 5 #[.slice a N c, .int .i64 ((F : Int) + 1)] wx fun e w' => e = .returned (.tuple #[.string t, .nilIface]) ∧ Below wx.heap.size wx w') := hide fun wx a c S hS hA hf => by
    have h := vWin a N c S ((F : Int) + 1) wx hS.symm (by unfold maxLen; omega) hA
    obtain ⟨g1, g2⟩ := M.few_win hf (by omega)
    have e := M.winE_hit (l := S) (need := (F : Int) + 1) (by omega) (by omega) g1
    rw [M.winS_hit e g1, e, g2] at h
    exact h
  have HMS : Hid (∀ wx a c S, S.length = N → AtS wx a S → M.Few S t F → Calls Try.prog 7 #[.slice a N c] wx fun e w' => (∃ y : Nat, e = .returned (.tuple #[.int .i64 y, .nilIface]) ∧ y ≤ 7 ∧ N ≤ y + F) ∧ Below wx.heap.size wx w') := hide fun wx a c S hS hA hf => by
    have h := vMost a N c S wx hS.symm (by unfold maxLen; omega) hA
    rw [M.mostR_ok (by omega), M.mostE_ok (by omega)] at h
    have h1 := M.few_most hf
    have h2 := M.mostT_le S S.length
    exact h.mono fun e w' ⟨he, hb⟩ => ⟨⟨M.mostN S, he, Nat.le_trans h2 (by omega), by omega⟩, hb⟩
  have HB := hide hb
  have HA := hide ha
  have HS := hide hs
  have HM := hide hm
  have HK := hide hk
  have hNI : ¬ (N : Int) < 1 := by omega
  have hN7 : ¬ (7 : Int) < N := by omega
  unfold maxLen at hmm hkm
  clear hi hz0 hz1 hz2 hW hF hs hb ha hm hk
  go_enter Try.func3, Try.ntmps3
  go_wp2_with fail
  refine (unhide HW).mono ?_
  rintro e w1 ⟨rfl, hb1⟩
  have HB1 := hide hb1
  clear hb1 HW
  go_wp2_with fail
  refine (HFL.out _).mono ?_
  rintro e w2 ⟨rfl, hw⟩
  obtain rfl := hw.symm
  clear HFL
  go_wp2_with (at_make; refine wpList_make_full _ rfl (.tmp 52) (.tmp 52) 22 rfl w1.heap.size 9 i0 (.string ⟨#[]⟩) 1 Try.underlying22 HI.out.1 HI.out.2.1 HI.out.2.2.1 .i64 .i64 _ _ N rfl rfl rfl rfl (by rw [HI.out.2.2.2]; omega) (by unfold maxLen; omega) (Nat.le_refl _) ?_)
  intro w2 hown hgrow
  have HO : Hid (w2.ownsRow w1.heap.size 9 1 (.slice (some ⟨w1.heap.size, 0, none⟩) N N) N (cellsS (halfT t N 0))) := hide (by
    rw [toList_madeCells_one] at hown
    unfold halfT cellsS
    rw [List.replicate_zero, List.nil_append, Nat.sub_zero, List.map_replicate]
    exact hown)
  have HB2 := hide ((Below.refl w1.heap.size w1).grown hgrow (Nat.le_refl _) (fun k hk => by cases hk))
  clear hown hgrow
  go_wp2
  go_loopw [14] (fun si wr => ∃ i : Nat, si = .int .i64 i ∧ i ≤ N ∧ Hid (wr.ownsRow w1.heap.size 9 1 (.slice (some ⟨w1.heap.size, 0, none⟩) N N) N (cellsS (halfT t N i))) ∧ Hid (Below w1.heap.size w1 wr)) (fun si _ => N - (intOf si).toNat)
  case atStart => exact ⟨0, rfl, Nat.zero_le _, HO, HB2⟩
  case round =>
    obtain ⟨i, rfl, hi, hrow, hbel⟩ := hrel
    by_cases hlt : i < N
    · have HX := hide (halfT_next t hlt)
      have hih : i < (halfT t N i).length := by rw [halfT_len t (by omega)]; exact hlt
      have c1 : wr.cell? ⟨w1.heap.size, i, none⟩ = some (.string (halfT t N i)[i]) := by rw [hrow.out.cellAt i (by omega), cellsS_at hih]
      have f1 : wr.frozen? ⟨w1.heap.size, i, none⟩ = false := hrow.out.frozenAt _
      generalize (halfT t N i)[i] = o1 at c1
      have hg : w1.heap.size < wr.heap.size := World.block_lt_of_cell? wr _ c1
      clear hih
      go_wp2_with fail
      go_roundw
      case rel => exact ⟨i + 1, by go_num, by omega, hide (by rw [← HX.out, cellsS_set]; exact (hrow.out.stored i (.string t)).1), hide (hbel.out.setCell (p := ⟨w1.heap.size, i, none⟩) (Nat.le_refl _) _)⟩
      case measure => simp [intOf]; omega
    · have hiN : N = i := by omega
      have HR : Hid (wr.ownsRow w1.heap.size 9 1 (.slice (some ⟨w1.heap.size, 0, none⟩) N N) N (cellsS (List.replicate N t))) := hide (by have := hrow.out; rwa [← hiN, halfT_all] at this)
      have HB3 := hide (hbel.out)
      clear hrow hbel hlt hi HO HB2
      subst hiN
      go_wp2
      go_loopw [15] (fun si wx => ∃ (j : Nat) (S : List ByteArray), si = .int .i64 j ∧ j ≤ F ∧ Hid (S.length = N) ∧ Hid (M.Few S t j) ∧ Hid (∀ x ∈ S, x.size ≤ reachBytes) ∧ Hid (wx.ownsRow w1.heap.size 9 1 (.slice (some ⟨w1.heap.size, 0, none⟩) N N) N (cellsS S)) ∧ Hid (Below w1.heap.size w1 wx)) (fun si _ => F - (intOf si).toNat)
      case atStart => exact ⟨0, List.replicate N t, rfl, Nat.zero_le _, hide (List.length_replicate ..), hide (M.few_start N t), hide (fun x hx => by rw [List.eq_of_mem_replicate hx]; exact HS.out), HR, HB3⟩
      case round =>
        clear HR HB3
        obtain ⟨j, S, rfl, hj, hSl, hfew, hsz, hrow, hbel⟩ := hrel
        obtain ⟨B, HBd⟩ : ∃ B, Hid (decide (j < F ∧ j < m ∧ j < k) = B) := ⟨_, hide rfl⟩
        go_upto_region 13 with fail
        go_cut [77] from 63 to 102 (fun c wx => c = .bool B ∧ Hid (wx.ownsRow w1.heap.size 9 1 (.slice (some ⟨w1.heap.size, 0, none⟩) N N) N (cellsS S)) ∧ Hid (Below w1.heap.size w1 wx))
        case first =>
          by_cases q1 : (j : Int) < F
          · by_cases q2 : (j : Int) < m
            · by_cases q3 : (j : Int) < k
              · have D : Hid (B = true) := hide (HBd.out.symm.trans (decide_eq_true ⟨by omega, by omega, by omega⟩))
                go_wp2_with fail
                go_meet
                case rel => exact ⟨by rw [D.out], hrow, hbel⟩
              · have D : Hid (B = false) := hide (HBd.out.symm.trans (decide_eq_false (by omega)))
                go_wp2_with fail
                go_meet
                case rel => exact ⟨by rw [D.out], hrow, hbel⟩
            · have D : Hid (B = false) := hide (HBd.out.symm.trans (decide_eq_false (by omega)))
              go_wp2_with fail
              go_meet
              case rel => exact ⟨by rw [D.out], hrow, hbel⟩
          · have D : Hid (B = false) := hide (HBd.out.symm.trans (decide_eq_false (by omega)))
            go_wp2_with fail
            go_meet
            case rel => exact ⟨by rw [D.out], hrow, hbel⟩
        case rest =>
          clear hrow hbel
          obtain ⟨rfl, hrow, hbel⟩ := hcut
          cases B
          · obtain ⟨a5, c5, e5, _, _, hat⟩ := atS_own hSl.out.symm hsz.out hrow.out
            cases e5
            have HAT := hide hat
            have HFW := hide (hfew.out.more hj)
            clear hat HBd
            go_wp2_with fail
            refine (HWS.out _ _ _ S hSl.out HAT.out HFW.out).mono ?_
            rintro e w5 ⟨rfl, hb5⟩
            have HAT5 := hide (HAT.out.stays hb5 (Nat.le_refl _))
            have HB5 := hide (hbel.out.trans (hb5.mono hbel.out.size))
            clear hb5 HAT hbel
            go_wp2_with fail
            refine (HMS.out _ _ _ S hSl.out HAT5.out HFW.out).mono ?_
            rintro e w6 ⟨⟨y, rfl, hy7, hyF⟩, hb6⟩
            have HB6 := hide (HB5.out.trans (hb6.mono HB5.out.size))
            have hy : (N : Int) - F ≤ y := by omega
            have h3 : 3 * (F : Int) + 1 ≤ N := by omega
            clear hb6 HB5 HAT5
            go_wp2_with fail
            go_ret
            exact ⟨by simp, HB1.out.trans (HB6.out.mono HB1.out.size)⟩
          · obtain ⟨q1, q2, q3⟩ := of_decide_eq_true HBd.out
            have hjl : j < lies.length := HM.out ▸ q2
            have hja : j < at_.length := HK.out ▸ q3
            obtain ⟨b1, o1, rfl, hlie⟩ := HB.out (by omega)
            obtain ⟨b2, o2, rfl, hlia⟩ := HA.out (by omega)
            have hbw := HB1.out.trans (hbel.out.mono HB1.out.size)
            obtain ⟨c1, hx1⟩ := (hlie.stays hbw (Nat.le_refl _)) j hjl
            have c2 : _ = some (Value.int .i64 at_[j]) := (hlia.stays hbw (Nat.le_refl _)) j hja
            have HBE := hide (World.block_lt_of_cell? w _ (hlie j hjl).1)
            have HBE2 := hide (World.block_lt_of_cell? w _ (hlia j hja))
            generalize lies[j] = x at c1 hx1
            generalize at_[j] = z at c2
            have HX1 := hide hx1
            clear hlie hlia hbw hx1 HBd
            obtain ⟨C, HCd⟩ : ∃ C, Hid (decide (0 ≤ z ∧ z < (N : Int)) = C) := ⟨_, hide rfl⟩
            go_upto_region 15 with fail
            go_cut [92] from 63 to 102 (fun c wx => c = .bool C ∧ Hid (wx.ownsRow w1.heap.size 9 1 (.slice (some ⟨w1.heap.size, 0, none⟩) N N) N (cellsS S)) ∧ Hid (Below w1.heap.size w1 wx) ∧ wx.cell? ⟨b1, o1 + j, none⟩ = some (.string x) ∧ wx.cell? ⟨b2, o2 + j, none⟩ = some (.int .i64 z))
            case first =>
              have ij : (j : Int) < k := by omega
              by_cases r1 : 0 ≤ z
              · by_cases r2 : z < (N : Int)
                · have D : Hid (C = true) := hide (HCd.out.symm.trans (decide_eq_true ⟨r1, r2⟩))
                  go_wp2_with fail
                  go_meet
                  case rel => exact ⟨by rw [D.out], hrow, hbel, c1, c2⟩
                · have D : Hid (C = false) := hide (HCd.out.symm.trans (decide_eq_false (by omega)))
                  go_wp2_with fail
                  go_meet
                  case rel => exact ⟨by rw [D.out], hrow, hbel, c1, c2⟩
              · have D : Hid (C = false) := hide (HCd.out.symm.trans (decide_eq_false (by omega)))
                go_wp2_with fail
                go_meet
                case rel => exact ⟨by rw [D.out], hrow, hbel, c1, c2⟩
            case rest =>
              clear hrow hbel c1 c2
              obtain ⟨rfl, hrow, hbel, c1, c2⟩ := hcut
              cases C
              · have HF1 := hide (hfew.out.more (Nat.le_succ j))
                clear HCd c1 c2
                go_wp2_with fail
                go_roundw
                case rel => exact ⟨j + 1, S, by go_num, by omega, hSl, HF1, hsz, hrow, hbel⟩
                case measure => simp [intOf]; omega
              · obtain ⟨r1, r2⟩ := of_decide_eq_true HCd.out
                obtain ⟨Z, rfl⟩ : ∃ Z : Nat, z = Z := ⟨z.toNat, by omega⟩
                have hZ : Z < S.length := by rw [hSl.out]; omega
                have c3 : wc.cell? ⟨w1.heap.size, Z, none⟩ = some (.string S[Z]) := by rw [hrow.out.cellAt Z (by have := hSl.out; omega), cellsS_at hZ]
                have f3 : wc.frozen? ⟨w1.heap.size, Z, none⟩ = false := hrow.out.frozenAt _
                have HF1 := hide (hfew.out.set hZ x)
                have HZ1 : Hid (∀ y ∈ S.set Z x, y.size ≤ reachBytes) := hide fun y hy => by
                  rcases List.mem_or_eq_of_mem_set hy with h | h
                  · exact hsz.out y h
                  · rw [h]; exact HX1.out
                have HR1 := hide (hrow.out.stored Z (.string x)).1
                rw [← cellsS_set] at HR1
                have HB4 := hide (hbel.out.setCell (p := ⟨w1.heap.size, Z, none⟩) (Nat.le_refl _) (.string x))
                have HL1 : Hid ((S.set Z x).length = N) := hide (by rw [List.length_set]; exact hSl.out)
                generalize S[Z] = o3 at c3
                have hg : w1.heap.size < wc.heap.size := World.block_lt_of_cell? wc _ c3
                have ij : (j : Int) < k := by omega
                have im : (j : Int) < m := by omega
                clear HCd hZ r1 hrow hbel
                go_wp2_with fail
                go_region_with (fail)
                all_goals
                  go_wp2_with fail
                  go_roundw
                  case rel => exact ⟨j + 1, S.set Z x, by go_num, by omega, HL1, HF1, HZ1, hide HR1.out.drew, hide HB4.out.drew⟩
                  case measure => simp [intOf]; omega

set_option maxRecDepth 100000 in
theorem walk_out (n : Int) (t : ByteArray) (bv : Option Addr) (m bc : Nat) (av : Option Addr) (k ac : Nat) (w : World) (h : n < 1 ∨ 7 < n) :
    Calls Try.prog 3 #[.int .i64 n, .string t, .slice bv m bc, .slice av k ac] w fun e w' => e = .returned (.bool true) ∧ Below w.heap.size w w' := by
  have hW := vWin (some ⟨w.heap.size, 0, none⟩) 3 3 abb 2 _ rfl (by unfold maxLen; decide) (lit_abb w)
  rw [abbE, abbS] at hW
  have HW : Hid (Calls Try.prog 5 #[.slice (some ⟨w.heap.size, 0, none⟩) 3 3, .int .i64 2] (w.alloc (.cells #[.string ⟨#[97]⟩, .string ⟨#[98]⟩, .string ⟨#[98]⟩] 9)) fun e w' => e = .returned (.tuple #[.string ⟨#[98]⟩, .nilIface]) ∧ Below w.heap.size w w') := hide (hW.mono fun e w' ⟨he, hb⟩ => ⟨he, ((Below.refl _ _).alloc (Nat.le_refl _) _).trans (hb.mono (by simp))⟩)
  have HFL : Hid (∀ wx, Calls Try.prog 6 #[.int .i64 n] wx fun e w' => e = .returned (.tuple #[.int .i64 0, .iface 34 (.int .i64 1)]) ∧ w' = wx) := hide fun wx => by
    have := vFaults n wx
    rwa [M.fltE_bad h, M.fltR_bad h, errV_bad (by decide)] at this
  clear hW
  by_cases h1 : n < 1
  · clear h
    go_enter Try.func3, Try.ntmps3
    go_wp2_with fail
    refine (unhide HW).mono ?_
    rintro e w1 ⟨rfl, hb1⟩
    have HB1 := hide hb1
    clear hb1 HW
    go_wp2_with fail
    refine (HFL.out _).mono ?_
    rintro e w2 ⟨rfl, hw⟩
    obtain rfl := hw.symm
    go_wp2_with fail
    go_ret
    exact ⟨rfl, HB1.out⟩
  · have h2 : 7 < n := by omega
    clear h
    go_enter Try.func3, Try.ntmps3
    go_wp2_with fail
    refine (unhide HW).mono ?_
    rintro e w1 ⟨rfl, hb1⟩
    have HB1 := hide hb1
    clear hb1 HW
    go_wp2_with fail
    refine (HFL.out _).mono ?_
    rintro e w2 ⟨rfl, hw⟩
    obtain rfl := hw.symm
    go_wp2_with fail
    go_ret
    exact ⟨rfl, HB1.out⟩

theorem walk (n : Int) (t : ByteArray) (bv : Option Addr) (m bc : Nat) (lies : List ByteArray) (av : Option Addr) (k ac : Nat) (at_ : List Int) (w : World) (hs : t.size ≤ reachBytes)
    (hm : m = lies.length) (hmm : m ≤ maxLen) (hb : AtS w bv lies) (hk : k = at_.length) (hkm : k ≤ maxLen) (ha : AtI w av at_) :
    Calls Try.prog 3 #[.int .i64 n, .string t, .slice bv m bc, .slice av k ac] w fun e w' => e = .returned (.bool true) ∧ Below w.heap.size w w' := by
  by_cases h : n < 1 ∨ 7 < n
  · exact walk_out n t bv m bc av k ac w h
  · obtain ⟨N, rfl⟩ : ∃ N : Nat, n = N := ⟨n.toNat, by omega⟩
    exact walk_in N ((N - 1) / 3) t bv m bc lies av k ac at_ w (by omega) (by omega) (by rw [M.fltR_ok h]; omega) (by omega) hs hm hmm hb hk hkm ha

end Go.Proofs.Ytlefhfmckimlaah.voteTrue
