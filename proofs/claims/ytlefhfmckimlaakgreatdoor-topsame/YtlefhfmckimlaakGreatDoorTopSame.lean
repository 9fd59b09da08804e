/-
  The walk of the Go function TopSame: it returns true, whatever comes in.
-/
import Derived.Test.YtlefhfmckimlaakGreatDoorTopSameA
import Derived.Test.YtlefhfmckimlaakGreatDoorTopSole
import Derived.Test.YtlefhfmckimlaakGreatDoorAsks
import Derived.Deep.CutRange
import Derived.Deep.QuietTactic
import Derived.BigQuiet
set_option linter.unusedVariables false
namespace Go.Proofs.YtlefhfmckimlaakGreatDoor.topSame
open Go.RowKit
attribute [local go_sem ↓] Go.wp_at_zero Go.wp_at_succ

set_option maxRecDepth 100000 in
set_option maxHeartbeats 2000000 in
/-- where the rules are none -/
theorem walk_bad (rav : Option Addr) (rn rcap : Nat) (R : List M.Rul) (v1 : Value) (lie : ByteArray) (keep : Int) (w : World) (hrn : rn = R.length) (hrm : rn ≤ maxLen) (hR : AtR w rav R) (hE : M.rulE R ≠ 0) :
    Calls Tryz.prog 4 #[.slice rav rn rcap, v1, .string lie, .int .i64 keep] w fun e w' => e = .returned (.bool true) ∧ Below w.heap.size w w' := by
  have HC : Hid (∀ wx, Below w.heap.size w wx → Calls Tryz.prog 24 #[.slice rav rn rcap] wx fun e w' => e = .returned (.tuple #[.pointer none, .iface 87 (.int .i64 (M.rulE R))]) ∧ Below wx.heap.size wx w') := hide fun wx hb => by
    have := mNew_bad rav rn rcap R wx hrn hrm (hR.stays hb (Nat.le_refl _)) hE
    rwa [errV_bad hE] at this
  have HK : Hid (∀ wx, Below w.heap.size w wx → Calls Tryz.prog 25 #[.int .i64 4, .slice rav rn rcap] wx fun e w' => e = .returned (.tuple #[.pointer none, .iface 87 (.int .i64 (M.rulE R))]) ∧ Below wx.heap.size wx w') := hide fun wx hb => by
    have := crNew_bad 4 rav rn rcap R wx (by decide) (by decide) hrn hrm (hR.stays hb (Nat.le_refl _)) hE
    rwa [errV_bad hE] at this
  have HJ : Hid (∀ wx, Below w.heap.size w wx → Calls Tryz.prog 8 #[.slice rav rn rcap] wx fun e w' => e = .returned (.tuple #[.pointer none, .iface 87 (.int .i64 (M.rulE R))]) ∧ Below wx.heap.size wx w') := hide fun wx hb => by
    have := lNew_bad rav rn rcap R wx hrn hrm (hR.stays hb (Nat.le_refl _)) hE
    rwa [errV_bad hE] at this
  generalize M.rulE R = E at *
  clear hrn hrm hR hE
  go_enter Tryz.func4, Tryz.ntmps4
  go_wp2_with fail
  refine (tOne _).mono ?_
  rintro e w1 ⟨rfl, hb1⟩
  have HB1 := hide hb1
  clear hb1
  go_wp2_with fail
  refine (qnew _).mono ?_
  rintro e w2 ⟨rfl, hw2⟩
  have HB2 : Hid (Below w.heap.size w w2) := hide (by rw [hw2]; exact (HB1.out.alloc HB1.out.size _).alloc (Nat.le_trans HB1.out.size (by simp)) _)
  clear hw2
  go_wp2_with fail
  refine (HC.out _ HB2.out).mono ?_
  rintro e w3 ⟨rfl, hb3⟩
  have HB3 := hide (HB2.out.trans (hb3.mono HB2.out.size))
  clear hb3
  go_wp2_with fail
  refine (HK.out _ HB3.out).mono ?_
  rintro e w4 ⟨rfl, hb4⟩
  have HB4 := hide (HB3.out.trans (hb4.mono HB3.out.size))
  clear hb4
  go_wp2_with fail
  refine (HJ.out _ HB4.out).mono ?_
  rintro e w5 ⟨rfl, hb5⟩
  have HB5 := hide (HB4.out.trans (hb5.mono HB4.out.size))
  clear hb5
  go_wp2_with fail
  go_ret
  exact ⟨rfl, HB5.out⟩

set_option maxRecDepth 100000 in
set_option maxHeartbeats 4000000 in
theorem walk_ok (rav : Option Addr) (rn rcap : Nat) (R : List M.Rul) (av : Option Addr) (an cap : Nat) (l : List M.Ask) (lie : ByteArray) (keep : Int) (w : World) (hrn : rn = R.length) (hrm : rn ≤ maxLen) (hR : AtR w rav R) (hE : M.rulE R = 0)
    (hm : an = l.length) (hmm : an ≤ maxLen) (hl : AtA w av l) (hlie : lie.size ≤ reachBytes) (ht : Tab w) :
    Calls Tryz.prog 4 #[.slice rav rn rcap, .slice av an cap, .string lie, .int .i64 keep] w fun e w' => e = .returned (.bool true) ∧ Below w.heap.size w w' := by
  have HC : Hid (∀ wx, Below w.heap.size w wx → Calls Tryz.prog 24 #[.slice rav rn rcap] wx fun e w' => ∃ C F, e = .returned (.tuple #[.pointer (some ⟨C, 0, none⟩), .nilIface]) ∧ CpIs w.heap.size w' F C M.Cop.new R ∧ (∀ i, F i → wx.heap.size ≤ i) ∧ Below wx.heap.size wx w') := hide fun wx hb => mNew_ok w.heap.size rav rn rcap R wx hb.size hrn hrm (hR.stays hb (Nat.le_refl _)) hE
  have HK : Hid (∀ wx, Below w.heap.size w wx → Calls Tryz.prog 25 #[.int .i64 4, .slice rav rn rcap] wx fun e w' => ∃ K F, e = .returned (.tuple #[.pointer (some ⟨K, 0, none⟩), .nilIface]) ∧ CwIs w.heap.size w' F K 4 M.Cop.new R ∧ (∀ i, F i → wx.heap.size ≤ i) ∧ Below wx.heap.size wx w') := hide fun wx hb => crNew_ok w.heap.size 4 rav rn rcap R wx hb.size (by decide) (by decide) hrn hrm (hR.stays hb (Nat.le_refl _)) hE
  have HJ : Hid (∀ wx, Below w.heap.size w wx → Calls Tryz.prog 8 #[.slice rav rn rcap] wx fun e w' => ∃ J F, e = .returned (.tuple #[.pointer (some ⟨J, 0, none⟩), .nilIface]) ∧ LgIs w.heap.size w' F J M.Lg.new R ∧ (∀ i, F i → wx.heap.size ≤ i) ∧ Below wx.heap.size wx w') := hide fun wx hb => lNew_ok w.heap.size rav rn rcap R wx hb.size hrn hrm (hR.stays hb (Nat.le_refl _)) hE
  have HLA : Hid (∀ k (hk : k < l.length), ∃ b off a n c, av = some ⟨b, off, none⟩ ∧ IsVals w (.slice a n c) l[k].t ∧ ∀ wy, Below w.heap.size w wy → wy.cell? ⟨b, off + k * 4, none⟩ = some (.int .i64 l[k].who) ∧ wy.cell? ⟨b, off + k * 4 + 1, none⟩ = some (.int .i64 l[k].seq) ∧ wy.cell? ⟨b, off + k * 4 + 2, none⟩ = some (.int .i64 l[k].deed) ∧ wy.cell? ⟨b, off + k * 4 + 3, none⟩ = some (.slice a n c)) := hide fun k hk => by
    obtain ⟨b, off, e, hlie⟩ := hl (by omega)
    obtain ⟨a, n, c, h1, h2, h3, h4, h5⟩ := hlie.get hk
    have hlt := World.block_lt_of_cell? w _ h1
    exact ⟨b, off, a, n, c, e, h5, fun wy hy => ⟨(hy.cell (p := ⟨b, off + k * 4, none⟩) hlt).trans h1, (hy.cell (p := ⟨b, off + k * 4 + 1, none⟩) hlt).trans h2, (hy.cell (p := ⟨b, off + k * 4 + 2, none⟩) hlt).trans h3, (hy.cell (p := ⟨b, off + k * 4 + 3, none⟩) hlt).trans h4⟩⟩
  have HM := hide hm
  have HT := hide ht
  have HLE := hide hlie
  unfold maxLen at hmm
  clear hrn hrm hR hE ht hl hm hlie
  go_enter Tryz.func4, Tryz.ntmps4
  go_wp2_with fail
  refine (tOne _).mono ?_
  rintro e w1 ⟨rfl, hb1⟩
  have HB1 := hide hb1
  clear hb1
  go_wp2_with fail
  refine (qnew _).mono ?_
  rintro e w2 ⟨rfl, hw2⟩
  have HQ0 : Hid (QIs w.heap.size w2 (qF (w1.heap.size + 1) w1.heap.size (.slice none 0 0)) (w1.heap.size + 1) [] 0 (fun _ => 0)) := hide ⟨⟨_, _, rfl, by rw [hw2]; exact Qs.new w1 HB1.out.size⟩, fun _ => ⟨Int.le_refl _, Int.le_refl _⟩⟩
  have HB2 : Hid (Below w.heap.size w w2) := hide (by rw [hw2]; exact (HB1.out.alloc HB1.out.size _).alloc (Nat.le_trans HB1.out.size (by simp)) _)
  obtain ⟨Q, hQ⟩ : ∃ Q, Q = w1.heap.size + 1 := ⟨_, rfl⟩
  rw [← hQ] at HQ0 ⊢
  generalize qF Q w1.heap.size (.slice none 0 0) = FQ at HQ0
  clear hw2 hQ
  go_wp2_with fail
  refine (HC.out _ HB2.out).mono ?_
  rintro e w3 ⟨C, FC, rfl, hC, hCn, hb3⟩
  have HC3 := hide hC
  have HQ3 := hide (HQ0.out.quiet hb3)
  have HO1 : Hid (Off FQ FC) := hide (Off.new (w := w2) HQ0.out.highs hCn).symm
  have HB3 := hide (HB2.out.trans (hb3.mono HB2.out.size))
  clear hb3 hC hCn HC HQ0
  go_wp2_with fail
  refine (HK.out _ HB3.out).mono ?_
  rintro e w4 ⟨K, FK, rfl, hK, hKn, hb4⟩
  have HK4 := hide hK
  have HQ4 := hide (HQ3.out.quiet hb4)
  have HC4 := hide (HC3.out.quiet hb4)
  have HO2 : Hid (Off FQ FK ∧ Off FC FK) := hide ⟨(Off.new (w := w3) HQ3.out.highs hKn).symm, (Off.new (w := w3) HC3.out.highs hKn).symm⟩
  have HB4 := hide (HB3.out.trans (hb4.mono HB3.out.size))
  clear hb4 hK hKn HK HQ3 HC3
  go_wp2_with fail
  refine (HJ.out _ HB4.out).mono ?_
  rintro e w5 ⟨J, FJ, rfl, hJ, hJn, hb5⟩
  have HS0 : Hid (Sm w w5 Q C K J [] 0 (fun _ => 0) M.Cop.new M.Cop.new M.Lg.new R) := hide ⟨⟨FQ, FC, FK, FJ, HQ4.out.quiet hb5, HC4.out.quiet hb5, HK4.out.quiet hb5, hJ, ⟨HO1.out, HO2.out.1, (Off.new (w := w4) HQ4.out.highs hJn).symm⟩, ⟨HO2.out.2, (Off.new (w := w4) HC4.out.highs hJn).symm⟩, (Off.new (w := w4) HK4.out.highs hJn).symm⟩, HB4.out.trans (hb5.mono HB4.out.size)⟩
  clear hb5 hJ hJn HJ HQ4 HC4 HK4 HO1 HO2 HB1 HB2 HB3 HB4
  go_wp2_with fail
  go_loopw [17, 18] (fun s17 s18 wr => ∃ (i m : Nat) (f : Int → Int) (c : M.Cop) (g : M.Lg), s17 = .int .i64 c.n ∧ s18 = .int .i64 i ∧ i ≤ 20 ∧ c.n ≤ i ∧ m ≤ i ∧ Hid (Iv f c ∧ Gd c g) ∧ Hid (Sm w wr Q C K J [] m f c c g R)) (fun _ s18 _ => 20 - (intOf s18).toNat)
  case atStart => exact ⟨0, 0, _, M.Cop.new, M.Lg.new, rfl, rfl, Nat.zero_le _, Nat.le_refl _, Nat.le_refl _, hide ⟨Iv.new, Gd.new⟩, HS0⟩
  case round =>
    clear HS0
    obtain ⟨i, m, f, c, g, rfl, rfl, hi20, hci, hmi, hI, hS⟩ := hrel
    go_upto_region 12 with fail
    go_cut [84] from 77 to 84 (fun s wx => ∃ Bd : Bool, s = .bool Bd ∧ Hid (Bd = true → i < an ∧ i < 20) ∧ wx = wr)
    case first =>
      by_cases q1 : (i : Int) < an
      · by_cases q2 : (i : Int) < 20
        · go_wp2_with fail
          go_meet
          case rel => exact ⟨true, rfl, hide (fun _ => ⟨by omega, by omega⟩), rfl⟩
        · go_wp2_with fail
          go_meet
          case rel => exact ⟨false, by first | rfl | (simp; omega), hide (fun h => by cases h), rfl⟩
      · go_wp2_with fail
        go_meet
        case rel => exact ⟨false, rfl, hide (fun h => by cases h), rfl⟩
    case rest =>
      obtain ⟨Bd, rfl, hBd, hwx⟩ := hcut
      obtain rfl := hwx.symm
      cases Bd
      · clear hBd
        have HKP := hide (Gd.kept (R := R) (by obtain ⟨_, _, _, _, _, _, _, q, _⟩ := hS.out.ex; exact q.ok) hI.out.2 keep)
        have HSY := hide hS.out.sync
        rw [HKP.out.1] at HSY
        obtain ⟨g2, hg2⟩ : ∃ g2, g2 = (M.lgSync g).2 := ⟨_, rfl⟩
        rw [← hg2] at HSY HKP
        have HSZ : Hid (Calls Tryz.prog 10 #[.pointer (some ⟨J, 0, none⟩)] wr fun e w' => e = .returned .nilIface ∧ Sm w w' Q C K J [] m f c c g2 R) := HSY
        clear HSY hg2 hS
        go_wp2_with fail
        refine (unhide HSZ).mono ?_
        rintro e w6 ⟨rfl, hS6⟩
        have HCR := hide (hS6.crash keep HT.out)
        clear hS6 HSZ
        go_wp2_with fail
        refine (unhide HCR).mono ?_
        rintro e w7 ⟨rfl, hS7⟩
        have HCM := hide (hS7.cmark HT.out)
        clear hS7 HCR
        go_wp2_with fail
        refine (unhide HCM).mono ?_
        rintro e w8 ⟨rfl, hS8⟩
        have HJM := hide (hS8.jmark HT.out)
        rw [HKP.out.2] at HJM
        clear hS8 HCM
        generalize M.mark c.l = mk at *
        go_wp2_with fail
        refine (unhide HJM).mono ?_
        rintro e w9 ⟨rfl, hS9⟩
        have HS9 := hide hS9.bel
        clear hS9 HJM
        go_wp2_with fail
        go_ret
        exact ⟨rfl, HS9.out⟩
      · obtain ⟨k1, k2⟩ := hBd.out rfl
        clear hBd
        have hkl : i < l.length := by have := HM.out; omega
        obtain ⟨b, off, a, n, cp, rfl, hv, hcells⟩ := HLA.out i hkl
        obtain ⟨x, hx⟩ : ∃ x, x = l[i] := ⟨_, rfl⟩
        rw [← hx] at hv hcells
        obtain ⟨z1, z2, z3, z4⟩ := hcells wr hS.out.bel
        have HPU := hide (hS.out.push x (hv.stays hS.out.bel (Nat.le_refl _)) (by omega))
        have y1 : (0 : Int) ≤ (i : Int) := by omega
        have y2 : (i : Int) < (an : Int) := by omega
        have zb := World.block_lt_of_cell? _ _ z1
        clear hx hv hcells
        obtain ⟨PE, hPE⟩ : ∃ PE, PE = M.pushE f 0 x := ⟨_, rfl⟩
        have HPE := hide hPE
        rw [← hPE] at HPU
        clear hPE
        go_wp2_with fail
        refine (unhide HPU).mono ?_
        rintro e w6 ⟨rfl, hway⟩
        dsimp only
        rcases hway with ⟨q1, q2⟩ | ⟨rfl, y, rfl, hS6⟩
        · rw [errV_bad q1]
          have HS6 := hide q2
          clear q1 q2 HPE HPU z1 z2 z3 z4 zb
          go_wp2_with fail
          go_roundw
          case rel => exact ⟨i + 1, m, f, c, g, rfl, by go_num, by omega, by omega, by omega, hI, HS6⟩
          case measure => simp [intOf]; omega
        · rw [show errV 0 = Value.nilIface from rfl]
          have HPP := hide hS6.pop
          clear hS6 HPU z1 z2 z3 z4 zb
          go_wp2_with fail
          refine (unhide HPP).mono ?_
          rintro e w7 ⟨rfl, hS7, hO7⟩
          dsimp only
          clear HPP
          obtain ⟨ya, yx, yn, yc⟩ := y
          simp only at HPE hS7 hO7 ⊢
          obtain ⟨who, seq, deed, t⟩ := ya
          obtain ⟨hIv, hways⟩ := pass (R := R) hI.out.1 HPE.out.symm
          obtain ⟨W, hW⟩ : ∃ W, W = w7.alloc (.cells #[.int .i64 who, .int .i64 seq, .int .i64 deed, .slice yx yn yc] 38) := ⟨_, rfl⟩
          have hbW : Below w7.heap.size w7 W := by rw [hW]; exact (Below.refl _ _).alloc (Nat.le_refl _) _
          have HBX : Hid (AskBox W w7.heap.size who seq deed yx yn yc) := hide (by rw [hW]; exact heap_alloc_new w7 _)
          have HSW := hide (hS7.quiet hbW)
          have HOW := hide (hO7.solid (Solid.below hbW))
          have HIV := hide hIv
          have HWY := hide hways
          have HGA := hide (fun k => Gd.act (R := R) (x := ⟨who, seq, deed, t⟩) (k := k) (by obtain ⟨_, _, _, _, _, _, _, q, _⟩ := hS.out.ex; exact q.ok) hI.out.2 (show c.n < 30 by omega) (hways.imp (fun q => q.1) (fun q => q.2)))
          obtain ⟨E, hEe⟩ : ∃ E, E = (M.doR R c ⟨who, seq, deed, t⟩).1 := ⟨_, rfl⟩
          obtain ⟨s, hse⟩ : ∃ s, s = (M.doR R c ⟨who, seq, deed, t⟩).2.1 := ⟨_, rfl⟩
          obtain ⟨c', hce⟩ : ∃ c', c' = (M.doR R c ⟨who, seq, deed, t⟩).2.2 := ⟨_, rfl⟩
          have HD1 := hide (HSW.out.cdo ⟨who, seq, deed, t⟩ HOW.out.vals (by omega) HT.out)
          simp only at HD1
          rw [← hEe, ← hse, ← hce] at HD1
          rw [← hEe, ← hce] at HWY
          rw [← hce] at HIV
          simp only [← hEe, ← hse, ← hce] at HGA
          obtain ⟨x0, x1, x2, x3, xn⟩ := HBX.out.cells
          have HDC : Hid ((M.doR R c ⟨who, seq, deed, t⟩).1 = E ∧ (M.doR R c ⟨who, seq, deed, t⟩).2.1 = s ∧ (M.doR R c ⟨who, seq, deed, t⟩).2.2 = c') := hide ⟨hEe.symm, hse.symm, hce.symm⟩
          have HWW := hide hW
          clear hS7 hO7 hIv hways hbW hEe hse hce hW HPE hS hI
          go_upto_region 18 with fail
          rw [← HWW.out]
          clear HWW
          go_wp2_with fail
          refine (unhide HD1).mono ?_
          rintro e w8 ⟨rfl, hS8, hso8, hbs8⟩
          dsimp only
          have HBX8 := hide (hbs8 _ _ _ _ _ _ _ HBX.out)
          have HO8 := hide (HOW.out.solid hso8)
          have HD2 := hide (hS8.gdo ⟨who, seq, deed, t⟩ lie HLE.out HO8.out (by omega) HT.out)
          simp only at HD2
          rw [HDC.out.1, HDC.out.2.1, HDC.out.2.2] at HD2
          clear hS8 hso8 hbs8 HD1 x0 x1 x2 x3 xn HBX HOW HSW
          obtain ⟨x0, x1, x2, x3, xn⟩ := HBX8.out.cells
          go_wp2_with fail
          refine (unhide HD2).mono ?_
          rintro e w9 ⟨rfl, hS9, hso9, hbs9⟩
          dsimp only
          have HBX9 := hide (hbs9 _ _ _ _ _ _ _ HBX8.out)
          have HO9 := hide (HO8.out.solid hso9)
          have HD3 := hide (hS9.jdo ⟨who, seq, deed, t⟩ HO9.out.vals HT.out)
          simp only at HD3
          clear hS9 hso9 hbs9 HD2 x0 x1 x2 x3 xn HBX8 HO8
          obtain ⟨x0, x1, x2, x3, xn⟩ := HBX9.out.cells
          go_wp2_with fail
          refine (unhide HD3).mono ?_
          rintro e w10 ⟨kk, _, rfl, hS10⟩
          dsimp only
          obtain ⟨e1, e2, hGd⟩ := HGA.out kk
          rw [e1, e2]
          obtain ⟨g', hg'⟩ : ∃ g', g' = (M.lgDo R g ⟨who, seq, deed, t⟩ kk).2.2 := ⟨_, rfl⟩
          rw [← hg'] at hS10 hGd
          have HGD := hide hGd
          have HSX := hide hS10
          have hss : (s.toList == s.toList) = true := by simp
          clear e1 e2 hg' hGd HD3 HGA x0 x1 x2 x3 xn HBX9 HO9 HDC hS10
          have HGC := hide HGD.out.cop
          have hmod : ((i : Int) % 4) = ((i % 4 : Nat) : Int) := by omega
          have him : i % 4 < 4 := Nat.mod_lt _ (by decide)
          have HTM : Hid (Int.tmod (i : Int) 4 = ((i % 4 : Nat) : Int)) := hide (by rw [Int.tmod_eq_emod_of_nonneg (by omega)]; exact hmod)
          have HMK : Hid ((∀ wx, Sm w wx Q C K J [] (m + 1) (M.upF f ⟨who, seq, deed, t⟩) c' c' g' R → Calls Tryz.prog 31 #[.pointer (some ⟨K, 0, none⟩), .int .i64 ((i : Int) % 4)] wx fun e w' => e = .returned (.tuple #[.int .i64 c'.n, .int .i64 (M.mark c'.l), .nilIface]) ∧ Sm w w' Q C K J [] (m + 1) (M.upF f ⟨who, seq, deed, t⟩) c' c' g' R) ∧ (∀ wx, Sm w wx Q C K J [] (m + 1) (M.upF f ⟨who, seq, deed, t⟩) c' c' g' R → Calls Tryz.prog 12 #[.pointer (some ⟨J, 0, none⟩)] wx fun e w' => e = .returned (.tuple #[.int .i64 c'.n, .int .i64 (M.mark c'.l)]) ∧ Sm w w' Q C K J [] (m + 1) (M.upF f ⟨who, seq, deed, t⟩) c' c' g' R)) := hide ⟨fun wx hx => by
            have := hx.gmark (i % 4) him HT.out
            rwa [← hmod] at this, fun wx hx => by
            have := hx.jmark HT.out
            rwa [HGC.out] at this⟩
          have HIG : Hid (Iv (M.upF f ⟨who, seq, deed, t⟩) c' ∧ Gd c' g') := hide ⟨HIV.out, HGD.out⟩
          clear HGC hmod him HTM HGD HIV
          rcases HWY.out with ⟨r1, rfl⟩ | ⟨rfl, r2⟩
          · rw [errV_bad r1]
            clear r1 HWY
            go_wp2_with fail
            go_quiet (fail)
            go_wp2_with fail
            have HSQ := hide (HSX.out.quiet (Go.below_drewN (Below.refl _ _) nq))
            have HCM := hide (HSQ.out.cmark HT.out)
            generalize M.mark c'.l = mk at *
            clear HSQ HSX
            refine (unhide HCM).mono ?_
            rintro e w11 ⟨rfl, hS11⟩
            dsimp only
            have HGM := hide (HMK.out.1 w11 hS11)
            clear hS11 HCM
            go_wp2_with fail
            refine (unhide HGM).mono ?_
            rintro e w12 ⟨rfl, hS12⟩
            dsimp only
            have HJM := hide (HMK.out.2 w12 hS12)
            clear hS12 HGM
            go_wp2_with fail
            refine (unhide HJM).mono ?_
            rintro e w13 ⟨rfl, hS13⟩
            dsimp only
            have HS13 := hide hS13
            clear hS13 HJM
            go_wp2_with fail
            go_roundw
            case rel => exact ⟨i + 1, m + 1, _, c', g', rfl, by go_num, by omega, by omega, by omega, HIG, HS13⟩
            case measure => simp [intOf]; omega
          · rw [show errV 0 = Value.nilIface from rfl]
            have r3 : (c'.n : Int) = (c.n : Int) + 1 := by omega
            have HR2 := hide r2
            clear HWY r2
            go_wp2_with fail
            go_quiet (fail)
            go_wp2_with fail
            have HSQ := hide (HSX.out.quiet (Go.below_drewN (Below.refl _ _) nq))
            have HCM := hide (HSQ.out.cmark HT.out)
            generalize M.mark c'.l = mk at *
            clear HSQ HSX
            refine (unhide HCM).mono ?_
            rintro e w11 ⟨rfl, hS11⟩
            dsimp only
            have HGM := hide (HMK.out.1 w11 hS11)
            clear hS11 HCM
            go_wp2_with fail
            refine (unhide HGM).mono ?_
            rintro e w12 ⟨rfl, hS12⟩
            dsimp only
            have HJM := hide (HMK.out.2 w12 hS12)
            clear hS12 HGM
            go_wp2_with fail
            refine (unhide HJM).mono ?_
            rintro e w13 ⟨rfl, hS13⟩
            dsimp only
            have HS13 := hide hS13
            clear hS13 HJM
            go_wp2_with fail
            go_roundw
            case rel => exact ⟨i + 1, m + 1, _, c', g', by rw [HR2.out]; rfl, by go_num, by omega, by have := HR2.out; omega, by omega, HIG, HS13⟩
            case measure => simp [intOf]; omega

theorem walk (rav : Option Addr) (rn rcap : Nat) (R : List M.Rul) (av : Option Addr) (an cap : Nat) (l : List M.Ask) (lie : ByteArray) (keep : Int) (w : World) (hrn : rn = R.length) (hrm : rn ≤ maxLen) (hR : AtR w rav R)
    (hm : an = l.length) (hmm : an ≤ maxLen) (hl : AtA w av l) (hlie : lie.size ≤ reachBytes) (ht : Tab w) :
    Calls Tryz.prog 4 #[.slice rav rn rcap, .slice av an cap, .string lie, .int .i64 keep] w fun e w' => e = .returned (.bool true) ∧ Below w.heap.size w w' := by
  by_cases hE : M.rulE R = 0
  · exact walk_ok rav rn rcap R av an cap l lie keep w hrn hrm hR hE hm hmm hl hlie ht
  · exact walk_bad rav rn rcap R _ lie keep w hrn hrm hR hE

end Go.Proofs.YtlefhfmckimlaakGreatDoor.topSame
