/-
  The walk of the Go function QueuePlays: it returns true, whatever comes in.
-/
import Derived.Test.YtlefhfmckimlaahDoorQueuePlaysA
import Derived.Test.YtlefhfmckimlaahDoorPolyMem
import Derived.Deep.RegionWith
import Derived.Deep.DeepCutAuto
import Derived.Deep.CutBlock
set_option linter.unusedVariables false
namespace Go.Proofs.YtlefhfmckimlaahDoor.queuePlays
open Go.RowKit

set_option maxRecDepth 100000 in
set_option maxHeartbeats 4000000 in
theorem walk (bv : Option Addr) (q bc : Nat) (pops : List Int) (av : Option Addr) (m cap : Nat) (l : List M.Ask) (w : World) (hq : q = pops.length) (hqm : q ≤ maxLen) (hb : AtI w bv pops) (hm : m = l.length) (hmm : m ≤ maxLen) (hl : AtA w av l) (hg : Hand w) :
    Calls Tryd.prog 6 #[.slice bv q bc, .slice av m cap] w fun e w' => e = .returned (.bool true) ∧ Below w.heap.size w w' := by
  obtain ⟨i0, hi, hz0, hz1, hz2⟩ := info_parts infoA
  have HI := hide (And.intro hi (And.intro hz0 (And.intro hz1 hz2)))
  have HL := hide hl
  have HM := hide hm
  have HG := hide hg
  have HBP := hide hb
  have HQ := hide hq
  unfold maxLen at hmm hqm
  clear hi hz0 hz1 hz2 hl hm hg hb hq
  go_enter Tryd.func6, Tryd.ntmps6
  go_wp2_with fail
  refine (qnew _).mono ?_
  rintro e w1 ⟨rfl, hw1⟩
  have HO1 : Hid (Ob w w1 (w.heap.size + 1) w.heap.size (.slice none 0 0) [] 0 (fun _ => 0) (.slice none 0 0) []) := hide (by rw [hw1]; exact Ob.start (Below.refl _ _))
  clear hw1
  obtain ⟨S, hS⟩ : ∃ S, S = w.heap.size + 1 := ⟨_, rfl⟩
  obtain ⟨B, hB⟩ : ∃ B, B = w.heap.size := ⟨_, rfl⟩
  rw [← hS] at HO1
  rw [← hS]
  have HO1' : Hid (Ob w w1 S B (.slice none 0 0) [] 0 (fun _ => 0) (.slice none 0 0) []) := hide (by rw [hB]; exact HO1.out)
  clear hS hB HO1
  have hmk := make4 w1
  have HR1 : Hid (Rd w (w1.alloc (.cells (four fun _ => 0) 3)) S B w1.heap.size 0 (.slice none 0 0) [] 0 (fun _ => 0) (.slice none 0 0) []) := hide ⟨⟨HO1'.out.quiet ((Below.refl _ _).alloc (Nat.le_refl _) _), by simp, fun k => by decide, HO1'.out.bel.size, heap_alloc_new w1 _⟩, rfl, Nat.le_refl _, fun j => by decide⟩
  obtain ⟨L, hL⟩ : ∃ L, L = w1.heap.size := ⟨_, rfl⟩
  obtain ⟨w2, hw2⟩ : ∃ w2, w2 = w1.alloc (.cells (four fun _ => 0) 3) := ⟨_, rfl⟩
  rw [← hL] at hmk HR1
  rw [← hw2] at hmk HR1
  clear hL hw2 HO1'
  go_wp2_with fail
  go_loopw [6, 8] (fun sp si wr => ∃ (k p c n : Nat) (ap : Option Addr) (v : Value) (E P : List QEnt) (f : Int → Int), sp = .slice ap p c ∧ si = .int .i64 k ∧ k ≤ m ∧ k ≤ 90 ∧ Hid (p = P.length) ∧ Hid (Rd w wr S B L k v E n f (.slice ap p c) P)) (fun _ si _ => 90 - (intOf si).toNat)
  case atStart => exact ⟨0, 0, 0, 0, none, .slice none 0 0, [], [], fun _ => 0, rfl, rfl, Nat.zero_le _, by omega, hide rfl, HR1⟩
  case round =>
    obtain ⟨k, p, c, n, ap, v, E, P, f, rfl, rfl, hk, hk9, hp, hR⟩ := hrel
    rcases (by omega : (k < m ∧ k < 90) ∨ (k < m ∧ ¬ k < 90) ∨ ¬ k < m) with ⟨hlt, h90⟩ | hend
    · have hkl : k < l.length := HM.out ▸ hlt
      obtain ⟨b, off, rfl, hlie⟩ := HL.out (by omega)
      obtain ⟨a, an, ac, d0, d1, d2, d3, dv⟩ := hlie.get hkl
      have hblt := World.block_lt_of_cell? w _ d0
      have hbel := hR.out.pl.ob.bel
      have c0 := (hbel.cell (p := ⟨b, off + k * 4, none⟩) hblt).trans d0
      have c1 := (hbel.cell (p := ⟨b, off + k * 4 + 1, none⟩) hblt).trans d1
      have c2 := (hbel.cell (p := ⟨b, off + k * 4 + 2, none⟩) hblt).trans d2
      have c3 := (hbel.cell (p := ⟨b, off + k * 4 + 3, none⟩) hblt).trans d3
      have HV := hide dv
      clear dv hlie d0 d1 d2 d3 hbel hblt
      have HBX := hide (Box.new hR.out.pl.ob.qs.row hR.out.pl.ob.row l[k].who l[k].seq l[k].deed a an ac)
      have HR := hide (hR.out.quiet ((Below.refl _ _).alloc (Nat.le_refl _) (.cells #[.int .i64 l[k].who, .int .i64 l[k].seq, .int .i64 l[k].deed, .slice a an ac] 41)))
      have HN0 := hide hR.out.pl.ob.bel.size
      clear hR
      generalize l[k] = y at *
      obtain ⟨yw, ys, yd, yt⟩ := y
      simp only at HV HBX HR c0 c1 c2 c3
      go_upto_region 8 with fail
      rw [show decide ((k : Int) < 90) = true from decide_eq_true (by omega)]
      obtain ⟨wA, hwA⟩ : ∃ wA, wA = wr.alloc (.cells #[.int .i64 yw, .int .i64 ys, .int .i64 yd, .slice a an ac] 41) := ⟨_, rfl⟩
      obtain ⟨N, hN⟩ : ∃ N, N = wr.heap.size := ⟨_, rfl⟩
      rw [← hwA] at HBX HR ⊢
      rw [← hN] at HBX HN0 ⊢
      clear hwA hN c0 c1 c2 c3
      go_cut [47] from 37 to 47 (fun cc wx => ∃ D : Bool, cc = .bool D ∧ Hid (Rd w wx S B L k v E n f (.slice ap p c) P) ∧ Hid (Box wx N v (.slice ap p c) yw ys yd a an ac))
      case first =>
        by_cases hkq : k < q
        · have hkp : k < pops.length := HQ.out ▸ hkq
          obtain ⟨b2, off2, rfl, hli⟩ := HBP.out (by omega)
          have e0 : wA.cell? ⟨b2, off2 + k, none⟩ = some (.int .i64 pops[k]) := (hli.stays HR.out.pl.ob.bel (Nat.le_refl _)) k hkp
          clear hli
          generalize pops[k] = pk at *
          go_wp2_with fail
          go_meet
          case rel => exact ⟨_, rfl, HR, HBX⟩
        · go_wp2_with fail
          go_meet
          case rel => exact ⟨_, rfl, HR, HBX⟩
      case rest =>
        clear HR HBX
        obtain ⟨D, rfl, hR, hBX⟩ := hcut
        go_upto_if 47 with fail
        go_cut [6, 10, 11, 12, 13, 14] from 48 to 93 (fun s6 _ _ _ _ _ wx => ∃ (ap : Option Addr) (p c : Nat) (v : Value) (E P : List QEnt), s6 = .slice ap p c ∧ Hid (p = P.length) ∧ Hid (Rd w wx S B L k v E n f (.slice ap p c) P) ∧ Hid (Box wx N v (.slice ap p c) yw ys yd a an ac))
        case first =>
          have HSE : Hid (∀ wx j, Below w.heap.size w wx → Calls Tryd.prog 8 #[errV j, .int .i64 j] wx fun e w' => e = .returned (.bool true) ∧ Below wx.heap.size wx w') := hide fun wx j hb => by
            have := sameErr j j wx (HG.out.stays hb (Nat.le_refl _))
            rwa [show (j == j) = true by simp] at this
          clear HL HM HBP HQ HI HG
          cases D
          · go_wp2_with fail
            go_meet
            case rel => exact ⟨ap, p, c, v, E, P, rfl, hp, hR, hBX⟩
          · rcases P with _ | ⟨z, P⟩
            · have hp0 : p = 0 := hp.out
              subst hp0
              have hE0 : E = [] := List.map_eq_nil_iff.1 hR.out.same
              subst hE0
              have HPN := hide (qpop_none (hR.out.pl.ob.qs.below ((Below.refl _ _).alloc (Nat.le_refl _) (.cells #[.int .i64 0, .int .i64 0, .int .i64 0, .slice none 0 0] 41))))
              have HB0 : Hid (Below wc.heap.size wc (wc.alloc (.cells #[.int .i64 0, .int .i64 0, .int .i64 0, .slice none 0 0] 41))) := hide ((Below.refl _ _).alloc (Nat.le_refl _) _)
              have HX0 := hide (heap_alloc_new wc (.cells #[.int .i64 0, .int .i64 0, .int .i64 0, .slice none 0 0] 41))
              go_wp2_with fail
              refine (unhide HPN).mono ?_
              rintro e w3 ⟨rfl, hb3⟩
              have HB4 : Hid (Below wc.heap.size wc (w3.alloc (.cells #[.int .i64 0, .int .i64 0, .int .i64 0, .slice none 0 0] 41))) := hide ((HB0.out.trans (hb3.mono HB0.out.size)).alloc (Nat.le_trans HB0.out.size hb3.size) _)
              have HX4 : Hid ((w3.alloc (.cells #[.int .i64 0, .int .i64 0, .int .i64 0, .slice none 0 0] 41)).heap[wc.heap.size]? = some (.cells #[.int .i64 0, .int .i64 0, .int .i64 0, .slice none 0 0] 41 (0, 0))) := hide ((Below.heap_alloc _ _ _ (Nat.lt_of_lt_of_le (heap_lt HX0.out) hb3.size)).trans ((hb3.block _ (heap_lt HX0.out)).trans HX0.out))
              have HY4 := hide (heap_alloc_new w3 (.cells #[.int .i64 0, .int .i64 0, .int .i64 0, .slice none 0 0] 41))
              have HE4 := hide (HSE.out _ 5 (hR.out.pl.ob.bel.trans (HB4.out.mono hR.out.pl.ob.bel.size)))
              clear hb3 HPN HB0 HX0
              rw [errV_bad (by decide)] at HE4 ⊢
              go_wp2_with fail
              refine (unhide HE4).mono ?_
              rintro e w5 ⟨rfl, hb5⟩
              have HB5 := hide (HB4.out.trans (hb5.mono HB4.out.size))
              have HX5 := hide ((hb5.block _ (heap_lt HX4.out)).trans HX4.out)
              have HY5 := hide ((hb5.block _ (heap_lt HY4.out)).trans HY4.out)
              have x0 : w5.cell? ⟨wc.heap.size, 0, none⟩ = some (.int .i64 0) := by rw [cell_of_row w5 _ 0 _ _ (0, 0) HX5.out]; rfl
              have x1 : w5.cell? ⟨wc.heap.size, 1, none⟩ = some (.int .i64 0) := by rw [cell_of_row w5 _ 1 _ _ (0, 0) HX5.out]; rfl
              have x2 : w5.cell? ⟨wc.heap.size, 2, none⟩ = some (.int .i64 0) := by rw [cell_of_row w5 _ 2 _ _ (0, 0) HX5.out]; rfl
              have x3 : w5.cell? ⟨wc.heap.size, 3, none⟩ = some (.slice none 0 0) := by rw [cell_of_row w5 _ 3 _ _ (0, 0) HX5.out]; rfl
              have y0 : w5.cell? ⟨w3.heap.size, 0, none⟩ = some (.int .i64 0) := by rw [cell_of_row w5 _ 0 _ _ (0, 0) HY5.out]; rfl
              have y1 : w5.cell? ⟨w3.heap.size, 1, none⟩ = some (.int .i64 0) := by rw [cell_of_row w5 _ 1 _ _ (0, 0) HY5.out]; rfl
              have y2 : w5.cell? ⟨w3.heap.size, 2, none⟩ = some (.int .i64 0) := by rw [cell_of_row w5 _ 2 _ _ (0, 0) HY5.out]; rfl
              have y3 : w5.cell? ⟨w3.heap.size, 3, none⟩ = some (.slice none 0 0) := by rw [cell_of_row w5 _ 3 _ _ (0, 0) HY5.out]; rfl
              have HTN := hide (tsame_none none none 0 0 w5)
              clear hb5 HE4 HB4 HX4 HY4
              go_wp2_with fail
              refine (unhide HTN).mono ?_
              rintro e w6 ⟨rfl, hb6⟩
              have HB6 := hide (HB5.out.trans (hb6.mono HB5.out.size))
              clear hb6 HTN x0 x1 x2 x3 y0 y1 y2 y3 HX5 HY5
              go_wp2_with fail
              go_meet
              case rel => exact ⟨ap, 0, c, v, [], [], rfl, hp, hide (hR.out.quiet HB6.out), hide (hBX.out.quiet HB6.out)⟩
            · obtain ⟨x, E, rfl⟩ : ∃ x E', E = x :: E' := by
                cases E with
                | nil => exact absurd hR.out.lenE (by simp)
                | cons x E' => exact ⟨x, E', rfl⟩
              obtain ⟨⟨zw, zs, zd, zt⟩, zx, zn, zc⟩ := z
              obtain ⟨⟨xw, xs, xd, xt⟩, xx, xn, xc⟩ := x
              have hsm := hR.out.same
              rw [List.map_cons, List.map_cons] at hsm
              injection hsm with hh hsm
              simp only [M.Ask.mk.injEq] at hh
              obtain ⟨rfl, rfl, rfl, rfl⟩ := hh
              have HSM := hide hsm
              clear hsm
              obtain ⟨g, o, rfl⟩ : ∃ g o, ap = some ⟨g, o, none⟩ := by
                obtain ⟨g, o, c', he, _⟩ := hR.out.pl.ob.row.form (by simp)
                cases he
                exact ⟨g, o, rfl⟩
              obtain ⟨p', hp'⟩ : ∃ p', p = p' + 1 := ⟨P.length, hp.out⟩
              subst hp'
              have HP' : Hid (p' = P.length) := hide (by have := hp.out; simpa using this)
              obtain ⟨r0, r1, r2, r3⟩ : wc.cell? ⟨g, o, none⟩ = some (.int .i64 xw) ∧ wc.cell? ⟨g, o + 1, none⟩ = some (.int .i64 xs) ∧ wc.cell? ⟨g, o + 2, none⟩ = some (.int .i64 xd) ∧ wc.cell? ⟨g, o + 3, none⟩ = some (.slice zx zn zc) := by
                have hr := hR.out.pl.ob.row
                simp only [List.length_cons] at hr
                rw [← HP'.out] at hr
                exact ⟨(hr.cellAt (j := 0) (by omega)).trans rfl, (hr.cellAt (j := 1) (by omega)).trans rfl, (hr.cellAt (j := 2) (by omega)).trans rfl, (hr.cellAt (j := 3) (by omega)).trans rfl⟩
              have hgl := World.block_lt_of_cell? wc _ r0
              have hcp : p' + 1 ≤ c ∧ c ≤ maxLen := by
                obtain ⟨g', o', c', he, _, _, h1, h2⟩ := hR.out.pl.ob.row.form (by simp)
                cases he
                exact ⟨by rw [HP'.out]; simpa using h1, h2⟩
              have hcp1 := hcp.1
              have hcp2 := hcp.2
              unfold maxLen at hcp2
              clear hcp
              have hpos : (0 : Int) < (p' : Int) + 1 := by omega
              have hle1 : (1 : Int) ≤ (p' : Int) + 1 := by omega
              have HWB := hide (Box.new hR.out.pl.ob.qs.row hR.out.pl.ob.row xw xs xd zx zn zc)
              have HRB := hide (hR.out.quiet ((Below.refl _ _).alloc (Nat.le_refl _) (.cells #[.int .i64 xw, .int .i64 xs, .int .i64 xd, .slice zx zn zc] 41)))
              have HBB := hide (hBX.out.quiet ((Below.refl _ _).alloc (Nat.le_refl _) (.cells #[.int .i64 xw, .int .i64 xs, .int .i64 xd, .slice zx zn zc] 41)))
              have HPO := hide HRB.out.pl.pop
              have HTL : Hid (∀ wx v2 E2, Pl w wx S B L v2 E2 n f (.slice (some ⟨g, o, none⟩) (p' + 1) c) (⟨⟨xw, xs, xd, xt⟩, zx, zn, zc⟩ :: P) f → Pl w wx S B L v2 E2 n f (.slice (if c = 1 then some ⟨g, o, none⟩ else some ⟨g, o + 4, none⟩) p' (c - 1)) P f) := hide fun wx v2 E2 h => h.tail HP'.out
              have HTB : Hid (∀ wx v2, Box wx N v2 (.slice (some ⟨g, o, none⟩) (p' + 1) c) yw ys yd a an ac → Box wx N v2 (.slice (if c = 1 then some ⟨g, o, none⟩ else some ⟨g, o + 4, none⟩) p' (c - 1)) yw ys yd a an ac) := hide fun wx v2 h => h.tail
              have HSR : Hid (IsVals w (.slice zx zn zc) xt) := hide (hR.out.pl.ob.src _ (List.mem_cons_self ..))
              have HSL := hide hR.out.small
              have HLW := hide hR.out.low
              by_cases hc1 : c = 1
              · subst hc1
                obtain rfl : p' = 0 := by omega
                simp only [↓reduceIte, Nat.sub_self] at HTL HTB
                clear hR hBX hp
                go_wp2_with fail
                refine (unhide HPO).mono ?_
                rintro e w3 ⟨rfl, v3, hP3, hV3, hT3, hN3⟩
                have HW4 := hide ((HWB.out.touch HRB.out.pl.ob.qs hT3 hN3).quiet ((Below.refl _ _).alloc (Nat.le_refl _) (.cells #[.int .i64 xw, .int .i64 xs, .int .i64 xd, .slice xx xn xc] 41)))
                have HB4 := hide ((HBB.out.touch HRB.out.pl.ob.qs hT3 hN3).quiet ((Below.refl _ _).alloc (Nat.le_refl _) (.cells #[.int .i64 xw, .int .i64 xs, .int .i64 xd, .slice xx xn xc] 41)))
                have HP4 := hide (hP3.quiet ((Below.refl _ _).alloc (Nat.le_refl _) (.cells #[.int .i64 xw, .int .i64 xs, .int .i64 xd, .slice xx xn xc] 41)))
                have HV4 : Hid (IsVals (w3.alloc (.cells #[.int .i64 xw, .int .i64 xs, .int .i64 xd, .slice xx xn xc] 41)) (.slice xx xn xc) xt) := hide (hV3.stays ((Below.refl _ _).alloc (Nat.le_refl _) _) (Nat.le_refl _))
                have HY4 := hide (heap_alloc_new w3 (.cells #[.int .i64 xw, .int .i64 xs, .int .i64 xd, .slice xx xn xc] 41))
                have HE4 := hide (HSE.out _ 0 HP4.out.ob.bel)
                clear hP3 hV3 hT3 hN3 HPO HWB HRB HBB HSE r0 r1 r2 r3
                rw [errV_0] at HE4 ⊢
                go_wp2_with fail
                refine (unhide HE4).mono ?_
                rintro e w5 ⟨rfl, hb5⟩
                have HW5 := HW4.out.quiet hb5
                have x0 := HW5.c0
                have x1 := HW5.c1
                have x2 := HW5.c2
                have x3 := HW5.c3
                have HP5 := hide (HP4.out.quiet hb5)
                have HB5 := hide (HB4.out.quiet hb5)
                have HV5 := hide (HV4.out.stays hb5 (Nat.le_refl _))
                have HY5 := hide ((hb5.block _ (heap_lt HY4.out)).trans HY4.out)
                have y0 : w5.cell? ⟨w3.heap.size, 0, none⟩ = some (.int .i64 xw) := by rw [cell_of_row w5 _ 0 _ _ (0, 0) HY5.out]; rfl
                have y1 : w5.cell? ⟨w3.heap.size, 1, none⟩ = some (.int .i64 xs) := by rw [cell_of_row w5 _ 1 _ _ (0, 0) HY5.out]; rfl
                have y2 : w5.cell? ⟨w3.heap.size, 2, none⟩ = some (.int .i64 xd) := by rw [cell_of_row w5 _ 2 _ _ (0, 0) HY5.out]; rfl
                have y3 : w5.cell? ⟨w3.heap.size, 3, none⟩ = some (.slice xx xn xc) := by rw [cell_of_row w5 _ 3 _ _ (0, 0) HY5.out]; rfl
                have HT5 := hide (HP5.out.ob.tuple HV5.out (HSR.out.stays HP5.out.ob.bel (Nat.le_refl _)))
                clear hb5 HW5 HW4 HB4 HP4 HV4 HY4 HE4
                go_wp2_with fail
                refine (unhide HT5).mono ?_
                rintro e w6 ⟨rfl, _, hb6⟩
                have HP6 := hide (HTL.out _ _ _ (HP5.out.quiet hb6))
                have HB6 := hide (HTB.out _ _ (HB5.out.quiet hb6))
                clear hb6 HT5 x0 x1 x2 x3 y0 y1 y2 y3 HY5 HV5 HP5 HB5
                go_wp2_with fail
                go_meet
                case rel => exact ⟨_, _, _, v3, E, P, rfl, HP', hide ⟨HP6.out, HSM.out, HSL.out, HLW.out⟩, HB6⟩
              · simp only [if_neg hc1] at HTL HTB
                clear hR hBX hp
                go_wp2_with fail
                refine (unhide HPO).mono ?_
                rintro e w3 ⟨rfl, v3, hP3, hV3, hT3, hN3⟩
                have HW4 := hide ((HWB.out.touch HRB.out.pl.ob.qs hT3 hN3).quiet ((Below.refl _ _).alloc (Nat.le_refl _) (.cells #[.int .i64 xw, .int .i64 xs, .int .i64 xd, .slice xx xn xc] 41)))
                have HB4 := hide ((HBB.out.touch HRB.out.pl.ob.qs hT3 hN3).quiet ((Below.refl _ _).alloc (Nat.le_refl _) (.cells #[.int .i64 xw, .int .i64 xs, .int .i64 xd, .slice xx xn xc] 41)))
                have HP4 := hide (hP3.quiet ((Below.refl _ _).alloc (Nat.le_refl _) (.cells #[.int .i64 xw, .int .i64 xs, .int .i64 xd, .slice xx xn xc] 41)))
                have HV4 : Hid (IsVals (w3.alloc (.cells #[.int .i64 xw, .int .i64 xs, .int .i64 xd, .slice xx xn xc] 41)) (.slice xx xn xc) xt) := hide (hV3.stays ((Below.refl _ _).alloc (Nat.le_refl _) _) (Nat.le_refl _))
                have HY4 := hide (heap_alloc_new w3 (.cells #[.int .i64 xw, .int .i64 xs, .int .i64 xd, .slice xx xn xc] 41))
                have HE4 := hide (HSE.out _ 0 HP4.out.ob.bel)
                clear hP3 hV3 hT3 hN3 HPO HWB HRB HBB HSE r0 r1 r2 r3
                rw [errV_0] at HE4 ⊢
                go_wp2_with fail
                refine (unhide HE4).mono ?_
                rintro e w5 ⟨rfl, hb5⟩
                have HW5 := HW4.out.quiet hb5
                have x0 := HW5.c0
                have x1 := HW5.c1
                have x2 := HW5.c2
                have x3 := HW5.c3
                have HP5 := hide (HP4.out.quiet hb5)
                have HB5 := hide (HB4.out.quiet hb5)
                have HV5 := hide (HV4.out.stays hb5 (Nat.le_refl _))
                have HY5 := hide ((hb5.block _ (heap_lt HY4.out)).trans HY4.out)
                have y0 : w5.cell? ⟨w3.heap.size, 0, none⟩ = some (.int .i64 xw) := by rw [cell_of_row w5 _ 0 _ _ (0, 0) HY5.out]; rfl
                have y1 : w5.cell? ⟨w3.heap.size, 1, none⟩ = some (.int .i64 xs) := by rw [cell_of_row w5 _ 1 _ _ (0, 0) HY5.out]; rfl
                have y2 : w5.cell? ⟨w3.heap.size, 2, none⟩ = some (.int .i64 xd) := by rw [cell_of_row w5 _ 2 _ _ (0, 0) HY5.out]; rfl
                have y3 : w5.cell? ⟨w3.heap.size, 3, none⟩ = some (.slice xx xn xc) := by rw [cell_of_row w5 _ 3 _ _ (0, 0) HY5.out]; rfl
                have HT5 := hide (HP5.out.ob.tuple HV5.out (HSR.out.stays HP5.out.ob.bel (Nat.le_refl _)))
                clear hb5 HW5 HW4 HB4 HP4 HV4 HY4 HE4
                go_wp2_with fail
                refine (unhide HT5).mono ?_
                rintro e w6 ⟨rfl, _, hb6⟩
                have HP6 := hide (HTL.out _ _ _ (HP5.out.quiet hb6))
                have HB6 := hide (HTB.out _ _ (HB5.out.quiet hb6))
                clear hb6 HT5 x0 x1 x2 x3 y0 y1 y2 y3 HY5 HV5 HP5 HB5
                go_wp2_with fail
                go_meet
                case rel => exact ⟨_, _, _, v3, E, P, rfl, HP', hide ⟨HP6.out, HSM.out, HSL.out, HLW.out⟩, HB6⟩
        case rest =>
          clear hR hBX hp
          obtain ⟨ap, p, c, v, E, P, rfl, hp, hR, hBX⟩ := hcut
          have y0 := hBX.out.c0
          have yz := hBX.out.fz 0
          have hNl := heap_lt hBX.out.at_
          go_upto_if 96 with fail
          go_cut [97] from 97 to 97 (fun _ wx => ∃ zw : Int, zw ≤ 3 ∧ Hid (Rd w wx S B L k v E n f (.slice ap p c) P) ∧ Hid (Box wx N v (.slice ap p c) zw ys yd a an ac))
          case first =>
            by_cases h3 : 3 < yw
            · have HR3 := hide (hR.out.pl.setWho hBX.out HN0.out 3)
              have HB3 := hide (hBX.out.setWho 3)
              go_wp2_with fail
              go_meet
              case rel => exact ⟨3, by decide, hide ⟨HR3.out, hR.out.same, hR.out.small, hR.out.low⟩, HB3⟩
            · go_wp2_with fail
              go_meet
              case rel => exact ⟨yw, by omega, hR, hBX⟩
          case rest =>
            clear hR hBX y0 yz hNl
            obtain ⟨zw, hz3, hR, hBX⟩ := hcut
            have y0 := hBX.out.c0
            have y1 := hBX.out.c1
            have y2 := hBX.out.c2
            have y3 := hBX.out.c3
            have HAK := hide (rAsk zw ys yd a an ac yt wc (HV.out.stays hR.out.pl.ob.bel (Nat.le_refl _)))
            go_wp2_with fail
            refine (unhide HAK).mono ?_
            rintro e w3 ⟨rfl, hb3⟩
            have HR3 := hide (hR.out.quiet hb3)
            have HB3 := hide (hBX.out.quiet hb3)
            clear hb3 HAK hR hBX y0 y1 y2 y3
            go_upto_if 101 with fail
            obtain ⟨ke, hke⟩ : ∃ ke, M.pushE f P.length ⟨zw, ys, yd, yt⟩ = ke := ⟨_, rfl⟩
            have HKE := hide hke
            clear hke
            go_cut [6, 15, 16] from 98 to 128 (fun s6 s15 _ wx => ∃ (ap2 : Option Addr) (p2 c2 : Nat) (P2 : List QEnt) (F2 : Int → Int), s6 = .slice ap2 p2 c2 ∧ s15 = .int .i64 ke ∧ Hid (p2 = P2.length) ∧ Hid (Pl w wx S B L v E n f (.slice ap2 p2 c2) P2 F2) ∧ Hid (Box wx N v (.slice ap2 p2 c2) zw ys yd a an ac) ∧ Hid ((ke ≠ 0 ∧ P2 = P ∧ F2 = f) ∨ (ke = 0 ∧ (∃ z : QEnt, z.a = ⟨zw, ys, yd, yt⟩ ∧ P2 = P ++ [z]) ∧ F2 = M.upF f ⟨zw, ys, yd, yt⟩)))
            case first =>
              clear HL HM HBP HQ HG
              by_cases hA0 : M.askF ⟨zw, ys, yd, yt⟩ = 0
              · obtain ⟨hw1, _, _⟩ := M.askF_ok hA0
                simp only at hw1
                obtain ⟨wn, rfl⟩ := Int.eq_ofNat_of_zero_le hw1.1
                have hwn : wn < 4 := by omega
                have hwnI : (wn : Int) < 4 := by omega
                have n0 := HR3.out.pl.numAt hwn
                obtain ⟨g0, g1⟩ := HR3.out.pl.last wn
                have y0 := HB3.out.c0
                have y1 := HB3.out.c1
                have y2 := HB3.out.c2
                have y3 := HB3.out.c3
                have hNl := heap_lt HB3.out.at_
                have hLl := heap_lt HR3.out.pl.nums
                have lz : w3.frozen? ⟨L, wn, none⟩ = false := frozen_of_row w3 L wn _ _ HR3.out.pl.nums
                have HA0 := hide hA0
                rw [hA0]
                clear hA0 hw1
                generalize hfw : f (wn : Int) = F at *
                rcases Int.lt_trichotomy ys (F + 1) with h1 | h1 | h1
                · have hk7 : ke = 7 := HKE.out.symm.trans (M.pushE_clash HA0.out (by show ys < f wn + 1; rw [hfw]; exact h1))
                  subst hk7
                  clear hfw
                  go_wp2_with fail
                  go_meet
                  case rel => exact ⟨ap, p, c, P, f, rfl, rfl, hp, hide HR3.out.pl, HB3, hide (Or.inl ⟨by decide, rfl, rfl⟩)⟩
                · by_cases h30 : 30 ≤ p
                  · have hk4 : ke = 4 := HKE.out.symm.trans (M.pushE_full HA0.out (by show ys = f wn + 1; rw [hfw]; exact h1) (by have := hp.out; omega))
                    subst hk4
                    subst h1
                    have h30I : (30 : Int) ≤ (p : Int) := by omega
                    clear hfw
                    go_wp2_with fail
                    go_meet
                    case rel => exact ⟨ap, p, c, P, f, rfl, rfl, hp, hide HR3.out.pl, HB3, hide (Or.inl ⟨by decide, rfl, rfl⟩)⟩
                  · have hk0 : ke = 0 := HKE.out.symm.trans (M.pushE_goes HA0.out (by show ys = f wn + 1; rw [hfw]; exact h1) (by have := hp.out; omega))
                    subst hk0
                    subst h1
                    have h30I : ¬ (30 : Int) ≤ (p : Int) := by omega
                    have HS4 := hide (HR3.out.pl.setNum hwn (F + 1) yd yt)
                    have HB4 := hide (HB3.out.setNum HR3.out.pl.nums wn (.int .i64 (F + 1)))
                    have hNL : N ≠ L := fun e => by
                      have h1 := HB3.out.at_
                      rw [e, HR3.out.pl.nums] at h1
                      exact absurd (tag_eq h1) (by decide)
                    have hLN : L ≠ N := fun e => hNL e.symm
                    clear hfw
                    have HS5 := hide (HS4.out.quiet ((Below.refl _ _).alloc (Nat.le_refl _) (.cells #[.int .i64 wn, .int .i64 (F + 1), .int .i64 yd, .slice a an ac] 41)))
                    have HB5 := hide (HB4.out.quiet ((Below.refl _ _).alloc (Nat.le_refl _) (.cells #[.int .i64 wn, .int .i64 (F + 1), .int .i64 yd, .slice a an ac] 41)))
                    have HRW := hide HS5.out.ob.row
                    rw [← hp.out] at HRW
                    have HNW : Hid (∀ j u, [Value.int .i64 wn, .int .i64 (F + 1), .int .i64 yd, .slice a an ac][j]? = some u → ((w3.setCell ⟨L, wn, none⟩ (.int .i64 (F + 1))).alloc (.cells #[.int .i64 wn, .int .i64 (F + 1), .int .i64 yd, .slice a an ac] 41)).cell? ((⟨w3.heap.size, 0, none⟩ : Addr).add j) = some u) := hide (by
                      have := World.news_of_block (heap_alloc_new (w3.setCell ⟨L, wn, none⟩ (.int .i64 (F + 1))) (.cells #[.int .i64 wn, .int .i64 (F + 1), .int .i64 yd, .slice a an ac] 41))
                      rw [show (w3.setCell ⟨L, wn, none⟩ (.int .i64 (F + 1))).heap.size = w3.heap.size by simp] at this
                      exact this)
                    go_wp2_with (at_builtin; refine wpList_append_win _ rfl (.tmp 125) (.tmp 127) 34 rfl w.heap.size 41 i0 (.agg #[.int .i64 0, .int .i64 0, .int .i64 0, .slice none 0 0]) 4 48 Tryd.underlying34 HI.out.1 HI.out.2.1 HI.out.2.2.1 HI.out.2.2.2 rfl (by decide) (.slice ap p c) p (cellsQ P) rfl HRW.out ⟨w3.heap.size, 0, none⟩ 1 1 [.int .i64 wn, .int .i64 (F + 1), .int .i64 yd, .slice a an ac] rfl rfl HNW.out (by intro u hu; simp at hu; rcases hu with rfl | rfl | rfl | rfl <;> rfl) (by decide) (by unfold maxLen; omega) (by omega) HS5.out.ob.qs.base_le _ rfl ?_)
                    intro g5 o5 k5 w6 hown6 hgrow6 hat6 hlt6
                    have HS6 := hide (HS5.out.more (z := ⟨⟨wn, F + 1, yd, yt⟩, a, an, ac⟩) HV.out (by rw [← hp.out]; exact hown6) hgrow6 hat6 (by simp))
                    rw [← hp.out] at HS6
                    have HB6 := hide (HB5.out.more (o := o5) (p := p + 1) (k := k5) hgrow6 hat6 (by simp))
                    have hp6 : Hid (p + 1 = (P ++ [(⟨⟨wn, F + 1, yd, yt⟩, a, an, ac⟩ : QEnt)]).length) := hide (by rw [List.length_append, ← hp.out]; rfl)
                    clear hown6 hgrow6 hat6 hlt6 HRW HNW HS5 HB5 HS4 HB4
                    go_wp2_with fail
                    go_meet
                    case rel => exact ⟨_, _, _, _, _, rfl, rfl, hp6, HS6, HB6, hide (Or.inr ⟨trivial, ⟨⟨⟨wn, F + 1, yd, yt⟩, a, an, ac⟩, rfl, rfl⟩, rfl⟩)⟩
                · have hk6 : ke = 6 := HKE.out.symm.trans (M.pushE_state HA0.out (by show f wn + 1 < ys; rw [hfw]; exact h1))
                  subst hk6
                  clear hfw
                  go_wp2_with fail
                  go_meet
                  case rel => exact ⟨ap, p, c, P, f, rfl, rfl, hp, hide HR3.out.pl, HB3, hide (Or.inl ⟨by decide, rfl, rfl⟩)⟩
              · have hkA : M.askF ⟨zw, ys, yd, yt⟩ = ke := (M.pushE_bad hA0).symm.trans HKE.out
                rw [hkA] at hA0 ⊢
                have hAb : (ke == 0) = false := by simpa using hA0
                have HA0 := hide hA0
                clear hA0 hkA
                go_wp2_with fail
                go_meet
                case rel => exact ⟨ap, p, c, P, f, rfl, rfl, hp, hide HR3.out.pl, HB3, hide (Or.inl ⟨HA0.out, rfl, rfl⟩)⟩
            case rest =>
              have HSM := hide HR3.out.same
              have HSL := hide HR3.out.small
              have HLW := hide HR3.out.low
              clear HR3 HB3 hp
              obtain ⟨ap2, p2, c2, P2, F2, rfl, rfl, hp2, hP2, hB2, hcs⟩ := hcut
              have y0 := hB2.out.c0
              have y1 := hB2.out.c1
              have y2 := hB2.out.c2
              have y3 := hB2.out.c3
              have HPU := hide (pushRd hP2.out HV.out HSM.out HSL.out HLW.out hk9 HKE.out hcs.out)
              clear hP2 hB2 hcs HKE HSM HSL HLW HV
              go_wp2_with fail
              refine (unhide HPU).mono ?_
              rintro e w4 ⟨rfl, v4, E4, n4, hR4⟩
              have HR4 := hide hR4
              have HE4 : Hid (Calls Tryd.prog 8 #[errV ke, .int .i64 ke] w4 fun e w' => e = .returned (.bool true) ∧ Below w4.heap.size w4 w') := hide (by
                have := sameErr ke ke w4 (HG.out.stays hR4.pl.ob.bel (Nat.le_refl _))
                rwa [show (ke == ke) = true by simp] at this)
              clear hR4 HPU y0 y1 y2 y3
              generalize errV ke = ev at *
              go_wp2_with fail
              refine (unhide HE4).mono ?_
              rintro e w5 ⟨rfl, hb5⟩
              have HR5 := hide (HR4.out.quiet hb5)
              have HC5 := hide (HR5.out.count hp2.out)
              clear hb5 HR4 HE4
              go_wp2_with fail
              refine (unhide HC5).mono ?_
              rintro e w6 ⟨rfl, hw6⟩
              obtain rfl := hw6.symm
              clear HC5
              go_wp2_with fail
              go_loopw [18] (fun sj wr => ∃ j : Int, sj = .int .i64 j ∧ -1 ≤ j ∧ j ≤ 4 ∧ Hid (Rd w wr S B L (k + 1) v4 E4 n4 F2 (.slice ap2 p2 c2) P2)) (fun sj _ => (4 - intOf sj).toNat)
              case atStart => exact ⟨-1, rfl, by decide, by decide, HR5⟩
              case round =>
                obtain ⟨j, rfl, hj1, hj4, hRj⟩ := hrel
                by_cases hj : j < 4
                · by_cases hj0 : j < 0
                  · have HNX := hide (qnext_bad S j wr (Or.inl hj0))
                    have HE1 : Hid (Calls Tryd.prog 8 #[.iface 53 (.int .i64 1), .int .i64 1] wr fun e w' => e = .returned (.bool true) ∧ Below wr.heap.size wr w') := hide (sameErr 1 1 wr (HG.out.stays hRj.out.pl.ob.bel (Nat.le_refl _)))
                    go_wp2_with fail
                    refine (unhide HNX).mono ?_
                    rintro e w7 ⟨rfl, hw7⟩
                    obtain rfl := hw7.symm
                    rw [errV_bad (by decide)]
                    go_wp2_with fail
                    refine (unhide HE1).mono ?_
                    rintro e w8 ⟨rfl, hb8⟩
                    have HR8 := hide (hRj.out.quiet hb8)
                    clear hb8 HE1 HNX
                    go_wp2_with fail
                    go_roundw
                    case rel => exact ⟨j + 1, by go_num, by omega, by omega, HR8⟩
                    case measure => simp [intOf]; omega
                  · obtain ⟨jn, rfl⟩ := Int.eq_ofNat_of_zero_le (by omega : 0 ≤ j)
                    have hjn : jn < 4 := by omega
                    have nj := hRj.out.pl.numAt hjn
                    have hlj := hRj.out.pl.last jn
                    have HNX := hide (qnext_ok hRj.out.pl.ob.qs jn (by omega) (by omega) (hRj.out.pl.fk jn))
                    obtain ⟨g0, g1⟩ := hlj
                    generalize F2 (jn : Int) = F at *
                    go_wp2_with fail
                    refine (unhide HNX).mono ?_
                    rintro e w7 ⟨rfl, hw7⟩
                    obtain rfl := hw7.symm
                    go_wp2_with fail
                    go_roundw
                    case rel => exact ⟨jn + 1, by go_num, by omega, by omega, hRj⟩
                    case measure => simp [intOf]; omega
                · have hj4' : j = 4 := by omega
                  subst hj4'
                  go_wp2_with fail
                  go_roundw
                  case rel => exact ⟨k + 1, p2, c2, n4, ap2, v4, E4, P2, F2, rfl, by go_num, by omega, by omega, hp2, hRj⟩
                  case measure => simp [intOf]; omega
    · have HB := hide hR.out.pl.ob.bel
      clear hR
      have hend' : (k < m ∧ ¬ k < 90) ∨ (¬ k < m ∧ True) := hend.imp id fun h => ⟨h, trivial⟩
      clear hend
      rcases hend' with ⟨e1, e2⟩ | ⟨e1, e2⟩
      all_goals
        go_wp2_with fail
        go_ret
        exact ⟨rfl, HB.out⟩

end Go.Proofs.YtlefhfmckimlaahDoor.queuePlays
