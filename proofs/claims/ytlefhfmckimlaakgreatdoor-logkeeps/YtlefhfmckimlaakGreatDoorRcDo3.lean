/-
  What Do of the document's own copy does where something is done, as one law of its call.
-/
import Derived.Test.YtlefhfmckimlaakGreatDoorRcDo2
set_option linter.unusedVariables false
namespace Go.Proofs.YtlefhfmckimlaakGreatDoor
open Go.RowKit
attribute [local go_sem ↓] Go.wp_at_zero Go.wp_at_succ

section
variable {w0 w : World} {C S : Nat} {u dv : Value} {ra : Option Addr} {rn rc : Nat} {c : M.Cop} {D : List M.Dn} {R : List M.Rul} {who seq deed : Int} {a : Option Addr} {n cp : Nat} {l : List M.Val}

/-- where the document's copy stands within its Do: its space may have been written -/
structure RcMid (w0 w wx : World) (C S N : Nat) (u dv rv u' : Value) (K : List (List M.Val)) (D : List M.Dn) (m : Int) (who seq deed : Int) (a : Option Addr) (n cp : Nat) : Prop where
  rc : Rc w0 wx C S u' dv rv K D m
  box : AskBox wx N who seq deed a n cp
  tch : Tch (rcF C S u dv) w wx
  gr : Grows w (rcF C S u dv) (rcF C S u' dv)
section
variable {wx wy : World} {N : Nat} {rv u' u2 : Value} {K K' : List (List M.Val)} {m : Int}
theorem RcMid.quiet (h : RcMid w0 w wx C S N u dv rv u' K D m who seq deed a n cp) (hb : Below wx.heap.size wx wy) : RcMid w0 w wy C S N u dv rv u' K D m who seq deed a n cp := ⟨h.rc.quiet hb, h.box.below hb, h.tch.then hb, h.gr⟩
theorem RcMid.space (h : RcMid w0 w wx C S N u dv rv u' K D m who seq deed a n cp) (hs : Ref w0 wy S u2 K') (ht : Touch S u' wx wy) (hn : Near wx u' u2) : RcMid w0 w wy C S N u dv rv u2 K' D m who seq deed a n cp := by
  obtain ⟨r1, r2, r3⟩ := h.rc.space hs ht hn
  obtain ⟨d1, d2⟩ := h.rc.sp.other h.box (by decide) (by decide)
  exact ⟨r1, (ht.block N (heap_lt h.box) d1 d2).trans h.box, h.tch.trans h.gr r2, h.gr.trans h.tch.size r3⟩
theorem RcMid.all (h : RcMid w0 w wx C S N u dv rv u' K D m who seq deed a n cp) : wx.cell? ⟨C, 0, none⟩ = some rv ∧ wx.cell? ⟨C, 1, none⟩ = some (.pointer (some ⟨S, 0, none⟩)) ∧ wx.cell? ⟨N, 0, none⟩ = some (.int .i64 who) ∧ wx.cell? ⟨N, 1, none⟩ = some (.int .i64 seq) ∧ wx.cell? ⟨N, 2, none⟩ = some (.int .i64 deed) ∧ wx.cell? ⟨N, 3, none⟩ = some (.slice a n cp) ∧ N < wx.heap.size ∧ C < wx.heap.size :=
  ⟨h.rc.cells.1, h.rc.cells.2.1, h.box.cells.1, h.box.cells.2.1, h.box.cells.2.2.1, h.box.cells.2.2.2.1, h.box.cells.2.2.2.2, h.rc.cells.2.2.2.2.1⟩
theorem RcMid.fin {w7 wA w8 : World} {dv' : Value} {d : M.Dn} {m' : Int} (h : RcMid w0 w wx C S N u dv rv u' K D m who seq deed a n cp) (h7 : w7 = wx.setCell ⟨C, 3, none⟩ (.int .i64 m')) (hA : Below w7.heap.size w7 wA) (hg : wA.grownBy w8 dv.ownBlock) (hr : w8.ownsRow w0.heap.size 106 3 dv' (D ++ [d]).length (cellsD (D ++ [d]))) (hn : Near wA dv dv') :
    Rc w0 (w8.setCell ⟨C, 2, none⟩ dv') C S u' dv' rv K (D ++ [d]) m' ∧ Tch (rcF C S u dv) w (w8.setCell ⟨C, 2, none⟩ dv') ∧ Grows w (rcF C S u dv) (rcF C S u' dv') := by
  obtain ⟨r1, r2⟩ := h.rc.many (n' := m')
  rw [← h7] at r1 r2
  obtain ⟨s1, s2, s3⟩ := (r1.quiet hA).done hg hr hn
  have t1 := h.tch.trans h.gr (r2.then hA)
  exact ⟨s1, t1.trans h.gr s2, h.gr.trans t1.size s3⟩
theorem RcMid.box7 {m' : Int} (h : RcMid w0 w wx C S N u dv rv u' K D m who seq deed a n cp) : AskBox (wx.setCell ⟨C, 3, none⟩ (.int .i64 m')) N who seq deed a n cp := by
  refine (heap_setCell_other wx ⟨C, 3, none⟩ N _ (fun e => ?_)).trans h.box
  have hb := h.box
  unfold AskBox at hb
  have e' : N = C := e
  rw [e', h.rc.heap] at hb
  exact absurd (tag_eq hb) (by decide)
end

/-- the calls of the one round, where something is done -/
structure RcAct (w0 : World) (S : Nat) (who : Int) (ra : Option Addr) (rn rc : Nat) (R : List M.Rul) (a : Option Addr) (n cp : Nat) (l : List M.Val) (K : List (List M.Val)) : Prop where
  may : ∀ wx (d : Int) t x, Below w0.heap.size w0 wx → M.mayR R who d x = true → IsVals w0 t x → Calls Tryz.prog 47 #[.slice ra rn rc, .int .i64 who, .int .i64 d, t] wx fun e w' => e = .returned (.bool true) ∧ Below wx.heap.size wx w'
  put : ∀ wx u, Ref w0 wx S u K → Below w0.heap.size w0 wx → Calls Tryz.prog 48 #[.pointer (some ⟨S, 0, none⟩), .slice a n cp] wx fun e w' => e = .returned (.int .i64 (M.putF K l)) ∧ ∃ u', Ref w0 w' S u' (M.putL K l) ∧ Touch S u wx w' ∧ Near wx u u'
  get0 : ∀ wx u, Ref w0 wx S u K → Below w0.heap.size w0 wx → Calls Tryz.prog 49 #[.pointer (some ⟨S, 0, none⟩), .slice a n cp, .bool false] wx fun e w' => ∃ r, e = .returned (.tuple #[r, .int .i64 (M.getF l K)]) ∧ IsVals w0 r (M.getV l K) ∧ Below wx.heap.size wx w'
  get1 : ∀ wx u, Ref w0 wx S u K → Below w0.heap.size w0 wx → Calls Tryz.prog 49 #[.pointer (some ⟨S, 0, none⟩), .slice a n cp, .bool true] wx fun e w' => ∃ r u', e = .returned (.tuple #[r, .int .i64 (M.getF l K)]) ∧ IsVals w0 r (M.getV l K) ∧ Ref w0 w' S u' (M.lessL l K) ∧ Touch S u wx w' ∧ Near wx u u'
  line : ∀ wx t, Below w0.heap.size w0 wx → M.getF l K = 0 → IsVals w0 t (M.getV l K) → Calls Tryz.prog 50 #[t] wx fun e w' => e = .returned (.string (M.line (M.getV l K))) ∧ Below wx.heap.size wx w'
theorem mayE_of {L : List M.Rul} {who deed : Int} {t : List M.Val} (h : M.mayR L who deed t = true) : M.mayE L who deed t = 0 := by
  by_cases h0 : M.mayE L who deed t = 0
  · exact h0
  · rw [M.mayR_bad h0] at h; cases h
theorem RcIs.act (h : RcIs w0 w C S u dv ra rn rc c D R) (hv : IsVals w0 (.slice a n cp) l) : RcAct w0 S who ra rn rc R a n cp l c.l := by
  refine ⟨fun wx d t x hb hm ht => ?_, fun wx u hs hb => rput w0 S u _ l c.l wx hs h.ok.fine hv hb, fun wx u hs hb => rget0 w0 S u _ l c.l wx hs h.ok.fine hb hv, fun wx u hs hb => rget1 w0 S u _ l c.l wx hs h.ok.fine hb hv, fun wx t hb hg ht => rline t _ wx (ht.stays hb (Nat.le_refl _)) (M.tupF_like (M.getV_tup h.ok.fine hg))⟩
  have := refMay ra rn rc R who d t x wx h.many (h.rules.stays hb (Nat.le_refl _)) (mayE_of hm) (ht.stays hb (Nat.le_refl _))
  rwa [hm] at this

set_option maxHeartbeats 2000000 in
set_option maxRecDepth 100000 in
theorem rDo_did (s0 : ByteArray) (L' : List (List M.Val)) (h : RcIs w0 w C S u dv ra rn rc c D R) (hv : IsVals w0 (.slice a n cp) l) (hf : M.askF ⟨who, (c.g who).1 + 1, deed, l⟩ = 0) (hn : c.n < 1000) (hw : M.Way R c.l who deed l s0 L') :
    Calls Tryz.prog 20 #[.pointer (some ⟨C, 0, none⟩), aggA who ((c.g who).1 + 1) deed a n cp] w fun e w' => e = .returned (.tuple #[.string s0, .int .i64 0]) ∧ ∃ u' dv', Rc w0 w' C S u' dv' (.slice ra rn rc) L' (D ++ [⟨who, (c.g who).1 + 1, s0⟩]) (c.n + 1) ∧ Tch (rcF C S u dv) w w' ∧ Grows w (rcF C S u dv) (rcF C S u' dv') := by
  obtain ⟨i0, hi, hz0, hz1, hz2⟩ := info_parts infoDn
  have HI := hide (And.intro hi (And.intro hz0 (And.intro hz1 hz2)))
  have HB : Hid (∀ o, Below w.heap.size w (w.alloc o)) := hide fun o => (Below.refl _ _).alloc (Nat.le_refl _) o
  have HP := hide (h.pre hv hf (Nat.le_of_lt hn))
  have HA := hide (h.act (who := who) hv)
  have HRC := hide h.rc
  have HV := hide hv
  have HW := hide hw
  obtain ⟨ao, cap, rfl⟩ := h.rc.shape
  have g1 := h.ok.lo who
  have g3 : (c.g who).1 ≤ 1000 := by have := h.ok.hi who; omega
  have HD := hide h.len
  generalize (c.g who).1 = G1 at *
  generalize (c.g who).2 = G2 at *
  generalize c.l = K at *
  generalize hp : D.length = p at *
  have HPL := hide hp
  generalize c.n = m at *
  have hpm := HD.out
  subst hpm
  have hz : (G1 + 1 == G1) = false := by simp; omega
  clear hf hv h hw hi hz0 hz1 hz2 hp HD
  go_enter Tryz.func20, Tryz.ntmps20
  go_wp2_with fail
  refine (HP.out.ask _ (HB.out _)).mono ?_
  rintro e w1 ⟨rfl, hb1⟩
  have HX1 := hide (AskBox.new hb1)
  have HB1 := hide ((HB.out (.cells #[.int .i64 who, .int .i64 (G1 + 1), .int .i64 deed, .slice a n cp] 38)).trans (hb1.mono (by simp)))
  obtain ⟨b0, b1, b2, b3, bn⟩ := HX1.out.cells
  clear hb1
  go_wp2_with fail
  refine (HP.out.last _ HB1.out).mono ?_
  rintro e w2 ⟨rfl, hb2⟩
  have HM2 : Hid (RcMid w0 w w2 C S w.heap.size u (.slice ao p cap) (.slice ra rn rc) u K D p who (G1 + 1) deed a n cp) := hide ⟨HRC.out.quiet (HB1.out.trans (hb2.mono HB1.out.size)), HX1.out.below hb2, Tch.of_below (HB1.out.trans (hb2.mono HB1.out.size)), Grows.refl _ _⟩
  obtain ⟨q0, q1, d0, d1, d2, d3, dn, qn⟩ := HM2.out.all
  clear hb2 b0 b1 b2 b3 bn HX1 HB1 HP
  go_upto_if 42 with fail
  go_cut [9] from 10 to 97 (fun s wx => ∃ (W : World) (u' : Value), W = wx ∧ s = .string s0 ∧ Hid (RcMid w0 w W C S w.heap.size u (.slice ao p cap) (.slice ra rn rc) u' L' D p who (G1 + 1) deed a n cp))
  case first =>
    rcases HW.out with ⟨h0, hm, hp, hs, hL⟩ | ⟨h0, hm, hp, hs, hL⟩ | ⟨h0, hp, hs, hL⟩ | ⟨h0, hp, hm, hs, hL⟩ | ⟨h0, hp, hm, hs, hL⟩
    · have hd0 : (deed == 0) = true := by simpa using h0
      have HMY := hide hm
      have HS := hide hs
      have HLL := hide hL
      have HPUT : Hid (∀ wx u, Ref w0 wx S u K → Below w0.heap.size w0 wx → Calls Tryz.prog 48 #[.pointer (some ⟨S, 0, none⟩), .slice a n cp] wx fun e w' => e = .returned (.int .i64 0) ∧ ∃ u', Ref w0 w' S u' (M.putL K l) ∧ Touch S u wx w' ∧ Near wx u u') := hide fun wx u h1 h2 => by have := HA.out.put wx u h1 h2; rwa [hp] at this
      clear h0 hm hp hs hL HW
      go_wp2_with fail
      go_region_held3 (fun w' => w'.cell? ⟨C, 0, none⟩ = some (.slice ra rn rc) ∧ w'.cell? ⟨w.heap.size, 0, none⟩ = some (.int .i64 who) ∧ w'.cell? ⟨w.heap.size, 3, none⟩ = some (.slice a n cp)) (first | go_keep | assumption)
        (first
          | (go_at_call 47; refine (HA.out.may _ 0 _ l HM2.out.rc.bel.drew HMY.out HV.out).mono ?_; rintro e w3 ⟨rfl, hb3⟩; have HM3 := hide (HM2.out.quiet (((Below.refl _ _).drew).trans hb3)); obtain ⟨r0, r1, t0, t1, t2, t3, tn, rn3⟩ := HM3.out.all; clear hb3))
      clear q0 q1 d0 d1 d2 d3 dn qn
      have HM3d := hide (HM3.out.quiet ((Below.refl _ _).drew))
      go_wp2_with fail
      go_region_held3 (fun w' => w'.cell? ⟨C, 1, none⟩ = some (.pointer (some ⟨S, 0, none⟩)) ∧ w'.cell? ⟨w.heap.size, 3, none⟩ = some (.slice a n cp)) (first | go_keep | assumption)
        (first
          | (go_at_call 48; refine (HPUT.out _ _ HM3d.out.rc.sp HM3d.out.rc.bel).mono ?_; rintro e w4 ⟨rfl, u4, hs4, ht4, hn4⟩; have HM4 := hide (HM3d.out.space hs4 ht4 hn4); obtain ⟨q0, q1, d0, d1, d2, d3, dn, qn⟩ := HM4.out.all; clear hs4 ht4 hn4))
      go_wp2_with fail
      go_meet
      case rel => exact ⟨w4, u4, rfl, by rw [HS.out]; rfl, by rw [HLL.out]; exact HM4⟩
    · have hd0 : (deed == 0) = true := by simpa using h0
      have HMY := hide hm
      have HS := hide hs
      have HLL := hide hL
      obtain ⟨E, hE⟩ : ∃ E, E = M.putF K l := ⟨_, rfl⟩
      rw [← hE] at hp
      have hz4 : (E == 0) = false := by simpa using hp
      have HPUT : Hid (∀ wx u, Ref w0 wx S u K → Below w0.heap.size w0 wx → Calls Tryz.prog 48 #[.pointer (some ⟨S, 0, none⟩), .slice a n cp] wx fun e w' => e = .returned (.int .i64 E) ∧ ∃ u', Ref w0 w' S u' (M.putL K l) ∧ Touch S u wx w' ∧ Near wx u u') := hide fun wx u h1 h2 => by have := HA.out.put wx u h1 h2; rwa [← hE] at this
      clear h0 hm hp hs hL HW hE
      go_wp2_with fail
      go_region_held3 (fun w' => w'.cell? ⟨C, 0, none⟩ = some (.slice ra rn rc) ∧ w'.cell? ⟨w.heap.size, 0, none⟩ = some (.int .i64 who) ∧ w'.cell? ⟨w.heap.size, 3, none⟩ = some (.slice a n cp)) (first | go_keep | assumption)
        (first
          | (go_at_call 47; refine (HA.out.may _ 0 _ l HM2.out.rc.bel.drew HMY.out HV.out).mono ?_; rintro e w3 ⟨rfl, hb3⟩; have HM3 := hide (HM2.out.quiet (((Below.refl _ _).drew).trans hb3)); obtain ⟨r0, r1, t0, t1, t2, t3, tn, rn3⟩ := HM3.out.all; clear hb3))
      clear q0 q1 d0 d1 d2 d3 dn qn
      have HM3d := hide (HM3.out.quiet ((Below.refl _ _).drew))
      go_wp2_with fail
      go_region_held3 (fun w' => w'.cell? ⟨C, 1, none⟩ = some (.pointer (some ⟨S, 0, none⟩)) ∧ w'.cell? ⟨w.heap.size, 3, none⟩ = some (.slice a n cp)) (first | go_keep | assumption)
        (first
          | (go_at_call 48; refine (HPUT.out _ _ HM3d.out.rc.sp HM3d.out.rc.bel).mono ?_; rintro e w4 ⟨rfl, u4, hs4, ht4, hn4⟩; have HM4 := hide (HM3d.out.space hs4 ht4 hn4); obtain ⟨q0, q1, d0, d1, d2, d3, dn, qn⟩ := HM4.out.all; clear hs4 ht4 hn4))
      go_wp2_with fail
      go_meet
      case rel => exact ⟨w4, u4, rfl, by rw [HS.out]; rfl, by rw [HLL.out]; exact HM4⟩
    · have hd0 : (deed == 0) = false := by simpa using h0
      have HS := hide hs
      have HLL := hide hL
      obtain ⟨E, hE⟩ : ∃ E, E = M.getF l K := ⟨_, rfl⟩
      rw [← hE] at hp
      have hz4 : (E == 0) = false := by simpa using hp
      have HG : Hid (∀ wx u, Ref w0 wx S u K → Below w0.heap.size w0 wx → Calls Tryz.prog 49 #[.pointer (some ⟨S, 0, none⟩), .slice a n cp, .bool false] wx fun e w' => ∃ r, e = .returned (.tuple #[r, .int .i64 E]) ∧ IsVals w0 r (M.getV l K) ∧ Below wx.heap.size wx w') := hide fun wx u h1 h2 => by have := HA.out.get0 wx u h1 h2; rwa [← hE] at this
      clear h0 hp hs hL HW hE
      have HM2d := hide (HM2.out.quiet ((Below.refl _ _).drew))
      go_wp2_with fail
      go_region_held3 (fun w' => w'.cell? ⟨C, 1, none⟩ = some (.pointer (some ⟨S, 0, none⟩)) ∧ w'.cell? ⟨w.heap.size, 3, none⟩ = some (.slice a n cp)) (first | go_keep | assumption)
        (first
          | (go_at_call 49; refine (HG.out _ _ HM2d.out.rc.sp HM2d.out.rc.bel).mono ?_; rintro e w3 ⟨r, rfl, hr, hb3⟩; have HM3 := hide (HM2d.out.quiet hb3); obtain ⟨r0, r1, t0, t1, t2, t3, tn, rn3⟩ := HM3.out.all; clear hb3 hr))
      go_wp2_with fail
      go_meet
      case rel => exact ⟨w3, u, rfl, by rw [HS.out]; rfl, by rw [HLL.out]; exact HM3⟩
    · have hd0 : (deed == 0) = false := by rw [h0]; rfl
      have hd2 : (deed == 2) = false := by rw [h0]; rfl
      have hm' : M.mayR R who deed (M.getV l K) = true := by rw [h0]; exact hm
      have HMY := hide hm'
      have HS := hide hs
      have HLL := hide hL
      have HGF := hide hp
      have HG : Hid (∀ wx u, Ref w0 wx S u K → Below w0.heap.size w0 wx → Calls Tryz.prog 49 #[.pointer (some ⟨S, 0, none⟩), .slice a n cp, .bool false] wx fun e w' => ∃ r, e = .returned (.tuple #[r, .int .i64 0]) ∧ IsVals w0 r (M.getV l K) ∧ Below wx.heap.size wx w') := hide fun wx u h1 h2 => by have := HA.out.get0 wx u h1 h2; rwa [hp] at this
      clear h0 hm hm' hp hs hL HW
      have HM2d := hide (HM2.out.quiet ((Below.refl _ _).drew))
      go_wp2_with fail
      go_region_held3 (fun w' => w'.cell? ⟨C, 1, none⟩ = some (.pointer (some ⟨S, 0, none⟩)) ∧ w'.cell? ⟨w.heap.size, 3, none⟩ = some (.slice a n cp)) (first | go_keep | assumption)
        (first
          | (go_at_call 49; refine (HG.out _ _ HM2d.out.rc.sp HM2d.out.rc.bel).mono ?_; rintro e w3 ⟨r, rfl, hr, hb3⟩; have HR := hide hr; have HM3 := hide (HM2d.out.quiet hb3); obtain ⟨r0, r1, t0, t1, t2, t3, tn, rn3⟩ := HM3.out.all; clear hb3 hr))
      clear q0 q1 d0 d1 d2 d3 dn qn
      have HM3d := hide (HM3.out.quiet ((Below.refl _ _).drew))
      go_wp2_with fail
      go_region_held3 (fun w' => w'.cell? ⟨C, 0, none⟩ = some (.slice ra rn rc) ∧ w'.cell? ⟨w.heap.size, 0, none⟩ = some (.int .i64 who) ∧ w'.cell? ⟨w.heap.size, 2, none⟩ = some (.int .i64 deed)) (first | go_keep | assumption)
        (first
          | (go_at_call 47; refine (HA.out.may _ deed _ _ HM3d.out.rc.bel HMY.out HR.out).mono ?_; rintro e w4 ⟨rfl, hb4⟩; have HM4 := hide (HM3d.out.quiet hb4); obtain ⟨q0, q1, d0, d1, d2, d3, dn, qn⟩ := HM4.out.all; clear hb4))
      clear r0 r1 t0 t1 t2 t3 tn rn3
      go_wp2_with fail
      refine (HA.out.line _ _ HM4.out.rc.bel HGF.out HR.out).mono ?_
      rintro e w5 ⟨rfl, hb5⟩
      have HM5 := hide (HM4.out.quiet hb5)
      clear q0 q1 d0 d1 d2 d3 dn qn hb5
      obtain ⟨q0, q1, d0, d1, d2, d3, dn, qn⟩ := HM5.out.all
      go_wp2_with fail
      go_meet
      case rel => exact ⟨w5, u, rfl, by rw [HS.out], by rw [HLL.out]; exact HM5⟩
    · have hd0 : (deed == 0) = false := by rw [h0]; rfl
      have hd2 : (deed == 2) = true := by rw [h0]; rfl
      have hm' : M.mayR R who deed (M.getV l K) = true := by rw [h0]; exact hm
      have HMY := hide hm'
      have HS := hide hs
      have HLL := hide hL
      have HGF := hide hp
      have HG : Hid (∀ wx u, Ref w0 wx S u K → Below w0.heap.size w0 wx → Calls Tryz.prog 49 #[.pointer (some ⟨S, 0, none⟩), .slice a n cp, .bool false] wx fun e w' => ∃ r, e = .returned (.tuple #[r, .int .i64 0]) ∧ IsVals w0 r (M.getV l K) ∧ Below wx.heap.size wx w') := hide fun wx u h1 h2 => by have := HA.out.get0 wx u h1 h2; rwa [hp] at this
      clear h0 hm hm' hp hs hL HW
      have HM2d := hide (HM2.out.quiet ((Below.refl _ _).drew))
      go_wp2_with fail
      go_region_held3 (fun w' => w'.cell? ⟨C, 1, none⟩ = some (.pointer (some ⟨S, 0, none⟩)) ∧ w'.cell? ⟨w.heap.size, 3, none⟩ = some (.slice a n cp)) (first | go_keep | assumption)
        (first
          | (go_at_call 49; refine (HG.out _ _ HM2d.out.rc.sp HM2d.out.rc.bel).mono ?_; rintro e w3 ⟨r, rfl, hr, hb3⟩; have HR := hide hr; have HM3 := hide (HM2d.out.quiet hb3); obtain ⟨r0, r1, t0, t1, t2, t3, tn, rn3⟩ := HM3.out.all; clear hb3 hr))
      clear q0 q1 d0 d1 d2 d3 dn qn
      have HM3d := hide (HM3.out.quiet ((Below.refl _ _).drew))
      go_wp2_with fail
      go_region_held3 (fun w' => w'.cell? ⟨C, 0, none⟩ = some (.slice ra rn rc) ∧ w'.cell? ⟨w.heap.size, 0, none⟩ = some (.int .i64 who) ∧ w'.cell? ⟨w.heap.size, 2, none⟩ = some (.int .i64 deed)) (first | go_keep | assumption)
        (first
          | (go_at_call 47; refine (HA.out.may _ deed _ _ HM3d.out.rc.bel HMY.out HR.out).mono ?_; rintro e w4 ⟨rfl, hb4⟩; have HM4 := hide (HM3d.out.quiet hb4); obtain ⟨q0, q1, d0, d1, d2, d3, dn, qn⟩ := HM4.out.all; clear hb4))
      clear r0 r1 t0 t1 t2 t3 tn rn3
      go_wp2_with fail
      refine (HA.out.line _ _ HM4.out.rc.bel HGF.out HR.out).mono ?_
      rintro e w5 ⟨rfl, hb5⟩
      have HM5 := hide (HM4.out.quiet hb5)
      clear q0 q1 d0 d1 d2 d3 dn qn hb5
      obtain ⟨q0, q1, d0, d1, d2, d3, dn, qn⟩ := HM5.out.all
      have HM5d := hide (HM5.out.quiet ((Below.refl _ _).drew))
      have HG1 : Hid (∀ wx u, Ref w0 wx S u K → Below w0.heap.size w0 wx → Calls Tryz.prog 49 #[.pointer (some ⟨S, 0, none⟩), .slice a n cp, .bool true] wx fun e w' => ∃ r u', e = .returned (.tuple #[r, .int .i64 0]) ∧ IsVals w0 r (M.getV l K) ∧ Ref w0 w' S u' (M.lessL l K) ∧ Touch S u wx w' ∧ Near wx u u') := hide fun wx u h1 h2 => by have := HA.out.get1 wx u h1 h2; rwa [HGF.out] at this
      go_wp2_with fail
      go_region_held3 (fun w' => w'.cell? ⟨C, 1, none⟩ = some (.pointer (some ⟨S, 0, none⟩)) ∧ w'.cell? ⟨w.heap.size, 3, none⟩ = some (.slice a n cp)) (first | go_keep | assumption)
        (first
          | (go_at_call 49; refine (HG1.out _ _ HM5d.out.rc.sp HM5d.out.rc.bel).mono ?_; rintro e w6 ⟨r6, u6, rfl, hr6, hs6, ht6, hn6⟩; have HM6 := hide (HM5d.out.space hs6 ht6 hn6); obtain ⟨r0, r1, t0, t1, t2, t3, tn, rn3⟩ := HM6.out.all; clear hs6 ht6 hn6 hr6))
      go_wp2_with fail
      go_meet
      case rel => exact ⟨w6, u6, rfl, by rw [HS.out], by rw [HLL.out]; exact HM6⟩
  case rest =>
    clear HM2 HW HA q0 q1 d0 d1 d2 d3 dn qn HRC HV
    obtain ⟨w6, u', rfl, rfl, hM⟩ := hcut
    obtain ⟨c0, c1, c2, c3, cn, cf⟩ := hM.out.rc.cells
    have f3 := cf 3
    obtain ⟨w7, hw7⟩ : ∃ w7, w7 = w6.setCell ⟨C, 3, none⟩ (.int .i64 ((p : Int) + 1)) := ⟨_, rfl⟩
    have H7 := hide hw7
    have HR7 : Hid (Rc w0 w7 C S u' (.slice ao p cap) (.slice ra rn rc) L' D ((p : Int) + 1)) := hide (hw7 ▸ (hM.out.rc.many (n' := (p : Int) + 1)).1)
    have HX7 : Hid (AskBox w7 w.heap.size who (G1 + 1) deed a n cp) := hide (hw7 ▸ hM.out.box7)
    go_wp2_with fail
    rw [← hw7]
    clear hw7 c0 c1 c2 c3 cn cf f3
    obtain ⟨c0, c1, c2, c3, cn, cf⟩ := HR7.out.cells
    have f2 := cf 2
    obtain ⟨b0, b1, b2, b3, bn⟩ := HX7.out.cells
    have HBA : Hid (Below w7.heap.size w7 (w7.alloc (.cells #[.int .i64 who, .int .i64 (G1 + 1), .string s0] 106)).drew) := hide ((Below.refl _ _).alloc (Nat.le_refl _) _).drew
    have HRA := hide (HR7.out.quiet HBA.out)
    have HRW := hide HRA.out.row
    rw [HPL.out] at HRW
    have hneC : Hid ((Value.slice ao p cap).ownBlock ≠ some C) := hide fun e => by
      obtain ⟨_, cc, fr, hh⟩ := ownsRow_tag HRA.out.row e
      rw [HRA.out.heap] at hh
      exact absurd (tag_eq hh) (by decide)
    go_region_law
      (refine step_append_lies _ (by rfl) (.tmp 109) (.tmp 116) 53 (by rfl) w0.heap.size 106 i0 (.agg #[.int .i64 0, .int .i64 0, .string ⟨#[]⟩]) 3 32 Tryz.underlying53 HI.out.1 HI.out.2.1 HI.out.2.2.1 HI.out.2.2.2 rfl (by decide) (.slice ao p cap) p (cellsD D) (by simp [Act.eval]) HRW.out ⟨w7.heap.size, 0, none⟩ 1 1 [.int .i64 who, .int .i64 (G1 + 1), .string s0] (by simp [Act.eval]) rfl (World.news_of_block (heap_alloc_new _ _)) (by intro u hu; simp at hu; rcases hu with rfl | rfl | rfl <;> rfl) (by decide) (by unfold maxLen; omega) (by omega) HRA.out.bel.size (w7.heap.size + 1) (by simp) ?_
       intro g3 k3 w8 hown8 hgrow8 hat8 hlt8
       have c8 : w8.cell? ⟨C, 2, none⟩ = some (.slice ao p cap) := hgrow8.cell HRA.out.cells.2.2.1 (fun e => hneC.out e.symm)
       have f8 : w8.frozen? ⟨C, 2, none⟩ = false := (World.frozen?_of_block (hgrow8.block C HRA.out.cells.2.2.2.2.1 (fun e => hneC.out e.symm))).trans (HRA.out.cells.2.2.2.2.2 2)
       have HO8 := hide hown8
       have HG8 := hide hgrow8
       have HAT := hide hat8
       clear hown8 hgrow8 hat8)
    all_goals
      go_wp2_with fail
      go_ret2
      refine ⟨rfl, u', _, hM.out.fin (d := ⟨who, G1 + 1, s0⟩) H7.out HBA.out HG8.out ?_ ?_⟩
      · rw [cellsD_append, List.length_append, HPL.out]; exact HO8.out
      · exact near_lies (w := (w7.alloc (.cells #[.int .i64 who, .int .i64 (G1 + 1), .string s0] 106)).drew) (n := p + 1) (c := k3) HAT.out (by simp)
end

end Go.Proofs.YtlefhfmckimlaakGreatDoor
