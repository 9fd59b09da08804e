/-
  The walk of the Go function QueueOnce: it returns true, whatever comes in.
-/
import Derived.Test.YtlefhfmckimlaahDoorQueueOnceA
set_option linter.unusedVariables false
namespace Go.Proofs.YtlefhfmckimlaahDoor.queueOnce
open Go.RowKit
attribute [local go_sem ↓] Go.wp_at_zero Go.wp_at_succ

set_option maxRecDepth 100000 in
set_option maxHeartbeats 4000000 in
theorem walk (av : Option Addr) (m cap : Nat) (l : List M.Ask) (w : World) (hm : m = l.length) (hmm : m ≤ maxLen) (hl : AtA w av l) (hg : Hand w) :
    Calls Tryd.prog 4 #[.slice av m cap] w fun e w' => e = .returned (.bool true) ∧ Below w.heap.size w w' := by
  obtain ⟨i0, hi, hz0, hz1, hz2⟩ := info_parts infoA
  have HI := hide (And.intro hi (And.intro hz0 (And.intro hz1 hz2)))
  have HL := hide hl
  have HM := hide hm
  have HG := hide hg
  unfold maxLen at hmm
  clear hi hz0 hz1 hz2 hl hm hg
  go_enter Tryd.func4, Tryd.ntmps4
  go_wp2_with fail
  refine (qnew _).mono ?_
  rintro e w1 ⟨rfl, hw1⟩
  have HB1 : Hid (Below w.heap.size w w1) := hide (by rw [hw1]; exact ((Below.refl _ _).alloc (Nat.le_refl _) _).alloc (by simp) _)
  have HQ1 : Hid (Qs w.heap.size w1 (w.heap.size + 1) w.heap.size (.slice none 0 0) [] 0 (fun _ => 0)) := hide (by rw [hw1]; exact Qs.new w (Nat.le_refl _))
  clear hw1
  have HP1 := hide (push1 w w1 (w.heap.size + 1) w.heap.size HB1.out HQ1.out)
  go_wp2_with fail
  refine (unhide HP1).mono ?_
  rintro e w2 ⟨rfl, hO2⟩
  have HO2 := hide hO2
  have b0 : w2.cell? ⟨w1.heap.size + 1, 0, none⟩ = some (.int .i64 5) := by rw [cell_of_row w2 _ 0 _ _ (0, 0) hO2.box]; rfl
  have b1 : w2.cell? ⟨w1.heap.size + 1, 1, none⟩ = some (.int .i64 1) := by rw [cell_of_row w2 _ 1 _ _ (0, 0) hO2.box]; rfl
  have b2 : w2.cell? ⟨w1.heap.size + 1, 2, none⟩ = some (.int .i64 0) := by rw [cell_of_row w2 _ 2 _ _ (0, 0) hO2.box]; rfl
  have b3 : w2.cell? ⟨w1.heap.size + 1, 3, none⟩ = some (.slice (some ⟨w1.heap.size, 0, none⟩) 1 1) := by rw [cell_of_row w2 _ 3 _ _ (0, 0) hO2.box]; rfl
  clear hO2 HP1
  go_wp2_with fail
  refine (push2 HO2.out).mono ?_
  rintro e w3 ⟨rfl, hO3⟩
  have HO3 := hide hO3
  clear hO3 HO2 b0 b1 b2 b3
  go_wp2_with fail
  refine (next1 HO3.out).mono ?_
  rintro e w4 ⟨rfl, hO4⟩
  have HO4 := hide hO4
  clear hO4 HO3
  go_wp2_with fail
  refine (same1 HO4.out HG.out).mono ?_
  rintro e w5 ⟨rfl, hO5⟩
  have HO5 := hide hO5
  clear hO5 HO4
  go_wp2_with fail
  refine (count1 HO5.out).mono ?_
  rintro e w6 ⟨rfl, hO6⟩
  have HB6 := hide hO6.bel
  clear hO6 HO5 HQ1 HB1
  go_wp2_with fail
  refine (qnew _).mono ?_
  rintro e w7 ⟨rfl, hw7⟩
  have HP7 : Hid (Put w w7 (w6.heap.size + 1) w6.heap.size (.slice none 0 0) [] (fun _ => 0) (.slice none 0 0) []) := hide ⟨by rw [hw7]; exact Ob.start HB6.out, rfl, fun j => rfl, M.turn_nil, by simp⟩
  clear hw7
  obtain ⟨S, hS⟩ : ∃ S, S = w6.heap.size + 1 := ⟨_, rfl⟩
  obtain ⟨B, hB⟩ : ∃ B, B = w6.heap.size := ⟨_, rfl⟩
  rw [← hS, ← hB] at HP7
  rw [← hS]
  clear hS hB HB6
  have HLA : Hid (∀ wx k (hk : k < l.length), Below w.heap.size w wx → ∃ b off a n c, av = some ⟨b, off, none⟩ ∧ wx.cell? ⟨b, off + k * 4, none⟩ = some (.int .i64 l[k].who) ∧ wx.cell? ⟨b, off + k * 4 + 1, none⟩ = some (.int .i64 l[k].seq) ∧ wx.cell? ⟨b, off + k * 4 + 2, none⟩ = some (.int .i64 l[k].deed) ∧ wx.cell? ⟨b, off + k * 4 + 3, none⟩ = some (.slice a n c) ∧ IsVals w (.slice a n c) l[k].t ∧ ∀ wy, Below w.heap.size w wy → wy.cell? ⟨b, off + k * 4, none⟩ = some (.int .i64 l[k].who) ∧ wy.cell? ⟨b, off + k * 4 + 1, none⟩ = some (.int .i64 l[k].seq) ∧ wy.cell? ⟨b, off + k * 4 + 2, none⟩ = some (.int .i64 l[k].deed) ∧ wy.cell? ⟨b, off + k * 4 + 3, none⟩ = some (.slice a n c)) := hide fun wx k hk hb => by
    obtain ⟨b, off, e, hlie⟩ := HL.out (by omega)
    obtain ⟨a, n, c, h1, h2, h3, h4, h5⟩ := hlie.get hk
    have hlt := World.block_lt_of_cell? w _ h1
    exact ⟨b, off, a, n, c, e, (hb.cell (p := ⟨b, off + k * 4, none⟩) hlt).trans h1, (hb.cell (p := ⟨b, off + k * 4 + 1, none⟩) hlt).trans h2, (hb.cell (p := ⟨b, off + k * 4 + 2, none⟩) hlt).trans h3, (hb.cell (p := ⟨b, off + k * 4 + 3, none⟩) hlt).trans h4, h5, fun wy hy => ⟨(hy.cell (p := ⟨b, off + k * 4, none⟩) hlt).trans h1, (hy.cell (p := ⟨b, off + k * 4 + 1, none⟩) hlt).trans h2, (hy.cell (p := ⟨b, off + k * 4 + 2, none⟩) hlt).trans h3, (hy.cell (p := ⟨b, off + k * 4 + 3, none⟩) hlt).trans h4⟩⟩
  go_wp2_with fail
  go_loopw [10, 11] (fun sp si wr => ∃ (k p c : Nat) (ap : Option Addr) (v : Value) (E P : List QEnt) (f : Int → Int), sp = .slice ap p c ∧ si = .int .i64 k ∧ k ≤ m ∧ k ≤ 60 ∧ Hid (p = P.length) ∧ Hid (Put w wr S B v E f (.slice ap p c) P)) (fun _ si _ => 60 - (intOf si).toNat)
  case atStart => exact ⟨0, 0, 0, none, .slice none 0 0, [], [], fun _ => 0, rfl, rfl, Nat.zero_le _, by omega, hide rfl, HP7⟩
  case round =>
    obtain ⟨k, p, c, ap, v, E, P, f, rfl, rfl, hk, hk6, hp, hP⟩ := hrel
    rcases (by omega : (k < m ∧ k < 60) ∨ (k < m ∧ ¬ k < 60) ∨ ¬ k < m) with ⟨hlt, h60⟩ | hend
    · have hkl : k < l.length := HM.out ▸ hlt
      obtain ⟨b, off, a, n, c2, rfl, c0, c1, c2', c3, hv, hy⟩ := HLA.out wr k hkl hP.out.ob.bel
      have HV := hide hv
      have HY := hide hy
      obtain ⟨ke, hke⟩ : ∃ ke, M.pushE f E.length ⟨l[k].who, l[k].seq, l[k].deed, l[k].t⟩ = ke := ⟨_, rfl⟩
      have HPP := hide (hP.out.ob.push (who := l[k].who) (seq := l[k].seq) (deed := l[k].deed) hv hP.out.few (by rw [hP.out.lenE]; exact hP.out.len) (by have := hP.out.len; omega) hke)
      have HKE := hide hke
      clear hv hy hke
      generalize l[k] = y at *
      go_wp2_with fail
      refine (unhide HPP).mono ?_
      rintro e w8 ⟨rfl, hc⟩
      rcases hc with ⟨h0, hO⟩ | ⟨h0, v', x, hO, hx⟩
      · rw [errV_bad h0]
        have HP8 : Hid (Put w w8 S B v E f (.slice ap p c) P) := hide ⟨hO, hP.out.same, hP.out.last, hP.out.turn, hP.out.len⟩
        clear hO h0 HKE HPP c0 c1 c2' c3
        go_wp2_with fail
        go_roundw
        case rel => exact ⟨k + 1, p, c, ap, v, E, P, f, rfl, by go_num, by omega, by omega, hp, HP8⟩
        case measure => simp [intOf]; omega
      · subst h0
        rw [errV_0]
        have HO8 := hide hO
        have HX8 := hide hx
        obtain ⟨d0, d1, d2, d3⟩ := HY.out w8 hO.bel
        have hgb : b < w8.heap.size := World.block_lt_of_cell? w8 _ d0
        have hpl : p ≤ 30 := by rw [hp.out]; exact hP.out.len
        clear hO hx HPP c0 c1 c2' c3
        have HOA := hide (HO8.out.quiet ((Below.refl _ _).alloc (Nat.le_refl _) (.cells #[.int .i64 y.who, .int .i64 y.seq, .int .i64 y.deed, .slice a n c2] 41)))
        have HRW := hide HOA.out.row
        rw [← hp.out] at HRW
        go_wp2_with (at_builtin; refine wpList_append_win _ rfl (.tmp 72) (.tmp 77) 34 rfl w.heap.size 41 i0 (.agg #[.int .i64 0, .int .i64 0, .int .i64 0, .slice none 0 0]) 4 48 Tryd.underlying34 HI.out.1 HI.out.2.1 HI.out.2.2.1 HI.out.2.2.2 rfl (by decide) (.slice ap p c) p (cellsQ P) rfl HRW.out ⟨w8.heap.size, 0, none⟩ 1 1 [.int .i64 y.who, .int .i64 y.seq, .int .i64 y.deed, .slice a n c2] rfl rfl (World.news_of_block (heap_alloc_new _ _)) (by intro u hu; simp at hu; rcases hu with rfl | rfl | rfl | rfl <;> rfl) (by decide) (by unfold maxLen; omega) (by omega) HOA.out.qs.base_le _ rfl ?_)
        intro g3 o3 k3 w9 hown9 hgrow9 hat9 hlt9
        have HP9 : Hid (Put w w9 S B v' (E ++ [x]) (M.upF f y) (.slice (some ⟨g3, o3, none⟩) (p + 1) k3) (P ++ [⟨y, a, n, c2⟩])) := hide (by
          have hmo := hP.out.more (w2 := _) (w3 := w9) (g := g3) (o := o3) (c := k3) (y := ⟨y, a, n, c2⟩) (x := x) (v' := v') HKE.out HOA.out HX8.out HV.out (by rw [← hp.out]; exact hown9) hgrow9 hat9 (by simp)
          rwa [← hp.out] at hmo)
        have hp9 : Hid (p + 1 = (P ++ [(⟨y, a, n, c2⟩ : QEnt)]).length) := hide (by rw [List.length_append, ← hp.out]; rfl)
        clear hown9 hgrow9 hat9 hlt9 HRW HOA d0 d1 d2 d3 HO8 HX8
        go_wp2_with fail
        go_roundw
        case rel => exact ⟨k + 1, p + 1, k3, some ⟨g3, o3, none⟩, v', E ++ [x], P ++ [⟨y, a, n, c2⟩], M.upF f y, rfl, by go_num, by omega, by omega, hp9, HP9⟩
        case measure => simp [intOf]; omega
    · have HP := hP
      have hpl : p ≤ 30 := by rw [hp.out]; exact hP.out.len
      have HGT := hide hP.out.got
      have HTN := hide hP.out.turn
      clear hP
      have hend' : (k < m ∧ ¬ k < 60) ∨ (¬ k < m ∧ True) := hend.imp id fun h => ⟨h, trivial⟩
      clear hend
      rcases hend' with ⟨e1, e2⟩ | ⟨e1, e2⟩
      all_goals
        go_wp2_with fail
        go_loopw [12] (fun si wr => ∃ (i : Nat) (v : Value) (E : List QEnt), si = .int .i64 i ∧ i ≤ p ∧ Hid (Got w wr S B v E f (.slice ap p c) P i)) (fun si _ => p - (intOf si).toNat)
        case atStart => exact ⟨0, v, E, rfl, Nat.zero_le _, HGT⟩
        case round =>
          obtain ⟨i, v2, E2, rfl, hip, hgt⟩ := hrel
          by_cases hi : i < p
          · have hil : i < P.length := hp.out ▸ hi
            obtain ⟨⟨⟨yw, ys, yd, yt⟩, xx, xn, xc⟩, E3, rfl, hxa, hrest⟩ := hgt.out.split hil
            obtain ⟨g, o, rfl⟩ : ∃ g o, ap = some ⟨g, o, none⟩ := by
              obtain ⟨g, o, c', he, _⟩ := hgt.out.ob.row.form (by omega)
              cases he
              exact ⟨g, o, rfl⟩
            have HPO := hide (hgt.out.ob.pop (by have := hgt.out.few; simp only [List.length_cons] at this; have := hp.out; omega))
            have HRE := hide hrest
            have HXA : Hid (P[i].a = ⟨yw, ys, yd, yt⟩) := hide hxa.symm
            have HSR : Hid (IsVals w P[i].v yt) := hide (by have := hgt.out.ob.src _ (List.getElem_mem hil); rwa [HXA.out] at this)
            have HCE : Hid (∀ wx v4 E4, Ob w wx S B v4 E4 P.length f (.slice (some ⟨g, o, none⟩) p c) P → wx.cell? ⟨g, o + i * 4, none⟩ = some (.int .i64 yw) ∧ wx.cell? ⟨g, o + i * 4 + 1, none⟩ = some (.int .i64 ys) ∧ wx.cell? ⟨g, o + i * 4 + 2, none⟩ = some (.int .i64 yd) ∧ wx.cell? ⟨g, o + i * 4 + 3, none⟩ = some (.slice P[i].x P[i].n P[i].c)) := hide fun wx v4 E4 hO => by
              have := Ob.cells hO hp.out hil
              rw [HXA.out] at this
              exact this
            have HSQ : Hid (ys = M.his yw ((P.map (·.a)).take (i + 1))) := hide (by
              have := HTN.out i (by rw [List.length_map]; exact hil)
              rw [List.getElem_map, HXA.out] at this
              exact this)
            clear hrest hxa
            go_wp2_with fail
            refine (unhide HPO).mono ?_
            rintro e w10 ⟨rfl, v3, hO10, hV10⟩
            have HOX := hide (hO10.quiet ((Below.refl _ _).alloc (Nat.le_refl _) (.cells #[.int .i64 yw, .int .i64 ys, .int .i64 yd, .slice xx xn xc] 41)))
            have HVX : Hid (IsVals (w10.alloc (.cells #[.int .i64 yw, .int .i64 ys, .int .i64 yd, .slice xx xn xc] 41)) (.slice xx xn xc) yt) := hide (hV10.stays ((Below.refl _ _).alloc (Nat.le_refl _) _) (Nat.le_refl _))
            have HBX := hide (heap_alloc_new w10 (.cells #[.int .i64 yw, .int .i64 ys, .int .i64 yd, .slice xx xn xc] 41))
            clear hO10 hV10
            rw [errV_0]
            go_wp2_with fail
            obtain ⟨wX, hwX⟩ : ∃ wX, wX = w10.alloc (.cells #[.int .i64 yw, .int .i64 ys, .int .i64 yd, .slice xx xn xc] 41) := ⟨_, rfl⟩
            rw [← hwX] at HOX HVX HBX ⊢
            obtain ⟨N, hN⟩ : ∃ N, N = w10.heap.size := ⟨_, rfl⟩
            rw [← hN] at HBX ⊢
            clear hwX hN
            obtain ⟨p0, p1, p2, p3⟩ := HCE.out _ _ _ HOX.out
            have b0 : wX.cell? ⟨N, 0, none⟩ = some (.int .i64 yw) := by rw [cell_of_row wX _ 0 _ _ (0, 0) HBX.out]; rfl
            have b1 : wX.cell? ⟨N, 1, none⟩ = some (.int .i64 ys) := by rw [cell_of_row wX _ 1 _ _ (0, 0) HBX.out]; rfl
            have b2 : wX.cell? ⟨N, 2, none⟩ = some (.int .i64 yd) := by rw [cell_of_row wX _ 2 _ _ (0, 0) HBX.out]; rfl
            have b3 : wX.cell? ⟨N, 3, none⟩ = some (.slice xx xn xc) := by rw [cell_of_row wX _ 3 _ _ (0, 0) HBX.out]; rfl
            have hNl := heap_lt HBX.out
            have hgl := World.block_lt_of_cell? wX _ p0
            have HT : Hid (Calls Tryd.prog 17 #[.slice xx xn xc, .slice P[i].x P[i].n P[i].c] wX.drew fun e w' => e = .returned (.bool true) ∧ Ob w w' S B v3 E3 P.length f (.slice (some ⟨g, o, none⟩) p c) P ∧ Below wX.drew.heap.size wX.drew w') := hide (Ob.tuple (HOX.out.quiet (Below.refl _ _).drew) (HVX.out.stays (Below.refl _ _).drew (Nat.le_refl _)) (HSR.out.stays (HOX.out.bel.trans ((Below.refl _ _).drew.mono HOX.out.bel.size)) (Nat.le_refl _)))
            have hi2 : (i : Int) < (p : Int) := by omega
            generalize P[i].x = zx at *
            generalize P[i].n = zn at *
            generalize P[i].c = zc at *
            go_region_held3 (fun w' => w'.cell? ⟨N, 0, none⟩ = some (.int .i64 yw) ∧ w'.cell? ⟨N, 1, none⟩ = some (.int .i64 ys) ∧ w'.cell? ⟨N, 2, none⟩ = some (.int .i64 yd) ∧ w'.cell? ⟨N, 3, none⟩ = some (.slice xx xn xc) ∧ w'.cell? ⟨g, o + i * 4, none⟩ = some (.int .i64 yw) ∧ w'.cell? ⟨g, o + i * 4 + 1, none⟩ = some (.int .i64 ys) ∧ w'.cell? ⟨g, o + i * 4 + 2, none⟩ = some (.int .i64 yd) ∧ w'.cell? ⟨g, o + i * 4 + 3, none⟩ = some (.slice zx zn zc)) (first | go_keep | assumption)
              (first
                | (go_at_call 17; refine (unhide HT).mono ?_; rintro e w11 ⟨rfl, hO11, hb11⟩
                   have HO11 := hide hO11
                   have HX11 : Hid (w11.heap[N]? = some (.cells #[.int .i64 yw, .int .i64 ys, .int .i64 yd, .slice xx xn xc] 41 (0, 0))) := hide ((hb11.block N (heap_lt HBX.out)).trans HBX.out)
                   obtain ⟨q0, q1, q2, q3⟩ := HCE.out _ _ _ hO11
                   have r0 : w11.cell? ⟨N, 0, none⟩ = some (.int .i64 yw) := by rw [cell_of_row w11 _ 0 _ _ (0, 0) HX11.out]; rfl
                   have r1 : w11.cell? ⟨N, 1, none⟩ = some (.int .i64 ys) := by rw [cell_of_row w11 _ 1 _ _ (0, 0) HX11.out]; rfl
                   have r2 : w11.cell? ⟨N, 2, none⟩ = some (.int .i64 yd) := by rw [cell_of_row w11 _ 2 _ _ (0, 0) HX11.out]; rfl
                   have r3 : w11.cell? ⟨N, 3, none⟩ = some (.slice xx xn xc) := by rw [cell_of_row w11 _ 3 _ _ (0, 0) HX11.out]; rfl
                   clear hO11 hb11))
            clear HT HOX HVX HBX p0 p1 p2 p3 b0 b1 b2 b3 q0 q1 q2 q3 r0 r1 r2 r3 HPO hNl hgl
            go_wp2_with fail
            go_loopw [15, 16] (fun sm sk wz => ∃ (j q : Nat), sm = .int .i64 q ∧ sk = .int .i64 j ∧ j ≤ i + 1 ∧ q ≤ 40 ∧ Hid (q = M.his yw ((P.map (·.a)).take j)) ∧ Hid (Ob w wz S B v3 E3 P.length f (.slice (some ⟨g, o, none⟩) p c) P) ∧ Hid (wz.heap[N]? = some (.cells #[.int .i64 yw, .int .i64 ys, .int .i64 yd, .slice xx xn xc] 41 (0, 0)))) (fun _ sk _ => i + 1 - (intOf sk).toNat)
            case atStart => exact ⟨0, 0, rfl, rfl, by omega, by omega, hide rfl, HO11, HX11⟩
            case round =>
              obtain ⟨j, q, rfl, rfl, hj, hq, hqh, hO, hX⟩ := hrel
              have hjI : (j : Int) ≤ (i : Int) ∨ ¬ (j : Int) ≤ (i : Int) := by omega
              by_cases hji : j ≤ i
              · have hjl : j < P.length := by have := hp.out; omega
                obtain ⟨z0, _, _, _⟩ := Ob.cells hO.out hp.out hjl
                have y0 : wr.cell? ⟨N, 0, none⟩ = some (.int .i64 yw) := by rw [cell_of_row wr _ 0 _ _ (0, 0) hX.out]; rfl
                have hjp : (j : Int) < (p : Int) := by omega
                have hgl := World.block_lt_of_cell? wr _ z0
                have hNl := heap_lt hX.out
                have HNX : Hid (M.his yw ((P.map (·.a)).take (j + 1)) = M.his yw ((P.map (·.a)).take j) + if P[j].a.who = yw then 1 else 0) := hide (by
                  have := his_next (l := P.map (·.a)) (k := j) (by rw [List.length_map]; exact hjl) yw
                  rwa [List.getElem_map] at this)
                have HQL : Hid (M.his yw ((P.map (·.a)).take (j + 1)) ≤ 30) := hide (by
                  have h1 := M.his_le yw ((P.map (·.a)).take (j + 1))
                  rw [List.length_take, List.length_map] at h1
                  have := hp.out
                  omega)
                generalize P[j].a.who = zw at *
                by_cases hzw : zw = yw
                · subst hzw
                  have HQ1 : Hid (q + 1 = M.his zw ((P.map (·.a)).take (j + 1))) := hide (by rw [HNX.out, if_pos rfl, hqh.out])
                  have hq1 : q + 1 ≤ 30 := by rw [HQ1.out]; exact HQL.out
                  go_wp2_with fail
                  go_quiet (fail)
                  go_wp2_with fail
                  go_roundw
                  case rel => exact ⟨j + 1, q + 1, by go_num, by go_num, by omega, by omega, HQ1, hide (hO.out.quiet (Go.below_drewN (Below.refl _ _) _)), hX⟩
                  case measure => simp [intOf]; omega
                · have hzb : (zw == yw) = false := by simpa using hzw
                  have HQ1 : Hid (q = M.his yw ((P.map (·.a)).take (j + 1))) := hide (by rw [HNX.out, if_neg hzw, hqh.out]; rfl)
                  clear hzw
                  go_wp2_with fail
                  go_quiet (fail)
                  go_wp2_with fail
                  go_roundw
                  case rel => exact ⟨j + 1, q, rfl, by go_num, by omega, by omega, HQ1, hide (hO.out.quiet (Go.below_drewN (Below.refl _ _) _)), hX⟩
                  case measure => simp [intOf]; omega
              · have hje : j = i + 1 := by omega
                have hqs : Hid ((q : Int) = ys) := hide (by rw [HSQ.out, hqh.out, hje])
                have y1 : wr.cell? ⟨N, 1, none⟩ = some (.int .i64 ys) := by rw [cell_of_row wr _ 1 _ _ (0, 0) hX.out]; rfl
                have hNl := heap_lt hX.out
                rw [← hqs.out] at y1
                go_wp2_with fail
                go_roundw
                case rel => exact ⟨i + 1, v3, E3, by go_num, by omega, hide ⟨hO.out, HRE.out⟩⟩
                case measure => simp [intOf]; omega
          · have hE := hgt.out.none (by have := hp.out; omega)
            subst hE
            have HPN := hide hgt.out.ob.popNone
            go_wp2_with fail
            refine (unhide HPN).mono ?_
            rintro e w10 ⟨rfl, hO10⟩
            have HOX := hide (hO10.quiet ((Below.refl _ _).alloc (Nat.le_refl _) (.cells #[.int .i64 0, .int .i64 0, .int .i64 0, .slice none 0 0] 41)))
            clear hO10
            have HSE := hide (HOX.out.same HG.out 5 5)
            go_wp2_with fail
            refine (unhide HSE).mono ?_
            rintro e w11 ⟨rfl, hO11, _⟩
            have HB11 := hide hO11.bel
            clear hO11
            go_wp2_with fail
            go_ret
            exact ⟨rfl, HB11.out⟩

end Go.Proofs.YtlefhfmckimlaahDoor.queueOnce
