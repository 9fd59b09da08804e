/-
  The walk of SpacePlays.
-/
import Derived.Test.YtlefhfmckimlaabDoorPlayState
import Derived.Deep.RegionHeld3
import Derived.Deep.DrawnRows
namespace Go.Proofs.YtlefhfmckimlaabDoor
open Go.RowKit
attribute [local go_sem ↓] Go.wp_at_zero Go.wp_at_succ

theorem P2.drew {w wr : World} {S R : Nat} {v u : Value} {L K : List (List M.Val)} (h : P2 w wr S R v u L K) : P2 w wr.drew S R v u L K := h.quiet (Below.refl _ _).drew

set_option maxHeartbeats 2000000 in
set_option maxRecDepth 1000000 in
theorem plays (nd cd n cap : Nat) (ad ao : Option Addr) (Ls : List (List M.Val)) (w : World) (hd : 0 < nd → ∃ b off, ad = some ⟨b, off, none⟩ ∧ ∀ i, i < nd → ∃ z, w.cell? ⟨b, off + i, none⟩ = some (.int .i64 z)) (hdm : nd ≤ maxLen) (hn : n = Ls.length) (hm : n ≤ maxLen) (hl : 0 < n → ∃ b off, ao = some ⟨b, off, none⟩ ∧ LieT w b off Ls) (hg : Hand w) :
    Calls Tryd.prog 5 #[.slice ad nd cd, .slice ao n cap] w fun e w' => e = .returned (.bool true) ∧ Below w.heap.size w w' := by
  unfold maxLen at hm hdm
  have HN := hide hn
  have HL := hide hl
  have HD := hide hd
  have HG := hide hg
  clear hn hl hd hg
  go_enter Tryd.func5, Tryd.ntmps5
  go_wp2_with fail
  refine (new _).mono ?_
  rintro e w0 ⟨rfl, hw0⟩
  have HW0 := hide hw0
  have hsz : w0.heap.size = w.heap.size + 1 := by rw [hw0]; simp
  have HSZ := hide hsz
  clear hw0 hsz
  go_wp2_with fail
  have HK : Hid (P2 w (w0.alloc (.cells #[.slice none 0 0] 46)) w.heap.size w0.heap.size (.slice none 0 0) (.slice none 0 0) [] []) := hide (by rw [HSZ.out, HW0.out]; exact P2.start w)
  go_loopw [7] (fun i wr => ∃ k : Nat, ∃ v u : Value, ∃ L : List (List M.Val), k ≤ 80 ∧ i = .int .i64 k ∧ Hid (P2 w wr w.heap.size w0.heap.size v u L L)) (fun i _ => 80 - (intOf i).toNat)
  case atStart => exact ⟨0, _, _, [], Nat.zero_le _, rfl, HK⟩
  case round =>
    clear HK HW0 HSZ
    generalize w0.heap.size = R at *
    obtain ⟨k, v, u, L, hk, rfl, hK⟩ := hrel
    by_cases hlt : k < nd ∧ k < n ∧ k < 80
    · obtain ⟨hkd, hkn, hk8⟩ := hlt
      have hkl : k < Ls.length := HN.out ▸ hkn
      have ik1 : (k : Int) < (nd : Int) := by omega
      have ik2 : (k : Int) < (n : Int) := by omega
      have ik3 : (k : Int) < 80 := by omega
      obtain ⟨bd, offd, rfl, hdz⟩ := HD.out (by omega)
      obtain ⟨z, hz⟩ := hdz k hkd
      have hbd : bd < w.heap.size := World.block_lt_of_cell? w _ hz
      have cz : wr.cell? ⟨bd, offd + k, none⟩ = some (.int .i64 z) := (hK.out.bel.cell (p := ⟨bd, offd + k, none⟩) hbd).trans hz
      obtain ⟨b, off, rfl, hlie⟩ := HL.out (by omega)
      obtain ⟨x, hx, hxv⟩ := hlie k hkl
      obtain ⟨ax, kx, rfl, _⟩ := hxv.shape
      have hbw : b < w.heap.size := World.block_lt_of_cell? w _ hx
      have HXR : Hid (∀ wr : World, Below w.heap.size w wr → wr.cell? ⟨b, off + k, none⟩ = some (.slice ax Ls[k].length kx)) := hide fun wr hb => (hb.cell (p := ⟨b, off + k, none⟩) hbw).trans hx
      have HXV := hide hxv
      have cx := HXR.out wr hK.out.bel
      clear hlie hx hxv hdz hz HL HD
      generalize hmx : Ls[k].length = mx at *
      clear hmx
      generalize Ls[k] = l at *
      by_cases z1 : z = 1
      · subst z1
        have HP := hide (hK.out.get0 HXV.out)
        generalize hc : M.getF l L = c at HP
        have HCE := hide hc
        clear hc
        go_wp2_with fail
        refine (unhide HP).mono ?_
        rintro e w1 ⟨r1, rfl, hr1, hK1⟩
        have HR1 := hide hr1
        have HK1 := hide hK1
        have cx1 := HXR.out w1 hK1.bel
        have HP1 := hide (hK1.read HXV.out)
        rw [HCE.out] at HP1
        clear hr1 hK1 HP
        go_wp2_with fail
        refine (unhide HP1).mono ?_
        rintro e w2 ⟨r2, rfl, hr2, hK2⟩
        have HR2 := hide hr2
        have HK2 := hide hK2
        clear hr2 hK2 HP1
        go_wp2_with fail
        refine (HK2.out.same HG.out c).mono ?_
        rintro e w3 ⟨rfl, hK3, hb3⟩
        have HK3 := hide hK3
        have HR3 := hide (HR2.out.stays hb3 (Nat.le_refl _))
        clear hK3 hb3
        go_wp2_with fail
        refine (HK3.out.tuple HR3.out HR1.out).mono ?_
        rintro e w4 ⟨rfl, hK4⟩
        have HK4 := hide hK4
        clear hK4 HK3 HK2 HK1 HR1 HR2 HR3
        have HK8 := hide HK4.out.drew
        have cu := HK8.out.rp.cell.1
        have HAL := hide HK8.out.all
        go_wp2_with fail
        go_region_held3 (fun w' => w'.cell? ⟨R, 0, none⟩ = some u) (first | go_keep | assumption)
          (first
            | (go_at_call 9; refine (unhide HAL).mono ?_; rintro e w9 ⟨ao9, c9, rfl, hT9, hK9⟩; have HT9 := hide hT9; have HK9 := hide hK9; have cu9 := hK9.rp.cell.1; clear hT9 hK9)
            | (go_at_call 16; refine (HK9.out.tuples HT9.out).mono ?_; rintro e w10 ⟨rfl, hK10⟩; have HK10 := hide hK10; have cu10 := hK10.rp.cell.1; clear hK10))
        go_wp2_with fail
        go_roundw
        case rel => exact ⟨k + 1, v, u, L, by omega, by go_num, HK10⟩
        case measure => simp [intOf]; omega
      · by_cases z2 : z = 2
        · subst z2
          have HP := hide (hK.out.get1 HXV.out)
          generalize hc : M.getF l L = c at HP
          have HCE := hide hc
          clear hc
          go_wp2_with fail
          refine (unhide HP).mono ?_
          rintro e w1 ⟨r1, u1, rfl, hr1, hK1⟩
          have HR1 := hide hr1
          have HK1 := hide hK1
          have cx1 := HXR.out w1 hK1.bel
          have HP1 := hide (hK1.take HXV.out)
          rw [HCE.out] at HP1
          clear hr1 hK1 HP
          go_wp2_with fail
          refine (unhide HP1).mono ?_
          rintro e w2 ⟨r2, v2, rfl, hr2, hK2⟩
          have HR2 := hide hr2
          have HK2 := hide hK2
          clear hr2 hK2 HP1
          go_wp2_with fail
          refine (HK2.out.same HG.out c).mono ?_
          rintro e w3 ⟨rfl, hK3, hb3⟩
          have HK3 := hide hK3
          have HR3 := hide (HR2.out.stays hb3 (Nat.le_refl _))
          clear hK3 hb3
          go_wp2_with fail
          refine (HK3.out.tuple HR3.out HR1.out).mono ?_
          rintro e w4 ⟨rfl, hK4⟩
          have HK4 := hide hK4
          clear hK4 HK3 HK2 HK1 HR1 HR2 HR3
          have HK8 := hide HK4.out.drew
          have cu := HK8.out.rp.cell.1
          have HAL := hide HK8.out.all
          go_wp2_with fail
          go_region_held3 (fun w' => w'.cell? ⟨R, 0, none⟩ = some u1) (first | go_keep | assumption)
            (first
              | (go_at_call 9; refine (unhide HAL).mono ?_; rintro e w9 ⟨ao9, c9, rfl, hT9, hK9⟩; have HT9 := hide hT9; have HK9 := hide hK9; have cu9 := hK9.rp.cell.1; clear hT9 hK9)
              | (go_at_call 16; refine (HK9.out.tuples HT9.out).mono ?_; rintro e w10 ⟨rfl, hK10⟩; have HK10 := hide hK10; have cu10 := hK10.rp.cell.1; clear hK10))
          go_wp2_with fail
          go_roundw
          case rel => exact ⟨k + 1, v2, u1, M.lessL l L, by omega, by go_num, HK10⟩
          case measure => simp [intOf]; omega
        · by_cases z3 : z = 3
          · subst z3
            have HP := hide (hK.out.like HXV.out)
            by_cases ha : M.likeF l = 0
            · rw [ha] at HP
              have HA := hide ha
              clear ha
              go_wp2_with fail
              refine (unhide HP).mono ?_
              rintro e w1 ⟨rfl, hK1⟩
              have HK1 := hide hK1
              have cx1 := HXR.out w1 hK1.bel
              have HP1 := hide (hK1.rcount HXV.out HA.out)
              clear hK1 HP
              generalize hq : M.many l L = q at HP1
              have HQ := hide hq
              clear hq
              go_wp2_with fail
              refine (unhide HP1).mono ?_
              rintro e w2 ⟨rfl, hK2⟩
              have HK2 := hide hK2
              have cx2 := HXR.out w2 hK2.bel
              have HP2 : Hid (Calls Tryd.prog 10 #[.pointer (some ⟨w.heap.size, 0, none⟩), .slice ax mx kx] w2 fun e w' => e = .returned (.tuple #[.int .i64 q, errV 0]) ∧ P2 w w' w.heap.size R v u L L) := hide (by
                have := hK2.count HXV.out
                unfold M.cnt at this
                rwa [if_pos HA.out, HA.out, HQ.out] at this)
              clear hK2 HP1
              go_wp2_with fail
              refine (unhide HP2).mono ?_
              rintro e w3 ⟨rfl, hK3⟩
              have HK3 := hide hK3
              clear hK3
              go_wp2_with fail
              refine (HK3.out.same HG.out 0).mono ?_
              rintro e w4 ⟨rfl, hK4, _⟩
              have HK4 := hide hK4
              clear hK4 HK3 HK2 HK1
              have HK8 := hide HK4.out.drew
              have cu := HK8.out.rp.cell.1
              have HAL := hide HK8.out.all
              go_wp2_with fail
              go_region_held3 (fun w' => w'.cell? ⟨R, 0, none⟩ = some u) (first | go_keep | assumption)
                (first
                  | (go_at_call 9; refine (unhide HAL).mono ?_; rintro e w9 ⟨ao9, c9, rfl, hT9, hK9⟩; have HT9 := hide hT9; have HK9 := hide hK9; have cu9 := hK9.rp.cell.1; clear hT9 hK9)
                  | (go_at_call 16; refine (HK9.out.tuples HT9.out).mono ?_; rintro e w10 ⟨rfl, hK10⟩; have HK10 := hide hK10; have cu10 := hK10.rp.cell.1; clear hK10))
              go_wp2_with fail
              go_roundw
              case rel => exact ⟨k + 1, v, u, L, by omega, by go_num, HK10⟩
              case measure => simp [intOf]; omega
            · have HA := hide ha
              generalize hc : M.likeF l = c at HP
              have hc0 : (c == 0) = false := by rw [← hc]; simpa using ha
              have HCE := hide hc
              clear ha hc
              go_wp2_with fail
              refine (unhide HP).mono ?_
              rintro e w1 ⟨rfl, hK1⟩
              have HK1 := hide hK1
              have cx1 := HXR.out w1 hK1.bel
              have HP2 : Hid (Calls Tryd.prog 10 #[.pointer (some ⟨w.heap.size, 0, none⟩), .slice ax mx kx] w1 fun e w' => e = .returned (.tuple #[.int .i64 0, errV c]) ∧ P2 w w' w.heap.size R v u L L) := hide (by
                have := hK1.count HXV.out
                unfold M.cnt at this
                rwa [if_neg HA.out, HCE.out] at this)
              clear hK1 HP
              go_wp2_with fail
              refine (unhide HP2).mono ?_
              rintro e w3 ⟨rfl, hK3⟩
              have HK3 := hide hK3
              clear hK3
              go_wp2_with fail
              refine (HK3.out.same HG.out c).mono ?_
              rintro e w4 ⟨rfl, hK4, _⟩
              have HK4 := hide hK4
              clear hK4 HK3 HK1
              have HK8 := hide HK4.out.drew
              have cu := HK8.out.rp.cell.1
              have HAL := hide HK8.out.all
              go_wp2_with fail
              go_region_held3 (fun w' => w'.cell? ⟨R, 0, none⟩ = some u) (first | go_keep | assumption)
                (first
                  | (go_at_call 9; refine (unhide HAL).mono ?_; rintro e w9 ⟨ao9, c9, rfl, hT9, hK9⟩; have HT9 := hide hT9; have HK9 := hide hK9; have cu9 := hK9.rp.cell.1; clear hT9 hK9)
                  | (go_at_call 16; refine (HK9.out.tuples HT9.out).mono ?_; rintro e w10 ⟨rfl, hK10⟩; have HK10 := hide hK10; have cu10 := hK10.rp.cell.1; clear hK10))
              go_wp2_with fail
              go_roundw
              case rel => exact ⟨k + 1, v, u, L, by omega, by go_num, HK10⟩
              case measure => simp [intOf]; omega
          · have d1 : (z == 1) = false := by simpa using z1
            have d2 : (z == 2) = false := by simpa using z2
            have d3 : (z == 3) = false := by simpa using z3
            have HP := hide (hK.out.drew.put HXV.out)
            generalize hc : M.putF L l = c at HP
            have HCE := hide hc
            clear hc z1 z2 z3
            go_wp2_with fail
            go_region_held3 (fun w' => w'.cell? ⟨b, off + k, none⟩ = some (.slice ax mx kx)) (first | go_keep | assumption)
              (first
                | (go_at_call 7; refine (unhide HP).mono ?_; rintro e w1 ⟨rfl, v1, hK1⟩; have HK1 := hide hK1; have cx1 := HXR.out w1 hK1.bel; have HP1 := hide (hK1.rput HXV.out); rw [HCE.out] at HP1; clear hK1)
                | (go_at_call 20; refine (unhide HP1).mono ?_; rintro e w2 ⟨rfl, u2, hK2⟩; have HK2 := hide hK2; have cx2 := HXR.out w2 hK2.bel; clear hK2)
                | (go_at_call 15; refine (HK2.out.same HG.out c).mono ?_; rintro e w3 ⟨rfl, hK3, _⟩; have HK3 := hide hK3; have cx3 := HXR.out w3 hK3.bel; clear hK3))
            have HK8 := hide HK3.out.drew
            have cu := HK8.out.rp.cell.1
            have HAL := hide HK8.out.all
            go_wp2_with fail
            go_region_held3 (fun w' => w'.cell? ⟨R, 0, none⟩ = some u2) (first | go_keep | assumption)
              (first
                | (go_at_call 9; refine (unhide HAL).mono ?_; rintro e w9 ⟨ao9, c9, rfl, hT9, hK9⟩; have HT9 := hide hT9; have HK9 := hide hK9; have cu9 := hK9.rp.cell.1; clear hT9 hK9)
                | (go_at_call 16; refine (HK9.out.tuples HT9.out).mono ?_; rintro e w10 ⟨rfl, hK10⟩; have HK10 := hide hK10; have cu10 := hK10.rp.cell.1; clear hK10))
            go_wp2_with fail
            go_roundw
            case rel => exact ⟨k + 1, v1, u2, M.putL L l, by omega, by go_num, HK10⟩
            case measure => simp [intOf]; omega
    · rcases (by omega : ¬ (k : Int) < (nd : Int) ∨ ((k : Int) < (nd : Int) ∧ ¬ (k : Int) < (n : Int)) ∨ ((k : Int) < (nd : Int) ∧ (k : Int) < (n : Int) ∧ ¬ (k : Int) < 80)) with e1 | ⟨e1, e2⟩ | ⟨e1, e2, e3⟩
      all_goals
        go_wp2
        go_ret
        exact ⟨rfl, hK.out.bel⟩

theorem playsWalk (nd cd : Nat) (ad : Option Addr) (lv : Value) (Ls : List (List M.Val)) (w : World) (hd : 0 < nd → ∃ b off, ad = some ⟨b, off, none⟩ ∧ ∀ i, i < nd → ∃ z, w.cell? ⟨b, off + i, none⟩ = some (.int .i64 z)) (hdm : nd ≤ maxLen) (hl : IsTups w lv Ls) (hg : Hand w) :
    Calls Tryd.prog 5 #[.slice ad nd cd, lv] w fun e w' => e = .returned (.bool true) ∧ Below w.heap.size w w' := by
  obtain ⟨ao, cap, rfl, hm⟩ := hl.shape
  refine plays nd cd Ls.length cap ad ao Ls w hd hdm rfl hm (fun h0 => ?_) hg
  obtain ⟨b, off, c, h1, _, _, h2⟩ := hl.some h0
  simp only [Value.slice.injEq] at h1
  exact ⟨b, off, h1.1, h2⟩

open Go.Deep in
/-- an argument of type []int -/
theorem open_nums {H : Type} {enc : TypeId × Value → H} {P : Program} {w : World} {tt t : TypeId} {a : Option Addr} {len cap : Nat} {d : DataW H} {p : List MemPlace}
    (htt : P.underlying tt = some (.slice t)) (ct : P.cellsOf t = 1) (ht : P.underlying t = some (.int .i64)) (h : DataW.Trod enc P w 0 (fun _ => true) true tt (.slice a len cap) d p) :
    len ≤ maxLen ∧ (0 < len → ∃ b off, a = some ⟨b, off, none⟩ ∧ ∀ i, i < len → ∃ z, w.cell? ⟨b, off + i, none⟩ = some (.int .i64 z)) := by
  obtain ⟨fuel, hf⟩ := h
  rcases open_slice1 htt ct hf with ⟨hcs, hd⟩ | ⟨x, len', cap', m, n, V, D, Pl, hcs, _, hl, hm, hmm, hd, hx⟩
  · simp [Value.cells] at hcs
    obtain ⟨rfl, rfl, rfl⟩ := hcs
    exact ⟨Nat.zero_le _, fun h => absurd h (by decide)⟩
  · simp [Value.cells] at hcs
    obtain ⟨rfl, rfl, rfl⟩ := hcs
    have hmc : m = cap := by rw [hmm]; simp
    refine ⟨Nat.le_trans hl hm, fun h0 => ?_⟩
    have each : ∀ i, i < len → ∃ z, w.cell? (x.add i) = some (.int .i64 z) := by
      intro i hi
      obtain ⟨h1, h2⟩ := hx i (by omega)
      obtain ⟨z, q, _, _⟩ := DataW.trod_int ht h2
      simp at q
      exact ⟨z, by rw [h1, q]⟩
    obtain ⟨b, off, spot⟩ := x
    obtain ⟨z0, hz0⟩ := each 0 h0
    have hspot : spot = none := by simpa [Addr.add] using World.cell?_spot hz0
    subst hspot
    refine ⟨b, off, rfl, fun i hi => ?_⟩
    obtain ⟨z, hz⟩ := each i hi
    rw [WideShapes.add_plain] at hz
    exact ⟨z, hz⟩

end Go.Proofs.YtlefhfmckimlaabDoor
