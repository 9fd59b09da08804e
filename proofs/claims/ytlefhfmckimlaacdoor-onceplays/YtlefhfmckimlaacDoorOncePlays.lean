/-
  The walk of OncePlays: up to the switch, and behind it.
-/
import Derived.Test.YtlefhfmckimlaacDoorOncePlay1
import Derived.Test.YtlefhfmckimlaacDoorOncePlay2
import Derived.Test.YtlefhfmckimlaacDoorOncePlay3
import Derived.Deep.RegionHeld3
import Derived.Deep.DrawnRows
import Derived.Deep.DeepCutAuto
import Derived.Deep.CutBlock
namespace Go.Proofs.YtlefhfmckimlaacDoor
open Go.RowKit
attribute [local go_sem ↓] Go.wp_at_zero Go.wp_at_succ

set_option maxHeartbeats 8000000 in
set_option maxRecDepth 1000000 in
theorem oncePlays (nd cd n cap : Nat) (ad ao : Option Addr) (As : List (List M.Val)) (w : World) (hd : 0 < nd → ∃ b off, ad = some ⟨b, off, none⟩ ∧ ∀ i, i < nd → ∃ z, w.cell? ⟨b, off + i, none⟩ = some (.int .i64 z)) (hdm : nd ≤ maxLen) (hn : n = As.length) (hm : n ≤ maxLen) (hl : 0 < n → ∃ b off, ao = some ⟨b, off, none⟩ ∧ LieT w b off As) (hg : Hand w) :
    Calls Tryd.prog 3 #[.slice ad nd cd, .slice ao n cap] w fun e w' => e = .returned (.bool true) ∧ Below w.heap.size w w' := by
  unfold maxLen at hm hdm
  have HN := hide hn
  have HL := hide hl
  have HD := hide hd
  have HG := hide hg
  clear hn hl hd hg
  go_enter Tryd.func3, Tryd.ntmps3
  go_wp2_with fail
  refine (new _).mono ?_
  rintro e w0 ⟨rfl, hw0⟩
  have HW0 := hide hw0
  clear hw0
  go_wp2_with fail
  refine (new _).mono ?_
  rintro e wB ⟨rfl, hwB⟩
  have HWB := hide hwB
  clear hwB
  go_wp2_with fail
  have HK : Hid (Q4 w ((wB.alloc (.cells #[.slice none 0 0] 28)).alloc (.cells #[.slice none 0 0] 28)) w.heap.size w0.heap.size wB.heap.size (wB.heap.size + 1) (.slice none 0 0) (.slice none 0 0) (.slice none 0 0) (.slice none 0 0) [] [] [] []) := hide (by
    have := Q4.start HW0.out HWB.out rfl rfl
    simpa using this)
  go_loopw [9] (fun i wr => ∃ k : Nat, ∃ vs vo um uk : Value, ∃ L Lo : List (List M.Val), k ≤ 81 ∧ i = .int .i64 k ∧ Hid (Q4 w wr w.heap.size w0.heap.size wB.heap.size (wB.heap.size + 1) vs vo um uk L Lo L Lo)) (fun i _ => 81 - (intOf i).toNat)
  case atStart => exact ⟨0, _, _, _, _, [], [], Nat.zero_le _, rfl, HK⟩
  case round =>
    clear HK HW0 HWB
    generalize w0.heap.size = O at *
    generalize wB.heap.size = R at *
    generalize R + 1 = K at *
    obtain ⟨k, vs, vo, um, uk, L, Lo, hk, rfl, hK⟩ := hrel
    by_cases hlt : k + 1 < nd ∧ k + 1 < n ∧ k < 80
    · obtain ⟨hkd, hkn, hk8⟩ := hlt
      have hkl : k < As.length := by have := HN.out; omega
      have hkl1 : k + 1 < As.length := by have := HN.out; omega
      have ik1 : (k : Int) + 1 < (nd : Int) := by omega
      have ik2 : (k : Int) + 1 < (n : Int) := by omega
      have ik3 : (k : Int) < 80 := by omega
      have ik4 : (k : Int) < (nd : Int) := by omega
      have ik5 : (k : Int) < (n : Int) := by omega
      obtain ⟨bd, offd, rfl, hdz⟩ := HD.out (by omega)
      obtain ⟨z, hz⟩ := hdz k (by omega)
      have hbd : bd < w.heap.size := World.block_lt_of_cell? w _ hz
      have HZR : Hid (∀ wr : World, Below w.heap.size w wr → wr.cell? ⟨bd, offd + k, none⟩ = some (.int .i64 z)) := hide fun wr hb => (hb.cell (p := ⟨bd, offd + k, none⟩) hbd).trans hz
      obtain ⟨b, off, rfl, hlie⟩ := HL.out (by omega)
      obtain ⟨x, hx, hxv⟩ := hlie k hkl
      obtain ⟨y, hy, hyv⟩ := hlie (k + 1) hkl1
      obtain ⟨ax, kx, rfl, _⟩ := hxv.shape
      obtain ⟨ay, ky, rfl, _⟩ := hyv.shape
      have hbw : b < w.heap.size := World.block_lt_of_cell? w _ hx
      have HXR : Hid (∀ wr : World, Below w.heap.size w wr → wr.cell? ⟨b, off + k, none⟩ = some (.slice ax As[k].length kx)) := hide fun wr hb => (hb.cell (p := ⟨b, off + k, none⟩) hbw).trans hx
      have HYR : Hid (∀ wr : World, Below w.heap.size w wr → wr.cell? ⟨b, off + (k + 1), none⟩ = some (.slice ay As[k + 1].length ky)) := hide fun wr hb => (hb.cell (p := ⟨b, off + (k + 1), none⟩) hbw).trans hy
      have HXV := hide hxv
      have HYV := hide hyv
      have cx := HXR.out wr hK.out.bel
      clear hlie hx hxv hy hyv hdz hz HL HD
      generalize As[k].length = mx at *
      generalize As[k + 1].length = my at *
      generalize As[k] = a at *
      generalize As[k + 1] = l at *
      obtain ⟨c, hc⟩ : ∃ c, M.likeF a = c := ⟨_, rfl⟩
      have HC := hide hc
      clear hc
      go_wp2_with fail
      refine (hK.out.likeIs HXV.out HC.out).mono ?_
      rintro e w1 ⟨rfl, hK1⟩
      have HT : Hid (Tuned w w1 O R K b off k mx kx my ky ax ay vs vo um uk a l L Lo) := hide ⟨hK1, HXR.out, HYR.out, HXV.out, HYV.out, HG.out⟩
      have cz := HZR.out w1 hK1.bel
      clear hK1 hK cx HXR HYR HXV HYV HZR
      go_upto_block 2 with fail
      go_cut [11] (fun t wx => t = .bool true ∧ Hid (Done w wx O R K))
      case first =>
        have HTT := hide HT.out
        clear cz
        by_cases hc : c = 0
        · subst hc
          have ha := HC.out
          by_cases z1 : z = 1
          · subst z1
            by_cases hl : M.tupF l = 0
            · by_cases hg : M.getF a L = 0
              · clear HC
                refine br1d _ _ _ _ _ _ _ _ _ _ _ _ _ _ _ _ _ _ _ _ _ _ _ _ _ _ _ _ _ _ _ _ _ _ _ _ _ _ _ _ _ _ _ _ _ _ _ _ _ _ _ _ _ _ _ _ _ _ _ _ _ _ _ _ _ _ _ _ _ _ _ _ _ _ _ _ _ _ _ _ _ _ _ _ _ _ _ _ _ _ _ _ _ _ _ _ _ _ _ _ _ _ _ _ _ _ _ _ _ _ _ _ _ _ _ _ _ _ _ _ _ _ _ _ _ _ _ _ _ _ _ _ _ _ _ _ _ _ _ _ _ _ _ _ _ _ _ _ _ _ _ _ _ _ _ _ _ _ _ _ _ _ _ _ _ _ _ _ _ _ _ _ _ _ _ _ _ _ _ _ _ _ _ _ _ _ _ _ _ _ _ _ _ _ _ _ _ _ _ _ _ _ _ _ _ _ _ _ _ _ _ _ _ _ _ _ _ _ _ _ _ _ _ _ _ _ _ _ _ _ _ _ _ _ _ _ _ _ _ _ _ _ _ _ _ _ HTT.out ik2 hk8 ha hl hg (fun _ _ _ _ _ _ _ _ _ _ _ _ _ _ _ _ _ _ _ _ _ _ _ _ _ _ _ _ _ _ _ _ _ _ _ _ _ _ _ _ _ _ _ _ _ _ _ _ _ _ _ _ _ _ _ _ _ _ _ _ _ _ _ _ _ _ _ _ _ _ _ _ _ _ _ _ _ _ _ _ _ _ _ _ _ _ _ _ _ _ _ _ _ _ _ _ _ _ _ _ _ _ _ _ _ _ _ _ _ _ _ _ _ _ _ _ _ _ _ _ _ _ _ _ _ _ _ _ _ _ _ _ _ _ _ _ _ _ _ _ _ _ _ _ _ _ _ _ _ _ _ _ _ _ _ _ _ _ _ _ _ _ _ _ _ _ _ _ _ _ _ _ _ _ _ _ _ _ _ _ _ _ _ _ _ _ _ _ w9 hd => ?_)
                go_wp2_with fail
                go_meet
                case rel => exact ⟨rfl, hide hd⟩
              · clear HC
                refine br1c _ _ _ _ _ _ _ _ _ _ _ _ _ _ _ _ _ _ _ _ _ _ _ _ _ _ _ _ _ _ _ _ _ _ _ _ _ _ _ _ _ _ _ _ _ _ _ _ _ _ _ _ _ _ _ _ _ _ _ _ _ _ _ _ _ _ _ _ _ _ _ _ _ _ _ _ _ _ _ _ _ _ _ _ _ _ _ _ _ _ _ _ _ _ _ _ _ _ _ _ _ _ _ _ _ _ _ _ _ _ _ _ _ _ _ _ _ _ _ _ _ _ _ _ _ _ _ _ _ _ _ _ _ _ _ _ _ _ _ _ _ _ _ _ _ _ _ _ _ _ _ _ _ _ _ _ _ _ _ _ _ _ _ _ _ _ _ _ _ _ _ _ _ _ _ _ _ _ _ _ _ _ _ _ _ _ _ _ _ _ _ _ _ _ _ _ _ _ _ _ _ _ _ _ _ _ _ _ _ _ _ _ _ _ _ _ _ _ _ _ _ _ _ _ _ _ _ _ _ _ _ _ _ _ _ _ _ _ _ _ _ _ _ _ _ _ HTT.out ik2 hk8 ha hl rfl hg (fun _ _ _ _ _ _ _ _ _ _ _ _ _ _ _ _ _ _ _ _ _ _ _ _ _ _ _ _ _ _ _ _ _ _ _ _ _ _ _ _ _ _ _ _ _ _ _ _ _ _ _ _ _ _ _ _ _ _ _ _ _ _ _ _ _ _ _ _ _ _ _ _ _ _ _ _ _ _ _ _ _ _ _ _ _ _ _ _ _ _ _ _ _ _ _ _ _ _ _ _ _ _ _ _ _ _ _ _ _ _ _ _ _ _ _ _ _ _ _ _ _ _ _ _ _ _ _ _ _ _ _ _ _ _ _ _ _ _ _ _ _ _ _ _ _ _ _ _ _ _ _ _ _ _ _ _ _ _ _ _ _ _ _ _ _ _ _ _ _ _ _ _ _ _ _ _ _ _ _ _ _ _ _ _ _ _ _ _ w9 hd => ?_)
                go_wp2_with fail
                go_meet
                case rel => exact ⟨rfl, hide hd⟩
            · clear HC
              refine br1b _ _ _ _ _ _ _ _ _ _ _ _ _ _ _ _ _ _ _ _ _ _ _ _ _ _ _ _ _ _ _ _ _ _ _ _ _ _ _ _ _ _ _ _ _ _ _ _ _ _ _ _ _ _ _ _ _ _ _ _ _ _ _ _ _ _ _ _ _ _ _ _ _ _ _ _ _ _ _ _ _ _ _ _ _ _ _ _ _ _ _ _ _ _ _ _ _ _ _ _ _ _ _ _ _ _ _ _ _ _ _ _ _ _ _ _ _ _ _ _ _ _ _ _ _ _ _ _ _ _ _ _ _ _ _ _ _ _ _ _ _ _ _ _ _ _ _ _ _ _ _ _ _ _ _ _ _ _ _ _ _ _ _ _ _ _ _ _ _ _ _ _ _ _ _ _ _ _ _ _ _ _ _ _ _ _ _ _ _ _ _ _ _ _ _ _ _ _ _ _ _ _ _ _ _ _ _ _ _ _ _ _ _ _ _ _ _ _ _ _ _ _ _ _ _ _ _ _ _ _ _ _ _ _ _ _ _ _ _ _ _ _ _ _ _ _ HTT.out ik2 hk8 ha rfl hl (fun _ _ _ _ _ _ _ _ _ _ _ _ _ _ _ _ _ _ _ _ _ _ _ _ _ _ _ _ _ _ _ _ _ _ _ _ _ _ _ _ _ _ _ _ _ _ _ _ _ _ _ _ _ _ _ _ _ _ _ _ _ _ _ _ _ _ _ _ _ _ _ _ _ _ _ _ _ _ _ _ _ _ _ _ _ _ _ _ _ _ _ _ _ _ _ _ _ _ _ _ _ _ _ _ _ _ _ _ _ _ _ _ _ _ _ _ _ _ _ _ _ _ _ _ _ _ _ _ _ _ _ _ _ _ _ _ _ _ _ _ _ _ _ _ _ _ _ _ _ _ _ _ _ _ _ _ _ _ _ _ _ _ _ _ _ _ _ _ _ _ _ _ _ _ _ _ _ _ _ _ _ _ _ _ _ _ _ _ w9 hd => ?_)
              go_wp2_with fail
              go_meet
              case rel => exact ⟨rfl, hide hd⟩
          · by_cases z2 : z = 2
            · subst z2
              clear HC
              refine br2b _ _ _ _ _ _ _ _ _ _ _ _ _ _ _ _ _ _ _ _ _ _ _ _ _ _ _ _ _ _ _ _ _ _ _ _ _ _ _ _ _ _ _ _ _ _ _ _ _ _ _ _ _ _ _ _ _ _ _ _ _ _ _ _ _ _ _ _ _ _ _ _ _ _ _ _ _ _ _ _ _ _ _ _ _ _ _ _ _ _ _ _ _ _ _ _ _ _ _ _ _ _ _ _ _ _ _ _ _ _ _ _ _ _ _ _ _ _ _ _ _ _ _ _ _ _ _ _ _ _ _ _ _ _ _ _ _ _ _ _ _ _ _ _ _ _ _ _ _ _ _ _ _ _ _ _ _ _ _ _ _ _ _ _ _ _ _ _ _ _ _ _ _ _ _ _ _ _ _ _ _ _ _ _ _ _ _ _ _ _ _ _ _ _ _ _ _ _ _ _ _ _ _ _ _ _ _ _ _ _ _ _ _ _ _ _ _ _ _ _ _ _ _ _ _ _ _ _ _ _ _ _ _ _ _ _ _ _ _ _ _ _ _ _ _ _ HTT.out ik2 hk8 ha (fun _ _ _ _ _ _ _ _ _ _ _ _ _ _ _ _ _ _ _ _ _ _ _ _ _ _ _ _ _ _ _ _ _ _ _ _ _ _ _ _ _ _ _ _ _ _ _ _ _ _ _ _ _ _ _ _ _ _ _ _ _ _ _ _ _ _ _ _ _ _ _ _ _ _ _ _ _ _ _ _ _ _ _ _ _ _ _ _ _ _ _ _ _ _ _ _ _ _ _ _ _ _ _ _ _ _ _ _ _ _ _ _ _ _ _ _ _ _ _ _ _ _ _ _ _ _ _ _ _ _ _ _ _ _ _ _ _ _ _ _ _ _ _ _ _ _ _ _ _ _ _ _ _ _ _ _ _ _ _ _ _ _ _ _ _ _ _ _ _ _ _ _ _ _ _ _ _ _ _ _ _ _ _ _ _ _ _ _ w9 hd => ?_)
              go_wp2_with fail
              go_meet
              case rel => exact ⟨rfl, hide hd⟩
            · have d1 : (z == 1) = false := by simpa using z1
              have d2 : (z == 2) = false := by simpa using z2
              by_cases hl : M.tupF l = 0
              · by_cases hm : M.many a L = 0
                · by_cases hp : M.putF L l = 0
                  · clear HC
                    refine br3e _ _ _ _ _ _ _ _ _ _ _ _ _ _ _ _ _ _ _ _ _ _ _ _ _ _ _ _ _ _ _ _ _ _ _ _ _ _ _ _ _ _ _ _ _ _ _ _ _ _ _ _ _ _ _ _ _ _ _ _ _ _ _ _ _ _ _ _ _ _ _ _ _ _ _ _ _ _ _ _ _ _ _ _ _ _ _ _ _ _ _ _ _ _ _ _ _ _ _ _ _ _ _ _ _ _ _ _ _ _ _ _ _ _ _ _ _ _ _ _ _ _ _ _ _ _ _ _ _ _ _ _ _ _ _ _ _ _ _ _ _ _ _ _ _ _ _ _ _ _ _ _ _ _ _ _ _ _ _ _ _ _ _ _ _ _ _ _ _ _ _ _ _ _ _ _ _ _ _ _ _ _ _ _ _ _ _ _ _ _ _ _ _ _ _ _ _ _ _ _ _ _ _ _ _ _ _ _ _ _ _ _ _ _ _ _ _ _ _ _ _ _ _ _ _ _ _ _ _ _ _ _ _ _ _ _ _ _ _ _ _ _ _ _ _ _ HTT.out ik2 hk8 d1 d2 ha hl hm hp (fun _ _ _ _ _ _ _ _ _ _ _ _ _ _ _ _ _ _ _ _ _ _ _ _ _ _ _ _ _ _ _ _ _ _ _ _ _ _ _ _ _ _ _ _ _ _ _ _ _ _ _ _ _ _ _ _ _ _ _ _ _ _ _ _ _ _ _ _ _ _ _ _ _ _ _ _ _ _ _ _ _ _ _ _ _ _ _ _ _ _ _ _ _ _ _ _ _ _ _ _ _ _ _ _ _ _ _ _ _ _ _ _ _ _ _ _ _ _ _ _ _ _ _ _ _ _ _ _ _ _ _ _ _ _ _ _ _ _ _ _ _ _ _ _ _ _ _ _ _ _ _ _ _ _ _ _ _ _ _ _ _ _ _ _ _ _ _ _ _ _ _ _ _ _ _ _ _ _ _ _ _ _ _ _ _ _ _ _ w9 hd => ?_)
                    go_wp2_with fail
                    go_meet
                    case rel => exact ⟨rfl, hide hd⟩
                  · clear HC
                    refine br3d _ _ _ _ _ _ _ _ _ _ _ _ _ _ _ _ _ _ _ _ _ _ _ _ _ _ _ _ _ _ _ _ _ _ _ _ _ _ _ _ _ _ _ _ _ _ _ _ _ _ _ _ _ _ _ _ _ _ _ _ _ _ _ _ _ _ _ _ _ _ _ _ _ _ _ _ _ _ _ _ _ _ _ _ _ _ _ _ _ _ _ _ _ _ _ _ _ _ _ _ _ _ _ _ _ _ _ _ _ _ _ _ _ _ _ _ _ _ _ _ _ _ _ _ _ _ _ _ _ _ _ _ _ _ _ _ _ _ _ _ _ _ _ _ _ _ _ _ _ _ _ _ _ _ _ _ _ _ _ _ _ _ _ _ _ _ _ _ _ _ _ _ _ _ _ _ _ _ _ _ _ _ _ _ _ _ _ _ _ _ _ _ _ _ _ _ _ _ _ _ _ _ _ _ _ _ _ _ _ _ _ _ _ _ _ _ _ _ _ _ _ _ _ _ _ _ _ _ _ _ _ _ _ _ _ _ _ _ _ _ _ _ _ _ _ _ HTT.out ik2 hk8 d1 d2 ha hl hm rfl hp (fun _ _ _ _ _ _ _ _ _ _ _ _ _ _ _ _ _ _ _ _ _ _ _ _ _ _ _ _ _ _ _ _ _ _ _ _ _ _ _ _ _ _ _ _ _ _ _ _ _ _ _ _ _ _ _ _ _ _ _ _ _ _ _ _ _ _ _ _ _ _ _ _ _ _ _ _ _ _ _ _ _ _ _ _ _ _ _ _ _ _ _ _ _ _ _ _ _ _ _ _ _ _ _ _ _ _ _ _ _ _ _ _ _ _ _ _ _ _ _ _ _ _ _ _ _ _ _ _ _ _ _ _ _ _ _ _ _ _ _ _ _ _ _ _ _ _ _ _ _ _ _ _ _ _ _ _ _ _ _ _ _ _ _ _ _ _ _ _ _ _ _ _ _ _ _ _ _ _ _ _ _ _ _ _ _ _ _ _ w9 hd => ?_)
                    go_wp2_with fail
                    go_meet
                    case rel => exact ⟨rfl, hide hd⟩
                · clear HC
                  refine br3c _ _ _ _ _ _ _ _ _ _ _ _ _ _ _ _ _ _ _ _ _ _ _ _ _ _ _ _ _ _ _ _ _ _ _ _ _ _ _ _ _ _ _ _ _ _ _ _ _ _ _ _ _ _ _ _ _ _ _ _ _ _ _ _ _ _ _ _ _ _ _ _ _ _ _ _ _ _ _ _ _ _ _ _ _ _ _ _ _ _ _ _ _ _ _ _ _ _ _ _ _ _ _ _ _ _ _ _ _ _ _ _ _ _ _ _ _ _ _ _ _ _ _ _ _ _ _ _ _ _ _ _ _ _ _ _ _ _ _ _ _ _ _ _ _ _ _ _ _ _ _ _ _ _ _ _ _ _ _ _ _ _ _ _ _ _ _ _ _ _ _ _ _ _ _ _ _ _ _ _ _ _ _ _ _ _ _ _ _ _ _ _ _ _ _ _ _ _ _ _ _ _ _ _ _ _ _ _ _ _ _ _ _ _ _ _ _ _ _ _ _ _ _ _ _ _ _ _ _ _ _ _ _ _ _ _ _ _ _ _ _ _ _ _ _ _ HTT.out ik2 hk8 d1 d2 ha hl rfl hm (fun _ _ _ _ _ _ _ _ _ _ _ _ _ _ _ _ _ _ _ _ _ _ _ _ _ _ _ _ _ _ _ _ _ _ _ _ _ _ _ _ _ _ _ _ _ _ _ _ _ _ _ _ _ _ _ _ _ _ _ _ _ _ _ _ _ _ _ _ _ _ _ _ _ _ _ _ _ _ _ _ _ _ _ _ _ _ _ _ _ _ _ _ _ _ _ _ _ _ _ _ _ _ _ _ _ _ _ _ _ _ _ _ _ _ _ _ _ _ _ _ _ _ _ _ _ _ _ _ _ _ _ _ _ _ _ _ _ _ _ _ _ _ _ _ _ _ _ _ _ _ _ _ _ _ _ _ _ _ _ _ _ _ _ _ _ _ _ _ _ _ _ _ _ _ _ _ _ _ _ _ _ _ _ _ _ _ _ _ w9 hd => ?_)
                  go_wp2_with fail
                  go_meet
                  case rel => exact ⟨rfl, hide hd⟩
              · clear HC
                refine br3b _ _ _ _ _ _ _ _ _ _ _ _ _ _ _ _ _ _ _ _ _ _ _ _ _ _ _ _ _ _ _ _ _ _ _ _ _ _ _ _ _ _ _ _ _ _ _ _ _ _ _ _ _ _ _ _ _ _ _ _ _ _ _ _ _ _ _ _ _ _ _ _ _ _ _ _ _ _ _ _ _ _ _ _ _ _ _ _ _ _ _ _ _ _ _ _ _ _ _ _ _ _ _ _ _ _ _ _ _ _ _ _ _ _ _ _ _ _ _ _ _ _ _ _ _ _ _ _ _ _ _ _ _ _ _ _ _ _ _ _ _ _ _ _ _ _ _ _ _ _ _ _ _ _ _ _ _ _ _ _ _ _ _ _ _ _ _ _ _ _ _ _ _ _ _ _ _ _ _ _ _ _ _ _ _ _ _ _ _ _ _ _ _ _ _ _ _ _ _ _ _ _ _ _ _ _ _ _ _ _ _ _ _ _ _ _ _ _ _ _ _ _ _ _ _ _ _ _ _ _ _ _ _ _ _ _ _ _ _ _ _ _ _ _ _ _ HTT.out ik2 hk8 d1 d2 ha rfl hl (fun _ _ _ _ _ _ _ _ _ _ _ _ _ _ _ _ _ _ _ _ _ _ _ _ _ _ _ _ _ _ _ _ _ _ _ _ _ _ _ _ _ _ _ _ _ _ _ _ _ _ _ _ _ _ _ _ _ _ _ _ _ _ _ _ _ _ _ _ _ _ _ _ _ _ _ _ _ _ _ _ _ _ _ _ _ _ _ _ _ _ _ _ _ _ _ _ _ _ _ _ _ _ _ _ _ _ _ _ _ _ _ _ _ _ _ _ _ _ _ _ _ _ _ _ _ _ _ _ _ _ _ _ _ _ _ _ _ _ _ _ _ _ _ _ _ _ _ _ _ _ _ _ _ _ _ _ _ _ _ _ _ _ _ _ _ _ _ _ _ _ _ _ _ _ _ _ _ _ _ _ _ _ _ _ _ _ _ _ w9 hd => ?_)
                go_wp2_with fail
                go_meet
                case rel => exact ⟨rfl, hide hd⟩
        · have ha := HC.out
          by_cases z1 : z = 1
          · subst z1
            refine br1a _ _ _ _ _ _ _ _ _ _ _ _ _ _ _ _ _ _ _ _ _ _ _ _ _ _ _ _ _ _ _ _ _ _ _ _ _ _ _ _ _ _ _ _ _ _ _ _ _ _ _ _ _ _ _ _ _ _ _ _ _ _ _ _ _ _ _ _ _ _ _ _ _ _ _ _ _ _ _ _ _ _ _ _ _ _ _ _ _ _ _ _ _ _ _ _ _ _ _ _ _ _ _ _ _ _ _ _ _ _ _ _ _ _ _ _ _ _ _ _ _ _ _ _ _ _ _ _ _ _ _ _ _ _ _ _ _ _ _ _ _ _ _ _ _ _ _ _ _ _ _ _ _ _ _ _ _ _ _ _ _ _ _ _ _ _ _ _ _ _ _ _ _ _ _ _ _ _ _ _ _ _ _ _ _ _ _ _ _ _ _ _ _ _ _ _ _ _ _ _ _ _ _ _ _ _ _ _ _ _ _ _ _ _ _ _ _ _ _ _ _ _ _ _ _ _ _ _ _ _ _ _ _ _ _ _ _ _ _ _ _ _ _ _ _ _ HTT.out ik2 hk8 ha hc (fun _ _ _ _ _ _ _ _ _ _ _ _ _ _ _ _ _ _ _ _ _ _ _ _ _ _ _ _ _ _ _ _ _ _ _ _ _ _ _ _ _ _ _ _ _ _ _ _ _ _ _ _ _ _ _ _ _ _ _ _ _ _ _ _ _ _ _ _ _ _ _ _ _ _ _ _ _ _ _ _ _ _ _ _ _ _ _ _ _ _ _ _ _ _ _ _ _ _ _ _ _ _ _ _ _ _ _ _ _ _ _ _ _ _ _ _ _ _ _ _ _ _ _ _ _ _ _ _ _ _ _ _ _ _ _ _ _ _ _ _ _ _ _ _ _ _ _ _ _ _ _ _ _ _ _ _ _ _ _ _ _ _ _ _ _ _ _ _ _ _ _ _ _ _ _ _ _ _ _ _ _ _ _ _ _ _ _ _ w9 hd => ?_)
            go_wp2_with fail
            go_meet
            case rel => exact ⟨rfl, hide hd⟩
          · by_cases z2 : z = 2
            · subst z2
              refine br2a _ _ _ _ _ _ _ _ _ _ _ _ _ _ _ _ _ _ _ _ _ _ _ _ _ _ _ _ _ _ _ _ _ _ _ _ _ _ _ _ _ _ _ _ _ _ _ _ _ _ _ _ _ _ _ _ _ _ _ _ _ _ _ _ _ _ _ _ _ _ _ _ _ _ _ _ _ _ _ _ _ _ _ _ _ _ _ _ _ _ _ _ _ _ _ _ _ _ _ _ _ _ _ _ _ _ _ _ _ _ _ _ _ _ _ _ _ _ _ _ _ _ _ _ _ _ _ _ _ _ _ _ _ _ _ _ _ _ _ _ _ _ _ _ _ _ _ _ _ _ _ _ _ _ _ _ _ _ _ _ _ _ _ _ _ _ _ _ _ _ _ _ _ _ _ _ _ _ _ _ _ _ _ _ _ _ _ _ _ _ _ _ _ _ _ _ _ _ _ _ _ _ _ _ _ _ _ _ _ _ _ _ _ _ _ _ _ _ _ _ _ _ _ _ _ _ _ _ _ _ _ _ _ _ _ _ _ _ _ _ _ _ _ _ _ _ HTT.out ik2 hk8 ha hc (fun _ _ _ _ _ _ _ _ _ _ _ _ _ _ _ _ _ _ _ _ _ _ _ _ _ _ _ _ _ _ _ _ _ _ _ _ _ _ _ _ _ _ _ _ _ _ _ _ _ _ _ _ _ _ _ _ _ _ _ _ _ _ _ _ _ _ _ _ _ _ _ _ _ _ _ _ _ _ _ _ _ _ _ _ _ _ _ _ _ _ _ _ _ _ _ _ _ _ _ _ _ _ _ _ _ _ _ _ _ _ _ _ _ _ _ _ _ _ _ _ _ _ _ _ _ _ _ _ _ _ _ _ _ _ _ _ _ _ _ _ _ _ _ _ _ _ _ _ _ _ _ _ _ _ _ _ _ _ _ _ _ _ _ _ _ _ _ _ _ _ _ _ _ _ _ _ _ _ _ _ _ _ _ _ _ _ _ _ w9 hd => ?_)
              go_wp2_with fail
              go_meet
              case rel => exact ⟨rfl, hide hd⟩
            · have d1 : (z == 1) = false := by simpa using z1
              have d2 : (z == 2) = false := by simpa using z2
              refine br3a _ _ _ _ _ _ _ _ _ _ _ _ _ _ _ _ _ _ _ _ _ _ _ _ _ _ _ _ _ _ _ _ _ _ _ _ _ _ _ _ _ _ _ _ _ _ _ _ _ _ _ _ _ _ _ _ _ _ _ _ _ _ _ _ _ _ _ _ _ _ _ _ _ _ _ _ _ _ _ _ _ _ _ _ _ _ _ _ _ _ _ _ _ _ _ _ _ _ _ _ _ _ _ _ _ _ _ _ _ _ _ _ _ _ _ _ _ _ _ _ _ _ _ _ _ _ _ _ _ _ _ _ _ _ _ _ _ _ _ _ _ _ _ _ _ _ _ _ _ _ _ _ _ _ _ _ _ _ _ _ _ _ _ _ _ _ _ _ _ _ _ _ _ _ _ _ _ _ _ _ _ _ _ _ _ _ _ _ _ _ _ _ _ _ _ _ _ _ _ _ _ _ _ _ _ _ _ _ _ _ _ _ _ _ _ _ _ _ _ _ _ _ _ _ _ _ _ _ _ _ _ _ _ _ _ _ _ _ _ _ _ _ _ _ _ _ HTT.out ik2 hk8 d1 d2 ha hc (fun _ _ _ _ _ _ _ _ _ _ _ _ _ _ _ _ _ _ _ _ _ _ _ _ _ _ _ _ _ _ _ _ _ _ _ _ _ _ _ _ _ _ _ _ _ _ _ _ _ _ _ _ _ _ _ _ _ _ _ _ _ _ _ _ _ _ _ _ _ _ _ _ _ _ _ _ _ _ _ _ _ _ _ _ _ _ _ _ _ _ _ _ _ _ _ _ _ _ _ _ _ _ _ _ _ _ _ _ _ _ _ _ _ _ _ _ _ _ _ _ _ _ _ _ _ _ _ _ _ _ _ _ _ _ _ _ _ _ _ _ _ _ _ _ _ _ _ _ _ _ _ _ _ _ _ _ _ _ _ _ _ _ _ _ _ _ _ _ _ _ _ _ _ _ _ _ _ _ _ _ _ _ _ _ _ _ _ _ w9 hd => ?_)
              go_wp2_with fail
              go_meet
              case rel => exact ⟨rfl, hide hd⟩
      case rest =>
        clear HT cz HC
        obtain ⟨rfl, hD⟩ := hcut
        obtain ⟨vs2, vo2, um2, uk2, LN, LoN, hKF⟩ := hD.out
        have HK8 := hide hKF.drew
        have cu := HK8.out.m.cell.1
        have ck := HK8.out.k.cell.1
        have HAL := hide HK8.out.allS
        clear hKF hD
        go_wp2_with fail
        go_region_held3 (fun w' => w'.cell? ⟨R, 0, none⟩ = some um2 ∧ w'.cell? ⟨K, 0, none⟩ = some uk2) (first | go_keep | assumption)
          (first
            | (go_at_call_of 19 w.heap.size; refine (unhide HAL).mono ?_; rintro e wt9 ⟨ao9, c9, rfl, hT9, hK9⟩; have HT9 := hide hT9; have HK9 := hide hK9; have cu9 := hK9.m.cell.1; have ck9 := hK9.k.cell.1; clear hT9 hK9)
            | (go_at_call_of 18 um2; refine (HK9.out.tupsM HT9.out).mono ?_; rintro e wt10 ⟨rfl, hK10⟩; have HK10 := hide hK10; have cu10 := hK10.m.cell.1; have ck10 := hK10.k.cell.1; clear hK10)
            | (go_at_call_of 19 O; refine (HK10.out.allO).mono ?_; rintro e wt11 ⟨ao11, c11, rfl, hT11, hK11⟩; have HT11 := hide hT11; have HK11 := hide hK11; have cu11 := hK11.m.cell.1; have ck11 := hK11.k.cell.1; clear hT11 hK11)
            | (go_at_call_of 18 uk2; refine (HK11.out.tupsK HT11.out).mono ?_; rintro e wt12 ⟨rfl, hK12⟩; have HK12 := hide hK12; have cu12 := hK12.m.cell.1; have ck12 := hK12.k.cell.1; clear hK12))
        go_wp2_with fail
        go_roundw
        case rel => exact ⟨k + 2, vs2, vo2, um2, uk2, LN, LoN, by omega, by go_num, HK12⟩
        case measure => simp [intOf]; omega
    · rcases (by omega : ¬ (k : Int) + 1 < (nd : Int) ∨ ((k : Int) + 1 < (nd : Int) ∧ ¬ (k : Int) + 1 < (n : Int)) ∨ ((k : Int) + 1 < (nd : Int) ∧ (k : Int) + 1 < (n : Int) ∧ ¬ (k : Int) < 80)) with e1 | ⟨e1, e2⟩ | ⟨e1, e2, e3⟩
      all_goals
        go_wp2
        go_ret
        exact ⟨rfl, hK.out.bel⟩

theorem oncePlaysWalk (nd cd : Nat) (ad : Option Addr) (lv : Value) (As : List (List M.Val)) (w : World) (hd : 0 < nd → ∃ b off, ad = some ⟨b, off, none⟩ ∧ ∀ i, i < nd → ∃ z, w.cell? ⟨b, off + i, none⟩ = some (.int .i64 z)) (hdm : nd ≤ maxLen) (hl : IsTups w lv As) (hg : Hand w) :
    Calls Tryd.prog 3 #[.slice ad nd cd, lv] w fun e w' => e = .returned (.bool true) ∧ Below w.heap.size w w' := by
  obtain ⟨ao, cap, rfl, hm⟩ := hl.shape
  refine oncePlays nd cd As.length cap ad ao As w hd hdm rfl hm (fun h0 => ?_) hg
  obtain ⟨b, off, c, h1, _, _, h2⟩ := hl.some h0
  simp only [Value.slice.injEq] at h1
  exact ⟨b, off, h1.1, h2⟩

end Go.Proofs.YtlefhfmckimlaacDoor
