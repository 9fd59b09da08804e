/-
  The walk of LeasePlays: up to the switch, and behind it.
-/
import Derived.Test.YtlefhfmckimlaacDoorLpPlayS
import Derived.Deep.DeepCutAuto
import Derived.Deep.CutBlock
namespace Go.Proofs.YtlefhfmckimlaacDoor
open Go.RowKit
attribute [local go_sem ↓] Go.wp_at_zero Go.wp_at_succ

/-- a list of lists of numbers that came in -/
def Steps (w : World) (a : Option Addr) (n : Nat) : Prop := 0 < n → ∃ b off, a = some ⟨b, off, none⟩ ∧ ∀ i, i < n → ∃ a2 n2 c2, w.cell? ⟨b, off + i, none⟩ = some (.slice a2 n2 c2) ∧ n2 ≤ maxLen ∧ (0 < n2 → ∃ b2 off2, a2 = some ⟨b2, off2, none⟩ ∧ ∀ j, j < n2 → ∃ z, w.cell? ⟨b2, off2 + j, none⟩ = some (.int .i64 z))

theorem three_at {z0 z1 z2 : Int} {j : Nat} (hj : j < 3) : ∃ y : Int, #[Value.int .i64 z0, .int .i64 z1, .int .i64 z2][j]? = some (.int .i64 y) := by
  match j, hj with
  | 0, _ => exact ⟨z0, rfl⟩
  | 1, _ => exact ⟨z1, rfl⟩
  | 2, _ => exact ⟨z2, rfl⟩
theorem three_set {z0 z1 z2 z : Int} {j : Nat} (hj : j < 3) : ∃ y0 y1 y2 : Int, #[Value.int .i64 z0, .int .i64 z1, .int .i64 z2].setIfInBounds j (.int .i64 z) = #[.int .i64 y0, .int .i64 y1, .int .i64 y2] := by
  match j, hj with
  | 0, _ => exact ⟨z, z1, z2, rfl⟩
  | 1, _ => exact ⟨z0, z, z2, rfl⟩
  | 2, _ => exact ⟨z0, z1, z, rfl⟩

set_option maxHeartbeats 8000000 in
set_option maxRecDepth 1000000 in
theorem leasePlays (nd cd n cap : Nat) (ad ao : Option Addr) (As : List (List M.Val)) (w : World) (hd : Steps w ad nd) (hdm : nd ≤ maxLen) (hn : n = As.length) (hm : n ≤ maxLen) (hl : 0 < n → ∃ b off, ao = some ⟨b, off, none⟩ ∧ LieT w b off As) (hg : Hand w) :
    Calls Tryd.prog 5 #[.slice ad nd cd, .slice ao n cap] w fun e w' => e = .returned (.bool true) ∧ Below w.heap.size w w' := by
  unfold maxLen at hm hdm
  have HN := hide hn
  have HL := hide hl
  have HD := hide hd
  have HG := hide hg
  clear hn hl hd hg
  go_enter Tryd.func5, Tryd.ntmps5
  go_wp2_with fail
  refine (lnew _).mono ?_
  rintro e w1 ⟨rfl, hw1⟩
  have HK : Hid (Lp (fun _ _ => False) w w1 w.heap.size 0 0 (.slice none 0 0) [] (.slice none 0 0) (.slice none 0 0) (.slice none 0 0) [] [] []) := hide (by
    rw [hw1]
    exact ⟨Ls.new w (Nat.le_refl _), (Below.refl _ _).alloc (Nat.le_refl _) _, World.ownsRow_nil _ _ _ _, World.ownsRow_nil _ _ _ _, RowOf.nil _ _ _, Apart.nil _, fun x h => by simp at h, by simp, fun _ _ hf => hf.elim⟩)
  clear hw1
  go_wp2_with fail
  go_loopw [6, 7, 8, 9, 10, 11] (fun stm slast sid sun sall si wr => ∃ k : Nat, ∃ (tm gv : Int) (v vi vu va : Value) (E : List Ent) (I U : List Int) (A : List (List M.Val)), k ≤ 80 ∧ 0 ≤ gv ∧ gv ≤ (k : Int) ∧ stm = .int .i64 tm ∧ slast = .int .i64 gv ∧ vi = sid ∧ vu = sun ∧ va = sall ∧ si = .int .i64 k ∧ Hid (Lps.Agree E gv I U A) ∧ Hid (Lp (fun _ _ => False) w wr w.heap.size tm gv v E vi vu va I U A)) (fun _ _ _ _ _ si _ => 81 - (intOf si).toNat)
  case atStart => exact ⟨0, 0, 0, _, _, _, _, [], [], [], [], Nat.zero_le _, by decide, by decide, rfl, rfl, rfl, rfl, rfl, rfl, hide Lps.Agree.nil, HK⟩
  case round =>
    clear HK
    obtain ⟨k, tm, gv, v, vi, vu, va, E, I, U, A, hk, hg0, hgv, rfl, rfl, rfl, rfl, rfl, rfl, hag, hK⟩ := hrel
    by_cases hlt : k < nd ∧ k < 80
    · obtain ⟨hkd, hk8⟩ := hlt
      have ik1 : (k : Int) < (nd : Int) := by omega
      have ik3 : (k : Int) < 80 := by omega
      have ik0 : (0 : Int) ≤ (k : Int) := by omega
      have HGV := hide (And.intro hg0 hgv)
      obtain ⟨bd, offd, rfl, hdz⟩ := HD.out (by omega)
      obtain ⟨ast, ns, cs, hz, hns, hzs⟩ := hdz k hkd
      have hbd : bd < w.heap.size := World.block_lt_of_cell? w _ hz
      have HZR : Hid (∀ wr : World, Below w.heap.size w wr → wr.cell? ⟨bd, offd + k, none⟩ = some (.slice ast ns cs)) := hide fun wr hb => (hb.cell (p := ⟨bd, offd + k, none⟩) hbd).trans hz
      have HZS := hide hzs
      have HKA : Hid (Lp (Lps.Arr wr.heap.size 0 0 0) w (wr.alloc (.cells #[.int .i64 0, .int .i64 0, .int .i64 0] 58)) w.heap.size tm gv v E vi vu va I U A) := hide ((hK.out.quiet ((Below.refl _ _).alloc (Nat.le_refl _) _)).known (by
        rintro b c ⟨rfl, rfl⟩
        exact heap_alloc_new wr _))
      have HBS : Hid (w.heap.size ≤ wr.heap.size) := hide hK.out.bel.size
      unfold maxLen at hns
      clear hdz hz hzs HD hg0 hgv
      go_upto_block 2 with fail
      generalize wr.heap.size = B at *
      go_cut [13] (fun sj wx => ∃ (jv : Value) (z0 z1 z2 : Int), jv = sj ∧ Hid (Lp (Lps.Arr B z0 z1 z2) w wx w.heap.size tm gv v E vi vu va I U A))
      case first =>
        clear hK
        go_wp2_with fail
        go_loopw [13] (fun sj wx => ∃ j : Nat, ∃ z0 z1 z2 : Int, j ≤ 3 ∧ sj = .int .i64 j ∧ Hid (Lp (Lps.Arr B z0 z1 z2) w wx w.heap.size tm gv v E vi vu va I U A)) (fun sj _ => 4 - (intOf sj).toNat)
        case atStart => exact ⟨0, 0, 0, 0, Nat.zero_le _, rfl, HKA⟩
        case round =>
          clear HKA
          obtain ⟨j, z0, z1, z2, hj, rfl, hK2⟩ := hrel
          by_cases hin : j < ns ∧ j < 3
          · obtain ⟨hj1, hj3⟩ := hin
            have ij0 : (0 : Int) ≤ (j : Int) := by omega
            have ij1 : (j : Int) < (ns : Int) := by omega
            have ij3 : (j : Int) < 3 := by omega
            obtain ⟨b2, off2, rfl, hnum⟩ := HZS.out (by omega)
            obtain ⟨z, hz⟩ := hnum j hj1
            have cz := HZR.out wr hK2.out.bel
            have cn : wr.cell? ⟨b2, off2 + j, none⟩ = some (.int .i64 z) := (hK2.out.bel.cell (p := ⟨b2, off2 + j, none⟩) (World.block_lt_of_cell? w _ hz)).trans hz
            obtain ⟨ca, fa, sB⟩ := hK2.out.arr0
            obtain ⟨y, hy⟩ := three_at (z0 := z0) (z1 := z1) (z2 := z2) hj3
            have cB : wr.cell? ⟨B, j, none⟩ = some (.int .i64 y) := (ca j).trans hy
            have fB := fa j
            clear ca fa hy hnum hz
            go_wp2_with fail
            go_roundw
            case rel =>
              obtain ⟨y0, y1, y2, he⟩ := three_set (z0 := z0) (z1 := z1) (z2 := z2) (z := z) hj3
              have hs := hK2.out.setArr HBS.out rfl j (.int .i64 z)
              rw [he] at hs
              exact ⟨j + 1, y0, y1, y2, by omega, by go_num, hide hs⟩
            case measure => simp [intOf] <;> omega
          · have cz := HZR.out wr hK2.out.bel
            rcases (by omega : ¬ (j : Int) < (ns : Int) ∨ (j : Int) < (ns : Int) ∧ ¬ (j : Int) < 3) with e1 | ⟨e1, e2⟩
            all_goals
              go_wp2_with fail
              go_meet
              case rel => exact ⟨_, z0, z1, z2, rfl, hK2⟩
      case rest =>
        clear hK HKA HZR HZS
        obtain ⟨jv, z0, z1, z2, rfl, hK2⟩ := hcut
        go_upto_if 72 with fail
        go_cut [14] from 69 to 76 (fun st wx => ∃ (tv : Value) (l : List M.Val), tv = st ∧ Hid (IsVals w tv l) ∧ Hid (Lp (Lps.Arr B z0 z1 z2) w wx w.heap.size tm gv v E vi vu va I U A))
        case first =>
          by_cases hkn : k < n
          · have ikn : (k : Int) < (n : Int) := by omega
            obtain ⟨b, off, rfl, hlie⟩ := HL.out (by omega)
            obtain ⟨x, hx, hxv⟩ := hlie k (by have := HN.out; omega)
            have cx : wc.cell? ⟨b, off + k, none⟩ = some x := (hK2.out.bel.cell (p := ⟨b, off + k, none⟩) (World.block_lt_of_cell? w _ hx)).trans hx
            have HXV := hide hxv
            clear hx hxv hlie
            go_wp2_with fail
            go_meet
            case rel => exact ⟨_, _, rfl, HXV, hK2⟩
          · have ikn : ¬ (k : Int) < (n : Int) := by omega
            go_wp2_with fail
            go_meet
            case rel => exact ⟨_, [], rfl, hide (Or.inl ⟨rfl, rfl⟩), hK2⟩
        case rest =>
          clear hK2 HL
          obtain ⟨tv, l, rfl, hTV, hK3⟩ := hcut
          have HT : Hid (Lps.Tuned w wc w.heap.size B k tm gv v vi vu va tv E I U A l z0 z1 z2) := hide ⟨hK3.out, hag.out, hTV.out, HG.out, HGV.out.1, HGV.out.2, hk8⟩
          obtain ⟨b0, b1, b2, sB⟩ := Lps.cellsB hK3.out
          clear hK3 hag hTV HBS
          go_upto_block 4 with fail
          go_cut [6, 7, 8, 9, 10, 15] (fun stm sgv sid sun sall st wx => ∃ (tmN gvN : Int) (viN vuN vaN : Value), stm = .int .i64 tmN ∧ sgv = .int .i64 gvN ∧ viN = sid ∧ vuN = sun ∧ vaN = sall ∧ st = .bool true ∧ Hid (Lps.Done w wx w.heap.size k tmN gvN viN vuN vaN))
          case first =>
            clear b0 b1 b2 sB
            refine Lps.brAll _ _ _ _ _ _ _ _ _ _ _ _ _ _ _ _ _ _ _ _ _ _ _ _ _ _ _ _ _ _ _ _ _ _ _ _ _ _ _ _ _ _ _ _ _ _ _ _ _ _ _ _ _ _ _ _ _ _ _ _ _ _ _ _ _ _ _ _ _ _ _ _ _ _ _ _ _ _ _ _ _ _ _ _ _ _ _ _ _ _ _ _ _ _ _ _ _ _ _ _ _ _ _ _ _ _ _ _ _ _ _ _ _ _ _ _ _ _ _ _ _ _ _ _ _ _ _ _ _ _ _ _ _ _ _ _ _ _ _ _ _ _ _ _ _ _ _ _ _ _ _ _ _ _ _ _ _ _ _ _ _ _ _ _ _ _ _ _ _ _ _ _ _ _ _ _ _ _ _ _ _ _ _ _ _ _ _ _ _ _ _ _ _ _ _ _ _ _ _ _ _ _ _ _ _ _ _ _ _ _ _ _ _ _ _ _ _ _ _ _ _ _ _ _ _ _ _ _ _ _ _ _ _ _ _ _ _ _ _ _ _ _ _ _ _ _ _ _ _ _ _ _ _ _ _ _ _ _ _ _ _ _ _ _ _ _ _ _ _ _ _ _ _ _ _ _ _ _ _ _ _ _ _ _ HT.out (fun _ _ _ _ _ _ _ _ _ _ _ _ _ _ _ _ _ _ _ _ _ _ _ _ _ _ _ _ _ _ _ _ _ _ _ _ _ _ _ _ _ _ _ _ _ _ _ _ _ _ _ _ _ _ _ _ _ _ _ _ _ _ _ _ _ _ _ _ _ _ _ _ _ _ _ _ _ _ _ _ _ _ _ _ _ _ _ _ _ _ _ _ _ _ _ _ _ _ _ _ _ _ _ _ _ _ _ _ _ _ _ _ _ _ _ _ _ _ _ _ _ _ _ _ _ _ _ _ _ _ _ _ _ _ _ _ _ _ _ _ _ _ _ _ _ _ _ _ _ _ _ _ _ _ _ _ _ _ _ _ _ _ _ _ _ _ _ _ _ _ _ _ _ _ _ _ _ _ _ _ _ _ _ _ _ _ _ _ _ _ _ _ _ _ _ _ _ _ _ _ _ _ _ _ _ _ _ _ _ _ _ _ _ _ _ _ _ _ _ _ _ _ _ _ _ _ w9 tmN gvN viN vuN vaN hd => ?_)
            go_wp2_with fail
            go_meet
            case rel => exact ⟨tmN, gvN, viN, vuN, vaN, rfl, rfl, rfl, rfl, rfl, rfl, hide hd⟩
          case rest =>
            clear HT b0 b1 b2 sB
            obtain ⟨tmN, gvN, viN, vuN, vaN, rfl, rfl, rfl, rfl, rfl, rfl, hD⟩ := hcut
            obtain ⟨vN, EN, IN, UN, AN, hagN, hKN, hgN0, hgN⟩ := hD.out
            obtain ⟨m, hm2⟩ : ∃ m, m = EN.length := ⟨_, rfl⟩
            obtain ⟨aa, ca, hva⟩ : ∃ a c, vaN = .slice a m c := by
              obtain ⟨xs, h1, _⟩ := hKN.all
              have hlA := hagN.lens.2.2
              rcases h1.2 with ⟨h, h2⟩ | ⟨g, c, cur, h, _⟩
              · exact ⟨none, 0, by rw [h, hm2, ← hlA, h2]⟩
              · exact ⟨_, c, by rw [h, hm2, hlA]⟩
            subst hva
            have hm20 : m ≤ 20 := by rw [hm2]; exact hKN.len
            have HC := hide hKN.count
            rw [← hm2] at HC
            have HAN := hide hagN
            have HGN := hide (And.intro hgN0 hgN)
            clear hD hagN hKN hm2 hgN0 hgN
            go_wp2_with fail
            refine (unhide HC).mono ?_
            rintro e w5 ⟨rfl, hK5⟩
            have HK5 := hide hK5
            clear hK5 HC
            dsimp only
            go_wp2_with fail
            go_roundw
            case rel => exact ⟨k + 1, tmN, gvN, _, _, _, _, EN, IN, UN, AN, by omega, HGN.out.1, by have := HGN.out.2; omega, rfl, rfl, rfl, rfl, rfl, by go_num, HAN, HK5⟩
            case measure => simp [intOf] <;> omega
    · rcases (by omega : ¬ (k : Int) < (nd : Int) ∨ (k : Int) < (nd : Int) ∧ ¬ (k : Int) < 80) with e1 | ⟨e1, e2⟩
      all_goals
        go_wp2
        go_ret
        exact ⟨rfl, hK.out.bel⟩

theorem leasePlaysWalk (nd cd : Nat) (ad : Option Addr) (lv : Value) (As : List (List M.Val)) (w : World) (hd : Steps w ad nd) (hdm : nd ≤ maxLen) (hl : IsTups w lv As) (hg : Hand w) :
    Calls Tryd.prog 5 #[.slice ad nd cd, lv] w fun e w' => e = .returned (.bool true) ∧ Below w.heap.size w w' := by
  obtain ⟨ao, cap, rfl, hm⟩ := hl.shape
  refine leasePlays nd cd As.length cap ad ao As w hd hdm rfl hm (fun h0 => ?_) hg
  obtain ⟨b, off, c, h1, _, _, h2⟩ := hl.some h0
  simp only [Value.slice.injEq] at h1
  exact ⟨b, off, h1.1, h2⟩

end Go.Proofs.YtlefhfmckimlaacDoor

