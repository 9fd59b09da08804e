/-
  What honest of package vault does (of some shares those that are true, each place once), as one law of its call.
-/
import Derived.Test.YtlefhfmckimlaajDoorVltGetA
import Derived.Deep.AppendLies
import Derived.Deep.CutRange
set_option linter.unusedVariables false
namespace Go.Proofs.YtlefhfmckimlaajDoor
open Go.RowKit Go.WideMaps Go.Maps

section
variable {w : World} {sa ca la : Option Addr} {sn sc cc ln lc : Nat} {p : List Int} {l : List (Int × Int)}
set_option maxRecDepth 100000 in
set_option maxHeartbeats 2000000 in
theorem vHonest (hn : ln = l.length) (h30 : ln ≤ 30) (hl : AtP w la l) (hat : AtI w ca (M.commits p)) (hp7 : p.length ≤ 7) (hmE : M.cmtE (M.commits p) = 0) (hin : ∀ k (hk : k < l.length), M.inR l[k].1 = true ∧ M.inR l[k].2 = true) :
    Calls Tryd.prog 30 #[aggK (.slice sa sn sc) (.slice ca p.length cc), .slice la ln lc] w fun e w' => ∃ ga gc, e = .returned (.slice ga (M.goodL p l).length gc) ∧ w'.ownsRow w.heap.size 31 2 (.slice ga (M.goodL p l).length gc) (M.goodL p l).length (flatP (M.goodL p l)) ∧ Below w.heap.size w w' := by
  obtain ⟨i0, hi, hz0, hz1, hz2⟩ := info_parts infoP
  have HI := hide (And.intro hi (And.intro hz0 (And.intro hz1 hz2)))
  obtain ⟨W, hW⟩ : ∃ W, W = w.alloc (.cells #[.slice sa sn sc, .slice ca p.length cc] 71) := ⟨_, rfl⟩
  have HBW : Hid (Below w.heap.size w W) := hide (by rw [hW]; exact (Below.refl _ _).alloc (Nat.le_refl _) _)
  have HX : Hid (∀ wx, Below W.heap.size W wx → wx.cell? ⟨w.heap.size, 0, none⟩ = some (.slice sa sn sc) ∧ wx.cell? ⟨w.heap.size, 1, none⟩ = some (.slice ca p.length cc) ∧ w.heap.size < wx.heap.size) := hide fun wx hb => by
    have e0 : W.heap.size = w.heap.size + 1 := by rw [hW]; simp
    have e2 : W.cell? ⟨w.heap.size, 0, none⟩ = some (.slice sa sn sc) := by rw [hW]; simp [go_sem]
    have e3 : W.cell? ⟨w.heap.size, 1, none⟩ = some (.slice ca p.length cc) := by rw [hW]; simp [go_sem]
    refine ⟨(hb.cell (p := ⟨w.heap.size, 0, none⟩) (by simp; omega)).trans e2, (hb.cell (p := ⟨w.heap.size, 1, none⟩) (by simp; omega)).trans e3, ?_⟩
    have := hb.size
    omega
  have HCK : Hid (∀ wx, Below W.heap.size W wx → ∀ x y : Int, M.inR x = true → M.inR y = true → Calls Tryd.prog 31 #[.slice ca p.length cc, .agg #[.int .i64 x, .int .i64 y]] wx fun e w' => e = .returned (.tuple #[.bool (M.trueB (M.commits p) x y), .nilIface]) ∧ Below wx.heap.size wx w') := hide fun wx hb x y hx hy => by
    have e0 := M.chkE_0 hmE hx hy
    have := pCheck ca p.length cc (M.commits p) x y wx (M.commits_len p).symm (by unfold maxLen; omega) ((hat.stays HBW.out (Nat.le_refl _)).stays hb (Nat.le_refl _))
    rwa [M.chkR_ok e0, e0] at this
  have HHAS : Hid (∀ wx (ga : Option Addr) (gn gc : Nat) (G : List (Int × Int)) (x : Int), gn = G.length → gn ≤ 30 → AtP wx ga G → Calls Tryd.prog 48 #[.slice ga gn gc, .int .i64 x] wx fun e w' => e = .returned (.bool (M.hasB G x)) ∧ Below wx.heap.size wx w') := hide fun wx ga gn gc G x h1 h2 h3 => vHas ga gn gc G x wx h1 (by omega) h3
  have HLS := hide hl
  have HLN := hide hn
  have HIN := hide hin
  clear hn hl hi hz0 hz1 hz2 hat hmE hin
  go_enter Tryd.func30, Tryd.ntmps30
  go_wp2_with fail
  rw [← hW]
  clear hW
  go_loopw [5, 12] (fun sg sk wr => ∃ (k : Nat) (ga : Option Addr) (gc : Nat), sg = .slice ga (M.goodL p (l.take k)).length gc ∧ sk = .int .i64 k ∧ k ≤ ln ∧ Hid (wr.ownsRow W.heap.size 31 2 (.slice ga (M.goodL p (l.take k)).length gc) (M.goodL p (l.take k)).length (flatP (M.goodL p (l.take k)))) ∧ Hid (Below W.heap.size W wr)) (fun _ sk _ => ln - (intOf sk).toNat)
  case atStart => exact ⟨0, none, 0, rfl, rfl, Nat.zero_le _, hide (World.ownsRow_nil _ _ _ _), hide (Below.refl _ _)⟩
  case round =>
    obtain ⟨k, ga, gc, rfl, rfl, hk, hrow, hbel⟩ := hrel
    have hgl := M.goodL_len p l k (by have := HLN.out; omega)
    obtain ⟨G, hG⟩ : ∃ G, G = M.goodL p (l.take k) := ⟨_, rfl⟩
    rw [← hG] at hrow hgl ⊢
    obtain ⟨gn, hgn⟩ : ∃ gn, gn = G.length := ⟨_, rfl⟩
    rw [← hgn] at hrow hgl ⊢
    have HGE := hide hG
    have HGN := hide hgn
    clear hG hgn
    have HBW2 : Hid (Below w.heap.size w wr) := hide (HBW.out.trans (hbel.out.mono HBW.out.size))
    by_cases hlt : k < ln
    · have hkl : k < l.length := HLN.out ▸ hlt
      obtain ⟨b, off, rfl, hlie⟩ := HLS.out (by omega)
      obtain ⟨z1, z2⟩ := (hlie.stays HBW2.out (Nat.le_refl _)) k hkl
      have HRX := hide (HIN.out k hkl)
      have HGT := hide (M.goodL_take (p := p) hkl)
      obtain ⟨q, hq⟩ : ∃ q, q = l[k] := ⟨_, rfl⟩
      rw [← hq] at z1 z2 HGT HRX
      obtain ⟨x, y⟩ := q
      simp only at z1 z2 HGT HRX
      rw [← HGE.out] at HGT
      have j1 : (k : Int) < (ln : Int) := by omega
      have j2 : (0 : Int) ≤ (k : Int) := by omega
      have gb := World.block_lt_of_cell? _ _ z1
      -- the box of the share
      obtain ⟨W2, hW2⟩ : ∃ W2, W2 = wr.alloc (.cells #[.int .i64 x, .int .i64 y] 31) := ⟨_, rfl⟩
      have HB2 : Hid (Below wr.heap.size wr W2) := hide (by rw [hW2]; exact (Below.refl _ _).alloc (Nat.le_refl _) _)
      have HBX : Hid (∀ wx, Below W2.heap.size W2 wx → wx.cell? ⟨wr.heap.size, 0, none⟩ = some (.int .i64 x) ∧ wx.cell? ⟨wr.heap.size, 1, none⟩ = some (.int .i64 y) ∧ wr.heap.size < wx.heap.size) := hide fun wx hb => by
        have e0 : W2.heap.size = wr.heap.size + 1 := by rw [hW2]; simp
        have e1 : W2.cell? ⟨wr.heap.size, 0, none⟩ = some (.int .i64 x) := by rw [hW2]; simp [go_sem]
        have e2 : W2.cell? ⟨wr.heap.size, 1, none⟩ = some (.int .i64 y) := by rw [hW2]; simp [go_sem]
        have := hb.size
        exact ⟨(hb.cell (p := ⟨wr.heap.size, 0, none⟩) (by simp; omega)).trans e1, (hb.cell (p := ⟨wr.heap.size, 1, none⟩) (by simp; omega)).trans e2, by omega⟩
      have HBW3 : Hid (Below W.heap.size W W2) := hide (hbel.out.trans (HB2.out.mono hbel.out.size))
      have HCH := hide (HCK.out W2 HBW3.out x y HRX.out.1 HRX.out.2)
      obtain ⟨x0, x1, x2⟩ := HX.out wr hbel.out
      have HW2 := hide hW2
      clear hq hlie hW2
      go_upto_region 5 with fail
      rw [← HW2.out]
      clear HW2 x0 x1 x2
      obtain ⟨x0, x1, x2⟩ := HX.out W2 HBW3.out
      obtain ⟨y0, y1, y2⟩ := HBX.out W2 (Below.refl _ _)
      go_wp2_with fail
      cases ht : M.trueB (M.commits p) x y
      · rw [ht] at HCH
        have HNX : Hid (M.goodL p (l.take (k + 1)) = G) := hide (by rw [HGT.out]; exact M.goodS_no (by unfold M.takeB; rw [ht]; rfl))
        clear ht
        refine (unhide HCH).mono ?_
        rintro e w3 ⟨rfl, hb3⟩
        have HB4 := hide hb3
        clear hb3
        go_wp2_with fail
        go_roundw
        case rel =>
          refine ⟨k + 1, ga, gc, by rw [HNX.out, ← HGN.out], by go_num, by omega, hide ?_, hide (HBW3.out.trans (HB4.out.mono HBW3.out.size))⟩
          rw [HNX.out, ← HGN.out]
          exact row_stays (row_stays hrow.out HB2.out) HB4.out
        case measure => simp [intOf]; omega
      · rw [ht] at HCH
        have HTR := hide ht
        clear ht
        refine (unhide HCH).mono ?_
        rintro e w3 ⟨rfl, hb3⟩
        have HB4 := hide hb3
        have HBX3 := hide (HBX.out w3 hb3)
        have HR3 := hide (row_stays (row_stays hrow.out HB2.out) hb3)
        have HBW4 : Hid (Below W.heap.size W w3) := hide (HBW3.out.trans (hb3.mono HBW3.out.size))
        clear hb3 y0 y1 y2 x0 x1 x2
        obtain ⟨y0, y1, y2⟩ := HBX3.out
        have HATG : Hid (AtP w3 ga G) := hide (by
          obtain ⟨a9, c9, e9, _, _, h9⟩ := atP_own HGN.out HR3.out
          cases e9
          exact h9)
        have HHB := hide (HHAS.out w3 ga gn gc G x HGN.out (by omega) HATG.out)
        go_wp2_with fail
        cases hh : M.hasB G x
        · rw [hh] at HHB
          have HNX : Hid (M.goodL p (l.take (k + 1)) = G ++ [(x, y)]) := hide (by rw [HGT.out]; exact M.goodS_yes (by unfold M.takeB; rw [HTR.out, hh]; rfl))
          clear hh
          refine (unhide HHB).mono ?_
          rintro e w4 ⟨rfl, hb4⟩
          have HBX4 := hide (HBX.out w4 (HB4.out.trans (hb4.mono HB4.out.size)))
          have HR4 := hide (row_stays HR3.out hb4)
          have HBW5 : Hid (Below W.heap.size W w4) := hide (HBW4.out.trans (hb4.mono HBW4.out.size))
          clear hb4 y0 y1 y2
          obtain ⟨y0, y1, y2⟩ := HBX4.out
          have HRA : Hid ((w4.alloc (.cells #[.int .i64 x, .int .i64 y] 31)).ownsRow W.heap.size 31 2 (.slice ga gn gc) gn (flatP G)) := hide (row_stays HR4.out ((Below.refl _ _).alloc (Nat.le_refl _) _))
          have HNW : Hid (∀ j u, [Value.int .i64 x, Value.int .i64 y][j]? = some u → (w4.alloc (.cells #[.int .i64 x, .int .i64 y] 31)).cell? ((⟨w4.heap.size, 0, none⟩ : Addr).add j) = some u) := hide (World.news_of_block (heap_alloc_new w4 _))
          go_wp2_with (at_builtin; refine wpList_append_lies _ rfl (.tmp 35) (.tmp 37) 23 rfl W.heap.size 31 i0 (.agg #[.int .i64 0, .int .i64 0]) 2 16 Tryd.underlying23 HI.out.1 HI.out.2.1 HI.out.2.2.1 HI.out.2.2.2 rfl (by decide) (.slice ga gn gc) gn (flatP G) rfl HRA.out ⟨w4.heap.size, 0, none⟩ 1 1 [.int .i64 x, .int .i64 y] rfl rfl HNW.out (by intro u hu; simp at hu; rcases hu with rfl | rfl <;> rfl) (by decide) (by unfold maxLen; omega) (by omega) (Nat.le_trans HBW5.out.size (by simp)) (w4.heap.size + 1) (by simp) ?_)
          intro g5 k5 w5 hown5 hgrow5 hat5 hlt5
          have HO5 := hide hown5
          have HB5 : Hid (Below W.heap.size W w5) := hide ((HBW5.out.alloc HBW5.out.size _).grown hgrow5 (by have := HBW5.out.size; simp; omega) (fun j hj => (rowV_tag HRA.out hj).1))
          clear hown5 hgrow5 hat5 hlt5
          go_wp2_with fail
          go_roundw
          case rel =>
            refine ⟨k + 1, some ⟨g5, 0, none⟩, k5, by rw [HNX.out, List.length_append, ← HGN.out]; rfl, by go_num, by omega, hide ?_, HB5⟩
            rw [HNX.out, List.length_append, ← HGN.out, flatP_append]
            exact HO5.out
          case measure => simp [intOf]; omega
        · rw [hh] at HHB
          have HNX : Hid (M.goodL p (l.take (k + 1)) = G) := hide (by rw [HGT.out]; exact M.goodS_no (by unfold M.takeB; rw [hh]; simp))
          clear hh
          refine (unhide HHB).mono ?_
          rintro e w4 ⟨rfl, hb4⟩
          have HR4 := hide (row_stays HR3.out hb4)
          have HBW5 : Hid (Below W.heap.size W w4) := hide (HBW4.out.trans (hb4.mono HBW4.out.size))
          clear hb4
          go_wp2_with fail
          go_roundw
          case rel =>
            refine ⟨k + 1, ga, gc, by rw [HNX.out, ← HGN.out], by go_num, by omega, hide ?_, HBW5⟩
            rw [HNX.out, ← HGN.out]
            exact HR4.out
          case measure => simp [intOf]; omega
    · have hkn : k = ln := by omega
      have j1 : ¬ (k : Int) < (ln : Int) := by omega
      have HGA : Hid (M.goodL p l = G) := hide (by rw [HGE.out, List.take_of_length_le (by have := HLN.out; omega)])
      clear hkn
      go_wp2_with fail
      go_ret
      rw [HGA.out, ← HGN.out]
      exact ⟨ga, gc, rfl, rowV_mono hrow.out HBW.out.size, HBW2.out⟩
end

end Go.Proofs.YtlefhfmckimlaajDoor
