/-
  What the document's own Shows and Cover do, each as one law of its call.
-/
import Derived.Test.YtlefhfmckimlaafDoorCoverSeen
import Derived.Test.YtlefhfmckimlaafDoorRefWord
import Derived.Laws.OwnMore
set_option linter.unusedVariables false
namespace Go.Proofs.YtlefhfmckimlaafDoor
open Go.RowKit

theorem rShows (a : Option Addr) (n cap m : Nat) (s : List Int) (w : World) (hn : n = s.length) (hm : n ≤ maxLen) (h5 : m ≤ 5) (hl : AtI w a s) :
    Calls Tryd.prog 13 #[.int .i64 m, .slice a n cap] w fun e w' => e = .returned (.int .i64 (M.shwE m s)) ∧ w' = w := by
  unfold maxLen at hm
  by_cases hne : n = m
  · have HE : Hid (M.shwE m s = M.first (M.shwF s) n) := hide (by rw [M.shwE_some (hn ▸ hne), hn])
    have HL := hide hl
    have HN := hide hn
    have hb : ((n : Int) != (m : Int)) = false := by rw [hne]; simp
    clear hl hn
    subst hne
    go_enter Tryd.func13, Tryd.ntmps13
    go_wp2_with fail
    go_loop [5] (fun i => ∃ k : Nat, k ≤ n ∧ i = .int .i64 k ∧ Hid (M.first (M.shwF s) k = 0)) (fun i => n - (intOf i).toNat)
    case atStart => exact ⟨0, Nat.zero_le _, rfl, hide rfl⟩
    case round =>
      obtain ⟨k, hk, rfl, hno⟩ := hrel
      by_cases hlt : k < n
      · have hks : k < s.length := HN.out ▸ hlt
        obtain ⟨b, off, rfl, hlie⟩ := HL.out (by omega)
        have c1 := hlie k hks
        have HF := hide (M.shwF_at hks)
        clear hlie
        generalize hz : s[k] = z at c1 HF
        clear hz
        cases hb : M.noShow z
        · obtain ⟨z0, z2⟩ := noShow_no hb
          have HS : Hid (M.first (M.shwF s) (k + 1) = 0) := hide (by rw [M.first_next hno.out, HF.out, if_pos (noShow_no hb)])
          have q0 : ¬ z < 0 := by omega
          have q2 : ¬ 2 < z := by omega
          clear hb
          go_wp2_with fail
          go_round
          case rel => exact ⟨k + 1, by omega, by go_num, HS⟩
          case measure => simp [intOf]; omega
        · have HS : Hid (M.first (M.shwF s) n = 1) := hide (by
            have h1 := HF.out
            rw [if_neg (noShow_yes hb)] at h1
            rw [M.first_bad hlt hno.out (by rw [h1]; decide), h1])
          have hq := noShow_yes hb
          clear hb
          by_cases q0 : z < 0
          · clear hq
            go_wp2_with fail
            go_ret
            exact ⟨by rw [HE.out, HS.out]; rfl, rfl⟩
          · have q2 : 2 < z := by omega
            clear hq
            go_wp2_with fail
            go_ret
            exact ⟨by rw [HE.out, HS.out]; rfl, rfl⟩
      · have HS : Hid (M.first (M.shwF s) n = 0) := hide (by have := hno.out; rwa [show k = n by omega] at this)
        go_wp2_with fail
        go_ret
        exact ⟨by rw [HE.out, HS.out]; rfl, rfl⟩
  · rw [M.shwE_shape (hn ▸ hne)]
    have hb : ((n : Int) != (m : Int)) = true := by simpa using (by omega : ¬ (n : Int) = (m : Int))
    clear hn hl hne
    go_enter Tryd.func13, Tryd.ntmps13
    go_wp2_with fail
    go_ret
    exact ⟨rfl, rfl⟩

theorem newV (w : World) (u : M.Val) : ∀ j x, (flat [u])[j]? = some x → (w.alloc (.cells #[.int .i64 u.k, .int .i64 u.n, .string u.s] 45)).cell? ((⟨w.heap.size, 0, none⟩ : Addr).add j) = some x := World.news_of_block (heap_alloc_new w _)
theorem flat_snoc {c : M.Val} {l : List M.Val} {s : List Int} {k : Nat} (hl : k < l.length) (hs : k < s.length) : flat (M.covL c (l.take (k + 1)) (s.take (k + 1))) = flat (M.covL c (l.take k) (s.take k)) ++ flat [M.cov1 c l[k] s[k]] := by
  rw [M.covL_take hl hs, flat_append]

set_option maxRecDepth 100000 in
set_option maxHeartbeats 4000000 in
theorem rCover (v : Value) (c : M.Val) (l : List M.Val) (a : Option Addr) (n cap : Nat) (s : List Int) (w : World) (h : IsVals w v l) (hk : M.likeF l = 0) (hn : n = s.length) (hs : AtI w a s) (hf : M.shwE l.length s = 0) (hcs : c.s.size ≤ maxLen) :
    Calls Tryd.prog 14 #[v, .slice a n cap, aggV c] w fun e w' => ∃ v', e = .returned v' ∧ OwnT w.heap.size w' v' (M.covL c l s) ∧ Below w.heap.size w w' := by
  obtain ⟨h0, h5⟩ := likeF_len hk
  obtain ⟨hsl, hsr⟩ := M.shwE_ok hf
  obtain ⟨i0, hi, hz0, hz1, hz2⟩ := info_parts infoV
  have HI := hide (And.intro hi (And.intro hz0 (And.intro hz1 hz2)))
  obtain ⟨W1, hW1⟩ : ∃ W1, W1 = w.alloc (.cells #[.int .i64 c.k, .int .i64 c.n, .string c.s] 45) := ⟨_, rfl⟩
  have hb0 : Below w.heap.size w W1 := by rw [hW1]; exact (Below.refl _ w).alloc (Nat.le_refl _) _
  have HB1 := hide hb0
  have HBOX := hide (box_cells hW1)
  have hn' : n = l.length := by omega
  have HSZ : Hid (∀ x ∈ M.covL c l s, x.s.size ≤ maxLen) := hide (covL_size hcs fun x hx => Nat.le_trans (text_small (likeF_each hk x hx)) (by unfold maxLen; decide))
  have HE : Hid (∀ k (h1 : k < l.length), l[k].fault = 0) := hide fun k h1 => likeF_each hk _ (List.getElem_mem h1)
  have HSR := hide hsr
  obtain ⟨b0, off0, cp, rfl, _, _, hll⟩ := h.some h0
  obtain ⟨b, off, rfl, hlie⟩ := hs (by omega)
  have HS : Hid (LieI W1 b off s) := hide (hlie.stays hb0 (Nat.le_refl _))
  have HL : Hid (Lie W1 b0 off0 l) := hide (hll.stays h0 hb0 (Nat.le_refl _))
  have HZ : Hid (w.heap.size < W1.heap.size) := hide (by rw [hW1]; simp)
  have HH : Hid (∀ k (h1 : k < l.length) (wx : World), Calls Tryd.prog 31 #[aggV l[k]] wx fun e w' => e = .returned (.string (M.word l[k].k l[k].n l[k].s)) ∧ Below wx.heap.size wx w') := hide fun k h1 wx => refWord _ _ _ wx (likeF_each hk _ (List.getElem_mem h1))
  have HG : Hid (∀ k (h1 : k < l.length) (wx : World), Calls Tryd.prog 30 #[.string (M.word l[k].k l[k].n l[k].s)] wx fun e w' => e = .returned (.int .i64 (M.hash (M.wrd l[k].k l[k].n l[k].s))) ∧ w' = wx) := hide fun k h1 wx => refHash _ wx (Nat.le_trans (word_le (likeF_each hk _ (List.getElem_mem h1))) (by unfold maxLen; decide))
  rw [← hn'] at h0 h5 ⊢
  have HN := hide hn
  have HN' := hide hn'
  have HSL := hide hsl
  clear h hk hn hs hf hsl hsr hlie hn' hcs hb0 hll hi hz0 hz1 hz2
  obtain ⟨ck, cn, cs⟩ := c
  go_enter Tryd.func14, Tryd.ntmps14
  go_wp2_with fail
  rw [← hW1]
  clear hW1
  go_loopw [7, 8] (fun sx si wr => ∃ (x : Value) (k : Nat), x = sx ∧ si = .int .i64 k ∧ k ≤ n ∧ Hid (wr.ownsRow W1.heap.size 45 3 x k (flat (M.covL ⟨ck, cn, cs⟩ (l.take k) (s.take k)))) ∧ Hid (Below W1.heap.size W1 wr)) (fun _ si _ => n - (intOf si).toNat)
  case atStart => exact ⟨_, 0, rfl, rfl, Nat.zero_le _, hide (World.ownsRow_nil _ _ _ _), hide (Below.refl _ _)⟩
  case round =>
    obtain ⟨x, k, rfl, rfl, hk, hrow, hbel⟩ := hrel
    by_cases hlt : k < n
    · have hkl : k < l.length := HN'.out ▸ hlt
      have hks : k < s.length := HN.out ▸ hlt
      obtain ⟨c1, c2, c3, c4⟩ := (HL.out.stays (by omega) hbel.out (Nat.le_refl _)) k hkl
      have d0 : wr.cell? ⟨b, off + k, none⟩ = some (.int .i64 s[k]) := (HS.out.stays hbel.out (Nat.le_refl _)) k hks
      have hbw : b < wr.heap.size := World.block_lt_of_cell? wr _ d0
      obtain ⟨d1, d2, d3⟩ := HBOX.out wr hbel.out
      have hwr : w.heap.size < wr.heap.size := World.block_lt_of_cell? wr _ d1
      have HSN := hide (flat_snoc (c := ⟨ck, cn, cs⟩) hkl hks)
      have HZR := hide (HSR.out k hks)
      have HWD := hide (HH.out k hkl)
      have HHS := hide (HG.out k hkl)
      have hne : ¬ wr.heap.size = w.heap.size := by omega
      have hne2 : ¬ b = wr.heap.size := by omega
      clear c4
      generalize hy : l[k] = y at *
      generalize s[k] = z at *
      obtain ⟨yk, yn, ys⟩ := y
      clear hy
      obtain ⟨u, hu⟩ : ∃ u, u = M.cov1 ⟨ck, cn, cs⟩ ⟨yk, yn, ys⟩ z := ⟨_, rfl⟩
      rw [← hu] at HSN
      have HU := hide hu
      clear hu
      go_upto_if 24 with fail
      go_cut [9] from 24 to 39 (fun sp wx => ∃ W : World, W = wx ∧ sp = .pointer (some ⟨wr.heap.size, 0, none⟩) ∧ Hid (Below wr.heap.size wr W) ∧ W.cell? ⟨wr.heap.size, 0, none⟩ = some (.int .i64 u.k) ∧ W.cell? ⟨wr.heap.size, 1, none⟩ = some (.int .i64 u.n) ∧ W.cell? ⟨wr.heap.size, 2, none⟩ = some (.string u.s))
      case first =>
        have HAL : Hid (∀ o, Below wr.heap.size wr (wr.alloc o)) := hide fun o => (Below.refl _ _).alloc (Nat.le_refl _) _
        rcases (by have := HZR.out; omega : z = 2 ∨ z = 1 ∨ z = 0) with hz | hz | hz
        · have HE2 : Hid (u = ⟨ck, cn, cs⟩) := hide (by rw [HU.out, hz]; exact M.cov1_closed _ _)
          have hb2 : (z == 2) = true := by simpa using hz
          clear hz HZR HU
          go_wp2_with fail
          go_meet
          case rel => exact ⟨_, rfl, rfl, hide (HAL.out _), by rw [HE2.out]; simp [go_sem], by rw [HE2.out]; simp [go_sem], by rw [HE2.out]; simp [go_sem]⟩
        · have hb2 : (z == 2) = false := by simp; omega
          have hb1 : (z == 1) = true := by simpa using hz
          by_cases hy : yk = 2
          · have HE2 : Hid (u = ⟨yk, yn, ys⟩) := hide (by rw [HU.out, hz]; exact M.cov1_any _ hy)
            have hyb : (yk != 2) = false := by simpa using hy
            clear hz HZR HU hy
            go_wp2_with fail
            go_meet
            case rel => exact ⟨_, rfl, rfl, hide (HAL.out _), by rw [HE2.out]; simp [go_sem], by rw [HE2.out]; simp [go_sem], by rw [HE2.out]; simp [go_sem]⟩
          · have HE2 : Hid (u = M.numV (M.hash (M.wrd yk yn ys))) := hide (by rw [HU.out, hz]; exact M.cov1_likely (v := ⟨yk, yn, ys⟩) _ hy)
            have hyb : (yk != 2) = true := by simpa using hy
            clear hz HZR HU hy
            go_wp2_with fail
            refine (HWD.out _).mono ?_
            rintro e w2 ⟨rfl, hb3⟩
            obtain ⟨hc, hf⟩ := bcell hb3
            have hsz := hb3.size
            simp at hsz
            have hlt2 : wr.heap.size < w2.heap.size := by omega
            have HB2 := hide ((HAL.out _).trans (hb3.mono (by simp)))
            clear hb3
            go_wp2_with fail
            refine (HHS.out _).mono ?_
            rintro e w3 ⟨rfl, rfl⟩
            go_wp2_with fail
            go_meet
            case rel => exact ⟨_, rfl, rfl, hide (((HB2.out.setCell (p := ⟨wr.heap.size, 0, none⟩) (Nat.le_refl _) _).setCell (p := ⟨wr.heap.size, 1, none⟩) (Nat.le_refl _) _).setCell (p := ⟨wr.heap.size, 2, none⟩) (Nat.le_refl _) _), by rw [HE2.out]; simp [go_sem, hc, M.numV], by rw [HE2.out]; simp [go_sem, hc, M.numV], by rw [HE2.out]; simp [go_sem, hc, M.numV]⟩
        · have HE2 : Hid (u = ⟨yk, yn, ys⟩) := hide (by rw [HU.out, hz]; exact M.cov1_open _ _)
          have hb2 : (z == 2) = false := by simp; omega
          have hb1 : (z == 1) = false := by simp; omega
          clear hz HZR HU
          go_wp2_with fail
          go_meet
          case rel => exact ⟨_, rfl, rfl, hide (HAL.out _), by rw [HE2.out]; simp [go_sem], by rw [HE2.out]; simp [go_sem], by rw [HE2.out]; simp [go_sem]⟩
      case rest =>
        obtain ⟨W, rfl, rfl, hb, z1, z2, z3⟩ := hcut
        have hW := hb.out.size
        have hz := hbel.out.size
        have hzW : wr.heap.size < W.heap.size := World.block_lt_of_cell? W _ z1
        have HR := hide ((ownsRow_solid hrow.out (Solid.below hb.out)).alloc (.cells #[.int .i64 u.k, .int .i64 u.n, .string u.s] 45))
        have HNW := hide (newV W u)
        have HB2 := hide (hbel.out.trans (hb.out.mono hz))
        clear hb c1 c2 c3 d0 d1 d2 d3 HWD HHS HU
        obtain ⟨uk, un, us⟩ := u
        go_wp2_with (at_builtin; refine wpList_append_own _ rfl (.tmp 40) (.tmp 42) 40 rfl W1.heap.size 45 i0 (.agg #[.int .i64 0, .int .i64 0, .string ⟨#[]⟩]) 3 32 Tryd.underlying40 HI.out.1 HI.out.2.1 HI.out.2.2.1 HI.out.2.2.2 rfl (by decide) x k _ rfl HR.out ⟨W.heap.size, 0, none⟩ 1 1 (flat [⟨uk, un, us⟩]) rfl rfl HNW.out (flat_oneCell _) (by unfold maxLen; omega) (by omega) (by simp; omega) ?_)
        intro v' w3 hown hgrow _
        rw [← HSN.out] at hown
        have HO := hide hown
        have HB3 := hide ((HB2.out.alloc (by omega) _).grown hgrow (by simp; omega) (fun j hj => (HR.out.lt j hj).1))
        clear hown hgrow
        go_wp2
        go_roundw
        case rel => exact ⟨v', k + 1, rfl, by go_num, by omega, HO, HB3⟩
        case measure => simp [intOf]; omega
    · have hkn : k = n := by omega
      have HR : Hid (wr.ownsRow W1.heap.size 45 3 x n (flat (M.covL ⟨ck, cn, cs⟩ l s))) := hide (by
        have := hrow.out
        rw [hkn, List.take_of_length_le (by have := HN'.out; omega), List.take_of_length_le (by have := HN.out; omega)] at this
        exact this)
      subst hkn
      obtain ⟨ax, nx, cx, rfl⟩ := ownsRow_slice HR.out
      go_wp2_with fail
      go_ret
      refine ⟨_, rfl, OwnT.mono ⟨?_, HSZ.out⟩ (Nat.le_of_lt HZ.out), HB1.out.trans (hbel.out.mono HB1.out.size)⟩
      rw [M.covL_len HSL.out, ← HN'.out]
      exact HR.out

end Go.Proofs.YtlefhfmckimlaafDoor
