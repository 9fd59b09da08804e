/-
  The walk of the Go function CoverFinds: it returns true, whatever comes in, if the library's table reads as its text lays it.
-/
import Derived.Test.YtlefhfmckimlaagDoorCoverSeen
import Derived.Test.YtlefhfmckimlaagDoorIntsOwn
import Derived.Test.YtlefhfmckimlaagDoorTupSame
import Derived.Test.YtlefhfmckimlaagDoorTupFits
set_option linter.unusedVariables false
namespace Go.Proofs.YtlefhfmckimlaagDoor.coverFinds
open Go.RowKit

/- the law's own first call -/
abbrev factA : Obj := .cells #[.int .i64 0, .int .i64 5, .string ⟨#[]⟩, .int .i64 0, .int .i64 6, .string ⟨#[]⟩, .int .i64 0, .int .i64 7, .string ⟨#[]⟩] 29
abbrev factB : Obj := .cells #[.int .i64 0, .int .i64 1, .int .i64 2] 3
abbrev factL : List M.Val := [M.numV 5, M.numV 6, M.numV 7]
theorem itoa6 : Lib.itoa 6 = [54] := by
  unfold Lib.itoa
  rw [if_neg (by decide)]
  exact Lib.decDigits_one (by decide)
theorem hash6 : M.hash (M.wrd 0 6 ⟨#[]⟩) = 271 := by
  have e : M.wrd 0 6 ⟨#[]⟩ = ⟨#[54]⟩ := by
    unfold M.wrd
    rw [if_pos rfl, itoa6]
  rw [e]; rfl
theorem factE : M.covE factL [0, 1, 2] = 0 := by decide
theorem factR : M.covR factL [0, 1, 2] = [M.numV 5, M.numV 271, M.numV 0] := by
  rw [M.covR_ok factE]
  show [M.cov1 (M.numV 0) (M.numV 5) 0, M.cov1 (M.numV 0) (M.numV 6) 1, M.cov1 (M.numV 0) (M.numV 7) 2] = _
  rw [M.cov1_open, M.cov1_likely _ (by decide), M.cov1_closed]
  show [M.numV 5, M.numV (M.hash (M.wrd 0 6 ⟨#[]⟩)), M.numV 0] = _
  rw [hash6]
theorem fact_vals (w : World) : IsVals ((w.alloc factA).alloc factB) (.slice (some ⟨w.heap.size, 0, none⟩) 3 3) factL := by
  have h : IsVals (w.alloc factA) (.slice (some ⟨w.heap.size, 0, none⟩) 3 3) factL := by
    refine Or.inr (Or.inr ⟨w.heap.size, 0, 3, by simp, rfl, by simp, by unfold maxLen; decide, lie_of_cells (fun x hx => ?_) fun j u hu => ?_⟩)
    · simp at hx
      rcases hx with rfl | rfl | rfl <;> exact Nat.zero_le _
    · exact World.news_of_block (heap_alloc_new w _) j u hu
  exact h.stays ((Below.refl _ _).alloc (Nat.le_refl _) _) (Nat.le_refl _)
theorem fact_ints (w : World) : AtI ((w.alloc factA).alloc factB) (some ⟨w.heap.size + 1, 0, none⟩) [0, 1, 2] := fun _ => by
  refine ⟨w.heap.size + 1, 0, rfl, fun i hi => ?_⟩
  have g := World.news_of_block (heap_alloc_new (w.alloc factA) factB) i (.int .i64 ([0, 1, 2] : List Int)[i]) (by
    match i, hi with
    | 0, _ => rfl
    | 1, _ => rfl
    | 2, _ => rfl)
  rw [WideShapes.add_plain] at g
  simpa using g

/-- a fact of the law's own: what its first call answers, told by its cells -/
theorem fact (w : World) (ht : Tab w) : Calls Tryd.prog 9 #[.slice (some ⟨w.heap.size, 0, none⟩) 3 3, .slice (some ⟨w.heap.size + 1, 0, none⟩) 3 3] ((w.alloc factA).alloc factB) fun e w' => ∃ g c, e = .returned (.tuple #[.slice (some ⟨g, 0, none⟩) 3 c, .nilIface]) ∧ w'.cell? ⟨g, 1, none⟩ = some (.int .i64 5) ∧ w'.cell? ⟨g, 4, none⟩ = some (.int .i64 271) ∧ w'.cell? ⟨g, 7, none⟩ = some (.int .i64 0) ∧ Below w.heap.size w w' := by
  have hb : Below w.heap.size w ((w.alloc factA).alloc factB) := ((Below.refl _ _).alloc (Nat.le_refl _) _).alloc (by simp) _
  refine (cTuple _ factL _ 3 3 [0, 1, 2] _ (fact_vals w) rfl (by unfold maxLen; decide) (fact_ints w) (ht.stays hb (Nat.le_refl _))).mono ?_
  rintro e w' ⟨v', rfl, ho, hb2⟩
  rw [factR] at ho
  have hrow := ho.1
  obtain ⟨g, c, rfl, hg, _⟩ := hrow.form (by decide)
  refine ⟨g, c, by rw [factE]; rfl, ?_, ?_, ?_, hb.trans (hb2.mono hb.size)⟩
  · rw [hrow.cellAt 1 (by decide)]; rfl
  · rw [hrow.cellAt 4 (by decide)]; rfl
  · rw [hrow.cellAt 7 (by decide)]; rfl

/-- covered openly it is itself -/
theorem open_calls (v : Value) (l : List M.Val) (a : Option Addr) (n cap : Nat) (w : World) (h : IsVals w v l) (hf : M.tupF l = 0) (hn : n = l.length) (hs : AtI w a (List.replicate n 0)) (ht : Tab w) :
    Calls Tryd.prog 9 #[v, .slice a n cap] w fun e w' => ∃ v', e = .returned (.tuple #[v', .nilIface]) ∧ IsVals w' v' l ∧ Below w.heap.size w w' := by
  have e : M.covE l (List.replicate n 0) = 0 := by rw [M.covE_shw hf, hn]; exact M.shw_all (by decide) (by decide)
  have r : M.covR l (List.replicate n 0) = l := by rw [M.covR_ok e, hn]; exact M.cover_open _ l
  have := cTuple v l a n cap (List.replicate n 0) w h (by simp) (by have := (likeF_len (tupF_ok hf).1).2; unfold maxLen; omega) hs ht
  rw [e, r] at this
  exact this.mono fun _ _ ⟨v', h1, h2, h3⟩ => ⟨v', h1, h2.vals, h3⟩

set_option maxRecDepth 100000 in
set_option maxHeartbeats 4000000 in
theorem walk (vt vl : Value) (lt ll : List M.Val) (a : Option Addr) (n cap : Nat) (s : List Int) (w : World) (h1 : IsVals w vt lt) (h2 : IsVals w vl ll) (hn : n = s.length) (hm : n ≤ maxLen) (hs : AtI w a s) (ht : Tab w) :
    Calls Tryd.prog 3 #[vt, vl, .slice a n cap] w fun e w' => e = .returned (.bool true) ∧ Below w.heap.size w w' := by
  obtain ⟨i0, hi, hz0, hz1, hz2⟩ := info_parts infoInt
  have HI := hide (And.intro hi (And.intro hz0 (And.intro hz1 hz2)))
  have HF := hide (fact w ht)
  have HX : Hid (∀ wx, Below w.heap.size w wx → Calls Tryd.prog 9 #[vt, .slice a n cap] wx fun e w' => ∃ v', e = .returned (.tuple #[v', errV (M.covE lt s)]) ∧ OwnT wx.heap.size w' v' (M.covR lt s) ∧ Below wx.heap.size wx w') := hide fun wx hb => cTuple vt lt a n cap s wx (h1.stays hb (Nat.le_refl _)) hn hm (hs.stays hb (Nat.le_refl _)) (ht.stays hb (Nat.le_refl _))
  have HY : Hid (∀ wx, Below w.heap.size w wx → Calls Tryd.prog 12 #[vl, .slice a n cap] wx fun e w' => ∃ v', e = .returned (.tuple #[v', errV (M.askE ll s)]) ∧ OwnT wx.heap.size w' v' (M.askR ll s) ∧ Below wx.heap.size wx w') := hide fun wx hb => cLike vl ll a n cap s wx (h2.stays hb (Nat.le_refl _)) hn hm (hs.stays hb (Nat.le_refl _)) (ht.stays hb (Nat.le_refl _))
  have HT := hide ht
  have H1 := hide h1
  have H2 := hide h2
  obtain ⟨at', ct, rfl, _⟩ := h1.shape
  clear hs ht h1 h2 hm hn hi hz0 hz1 hz2
  by_cases he : M.covE lt s = 0
  · obtain ⟨hf, hsh⟩ := M.covE_ok he
    obtain ⟨hsl, hsr⟩ := M.shwE_ok hsh
    have h5 := (likeF_len (tupF_ok hf).1).2
    have HO : Hid (∀ (a' : Option Addr) (c' : Nat) wx, Below w.heap.size w wx → AtI wx a' (List.replicate lt.length 0) → Calls Tryd.prog 9 #[.slice at' lt.length ct, .slice a' lt.length c'] wx fun e w' => ∃ v', e = .returned (.tuple #[v', .nilIface]) ∧ IsVals w' v' lt ∧ Below wx.heap.size wx w') := hide fun a' c' wx hb hat => open_calls _ lt a' lt.length c' wx (H1.out.stays hb (Nat.le_refl _)) hf rfl hat (HT.out.stays hb (Nat.le_refl _))
    have HS : Hid (∀ v' wx, Below w.heap.size w wx → IsVals wx v' lt → Calls Tryd.prog 10 #[v', .slice at' lt.length ct] wx fun e w' => e = .returned (.bool true) ∧ Below wx.heap.size wx w') := hide fun v' wx hb hv => by
      have := tsame v' _ lt lt wx hv (H1.out.stays hb (Nat.le_refl _))
      rwa [sameAll_self] at this
    have HC : Hid (∀ v' wx, IsVals wx v' (M.covL (M.numV 0) lt s) → Calls Tryd.prog 11 #[v'] wx fun e w' => e = .returned .nilIface ∧ Below wx.heap.size wx w') := hide fun v' wx hv => by
      have := tcheck v' _ wx hv
      rwa [M.cover_tup he] at this
    rw [he, M.covR_ok he] at HX
    have HX1 : Hid (∀ wx, Below w.heap.size w wx → Calls Tryd.prog 9 #[.slice at' lt.length ct, .slice a n cap] wx fun e w' => ∃ v', e = .returned (.tuple #[v', .nilIface]) ∧ OwnT wx.heap.size w' v' (M.covL (M.numV 0) lt s) ∧ Below wx.heap.size wx w') := HX
    by_cases hy : M.askE ll s = 0
    · obtain ⟨hg, hsh2⟩ := M.askE_ok hy
      have HW1 : Hid (∀ wx, Below w.heap.size w wx → Calls Tryd.prog 13 #[vl, .slice at' lt.length ct] wx fun e w' => e = .returned (.tuple #[.bool (M.fitAll ll lt), .nilIface]) ∧ Below wx.heap.size wx w') := hide fun wx hb => by
        have := tfits vl _ ll lt wx (H2.out.stays hb (Nat.le_refl _)) (H1.out.stays hb (Nat.le_refl _))
        have e1 : M.both (M.likeF ll) (M.tupF lt) = 0 := by rw [hg, hf]; rfl
        have e2 : M.fitsB ll lt = M.fitAll ll lt := by unfold M.fitsB; rw [e1]; rfl
        rwa [e1, e2] at this
      have HW2 : Hid (∀ vy vx wx, IsVals wx vy (M.covL M.anyV ll s) → IsVals wx vx (M.covL (M.numV 0) lt s) → Calls Tryd.prog 13 #[vy, vx] wx fun e w' => e = .returned (.tuple #[.bool (M.fitAll (M.covL M.anyV ll s) (M.covL (M.numV 0) lt s)), .nilIface]) ∧ Below wx.heap.size wx w') := hide fun vy vx wx hb1 hb2 => by
        have := tfits vy vx _ _ wx hb1 hb2
        have e1 : M.both (M.likeF (M.covL M.anyV ll s)) (M.tupF (M.covL (M.numV 0) lt s)) = 0 := by rw [M.ask_like hy, M.cover_tup he]; rfl
        have e2 : M.fitsB (M.covL M.anyV ll s) (M.covL (M.numV 0) lt s) = M.fitAll (M.covL M.anyV ll s) (M.covL (M.numV 0) lt s) := by unfold M.fitsB; rw [e1]; rfl
        rwa [e1, e2] at this
      have HFIT : Hid (M.fitAll ll lt = true → M.fitAll (M.covL M.anyV ll s) (M.covL (M.numV 0) lt s) = true) := hide fun h => M.fit_cover h (M.tupF_parts hf).2 hsl hsr
      rw [hy, M.askR_ok hy] at HY
      have HY1 : Hid (∀ wx, Below w.heap.size w wx → Calls Tryd.prog 12 #[vl, .slice a n cap] wx fun e w' => ∃ v', e = .returned (.tuple #[v', .nilIface]) ∧ OwnT wx.heap.size w' v' (M.covL M.anyV ll s) ∧ Below wx.heap.size wx w') := HY
      obtain ⟨m, hm⟩ : ∃ m, m = lt.length := ⟨_, rfl⟩
      rw [← hm] at HO HS HX1 HW1 h5 ⊢
      generalize M.fitAll (M.covL M.anyV ll s) (M.covL (M.numV 0) lt s) = b2 at HW2 HFIT
      generalize M.fitAll ll lt = b1 at HW1 HFIT
      generalize M.covL M.anyV ll s = LY at HW2 HY1
      generalize M.covL (M.numV 0) lt s = LX at HW2 HX1 HC
      clear hf hsh hsl hsr hg hsh2 he hy HX HY hm
      go_enter Tryd.func3, Tryd.ntmps3
      go_wp2_with fail
      refine (unhide HF).mono ?_
      rintro e w1 ⟨g, c, rfl, c1, c2, c3, hb1⟩
      have HB1 := hide hb1
      clear hb1
      go_wp2_with fail
      refine (HX1.out _ HB1.out).mono ?_
      rintro e w2 ⟨vx, rfl, hx, hb2⟩
      have HVX := hide hx.vals
      have HB2 := hide (HB1.out.trans (hb2.mono HB1.out.size))
      clear hx hb2 c1 c2 c3
      go_wp2_with (at_make; refine wpList_make_full _ rfl (.tmp 66) (.tmp 66) 23 rfl w2.heap.size 3 i0 (.int .i64 0) 1 Tryd.underlying23 HI.out.1 HI.out.2.1 HI.out.2.2.1 .i64 .i64 _ _ m rfl rfl rfl rfl (by rw [HI.out.2.2.2]; omega) (by unfold maxLen; omega) (Nat.le_refl _) ?_)
      intro w3 hown hgrow
      rw [toList_madeCells_one] at hown
      have hat : AtI w3 (some ⟨w2.heap.size, 0, none⟩) (List.replicate m 0) := by
        obtain ⟨a', c', hv, _, _, hat⟩ := atI_own (m := m) (l := List.replicate m 0) (by simp) (by rw [show cellsI (List.replicate m 0) = List.replicate m (.int .i64 0) by simp [cellsI]]; exact hown)
        cases hv
        exact hat
      have HAT := hide hat
      have hg3 : Below w2.heap.size w2 w3 := (Below.refl w2.heap.size w2).grown hgrow (Nat.le_refl _) (fun k hk => by cases hk)
      have HB3 := hide (HB2.out.trans (hg3.mono HB2.out.size))
      have HVX3 := hide (HVX.out.stays hg3 (Nat.le_refl _))
      clear hown hgrow hat hg3 HVX
      go_wp2_with fail
      refine (HO.out _ _ _ HB3.out HAT.out).mono ?_
      rintro e w4 ⟨vo, rfl, ho, hb4⟩
      have HVO := hide ho
      have HB4 := hide (HB3.out.trans (hb4.mono HB3.out.size))
      have HVX4 := hide (HVX3.out.stays hb4 (Nat.le_refl _))
      clear ho hb4 HVX3 HAT
      go_wp2_with fail
      refine (HS.out _ _ HB4.out HVO.out).mono ?_
      rintro e w5 ⟨rfl, hb5⟩
      have HB5 := hide (HB4.out.trans (hb5.mono HB4.out.size))
      have HVX5 := hide (HVX4.out.stays hb5 (Nat.le_refl _))
      clear hb5 HVX4 HVO
      go_wp2_with fail
      refine (HC.out _ _ HVX5.out).mono ?_
      rintro e w6 ⟨rfl, hb6⟩
      have HB6 := hide (HB5.out.trans (hb6.mono HB5.out.size))
      have HVX6 := hide (HVX5.out.stays hb6 (Nat.le_refl _))
      clear hb6 HVX5
      go_wp2_with fail
      refine (HY1.out _ HB6.out).mono ?_
      rintro e w7 ⟨vy, rfl, hy, hb7⟩
      have HVY := hide hy.vals
      have HB7 := hide (HB6.out.trans (hb7.mono HB6.out.size))
      have HVX7 := hide (HVX6.out.stays hb7 (Nat.le_refl _))
      clear hy hb7 HVX6
      go_wp2_with fail
      refine (HW1.out _ HB7.out).mono ?_
      rintro e w8 ⟨rfl, hb8⟩
      have HB8 := hide (HB7.out.trans (hb8.mono HB7.out.size))
      have HVX8 := hide (HVX7.out.stays hb8 (Nat.le_refl _))
      have HVY8 := hide (HVY.out.stays hb8 (Nat.le_refl _))
      clear hb8 HVX7 HVY
      go_wp2_with fail
      refine (HW2.out _ _ _ HVY8.out HVX8.out).mono ?_
      rintro e w9 ⟨rfl, hb9⟩
      have HB9 := hide (HB8.out.trans (hb9.mono HB8.out.size))
      clear hb9
      cases b1
      · go_wp2_with fail
        go_ret
        exact ⟨rfl, HB9.out⟩
      · have hb2 := HFIT.out rfl
        subst hb2
        go_wp2_with fail
        go_ret
        exact ⟨rfl, HB9.out⟩
    · rw [errV_bad hy] at HY
      obtain ⟨m, hm⟩ : ∃ m, m = lt.length := ⟨_, rfl⟩
      rw [← hm] at HO HS HX1 h5 ⊢
      generalize M.covL (M.numV 0) lt s = LX at HX1 HC
      generalize M.askR ll s = LY at HY
      generalize M.askE ll s = E at HY
      clear hf hsh hsl hsr he hy HX hm
      go_enter Tryd.func3, Tryd.ntmps3
      go_wp2_with fail
      refine (unhide HF).mono ?_
      rintro e w1 ⟨g, c, rfl, c1, c2, c3, hb1⟩
      have HB1 := hide hb1
      clear hb1
      go_wp2_with fail
      refine (HX1.out _ HB1.out).mono ?_
      rintro e w2 ⟨vx, rfl, hx, hb2⟩
      have HVX := hide hx.vals
      have HB2 := hide (HB1.out.trans (hb2.mono HB1.out.size))
      clear hx hb2 c1 c2 c3
      go_wp2_with (at_make; refine wpList_make_full _ rfl (.tmp 66) (.tmp 66) 23 rfl w2.heap.size 3 i0 (.int .i64 0) 1 Tryd.underlying23 HI.out.1 HI.out.2.1 HI.out.2.2.1 .i64 .i64 _ _ m rfl rfl rfl rfl (by rw [HI.out.2.2.2]; omega) (by unfold maxLen; omega) (Nat.le_refl _) ?_)
      intro w3 hown hgrow
      rw [toList_madeCells_one] at hown
      have hat : AtI w3 (some ⟨w2.heap.size, 0, none⟩) (List.replicate m 0) := by
        obtain ⟨a', c', hv, _, _, hat⟩ := atI_own (m := m) (l := List.replicate m 0) (by simp) (by rw [show cellsI (List.replicate m 0) = List.replicate m (.int .i64 0) by simp [cellsI]]; exact hown)
        cases hv
        exact hat
      have HAT := hide hat
      have hg3 : Below w2.heap.size w2 w3 := (Below.refl w2.heap.size w2).grown hgrow (Nat.le_refl _) (fun k hk => by cases hk)
      have HB3 := hide (HB2.out.trans (hg3.mono HB2.out.size))
      have HVX3 := hide (HVX.out.stays hg3 (Nat.le_refl _))
      clear hown hgrow hat hg3 HVX
      go_wp2_with fail
      refine (HO.out _ _ _ HB3.out HAT.out).mono ?_
      rintro e w4 ⟨vo, rfl, ho, hb4⟩
      have HVO := hide ho
      have HB4 := hide (HB3.out.trans (hb4.mono HB3.out.size))
      have HVX4 := hide (HVX3.out.stays hb4 (Nat.le_refl _))
      clear ho hb4 HVX3 HAT
      go_wp2_with fail
      refine (HS.out _ _ HB4.out HVO.out).mono ?_
      rintro e w5 ⟨rfl, hb5⟩
      have HB5 := hide (HB4.out.trans (hb5.mono HB4.out.size))
      have HVX5 := hide (HVX4.out.stays hb5 (Nat.le_refl _))
      clear hb5 HVX4 HVO
      go_wp2_with fail
      refine (HC.out _ _ HVX5.out).mono ?_
      rintro e w6 ⟨rfl, hb6⟩
      have HB6 := hide (HB5.out.trans (hb6.mono HB5.out.size))
      have HVX6 := hide (HVX5.out.stays hb6 (Nat.le_refl _))
      clear hb6 HVX5
      go_wp2_with fail
      refine (HY.out _ HB6.out).mono ?_
      rintro e w7 ⟨vy, rfl, hy, hb7⟩
      have HB7 := hide (HB6.out.trans (hb7.mono HB6.out.size))
      clear hy hb7 HVX6
      go_wp2_with fail
      go_ret
      exact ⟨rfl, HB7.out⟩
  · rw [errV_bad he] at HX
    generalize M.covR lt s = LX at HX
    generalize M.covE lt s = E at HX
    clear he
    generalize lt.length = m at *
    go_enter Tryd.func3, Tryd.ntmps3
    go_wp2_with fail
    refine (unhide HF).mono ?_
    rintro e w1 ⟨g, c, rfl, c1, c2, c3, hb1⟩
    have HB1 := hide hb1
    clear hb1
    go_wp2_with fail
    refine (HX.out _ HB1.out).mono ?_
    rintro e w2 ⟨vx, rfl, hx, hb2⟩
    have HB2 := hide (HB1.out.trans (hb2.mono HB1.out.size))
    clear hx hb2 c1 c2 c3
    go_wp2_with fail
    go_ret
    exact ⟨rfl, HB2.out⟩

end Go.Proofs.YtlefhfmckimlaagDoor.coverFinds
