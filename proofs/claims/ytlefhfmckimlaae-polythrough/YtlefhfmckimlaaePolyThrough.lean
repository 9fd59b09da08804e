/-
  The walk of the Go function PolyThrough: it returns true, whatever comes in.
-/
import Derived.Test.YtlefhfmckimlaaePolyAt3
import Derived.Test.YtlefhfmckimlaaePolyNext
import Derived.Test.YtlefhfmckimlaaePolyOwn
set_option linter.unusedVariables false
namespace Go.Proofs.Ytlefhfmckimlaae.polyThrough
open Go.RowKit

theorem fact_pts : M.ptsE [(1, 5), (2, 7)] = 0 := by decide +kernel
theorem fact_is : M.nxR [(1, 5), (2, 7)] 0 = 3 := by decide +kernel
theorem atP_two {w : World} {B : Nat} {a b c d : Int} (h0 : w.cell? ⟨B, 0, none⟩ = some (.int .i64 a)) (h1 : w.cell? ⟨B, 1, none⟩ = some (.int .i64 b)) (h2 : w.cell? ⟨B, 2, none⟩ = some (.int .i64 c)) (h3 : w.cell? ⟨B, 3, none⟩ = some (.int .i64 d)) : AtP w (some ⟨B, 0, none⟩) [(a, b), (c, d)] := fun _ => ⟨B, 0, rfl, fun i hi => by
  rcases (by simp at hi; omega : i = 0 ∨ i = 1) with rfl | rfl
  · exact ⟨by simpa using h0, by simpa using h1⟩
  · exact ⟨by simpa using h2, by simpa using h3⟩⟩

/-- what is known of the points that were put together -/
def Good (p : List Int) (L : List (Int × Int)) : Prop := ∀ i (h : i < L.length), L[i].2 = M.ev p L[i].1 ∧ M.facE p = 0
theorem Good.nil (p : List Int) : Good p [] := fun i h => by simp at h
theorem Good.snoc {p : List Int} {L : List (Int × Int)} (h : Good p L) {z : Int} (hz : M.atE p z = 0) : Good p (L ++ [(z, M.atR p z)]) := fun i hi => by
  rcases Nat.lt_or_ge i L.length with g | g
  · rw [List.getElem_append_left g]; exact h i g
  · have e : i = L.length := by rw [List.length_append] at hi; simp at hi; omega
    subst e
    rw [List.getElem_append_right (Nat.le_refl _)]
    simp only [Nat.sub_self, List.getElem_cons_zero]
    exact ⟨M.atR_ok hz, (M.atE_ok hz).1⟩
/-- as many points as factors tell it all -/
theorem Good.all {p : List Int} {L : List (Int × Int)} (h : Good p L) {x : Int} (hx : M.nxE L x = 0) (hl : p.length ≤ L.length) : M.atE p x = 0 ∧ M.atR p x = M.nxR L x := by
  obtain ⟨h1, h2⟩ := M.nxE_ok hx
  obtain ⟨h3, h4, h5⟩ := M.ptsE_ok h1
  have e := M.atE_0 (h 0 h3).2 h2
  exact ⟨e, by rw [M.atR_ok e, M.nxR_ok hx, M.next_ev h5 h3 p hl (fun i hi => (h i hi).1)]⟩
theorem through {l : List (Int × Int)} (h : M.ptsE l = 0) {i : Nat} (hi : i < l.length) : M.nxE l l[i].1 = 0 ∧ M.nxR l l[i].1 = l[i].2 := by
  obtain ⟨_, _, h5⟩ := M.ptsE_ok h
  have e := M.nxE_0 h (M.inR_mk (h5.1 i hi).1.1 (h5.1 i hi).1.2)
  exact ⟨e, by rw [M.nxR_ok e, M.next_at h5 hi]⟩

set_option maxRecDepth 100000 in
set_option maxHeartbeats 4000000 in
theorem walk (ap aa al : Option Addr) (np cp na ca nl cl : Nat) (p ats : List Int) (x : Int) (l : List (Int × Int)) (w : World) (hnp : np = p.length) (hmp : np ≤ maxLen) (hp : AtI w ap p) (hna : na = ats.length) (hma : na ≤ maxLen) (ha : AtI w aa ats) (hnl : nl = l.length) (hnc : nl ≤ cl) (hml : cl ≤ maxLen) (hl : AtP w al l) :
    Calls Try.prog 3 #[.slice ap np cp, .slice aa na ca, .int .i64 x, .slice al nl cl] w fun e w' => e = .returned (.bool true) ∧ Below w.heap.size w w' := by
  obtain ⟨i0, hi, hz0, hz1, hz2⟩ := info_parts infoP
  have HI := hide (And.intro hi (And.intro hz0 (And.intro hz1 hz2)))
  clear hi hz0 hz1 hz2
  have HZ0 : Hid (∀ (wx : World) (B : Nat), wx.cell? ⟨B, 0, none⟩ = some (.int .i64 1) → wx.cell? ⟨B, 1, none⟩ = some (.int .i64 5) → wx.cell? ⟨B, 2, none⟩ = some (.int .i64 2) → wx.cell? ⟨B, 3, none⟩ = some (.int .i64 7) → Calls Try.prog 7 #[.slice (some ⟨B, 0, none⟩) 2 2] wx fun e w' => e = .returned (.tuple #[.int .i64 3, .nilIface]) ∧ Below wx.heap.size wx w') := hide fun wx B h0 h1 h2 h3 => by
    have := pZero (some ⟨B, 0, none⟩) 2 2 _ wx rfl (Nat.le_refl _) (by decide) (atP_two h0 h1 h2 h3)
    rwa [fact_is, fact_pts] at this
  have HAT : Hid (∀ (z : Int) (wx : World), Below w.heap.size w wx → Calls Try.prog 8 #[.slice ap np cp, .int .i64 z] wx fun e w' => e = .returned (.tuple #[.int .i64 (M.atR p z), errV (M.atE p z)]) ∧ Below wx.heap.size wx w') := hide fun z wx hb => pAt ap np cp p z wx hnp hmp (hp.stays hb (Nat.le_refl _))
  have HZL : Hid (∀ (wx : World), Below w.heap.size w wx → Calls Try.prog 7 #[.slice al nl cl] wx fun e w' => e = .returned (.tuple #[.int .i64 (M.nxR l 0), errV (M.ptsE l)]) ∧ Below wx.heap.size wx w') := hide fun wx hb => pZero al nl cl l wx hnl hnc hml (hl.stays hb (Nat.le_refl _))
  have HNL : Hid (∀ (z : Int) (wx : World), Below w.heap.size w wx → Calls Try.prog 9 #[.slice al nl cl, .int .i64 z] wx fun e w' => e = .returned (.tuple #[.int .i64 (M.nxR l z), errV (M.nxE l z)]) ∧ Below wx.heap.size wx w') := hide fun z wx hb => pNext al nl cl l z wx hnl hnc hml (hl.stays hb (Nat.le_refl _))
  have HA := hide ha
  have HL := hide hl
  have HNP := hide hnp
  have HNA := hide hna
  have HNLL := hide hnl
  unfold maxLen at hmp hma hml
  clear hp ha hl hnp hna hnl
  go_enter Try.func3, Try.ntmps3
  go_wp2_with fail
  refine (HZ0.out _ _ (by simp [go_sem]) (by simp [go_sem]) (by simp [go_sem]) (by simp [go_sem])).mono ?_
  rintro e w1 ⟨rfl, hb1⟩
  have HB1 : Hid (Below w.heap.size w w1) := hide (((Below.refl w.heap.size w).alloc (Nat.le_refl _) _).trans (hb1.mono (by simp)))
  clear hb1 HZ0
  go_wp2_with fail
  go_loopw [11, 12] (fun sv si wr => ∃ (v : Value) (k m : Nat) (L : List (Int × Int)), v = sv ∧ si = .int .i64 k ∧ k ≤ 7 ∧ m ≤ k ∧ Hid (m = L.length) ∧ Hid (wr.ownsRow w.heap.size 29 2 v m (flatP L)) ∧ Hid (Good p L) ∧ Hid (Below w.heap.size w wr)) (fun _ si _ => 7 - (intOf si).toNat)
  case atStart => exact ⟨_, 0, 0, [], rfl, rfl, by decide, Nat.le_refl _, hide rfl, hide (World.ownsRow_nil _ _ _ _), hide (Good.nil p), HB1⟩
  case round =>
    obtain ⟨v, k, m, L, rfl, rfl, hk, hmk, hm, hown, hgood, hbel⟩ := hrel
    by_cases hlt : k < na ∧ k < 7
    · obtain ⟨hka, hk7⟩ := hlt
      have hkl : k < ats.length := by have := HNA.out; omega
      have ik1 : (k : Int) < (na : Int) := by omega
      have ik2 : (k : Int) < 7 := by omega
      obtain ⟨ba, offa, rfl, hlie⟩ := HA.out (by omega)
      have hz := hlie k hkl
      have hbw : ba < w.heap.size := World.block_lt_of_cell? w _ hz
      generalize ats[k] = z at hz
      have HCZ : Hid (∀ wx, Below w.heap.size w wx → wx.cell? ⟨ba, offa + k, none⟩ = some (.int .i64 z)) := hide fun wx hb => (hb.cell (p := ⟨ba, offa + k, none⟩) hbw).trans hz
      have cz := HCZ.out wr hbel.out
      clear hlie hz
      by_cases hE : M.atE p z = 0
      · have HC : Hid (∀ wx : World, Below w.heap.size w wx → Calls Try.prog 8 #[.slice ap np cp, .int .i64 z] wx fun e w' => e = .returned (.tuple #[.int .i64 (M.atR p z), .nilIface]) ∧ Below wx.heap.size wx w') := hide fun wx hb => by have := HAT.out z wx hb; rwa [hE] at this
        have HG := hide (hgood.out.snoc hE)
        generalize M.atR p z = r at HC HG
        clear hE
        go_wp2_with fail
        refine (HC.out _ hbel.out).mono ?_
        rintro e w2 ⟨rfl, hb2⟩
        have HB2 := hide (hbel.out.trans (hb2.mono hbel.out.size))
        have hz2 : w.heap.size ≤ w2.heap.size := HB2.out.size
        have cz2 := HCZ.out w2 HB2.out
        have HROW : Hid ((w2.alloc (.cells #[.int .i64 z, .int .i64 r] 29)).ownsRow w.heap.size 29 2 v m (flatP L)) := hide ((row_stays hown.out hb2).alloc _)
        have HNEW : Hid (∀ j u, [Value.int .i64 z, .int .i64 r][j]? = some u → (w2.alloc (.cells #[.int .i64 z, .int .i64 r] 29)).cell? ((⟨w2.heap.size, 0, none⟩ : Addr).add j) = some u) := hide (World.news_of_block (World.alloc_heap_new w2 _))
        clear hb2 cz
        go_wp2_with (at_builtin; (refine wpList_append_own _ rfl (.tmp 56) (.tmp 63) 23 rfl w.heap.size 29 i0 (.agg #[.int .i64 0, .int .i64 0]) 2 16 Try.underlying23 HI.out.1 HI.out.2.1 HI.out.2.2.1 HI.out.2.2.2 rfl (by decide) v m (flatP L) rfl HROW.out ⟨w2.heap.size, 0, none⟩ 1 1 [.int .i64 z, .int .i64 r] rfl rfl HNEW.out (flatP_oneCell [(z, r)]) (by unfold maxLen; omega) (by omega) (Nat.le_trans hz2 (by simp)) ?_))
        intro v' w3 hown' hgrow _
        have HO := hide hown'
        have HB3 := hide ((HB2.out.alloc hz2 _).grown hgrow (Nat.le_trans hz2 (by simp)) (fun j hj => (HROW.out.lt j hj).1))
        clear hown' hgrow
        go_wp2
        go_roundw
        case rel => exact ⟨_, k + 1, m + 1, L ++ [(z, r)], rfl, by go_num, by omega, by omega, hide (by rw [List.length_append, ← hm.out]; rfl), hide (by rw [flatP_append]; exact HO.out), HG, HB3⟩
        case measure => simp [intOf]; omega
      · have HC : Hid (∀ wx : World, Below w.heap.size w wx → Calls Try.prog 8 #[.slice ap np cp, .int .i64 z] wx fun e w' => e = .returned (.tuple #[.int .i64 (M.atR p z), .iface 39 (.int .i64 (M.atE p z))]) ∧ Below wx.heap.size wx w') := hide fun wx hb => by have := HAT.out z wx hb; rwa [errV_bad hE] at this
        generalize M.atR p z = r at HC
        generalize M.atE p z = E at HC
        clear hE
        go_wp2_with fail
        refine (HC.out _ hbel.out).mono ?_
        rintro e w2 ⟨rfl, hb2⟩
        have HB2 := hide (hbel.out.trans (hb2.mono hbel.out.size))
        have HROW := hide (row_stays hown.out hb2)
        clear hb2 cz
        go_wp2_with fail
        go_roundw
        case rel => exact ⟨_, k + 1, m, L, rfl, by go_num, by omega, by omega, hm, HROW, hgood, HB2⟩
        case measure => simp [intOf]; omega
    · have hq : ¬ (k : Int) < (na : Int) ∨ ((k : Int) < (na : Int) ∧ ¬ (k : Int) < 7) := by omega
      obtain ⟨av, cv, rfl, hcv1, hcv2, hav⟩ := atP_own hm.out hown.out
      unfold maxLen at hcv2
      have HNX := hide (pNext av m cv L x wr hm.out hcv1 (by unfold maxLen; omega) hav)
      have HALL : Hid (M.nxE L x = 0 → np ≤ m → M.atE p x = 0 ∧ M.atR p x = M.nxR L x) := hide fun h1 h2 => hgood.out.all h1 (by have := HNP.out; have := hm.out; omega)
      clear hav hlt hown hgood hm
      rcases hq with hq | ⟨hq1, hq2⟩
      all_goals
        go_wp2_with fail
        have hc : (M.nxE L x = 0 ∧ np ≤ m) ∨ (M.nxE L x = 0 ∧ ¬ np ≤ m) ∨ M.nxE L x ≠ 0 := by
          by_cases h1 : M.nxE L x = 0 <;> by_cases h2 : np ≤ m <;> simp [h1, h2]
        rcases hc with ⟨h1, h2⟩ | ⟨h1, h2⟩ | h1
        all_goals first
         | (
          have HC := hide (HALL.out h1 h2)
          have HN1 : Hid (Calls Try.prog 9 #[.slice av m cv, .int .i64 x] wr fun e w' => e = .returned (.tuple #[.int .i64 (M.nxR L x), .nilIface]) ∧ Below wr.heap.size wr w') := hide (by have := HNX.out; rwa [h1] at this)
          have HA1 : Hid (∀ wx : World, Below w.heap.size w wx → Calls Try.prog 8 #[.slice ap np cp, .int .i64 x] wx fun e w' => e = .returned (.tuple #[.int .i64 (M.nxR L x), .nilIface]) ∧ Below wx.heap.size wx w') := hide fun wx hb => by have := HAT.out x wx hb; rwa [HC.out.1, HC.out.2] at this
          have h2' : (np : Int) ≤ (m : Int) := by omega
          generalize M.nxR L x = r at HN1 HA1
          clear h1 h2 HC HNX HALL
          refine (unhide HN1).mono ?_
          rintro e w2 ⟨rfl, hb2⟩
          have HB2 := hide (hbel.out.trans (hb2.mono hbel.out.size))
          clear hb2
          go_wp2_with fail
          refine (HA1.out _ HB2.out).mono ?_
          rintro e w4 ⟨rfl, hb4⟩
          have HBX := hide (HB2.out.trans (hb4.mono HB2.out.size))
          clear hb4 HB2 HN1 HA1)
         | (
          have HN1 : Hid (Calls Try.prog 9 #[.slice av m cv, .int .i64 x] wr fun e w' => e = .returned (.tuple #[.int .i64 (M.nxR L x), .nilIface]) ∧ Below wr.heap.size wr w') := hide (by have := HNX.out; rwa [h1] at this)
          have h2' : ¬ (np : Int) ≤ (m : Int) := by omega
          generalize M.nxR L x = r at HN1
          clear h1 h2 HNX HALL
          refine (unhide HN1).mono ?_
          rintro e w4 ⟨rfl, hb4⟩
          have HBX := hide (hbel.out.trans (hb4.mono hbel.out.size))
          clear hb4 HN1)
         | (
          have HN1 : Hid (Calls Try.prog 9 #[.slice av m cv, .int .i64 x] wr fun e w' => e = .returned (.tuple #[.int .i64 (M.nxR L x), .iface 39 (.int .i64 (M.nxE L x))]) ∧ Below wr.heap.size wr w') := hide (by have := HNX.out; rwa [errV_bad h1] at this)
          generalize M.nxR L x = r at HN1
          generalize M.nxE L x = E at HN1
          clear h1 HNX HALL
          refine (unhide HN1).mono ?_
          rintro e w4 ⟨rfl, hb4⟩
          have HBX := hide (hbel.out.trans (hb4.mono hbel.out.size))
          clear hb4 HN1)
        all_goals
          clear hbel
          go_wp2_with fail
          by_cases hz : M.ptsE l = 0
          · have HZ1 : Hid (∀ (wx : World), Below w.heap.size w wx → Calls Try.prog 7 #[.slice al nl cl] wx fun e w' => e = .returned (.tuple #[.int .i64 (M.nxR l 0), .nilIface]) ∧ Below wx.heap.size wx w') := hide fun wx hb => by have := HZL.out wx hb; rwa [hz] at this
            have HZ := hide hz
            clear hz
            refine (HZ1.out _ HBX.out).mono ?_
            rintro e w5 ⟨rfl, hb5⟩
            have HB5 := hide (HBX.out.trans (hb5.mono HBX.out.size))
            clear hb5 HBX HZ1
            go_wp2_with fail
            go_loopw [19] (fun si wy => ∃ j : Nat, si = .int .i64 j ∧ j ≤ nl ∧ Hid (Below w.heap.size w wy)) (fun si _ => nl - (intOf si).toNat)
            case atStart => exact ⟨0, rfl, Nat.zero_le _, HB5⟩
            case round =>
              obtain ⟨j, rfl, hj, hby⟩ := hrel
              by_cases hjl : j < nl
              · have hjl' : j < l.length := by have := HNLL.out; omega
                obtain ⟨bl, offl, rfl, hlie⟩ := HL.out (by omega)
                have hcl := hlie j hjl'
                have hth := through HZ.out hjl'
                have HNJ := HNL.out l[j].1
                rw [hth.1, hth.2] at HNJ
                have HNJ' := hide HNJ
                generalize l[j].1 = ja at hcl HNJ'
                generalize l[j].2 = jb at hcl HNJ'
                have HCJ : Hid (∀ wx, Below w.heap.size w wx → wx.cell? ⟨bl, offl + j * 2, none⟩ = some (.int .i64 ja) ∧ wx.cell? ⟨bl, offl + j * 2 + 1, none⟩ = some (.int .i64 jb)) := hide fun wx hb => ⟨(hb.cell (p := ⟨bl, offl + j * 2, none⟩) (World.block_lt_of_cell? w _ hcl.1)).trans hcl.1, (hb.cell (p := ⟨bl, offl + j * 2 + 1, none⟩) (World.block_lt_of_cell? w _ hcl.2)).trans hcl.2⟩
                obtain ⟨d1, d2⟩ := HCJ.out _ hby.out
                clear hlie hcl hth HNJ
                go_wp2_with fail
                refine (HNJ'.out _ hby.out).mono ?_
                rintro e w6 ⟨rfl, hb6⟩
                have HB6 := hide (hby.out.trans (hb6.mono hby.out.size))
                obtain ⟨d3, d4⟩ := HCJ.out _ HB6.out
                clear hb6 d1 d2
                rw [errV_0]
                go_wp2_with fail
                go_roundw
                case rel => exact ⟨j + 1, by go_num, by omega, HB6⟩
                case measure => simp [intOf]; omega
              · go_wp2_with fail
                go_ret
                exact ⟨rfl, hby.out⟩
          · have HZ1 : Hid (∀ (wx : World), Below w.heap.size w wx → Calls Try.prog 7 #[.slice al nl cl] wx fun e w' => e = .returned (.tuple #[.int .i64 (M.nxR l 0), .iface 39 (.int .i64 (M.ptsE l))]) ∧ Below wx.heap.size wx w') := hide fun wx hb => by have := HZL.out wx hb; rwa [errV_bad hz] at this
            clear hz
            refine (HZ1.out _ HBX.out).mono ?_
            rintro e w5 ⟨rfl, hb5⟩
            go_wp2_with fail
            go_ret
            exact ⟨rfl, HBX.out.trans (hb5.mono HBX.out.size)⟩

end Go.Proofs.Ytlefhfmckimlaae.polyThrough
