/-
  What deal of package run does with its words, as one law of its call.
-/
import Derived.Test.YtlefhfmckimlaakGreatDoorRunDesk
import Derived.Test.YtlefhfmckimlaakGreatDoorShareDeal2
set_option linter.unusedVariables false
namespace Go.Proofs.YtlefhfmckimlaakGreatDoor
open Go.RowKit

theorem itoa_dig {n : Int} (h : 0 ≤ n) : Lib.itoa n = Lib.decDigits n.toNat := by rw [Lib.itoa, if_neg (by omega)]
theorem M.blanks_join : ∀ (l : List Int), (∀ n ∈ l, 0 ≤ n) → Lib.join (l.map Lib.itoa) [32] = M.blanks l
  | [], _ => rfl
  | [n], h => by
    rw [List.map_cons, List.map_nil, Lib.join_one, itoa_dig (h n (by simp))]
    rfl
  | n :: m :: r, h => by
    have ih := M.blanks_join (m :: r) (fun x hx => h x (by simp [hx]))
    have e : Lib.join ((n :: m :: r).map Lib.itoa) [32] = Lib.itoa n ++ 32 :: Lib.join ((m :: r).map Lib.itoa) [32] := by
      simp [Lib.join, List.intercalate]
    rw [e, ih, itoa_dig (h n (by simp))]
    rfl
theorem M.first_range {f : Nat → Int} (h : ∀ i, 0 ≤ f i ∧ f i ≤ 8) : ∀ n, 0 ≤ M.first f n ∧ M.first f n ≤ 8
  | 0 => by simp [M.first]
  | n + 1 => by
    have h1 := M.first_range h n
    have h2 := h n
    unfold M.first
    split
    · exact h1
    · exact h2
theorem M.dealE_range (s r m : Int) : 0 ≤ M.dealE s [r] m ∧ M.dealE s [r] m ≤ 8 := by
  have hf : ∀ i, 0 ≤ M.facF [r] i ∧ M.facF [r] i ≤ 8 := fun i => by
    unfold M.facF
    split <;> omega
  have := M.first_range hf [r].length
  unfold M.dealE M.secE
  repeat' split
  all_goals omega

/-- three words that are numbers -/
theorem num3 {b off cap : Nat} {s t u : ByteArray} {w : World} (hl : Wds w b off [s, t, u]) (hz : ∀ x ∈ [s, t, u], x.size ≤ 3000) (hv : Env w) (hs : M.numB s.data.toList = true) (ht : M.numB t.data.toList = true) (hu : M.numB u.data.toList = true) :
    Calls Tryz.prog 147 #[.slice (some ⟨b, off, none⟩) 3 cap] w fun e w' => ∃ g c, e = .returned (.tuple #[.slice (some ⟨g, 0, none⟩) 3 (c + 3), .nilIface]) ∧ c + 3 ≤ maxLen ∧ w'.cell? ⟨g, 0, none⟩ = some (.int .i64 (M.numI s.data.toList)) ∧ w'.cell? ⟨g, 1, none⟩ = some (.int .i64 (M.numI t.data.toList)) ∧ w'.cell? ⟨g, 2, none⟩ = some (.int .i64 (M.numI u.data.toList)) ∧ Below w.heap.size w w' := by
  refine (rNumbers b off cap 3 [s, t, u] w rfl (by decide) hl hz hv).mono ?_
  rintro e w' ⟨⟨n, rfl, s', hs', hbad⟩ | ⟨ao, c, rfl, _, hrow⟩, hb⟩
  · simp only [List.mem_cons, List.not_mem_nil, or_false] at hs'
    rcases hs' with rfl | rfl | rfl
    · rw [hs] at hbad; cases hbad
    · rw [ht] at hbad; cases hbad
    · rw [hu] at hbad; cases hbad
  · rcases hrow.2 with ⟨h1, _⟩ | ⟨g, cp, cur, h1, hg, hh, hc1, hc2, hc3, hc4⟩
    · cases h1
    · cases h1
      obtain ⟨c, rfl⟩ : ∃ d, c = d + 3 := ⟨c - 3, by omega⟩
      refine ⟨g, c, rfl, hc2, ?_, ?_, ?_, hb⟩
      · rw [hrow.cellAt 0 (by decide)]; rfl
      · rw [hrow.cellAt 1 (by decide)]; rfl
      · rw [hrow.cellAt 2 (by decide)]; rfl

theorem one_at {w : World} {g : Nat} {a : Int} (hc : w.cell? ⟨g, 1, none⟩ = some (.int .i64 a)) : LieI w g 1 [a] := fun i hi => by
  have : i = 0 := by simp at hi; omega
  subst this
  exact hc

section
variable {base D S b off cap : Nat} {w : World} {s t u : ByteArray}
/-- the texts of numbers -/
def txts (l : List Int) : List ByteArray := l.map fun n => ⟨(Lib.itoa n).toArray⟩
def txtV (l : List Int) : List Value := (txts l).map Value.string
theorem infoStr : (Tryz.prog.info? 9).map (fun i => (i.zero, i.size, i.bytes)) = some (some (.string ⟨#[]⟩), 1, 16) := by kernel_rfl
theorem txtV_take {l : List Int} {k : Nat} (h : k < l.length) : txtV (l.take (k + 1)) = txtV (l.take k) ++ [.string ⟨(Lib.itoa l[k]).toArray⟩] := by
  unfold txtV txts
  rw [List.take_succ_eq_append_getElem h, List.map_append, List.map_append]
  rfl
theorem txts_join (l : List Int) (h : ∀ n ∈ l, 0 ≤ n) : Lib.join ((txts l).map (·.data.toList)) (⟨#[32]⟩ : ByteArray).data.toList = M.blanks l := by
  rw [← M.blanks_join l h]
  unfold txts
  rw [List.map_map]
  rfl

set_option maxRecDepth 100000 in
set_option maxHeartbeats 2000000 in
theorem dDeal (hl : Wds w b off [s, t, u]) (hz : ∀ x ∈ [s, t, u], x.size ≤ 3000) (hv : Env w) :
    Calls Tryz.prog 111 #[.pointer (some ⟨D, 0, none⟩), .slice (some ⟨b, off, none⟩) 3 cap] w fun e w' => (∃ r, e = .returned r ∧ Out (M.three1 s.data.toList t.data.toList u.data.toList) r) ∧ Below w.heap.size w w' := by
  have HV := hide hv
  by_cases hok : M.numB s.data.toList = true ∧ M.numB t.data.toList = true ∧ M.numB u.data.toList = true
  · have HN := hide (num3 (cap := cap) hl hz hv hok.1 hok.2.1 hok.2.2)
    have e1 : M.three1 s.data.toList t.data.toList u.data.toList = M.dealT (M.numI s.data.toList) (M.numI t.data.toList) (M.numI u.data.toList) := if_pos hok
    rw [e1]
    generalize M.numI s.data.toList = a1 at *
    generalize M.numI t.data.toList = a2 at *
    generalize M.numI u.data.toList = a3 at *
    clear hl hz hv hok e1
    have HD : Hid (∀ wx g c, wx.cell? ⟨g, 1, none⟩ = some (.int .i64 a2) → Calls Tryz.prog 148 #[.int .i64 a1, .slice (some ⟨g, 1, none⟩) 1 c, .int .i64 a3] wx fun e w' => (∃ v k c, e = .returned (.tuple #[.slice v k c, errV (M.dealE a1 [a2] a3)]) ∧ k = (M.dealR a1 [a2] a3).length ∧ k ≤ c ∧ c ≤ maxLen ∧ AtP w' v (M.dealR a1 [a2] a3)) ∧ Below wx.heap.size wx w') := hide fun wx g c hc =>
      sDeal a1 (some ⟨g, 1, none⟩) 1 c [a2] a3 wx rfl (by unfold maxLen; decide) (fun _ => ⟨g, 1, rfl, one_at hc⟩) (fun e => by cases e)
    by_cases hE : M.dealE a1 [a2] a3 = 0
    · obtain ⟨hd1, hd2⟩ := M.deal_small hE
      have hd3 : 0 < (M.dealR a1 [a2] a3).length := by
        obtain ⟨_, _, _, hm, _⟩ := M.dealE_ok hE
        rw [M.dealR_ok hE, M.deal_len]
        omega
      have e1 : M.dealT a1 a2 a3 = M.blanks ((M.dealR a1 [a2] a3).map (·.2)) := if_neg (by simpa using hE)
      rw [e1]
      rw [hE, show errV 0 = .nilIface from rfl] at HD
      generalize M.dealR a1 [a2] a3 = R at *
      have HR := hide hd2
      clear hE e1 hd2
      obtain ⟨i0, hi, hz0, hz1, hz2⟩ := info_parts infoStr
      have HI := hide (And.intro hi (And.intro hz0 (And.intro hz1 hz2)))
      clear hi hz0 hz1 hz2
      go_enter Tryz.func111, Tryz.ntmps111
      go_wp2_with fail
      refine (unhide HN).mono ?_
      rintro e w1 ⟨g, c, rfl, hcm, c0, c1, c2, hb1⟩
      have HB1 := hide hb1
      have gn := World.block_lt_of_cell? _ _ c0
      unfold maxLen at hcm
      have q2 : (2 : Int) ≤ (c : Int) + 3 := by omega
      clear hb1
      dsimp only
      go_wp2_with fail
      go_region_held3 (fun w' => w'.cell? ⟨g, 0, none⟩ = some (.int .i64 a1) ∧ w'.cell? ⟨g, 1, none⟩ = some (.int .i64 a2) ∧ w'.cell? ⟨g, 2, none⟩ = some (.int .i64 a3)) (first | go_keep | assumption)
        (first
          | (go_at_call 148; refine (HD.out _ g _ (by first | assumption | exact c1)).mono ?_; rintro e w2 ⟨⟨v2, k2, cc, rfl, hk2, hk3, hk4, hat⟩, hb2⟩; have HB2 := hide ((HB1.out.drew).trans (hb2.mono HB1.out.size)); have HAT := hide hat; have z0 : w2.cell? ⟨g, 0, none⟩ = some (.int .i64 a1) := (hb2.cell (p := ⟨g, 0, none⟩) gn).trans c0; have z1 : w2.cell? ⟨g, 1, none⟩ = some (.int .i64 a2) := (hb2.cell (p := ⟨g, 1, none⟩) gn).trans c1; have z2 : w2.cell? ⟨g, 2, none⟩ = some (.int .i64 a3) := (hb2.cell (p := ⟨g, 2, none⟩) gn).trans c2; clear hat hb2))
      go_wp2_with fail
      obtain ⟨b2, o2, rfl, hat⟩ := HAT.out (by omega)
      subst hk2
      have HL := hide hat
      have HLEN : Hid ((R.map (·.2)).length = R.length) := hide (by rw [List.length_map])
      have hk7 : R.length ≤ 7 := by omega
      have hk0 : 0 < R.length := by omega
      clear hat HAT hk3 hk4 hd1 hd3 c0 c1 c2 z0 z1 z2 gn hcm q2
      go_loopw [9, 37] (fun sv si wr => ∃ (ao : Option Addr) (c k : Nat), sv = .slice ao k c ∧ si = .int .i64 k ∧ k ≤ R.length ∧ Hid (wr.ownsRow w2.heap.size 9 1 (.slice ao k c) k (txtV ((R.map (·.2)).take k))) ∧ Hid (Below w2.heap.size w2 wr)) (fun _ si _ => R.length - (intOf si).toNat)
      case atStart => exact ⟨none, 0, 0, rfl, rfl, Nat.zero_le _, hide (World.ownsRow_nil _ _ _ _), hide (Below.refl _ _)⟩
      case round =>
        obtain ⟨ao, c3, k, rfl, rfl, hk, HROW, HB⟩ := hrel
        have hsz2 := HB.out.size
        have hsz := Nat.le_trans HB2.out.size hsz2
        have k0 : (0 : Int) ≤ (k : Int) := by omega
        by_cases hlt : k < R.length
        · have k1 : (k : Int) < (R.length : Int) := by omega
          have hkR : k < R.length := by have := HLEN.out; rw [List.length_map] at this; omega
          have hkM : k < (R.map (·.2)).length := by rw [HLEN.out]; exact hlt
          obtain ⟨g1, g2⟩ := (HL.out.stays HB.out (Nat.le_refl _)) k hkR
          have hb2 := World.block_lt_of_cell? _ _ g1
          have HTX : Hid (txtV ((R.map (·.2)).take (k + 1)) = txtV ((R.map (·.2)).take k) ++ [.string ⟨(Lib.itoa R[k].2).toArray⟩]) := hide (by rw [txtV_take hkM, List.getElem_map])
          have hrg := HR.out R[k].2 (List.mem_map.2 ⟨R[k], List.getElem_mem hkR, rfl⟩)
          generalize R[k].1 = p1 at *
          generalize R[k].2 = p2 at *
          have HIT : Hid (∀ wx, Below wr.heap.size wr wx → Calls Tryz.prog 82 #[.int .i64 p2] wx fun e w' => e = .returned (.string ⟨(Lib.itoa p2).toArray⟩) ∧ Below wx.heap.size wx w') := hide fun wx hb => itoaB p2 wx (by omega) (by omega) (HV.out.stays (HB2.out.trans ((HB.out.trans (hb.mono hsz2)).mono HB2.out.size)) (Nat.le_refl _)).tab
          have HBO : Hid (∀ o, Below wr.heap.size wr (wr.alloc o)) := hide fun o => (Below.refl _ _).alloc (Nat.le_refl _) o
          clear hrg
          generalize (⟨(Lib.itoa p2).toArray⟩ : ByteArray) = z at *
          go_wp2_with fail
          refine (HIT.out _ (HBO.out _)).mono ?_
          rintro e w4 ⟨rfl, hb4⟩
          have HB4 := hide ((HBO.out _).trans (hb4.mono (by simp)))
          have hsz4 := HB4.out.size
          have HX := hide ((owns_below HROW.out HB4.out).alloc (.cells #[.string z] 9))
          have HNEW : Hid (∀ j u, [Value.string z][j]? = some u → (w4.alloc (.cells #[.string z] 9)).cell? ((⟨w4.heap.size, 0, none⟩ : Addr).add j) = some u) := hide (World.news_of_block (heap_alloc_new w4 _))
          have HBW := hide (HB.out.trans (HB4.out.mono hsz2))
          have hsw := HB2.out.size
          clear hb4
          dsimp only
          go_wp2_with (at_builtin; (refine wpList_append_own _ rfl (.tmp 41) (.tmp 45) 70 rfl w2.heap.size 9 i0 (.string ⟨#[]⟩) 1 16 Tryz.underlying70 HI.out.1 HI.out.2.1 HI.out.2.2.1 HI.out.2.2.2 rfl (by decide) (.slice ao k c3) k _ rfl HX.out ⟨w4.heap.size, 0, none⟩ 1 1 [.string z] rfl rfl HNEW.out (by simp [Value.oneCell']) (by unfold maxLen; omega) (by omega) (by simp; omega) ?_))
          intro v' w5 hown' hgrow _
          obtain ⟨a5, c5, rfl⟩ := slice_own hown'
          have HR5 : Hid (w5.ownsRow w2.heap.size 9 1 (.slice a5 (k + 1) c5) (k + 1) (txtV ((R.map (·.2)).take (k + 1)))) := hide (by rw [HTX.out]; exact hown')
          have HB5 := hide ((HBW.out.alloc (by omega) (.cells #[.string z] 9)).grown hgrow (by simp; omega) (fun j hj => (HX.out.lt j hj).1))
          clear hown' hgrow
          go_wp2_with fail
          go_roundw
          case rel => exact ⟨a5, c5, k + 1, rfl, by go_num, by omega, HR5, HB5⟩
          case measure => simp [intOf]; omega
        · have hkn : k = R.length := by omega
          have k1 : ¬ (k : Int) < (R.length : Int) := by omega
          have e2 : (R.map (·.2)).take k = R.map (·.2) := List.take_of_length_le (by have := HLEN.out; omega)
          rw [e2] at HROW
          have hxl : (txts (R.map (·.2))).length = k := by unfold txts; rw [List.length_map, HLEN.out]; exact hkn.symm
          obtain ⟨g, cp, hform, _⟩ := HROW.out.form (by omega)
          cases hform
          have hgl := HROW.out.lt g rfl
          have hcp : k ≤ c3 := by
            rcases HROW.out.2 with ⟨h1, _⟩ | ⟨g', cp', cur, h1, hg, hh, hc1, _⟩
            · cases h1
            · cases h1; exact hc1
          have HJ := hide (by
            have h := Tryz.strings_Join g 0 c3 (txts (R.map (·.2))) ⟨#[32]⟩ wr (fun j x hj => by
              have hj2 : j < k := by
                have := (List.getElem?_eq_some_iff.1 hj).1
                omega
              rw [Nat.zero_add, HROW.out.cellAt j (by omega)]
              unfold txtV
              rw [List.getElem?_map, hj]
              rfl) hgl.2 (by omega) (by omega) (by
                rw [txts_join _ (fun n hn => (HR.out n hn).1)]
                have := M.blanks_len (R.map (·.2)) (fun n hn => (HR.out n hn).2)
                rw [HLEN.out] at this
                omega)
            rw [hxl, txts_join _ (fun n hn => (HR.out n hn).1)] at h
            exact h)
          have HBZ := hide (HB2.out.trans (HB.out.mono HB2.out.size))
          clear hxl e2 hkn
          go_wp2_with fail
          refine (unhide HJ).mono ?_
          rintro e w6 ⟨rfl, hb6⟩
          have HB6 := hide (HBZ.out.trans (hb6.mono HBZ.out.size))
          clear hb6
          dsimp only
          go_wp2_with fail
          go_ret2
          exact ⟨⟨_, rfl, Or.inl rfl⟩, HB6.out⟩
    · have e1 : M.dealT a1 a2 a3 = M.errN (M.dealE a1 [a2] a3) := if_pos hE
      rw [e1]
      rw [errV_bad hE] at HD
      have HE : Hid (1 ≤ M.dealE a1 [a2] a3 ∧ M.dealE a1 [a2] a3 ≤ 8) := hide (by have := M.dealE_range a1 a2 a3; omega)
      generalize M.dealE a1 [a2] a3 = E at *
      generalize M.dealR a1 [a2] a3 = R at *
      clear hE e1
      go_enter Tryz.func111, Tryz.ntmps111
      go_wp2_with fail
      refine (unhide HN).mono ?_
      rintro e w1 ⟨g, c, rfl, hcm, c0, c1, c2, hb1⟩
      have HB1 := hide hb1
      have gn := World.block_lt_of_cell? _ _ c0
      unfold maxLen at hcm
      have q2 : (2 : Int) ≤ (c : Int) + 3 := by omega
      clear hb1
      dsimp only
      go_wp2_with fail
      go_region_held3 (fun w' => w'.cell? ⟨g, 0, none⟩ = some (.int .i64 a1) ∧ w'.cell? ⟨g, 1, none⟩ = some (.int .i64 a2) ∧ w'.cell? ⟨g, 2, none⟩ = some (.int .i64 a3)) (first | go_keep | assumption)
        (first
          | (go_at_call 148; refine (HD.out _ g _ (by first | assumption | exact c1)).mono ?_; rintro e w2 ⟨⟨v2, k2, cc, rfl, hk2, hk3, hk4, hat⟩, hb2⟩; have HB2 := hide ((HB1.out.drew).trans (hb2.mono HB1.out.size)); have z0 : w2.cell? ⟨g, 0, none⟩ = some (.int .i64 a1) := (hb2.cell (p := ⟨g, 0, none⟩) gn).trans c0; have z1 : w2.cell? ⟨g, 1, none⟩ = some (.int .i64 a2) := (hb2.cell (p := ⟨g, 1, none⟩) gn).trans c1; have z2 : w2.cell? ⟨g, 2, none⟩ = some (.int .i64 a3) := (hb2.cell (p := ⟨g, 2, none⟩) gn).trans c2; clear hat hb2))
      go_wp2_with fail
      go_ret2
      exact ⟨⟨_, rfl, Or.inr (Or.inr ⟨E, HE.out.1, HE.out.2, rfl, rfl⟩)⟩, HB2.out⟩
  · have hbad : ∃ x ∈ [s, t, u], M.numB x.data.toList = false := by
      by_cases h1 : M.numB s.data.toList = true
      · by_cases h2 : M.numB t.data.toList = true
        · exact ⟨u, by simp, by simpa using fun h3 => hok ⟨h1, h2, h3⟩⟩
        · exact ⟨t, by simp, by simpa using h2⟩
      · exact ⟨s, by simp, by simpa using h1⟩
    have HT : Hid (Calls Tryz.prog 147 #[.slice (some ⟨b, off, none⟩) 3 cap] w fun e w' => ∃ m, e = .returned (.tuple #[.slice none 0 0, lineV m]) ∧ Below w.heap.size w w') := hide (by
      refine (rNumbers b off cap 3 [s, t, u] w rfl (by decide) hl hz hv).mono ?_
      rintro e w' ⟨⟨m, rfl, _⟩ | ⟨ao, c, rfl, hok, _⟩, hb⟩
      · exact ⟨m, rfl, hb⟩
      · obtain ⟨x, hx, h⟩ := hbad
        rw [hok x hx] at h
        cases h)
    have e1 : M.three1 s.data.toList t.data.toList u.data.toList = M.wBad := if_neg hok
    rw [e1]
    clear hl hz hv hok hbad e1
    go_enter Tryz.func111, Tryz.ntmps111
    go_wp2_with fail
    refine (unhide HT).mono ?_
    rintro e w1 ⟨m, rfl, hb1⟩
    have HB1 := hide hb1
    clear hb1
    dsimp only
    go_wp2_with fail
    go_ret2
    exact ⟨⟨_, rfl, Or.inr (Or.inl ⟨rfl, m, rfl⟩)⟩, HB1.out⟩
end
end Go.Proofs.YtlefhfmckimlaakGreatDoor
