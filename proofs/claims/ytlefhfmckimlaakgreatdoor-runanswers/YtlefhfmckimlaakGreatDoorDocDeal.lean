/-
  The document's own Line at a first word that wants three numbers: deal.
-/
import Derived.Test.YtlefhfmckimlaakGreatDoorJDoc1
import Derived.Test.YtlefhfmckimlaakGreatDoorJShR
set_option linter.unusedVariables false
namespace Go.Proofs.YtlefhfmckimlaakGreatDoor
open Go.RowKit

theorem number_yes {s : ByteArray} (w : World) (hs : s.size ≤ 3000) (h : M.numB s.data.toList = true) : Calls Tryz.prog 71 #[.string s] w fun x w' => x = .returned (.tuple #[.int .i64 (M.numI s.data.toList), .bool true]) ∧ w' = w := by
  have q := rnumber s w (by unfold maxLen; omega)
  rw [h, if_pos rfl] at q
  exact q
theorem number_not {s : ByteArray} (w : World) (hs : s.size ≤ 3000) (h : M.numB s.data.toList = false) : Calls Tryz.prog 71 #[.string s] w fun x w' => x = .returned (.tuple #[.int .i64 0, .bool false]) ∧ w' = w := by
  have q := rnumber s w (by unfold maxLen; omega)
  rw [h, if_neg (by decide)] at q
  exact q
theorem M.blanks_snoc : ∀ (l : List Int) (n : Int), l ≠ [] → M.blanks (l ++ [n]) = M.blanks l ++ 32 :: Lib.decDigits n.toNat
  | [], _, h => absurd rfl h
  | [a], n, _ => rfl
  | a :: b :: r, n, _ => by
    show Lib.decDigits a.toNat ++ 32 :: M.blanks (b :: (r ++ [n])) = Lib.decDigits a.toNat ++ 32 :: M.blanks (b :: r) ++ 32 :: Lib.decDigits n.toNat
    have ih := M.blanks_snoc (b :: r) n (by simp)
    rw [List.cons_append] at ih
    rw [ih, List.append_assoc]
    rfl
theorem own_cap {w : World} {base g n c : Nat} {e : TypeId} {xs : List Value} (h : w.ownsRow base e 1 (.slice (some ⟨g, 0, none⟩) n c) n xs) : n ≤ c ∧ c ≤ maxLen := by
  rcases h.2 with ⟨h1, _⟩ | ⟨g', cp, cur, h1, hg, hh, hc1, hc2, _⟩
  · cases h1
  · cases h1; exact ⟨hc1, hc2⟩

section
variable {base R : Nat} {s t1 t2 t3 : ByteArray} {u : Value} {L : List (List M.Val)} {w : World}
set_option maxRecDepth 100000 in
set_option maxHeartbeats 8000000 in
theorem docDeal (hs : s.size ≤ 3000) (hp : pieces s = bDeal :: [t1, t2, t3]) (hz : Zs base w R u L) :
    Calls Tryz.prog 34 #[.pointer (some ⟨R, 0, none⟩), .string s] w fun e w' => e = .returned (.string ⟨(M.three1 t1.data.toList t2.data.toList t3.data.toList).toArray⟩) ∧ ThenZ base w w' R u L := by
  have HC := hide (docWords (w := w) hs hp)
  have hts1 := docSizes hs hp t1 (by simp)
  have hts2 := docSizes hs hp t2 (by simp)
  have hts3 := docSizes hs hp t3 (by simp)
  have HZ := hide hz
  obtain ⟨i0, hi, hz0, hz1, hz2⟩ := info_parts infoInt
  have HI := hide (And.intro hi (And.intro hz0 (And.intro hz1 hz2)))
  simp only [List.length_cons, List.length_nil, Nat.zero_add] at HC
  unfold bDeal at HC
  clear hi hz0 hz1 hz2 hz hs hp
  by_cases hn1 : M.numB t1.data.toList = true
  · have HN1 := hide fun wx => number_yes wx hts1 hn1
    by_cases hn2 : M.numB t2.data.toList = true
    · have HN2 := hide fun wx => number_yes wx hts2 hn2
      by_cases hn3 : M.numB t3.data.toList = true
      · have HN3 := hide fun wx => number_yes wx hts3 hn3
        have e1 : M.three1 t1.data.toList t2.data.toList t3.data.toList = M.dealT (M.numI t1.data.toList) (M.numI t2.data.toList) (M.numI t3.data.toList) := if_pos ⟨hn1, hn2, hn3⟩
        rw [e1]
        generalize M.numI t1.data.toList = a1 at *
        generalize M.numI t2.data.toList = a2 at *
        generalize M.numI t3.data.toList = a3 at *
        clear hn1 hn2 hn3 hts1 hts2 hts3 e1
        have HDT : Hid (∀ wx g c, wx.cell? ⟨g, 1, none⟩ = some (.int .i64 a2) → Calls Tryz.prog 72 #[.int .i64 a1, .slice (some ⟨g, 1, none⟩) 1 c, .int .i64 a3] wx fun e w' => e = .returned (.int .i64 (M.dealE a1 [a2] a3)) ∧ w' = wx) := hide fun wx g c hc =>
          rDealt a1 (some ⟨g, 1, none⟩) 1 c [a2] a3 wx rfl (by unfold maxLen; decide) (fun _ => ⟨g, 1, rfl, one_at hc⟩)
        by_cases hE : M.dealE a1 [a2] a3 = 0
        · obtain ⟨hd1, hd2⟩ := M.deal_small hE
          obtain ⟨_, _, _, hm, hm2⟩ := M.dealE_ok hE
          have hsec : M.secE a1 [a2] = 0 := by
            by_cases h : M.secE a1 [a2] = 0
            · exact h
            · rw [M.dealE_sec h] at hE; exact absurd hE h
          obtain ⟨m, rfl⟩ : ∃ m : Nat, a3 = m := ⟨a3.toNat, by omega⟩
          have hm7 : m ≤ 7 := by omega
          have hm1 : 1 ≤ m := by omega
          have e1 : M.dealT a1 a2 m = M.blanks ((M.dealR a1 [a2] m).map (·.2)) := if_neg (by simpa using hE)
          rw [e1]
          have HDD : Hid (∀ wx g c, wx.cell? ⟨g, 1, none⟩ = some (.int .i64 a2) → Calls Tryz.prog 74 #[.int .i64 a1, .slice (some ⟨g, 1, none⟩) 1 c, .int .i64 m] wx fun e w' => (∃ v c, e = .returned (.slice v m c) ∧ m ≤ c ∧ c ≤ maxLen ∧ AtP w' v (M.dealR a1 [a2] m)) ∧ Below wx.heap.size wx w') := hide fun wx g c hc => by
            rw [M.dealR_ok hE, Int.toNat_natCast]
            exact rDeal a1 (some ⟨g, 1, none⟩) 1 c [a2] m wx rfl (fun _ => ⟨g, 1, rfl, one_at hc⟩) (fun e => by cases e) hsec hm7
          have hRm : m = (M.dealR a1 [a2] m).length := by rw [M.dealR_ok hE, M.deal_len, Int.toNat_natCast]
          rw [hE] at HDT
          generalize M.dealR a1 [a2] m = P at *
          have HR := hide hd2
          have HRM := hide hRm
          clear hE e1 hd1 hd2 hRm hsec hm hm2
          go_enter Tryz.func34, Tryz.ntmps34
          go_wp2_with fail
          refine (unhide HC).mono ?_
          rintro e w1 ⟨g, c, rfl, hg, hc0, hcs, hb1⟩
          have c1 : w1.cell? ⟨g, 1, none⟩ = some (.string t1) := hcs 0 (by simp)
          have c2 : w1.cell? ⟨g, 2, none⟩ = some (.string t2) := hcs 1 (by simp)
          have c3 : w1.cell? ⟨g, 3, none⟩ = some (.string t3) := hcs 2 (by simp)
          have HB1 := hide hb1
          have hgl := World.block_lt_of_cell? _ _ hc0
          have HC2 := hide c2
          have HC3 := hide c3
          clear hb1 hcs hg
          dsimp only
          go_wp2_with fail
          refine wp_loop_rounds 4 ?_
          rw [rounds_succ]
          go_wp2_with fail
          refine (HN1.out _).mono ?_
          rintro e w2 ⟨rfl, hw2⟩
          obtain rfl := hw2.symm
          have HNEW1 : Hid (∀ j u, [Value.int .i64 a1][j]? = some u → (w1.alloc (.cells #[.int .i64 a1] 3)).cell? ((⟨w1.heap.size, 0, none⟩ : Addr).add j) = some u) := hide (World.news_of_block (heap_alloc_new w1 _))
          dsimp only
          go_wp2_with (at_builtin; (refine wpList_append_own _ rfl (.tmp 61) (.tmp 63) 24 rfl w1.heap.size 3 i0 (.int .i64 0) 1 8 Tryz.underlying24 HI.out.1 HI.out.2.1 HI.out.2.2.1 HI.out.2.2.2 rfl (by decide) (.slice none 0 0) 0 [] rfl (World.ownsRow_nil _ _ _ _) ⟨w1.heap.size, 0, none⟩ 1 1 [.int .i64 a1] rfl rfl HNEW1.out (by simp [Value.oneCell']) (by unfold maxLen; omega) (by omega) (by first | (simp; done) | (simp; omega)) ?_))
          intro v1 w3 hown hgrow _
          have HBW1 : Hid (Below w1.heap.size w1 w3) := hide (((Below.refl _ _).alloc (Nat.le_refl _) _).grown hgrow (by simp) (fun k hk => by cases hk))
          have hown : w3.ownsRow w1.heap.size 3 1 v1 1 [.int .i64 a1] := hown
          obtain ⟨g1, d1, hf1, hg1, hl1⟩ := hown.form (by decide)
          subst hf1
          have HO1 := hide hown
          have x2 : w3.cell? ⟨g, 2, none⟩ = some (.string t2) := (HBW1.out.cell (p := ⟨g, 2, none⟩) hgl).trans HC2.out
          have hgl2 := World.block_lt_of_cell? _ _ x2
          clear hown hgrow hc0 c1 c2 c3 hg1 hl1
          go_wp2_with fail
          rw [rounds_succ]
          go_wp2_with fail
          refine (HN2.out _).mono ?_
          rintro e w2 ⟨rfl, hw2⟩
          obtain rfl := hw2.symm
          have HNEW2 : Hid (∀ j u, [Value.int .i64 a2][j]? = some u → (w3.alloc (.cells #[.int .i64 a2] 3)).cell? ((⟨w3.heap.size, 0, none⟩ : Addr).add j) = some u) := hide (World.news_of_block (heap_alloc_new w3 _))
          have HROW2 := hide (HO1.out.alloc (.cells #[.int .i64 a2] 3))
          have hsw2 := HBW1.out.size
          dsimp only
          go_wp2_with (at_builtin; (refine wpList_append_own _ rfl (.tmp 61) (.tmp 63) 24 rfl w1.heap.size 3 i0 (.int .i64 0) 1 8 Tryz.underlying24 HI.out.1 HI.out.2.1 HI.out.2.2.1 HI.out.2.2.2 rfl (by decide) (.slice (some ⟨g1, 0, none⟩) 1 d1) 1 [.int .i64 a1] rfl HROW2.out ⟨w3.heap.size, 0, none⟩ 1 1 [.int .i64 a2] rfl rfl HNEW2.out (by simp [Value.oneCell']) (by unfold maxLen; omega) (by omega) (by first | (simp; done) | (simp; omega)) ?_))
          intro v2 w4 hown hgrow _
          have HBW2 : Hid (Below w1.heap.size w1 w4) := hide ((HBW1.out.alloc (by omega) _).grown hgrow (by simp; omega) (fun k hk => (HROW2.out.lt k hk).1))
          have hown : w4.ownsRow w1.heap.size 3 1 v2 2 [.int .i64 a1, .int .i64 a2] := hown
          obtain ⟨g2, d2, hf2, hg2, hl2⟩ := hown.form (by decide)
          subst hf2
          have HO2 := hide hown
          have x3 : w4.cell? ⟨g, 3, none⟩ = some (.string t3) := (HBW2.out.cell (p := ⟨g, 3, none⟩) hgl).trans HC3.out
          have hgl3 := World.block_lt_of_cell? _ _ x3
          clear hown hgrow x2 hgl2 hg2 hl2
          go_wp2_with fail
          rw [rounds_succ]
          go_wp2_with fail
          refine (HN3.out _).mono ?_
          rintro e w2 ⟨rfl, hw2⟩
          obtain rfl := hw2.symm
          have HNEW3 : Hid (∀ j u, [Value.int .i64 (m : Int)][j]? = some u → (w4.alloc (.cells #[.int .i64 (m : Int)] 3)).cell? ((⟨w4.heap.size, 0, none⟩ : Addr).add j) = some u) := hide (World.news_of_block (heap_alloc_new w4 _))
          have HROW3 := hide (HO2.out.alloc (.cells #[.int .i64 (m : Int)] 3))
          have hsw3 := HBW2.out.size
          dsimp only
          go_wp2_with (at_builtin; (refine wpList_append_own _ rfl (.tmp 61) (.tmp 63) 24 rfl w1.heap.size 3 i0 (.int .i64 0) 1 8 Tryz.underlying24 HI.out.1 HI.out.2.1 HI.out.2.2.1 HI.out.2.2.2 rfl (by decide) (.slice (some ⟨g2, 0, none⟩) 2 d2) 2 [.int .i64 a1, .int .i64 a2] rfl HROW3.out ⟨w4.heap.size, 0, none⟩ 1 1 [.int .i64 (m : Int)] rfl rfl HNEW3.out (by simp [Value.oneCell']) (by unfold maxLen; omega) (by omega) (by first | (simp; done) | (simp; omega)) ?_))
          intro v3 w5 hown hgrow _
          have HBW3 : Hid (Below w1.heap.size w1 w5) := hide ((HBW2.out.alloc (by omega) _).grown hgrow (by simp; omega) (fun k hk => (HROW3.out.lt k hk).1))
          have hown : w5.ownsRow w1.heap.size 3 1 v3 3 [.int .i64 a1, .int .i64 a2, .int .i64 (m : Int)] := hown
          obtain ⟨g3, d3, hf3, hg3, hl3⟩ := hown.form (by decide)
          subst hf3
          have HO3 := hide hown
          obtain ⟨hcp1, hcp2⟩ := own_cap hown
          obtain ⟨d, rfl⟩ : ∃ d, d3 = d + 3 := ⟨d3 - 3, by omega⟩
          have y0 : w5.cell? ⟨g3, 0, none⟩ = some (.int .i64 a1) := by rw [hown.cellAt 0 (by decide)]; rfl
          have y1 : w5.cell? ⟨g3, 1, none⟩ = some (.int .i64 a2) := by rw [hown.cellAt 1 (by decide)]; rfl
          have y2 : w5.cell? ⟨g3, 2, none⟩ = some (.int .i64 (m : Int)) := by rw [hown.cellAt 2 (by decide)]; rfl
          have gn := World.block_lt_of_cell? _ _ y0
          have q2 : (2 : Int) ≤ (d : Int) + 3 := by omega
          unfold maxLen at hcp2
          have HBX := hide (HB1.out.trans (HBW3.out.mono HB1.out.size))
          clear hown hgrow x3 hgl3 hg3 hl3 hcp1
          go_wp2_with fail
          rw [rounds_succ]
          go_wp2_with fail
          go_region_held3 (fun w' => w'.cell? ⟨g3, 0, none⟩ = some (.int .i64 a1) ∧ w'.cell? ⟨g3, 1, none⟩ = some (.int .i64 a2) ∧ w'.cell? ⟨g3, 2, none⟩ = some (.int .i64 (m : Int))) (first | go_keep | assumption)
            (first
              | (go_at_call 72; refine (HDT.out _ g3 _ (by first | assumption | exact y1)).mono ?_; rintro e w6 ⟨rfl, hw6⟩; have HB6 : Hid (Below w5.heap.size w5 w6) := hide (hw6 ▸ (Below.refl _ _).drew); have z0 : w6.cell? ⟨g3, 0, none⟩ = some (.int .i64 a1) := (HB6.out.cell (p := ⟨g3, 0, none⟩) gn).trans y0; have z1 : w6.cell? ⟨g3, 1, none⟩ = some (.int .i64 a2) := (HB6.out.cell (p := ⟨g3, 1, none⟩) gn).trans y1; have z2 : w6.cell? ⟨g3, 2, none⟩ = some (.int .i64 (m : Int)) := (HB6.out.cell (p := ⟨g3, 2, none⟩) gn).trans y2; have gn6 := World.block_lt_of_cell? _ _ z0; clear hw6))
          go_wp2_with fail
          go_region_held3 (fun w' => w'.cell? ⟨g3, 0, none⟩ = some (.int .i64 a1) ∧ w'.cell? ⟨g3, 1, none⟩ = some (.int .i64 a2) ∧ w'.cell? ⟨g3, 2, none⟩ = some (.int .i64 (m : Int))) (first | go_keep | assumption)
            (first
              | (go_at_call 74; refine (HDD.out _ g3 _ (by first | assumption | exact z1)).mono ?_; rintro e w7 ⟨⟨v7, c7, rfl, hk7, hk8, hat⟩, hb7⟩; have HB7 := hide ((HB6.out.drew).trans (hb7.mono HB6.out.size)); have HAT := hide hat; have x0 : w7.cell? ⟨g3, 0, none⟩ = some (.int .i64 a1) := (hb7.cell (p := ⟨g3, 0, none⟩) gn6).trans z0; have x1 : w7.cell? ⟨g3, 1, none⟩ = some (.int .i64 a2) := (hb7.cell (p := ⟨g3, 1, none⟩) gn6).trans z1; have x2 : w7.cell? ⟨g3, 2, none⟩ = some (.int .i64 (m : Int)) := (hb7.cell (p := ⟨g3, 2, none⟩) gn6).trans z2; clear hat hb7))
          go_wp2_with fail
          obtain ⟨b7, o7, rfl, hat⟩ := HAT.out (by have := HRM.out; omega)
          have HL := hide hat
          have HB8 := hide (HBX.out.trans (HB7.out.mono HBX.out.size))
          clear hat HAT hk7 hk8 x0 x1 x2 z0 z1 z2 y0 y1 y2 gn gn6 hcp2 q2
          go_loopw [13, 14] (fun a i wr => ∃ k : Nat, ∃ q : ByteArray, k ≤ m ∧ a = .string q ∧ i = .int .i64 k ∧ Hid (q.data.toList = M.blanks ((P.map (·.2)).take k)) ∧ wr = w7) (fun _ i _ => m - (intOf i).toNat)
          case atStart => exact ⟨0, ⟨#[]⟩, Nat.zero_le _, rfl, rfl, hide rfl, rfl⟩
          case round =>
            obtain ⟨k, q, hk, rfl, rfl, hq, hwr⟩ := hrel
            obtain rfl := hwr.symm
            by_cases hlt : k < m
            · have hkP : k < P.length := HRM.out ▸ hlt
              have hkM : k < (P.map (·.2)).length := by rw [List.length_map]; exact hkP
              obtain ⟨g1', g2'⟩ := HL.out k hkP
              have hb7 := World.block_lt_of_cell? _ _ g1'
              have HTK : Hid ((P.map (·.2)).take (k + 1) = (P.map (·.2)).take k ++ [P[k].2]) := hide (by rw [List.take_succ_eq_append_getElem hkM, List.getElem_map])
              have HLT : Hid (((P.map (·.2)).take k).length = k) := hide (by rw [List.length_take]; omega)
              have hrg := HR.out P[k].2 (List.mem_map.2 ⟨P[k], List.getElem_mem hkP, rfl⟩)
              have hqz : q.size ≤ 70 := by
                have h1 := M.blanks_len ((P.map (·.2)).take k) (fun n hn => (HR.out n (List.mem_of_mem_take hn)).2)
                rw [HLT.out] at h1
                have h2 := congrArg List.length hq.out
                have h3 : q.data.toList.length = q.size := by simp
                omega
              generalize P[k].1 = p1 at *
              generalize P[k].2 = p2 at *
              have HDG := hide fun wx => digits p2.toNat p2 wx rfl hrg.1 (by omega)
              have hwz : (⟨(Lib.decDigits p2.toNat).toArray⟩ : ByteArray).size ≤ 13 := by
                have := M.len_le p2.toNat (by omega)
                show (Lib.decDigits p2.toNat).toArray.size ≤ 13
                rw [List.size_toArray]
                omega
              have HZD : Hid ((⟨(Lib.decDigits p2.toNat).toArray⟩ : ByteArray).data.toList = Lib.decDigits p2.toNat) := hide rfl
              have k1 : (k : Int) < (m : Int) := by omega
              have k0 : (0 : Int) ≤ (k : Int) := by omega
              clear hrg
              generalize hzz : (⟨(Lib.decDigits p2.toNat).toArray⟩ : ByteArray) = z at *
              clear hzz
              have hadd1 : ∀ w, (Op.stringOp .add q ⟨#[32]⟩).run Tryz.prog w = .ok (.string (q ++ ⟨#[32]⟩)) w := fun w => run_string_add_sum w _ _ (by show q.size + 1 ≤ _; omega)
              have hadd2 : ∀ w, (Op.stringOp .add (q ++ ⟨#[32]⟩) z).run Tryz.prog w = .ok (.string ((q ++ ⟨#[32]⟩) ++ z)) w := fun w => run_string_add_sum w _ _ (by rw [ByteArray.size_append]; show q.size + 1 + _ ≤ _; omega)
              have hadd3 : ∀ w, (Op.stringOp .add q z).run Tryz.prog w = .ok (.string (q ++ z)) w := fun w => run_string_add_sum w _ _ (by omega)
              clear hqz hwz
              by_cases hk0 : k = 0
              · have hk1 : ¬ (0 : Int) < (k : Int) := by omega
                have HK0 := hide hk0
                clear hadd1 hadd2 hk0
                go_wp2_with fail
                refine (HDG.out _).mono ?_
                rintro e w8 ⟨rfl, hw8⟩
                obtain rfl := hw8.symm
                dsimp only
                go_wp2_with fail
                go_roundw
                case rel =>
                  refine ⟨k + 1, _, by omega, rfl, by go_num, hide ?_, by first | rfl | trivial⟩
                  have hq0 := hq.out
                  rw [HTK.out, ByteArray.data_append, Array.toList_append, hq0, HZD.out]
                  have e0 : (P.map (·.2)).take k = [] := by rw [HK0.out]; rfl
                  rw [e0]
                  rfl
                case measure => simp [intOf]; omega
              · have hk1 : (0 : Int) < (k : Int) := by omega
                clear hadd3
                go_wp2_with fail
                refine (HDG.out _).mono ?_
                rintro e w8 ⟨rfl, hw8⟩
                obtain rfl := hw8.symm
                dsimp only
                go_wp2_with fail
                go_roundw
                case rel =>
                  refine ⟨k + 1, _, by omega, rfl, by go_num, hide ?_, by first | rfl | trivial⟩
                  rw [HTK.out, M.blanks_snoc _ _ (by
                    intro e
                    have := congrArg List.length e
                    rw [HLT.out] at this
                    simp only [List.length_nil] at this
                    omega), ByteArray.data_append, Array.toList_append, ByteArray.data_append, Array.toList_append, hq.out, HZD.out, List.append_assoc]
                  rfl
                case measure => simp [intOf]; omega
            · have k1 : ¬ (k : Int) < (m : Int) := by omega
              have HQ : Hid (q = ⟨(M.blanks (P.map (·.2))).toArray⟩) := hide (by
                have h1 := hq.out
                rw [List.take_of_length_le (by rw [List.length_map]; have := HRM.out; omega)] at h1
                exact data_own (by rw [h1]))
              go_wp2_with fail
              go_ret
              exact ⟨by rw [HQ.out]; rfl, ThenZ.still HZ.out HB8.out⟩
        · have e1 : M.dealT a1 a2 a3 = M.errN (M.dealE a1 [a2] a3) := if_pos hE
          rw [e1]
          have HNM := hide fun wx => rname (M.dealE a1 [a2] a3) wx (M.dealE_range a1 a2 a3).1 (M.dealE_range a1 a2 a3).2
          have hne : (M.dealE a1 [a2] a3 == 0) = false := by simpa using hE
          generalize M.dealE a1 [a2] a3 = E at *
          clear hE e1
          go_enter Tryz.func34, Tryz.ntmps34
          go_wp2_with fail
          refine (unhide HC).mono ?_
          rintro e w1 ⟨g, c, rfl, hg, hc0, hcs, hb1⟩
          have c1 : w1.cell? ⟨g, 1, none⟩ = some (.string t1) := hcs 0 (by simp)
          have c2 : w1.cell? ⟨g, 2, none⟩ = some (.string t2) := hcs 1 (by simp)
          have c3 : w1.cell? ⟨g, 3, none⟩ = some (.string t3) := hcs 2 (by simp)
          have HB1 := hide hb1
          have hgl := World.block_lt_of_cell? _ _ hc0
          have HC2 := hide c2
          have HC3 := hide c3
          clear hb1 hcs hg
          dsimp only
          go_wp2_with fail
          refine wp_loop_rounds 4 ?_
          rw [rounds_succ]
          go_wp2_with fail
          refine (HN1.out _).mono ?_
          rintro e w2 ⟨rfl, hw2⟩
          obtain rfl := hw2.symm
          have HNEW1 : Hid (∀ j u, [Value.int .i64 a1][j]? = some u → (w1.alloc (.cells #[.int .i64 a1] 3)).cell? ((⟨w1.heap.size, 0, none⟩ : Addr).add j) = some u) := hide (World.news_of_block (heap_alloc_new w1 _))
          dsimp only
          go_wp2_with (at_builtin; (refine wpList_append_own _ rfl (.tmp 61) (.tmp 63) 24 rfl w1.heap.size 3 i0 (.int .i64 0) 1 8 Tryz.underlying24 HI.out.1 HI.out.2.1 HI.out.2.2.1 HI.out.2.2.2 rfl (by decide) (.slice none 0 0) 0 [] rfl (World.ownsRow_nil _ _ _ _) ⟨w1.heap.size, 0, none⟩ 1 1 [.int .i64 a1] rfl rfl HNEW1.out (by simp [Value.oneCell']) (by unfold maxLen; omega) (by omega) (by first | (simp; done) | (simp; omega)) ?_))
          intro v1 w3 hown hgrow _
          have HBW1 : Hid (Below w1.heap.size w1 w3) := hide (((Below.refl _ _).alloc (Nat.le_refl _) _).grown hgrow (by simp) (fun k hk => by cases hk))
          have hown : w3.ownsRow w1.heap.size 3 1 v1 1 [.int .i64 a1] := hown
          obtain ⟨g1, d1, hf1, hg1, hl1⟩ := hown.form (by decide)
          subst hf1
          have HO1 := hide hown
          have x2 : w3.cell? ⟨g, 2, none⟩ = some (.string t2) := (HBW1.out.cell (p := ⟨g, 2, none⟩) hgl).trans HC2.out
          have hgl2 := World.block_lt_of_cell? _ _ x2
          clear hown hgrow hc0 c1 c2 c3 hg1 hl1
          go_wp2_with fail
          rw [rounds_succ]
          go_wp2_with fail
          refine (HN2.out _).mono ?_
          rintro e w2 ⟨rfl, hw2⟩
          obtain rfl := hw2.symm
          have HNEW2 : Hid (∀ j u, [Value.int .i64 a2][j]? = some u → (w3.alloc (.cells #[.int .i64 a2] 3)).cell? ((⟨w3.heap.size, 0, none⟩ : Addr).add j) = some u) := hide (World.news_of_block (heap_alloc_new w3 _))
          have HROW2 := hide (HO1.out.alloc (.cells #[.int .i64 a2] 3))
          have hsw2 := HBW1.out.size
          dsimp only
          go_wp2_with (at_builtin; (refine wpList_append_own _ rfl (.tmp 61) (.tmp 63) 24 rfl w1.heap.size 3 i0 (.int .i64 0) 1 8 Tryz.underlying24 HI.out.1 HI.out.2.1 HI.out.2.2.1 HI.out.2.2.2 rfl (by decide) (.slice (some ⟨g1, 0, none⟩) 1 d1) 1 [.int .i64 a1] rfl HROW2.out ⟨w3.heap.size, 0, none⟩ 1 1 [.int .i64 a2] rfl rfl HNEW2.out (by simp [Value.oneCell']) (by unfold maxLen; omega) (by omega) (by first | (simp; done) | (simp; omega)) ?_))
          intro v2 w4 hown hgrow _
          have HBW2 : Hid (Below w1.heap.size w1 w4) := hide ((HBW1.out.alloc (by omega) _).grown hgrow (by simp; omega) (fun k hk => (HROW2.out.lt k hk).1))
          have hown : w4.ownsRow w1.heap.size 3 1 v2 2 [.int .i64 a1, .int .i64 a2] := hown
          obtain ⟨g2, d2, hf2, hg2, hl2⟩ := hown.form (by decide)
          subst hf2
          have HO2 := hide hown
          have x3 : w4.cell? ⟨g, 3, none⟩ = some (.string t3) := (HBW2.out.cell (p := ⟨g, 3, none⟩) hgl).trans HC3.out
          have hgl3 := World.block_lt_of_cell? _ _ x3
          clear hown hgrow x2 hgl2 hg2 hl2
          go_wp2_with fail
          rw [rounds_succ]
          go_wp2_with fail
          refine (HN3.out _).mono ?_
          rintro e w2 ⟨rfl, hw2⟩
          obtain rfl := hw2.symm
          have HNEW3 : Hid (∀ j u, [Value.int .i64 a3][j]? = some u → (w4.alloc (.cells #[.int .i64 a3] 3)).cell? ((⟨w4.heap.size, 0, none⟩ : Addr).add j) = some u) := hide (World.news_of_block (heap_alloc_new w4 _))
          have HROW3 := hide (HO2.out.alloc (.cells #[.int .i64 a3] 3))
          have hsw3 := HBW2.out.size
          dsimp only
          go_wp2_with (at_builtin; (refine wpList_append_own _ rfl (.tmp 61) (.tmp 63) 24 rfl w1.heap.size 3 i0 (.int .i64 0) 1 8 Tryz.underlying24 HI.out.1 HI.out.2.1 HI.out.2.2.1 HI.out.2.2.2 rfl (by decide) (.slice (some ⟨g2, 0, none⟩) 2 d2) 2 [.int .i64 a1, .int .i64 a2] rfl HROW3.out ⟨w4.heap.size, 0, none⟩ 1 1 [.int .i64 a3] rfl rfl HNEW3.out (by simp [Value.oneCell']) (by unfold maxLen; omega) (by omega) (by first | (simp; done) | (simp; omega)) ?_))
          intro v3 w5 hown hgrow _
          have HBW3 : Hid (Below w1.heap.size w1 w5) := hide ((HBW2.out.alloc (by omega) _).grown hgrow (by simp; omega) (fun k hk => (HROW3.out.lt k hk).1))
          have hown : w5.ownsRow w1.heap.size 3 1 v3 3 [.int .i64 a1, .int .i64 a2, .int .i64 a3] := hown
          obtain ⟨g3, d3, hf3, hg3, hl3⟩ := hown.form (by decide)
          subst hf3
          have HO3 := hide hown
          obtain ⟨hcp1, hcp2⟩ := own_cap hown
          obtain ⟨d, rfl⟩ : ∃ d, d3 = d + 3 := ⟨d3 - 3, by omega⟩
          have y0 : w5.cell? ⟨g3, 0, none⟩ = some (.int .i64 a1) := by rw [hown.cellAt 0 (by decide)]; rfl
          have y1 : w5.cell? ⟨g3, 1, none⟩ = some (.int .i64 a2) := by rw [hown.cellAt 1 (by decide)]; rfl
          have y2 : w5.cell? ⟨g3, 2, none⟩ = some (.int .i64 a3) := by rw [hown.cellAt 2 (by decide)]; rfl
          have gn := World.block_lt_of_cell? _ _ y0
          have q2 : (2 : Int) ≤ (d : Int) + 3 := by omega
          unfold maxLen at hcp2
          have HBX := hide (HB1.out.trans (HBW3.out.mono HB1.out.size))
          clear hown hgrow x3 hgl3 hg3 hl3 hcp1
          go_wp2_with fail
          rw [rounds_succ]
          go_wp2_with fail
          go_region_held3 (fun w' => w'.cell? ⟨g3, 0, none⟩ = some (.int .i64 a1) ∧ w'.cell? ⟨g3, 1, none⟩ = some (.int .i64 a2) ∧ w'.cell? ⟨g3, 2, none⟩ = some (.int .i64 a3)) (first | go_keep | assumption)
            (first
              | (go_at_call 72; refine (HDT.out _ g3 _ (by first | assumption | exact y1)).mono ?_; rintro e w6 ⟨rfl, hw6⟩; have HB6 : Hid (Below w5.heap.size w5 w6) := hide (hw6 ▸ (Below.refl _ _).drew); have z0 : w6.cell? ⟨g3, 0, none⟩ = some (.int .i64 a1) := (HB6.out.cell (p := ⟨g3, 0, none⟩) gn).trans y0; have z1 : w6.cell? ⟨g3, 1, none⟩ = some (.int .i64 a2) := (HB6.out.cell (p := ⟨g3, 1, none⟩) gn).trans y1; have z2 : w6.cell? ⟨g3, 2, none⟩ = some (.int .i64 a3) := (HB6.out.cell (p := ⟨g3, 2, none⟩) gn).trans y2; have gn6 := World.block_lt_of_cell? _ _ z0; clear hw6))
          go_wp2_with fail
          refine (HNM.out _).mono ?_
          rintro e w7 ⟨rfl, hb7⟩
          have HB8 := hide (HBX.out.trans ((HB6.out.trans (hb7.mono HB6.out.size)).mono HBX.out.size))
          clear hb7
          dsimp only
          go_wp2_with fail
          go_ret
          exact ⟨rfl, ThenZ.still HZ.out HB8.out⟩
      · have HN3 := hide fun wx => number_not wx hts3 (by simpa using hn3)
        have e1 : M.three1 t1.data.toList t2.data.toList t3.data.toList = M.wBad := if_neg fun h => hn3 h.2.2
        rw [e1]
        generalize M.numI t1.data.toList = a1 at *
        generalize M.numI t2.data.toList = a2 at *
        clear hn1 hn2 hn3 hts1 hts2 hts3 e1
        go_enter Tryz.func34, Tryz.ntmps34
        go_wp2_with fail
        refine (unhide HC).mono ?_
        rintro e w1 ⟨g, c, rfl, hg, hc0, hcs, hb1⟩
        have c1 : w1.cell? ⟨g, 1, none⟩ = some (.string t1) := hcs 0 (by simp)
        have c2 : w1.cell? ⟨g, 2, none⟩ = some (.string t2) := hcs 1 (by simp)
        have c3 : w1.cell? ⟨g, 3, none⟩ = some (.string t3) := hcs 2 (by simp)
        have HB1 := hide hb1
        have hgl := World.block_lt_of_cell? _ _ hc0
        have HC2 := hide c2
        have HC3 := hide c3
        clear hb1 hcs hg
        dsimp only
        go_wp2_with fail
        refine wp_loop_rounds 4 ?_
        rw [rounds_succ]
        go_wp2_with fail
        refine (HN1.out _).mono ?_
        rintro e w2 ⟨rfl, hw2⟩
        obtain rfl := hw2.symm
        have HNEW1 : Hid (∀ j u, [Value.int .i64 a1][j]? = some u → (w1.alloc (.cells #[.int .i64 a1] 3)).cell? ((⟨w1.heap.size, 0, none⟩ : Addr).add j) = some u) := hide (World.news_of_block (heap_alloc_new w1 _))
        dsimp only
        go_wp2_with (at_builtin; (refine wpList_append_own _ rfl (.tmp 61) (.tmp 63) 24 rfl w1.heap.size 3 i0 (.int .i64 0) 1 8 Tryz.underlying24 HI.out.1 HI.out.2.1 HI.out.2.2.1 HI.out.2.2.2 rfl (by decide) (.slice none 0 0) 0 [] rfl (World.ownsRow_nil _ _ _ _) ⟨w1.heap.size, 0, none⟩ 1 1 [.int .i64 a1] rfl rfl HNEW1.out (by simp [Value.oneCell']) (by unfold maxLen; omega) (by omega) (by first | (simp; done) | (simp; omega)) ?_))
        intro v1 w3 hown hgrow _
        have HBW1 : Hid (Below w1.heap.size w1 w3) := hide (((Below.refl _ _).alloc (Nat.le_refl _) _).grown hgrow (by simp) (fun k hk => by cases hk))
        have hown : w3.ownsRow w1.heap.size 3 1 v1 1 [.int .i64 a1] := hown
        obtain ⟨g1, d1, hf1, hg1, hl1⟩ := hown.form (by decide)
        subst hf1
        have HO1 := hide hown
        have x2 : w3.cell? ⟨g, 2, none⟩ = some (.string t2) := (HBW1.out.cell (p := ⟨g, 2, none⟩) hgl).trans HC2.out
        have hgl2 := World.block_lt_of_cell? _ _ x2
        clear hown hgrow hc0 c1 c2 c3 hg1 hl1
        go_wp2_with fail
        rw [rounds_succ]
        go_wp2_with fail
        refine (HN2.out _).mono ?_
        rintro e w2 ⟨rfl, hw2⟩
        obtain rfl := hw2.symm
        have HNEW2 : Hid (∀ j u, [Value.int .i64 a2][j]? = some u → (w3.alloc (.cells #[.int .i64 a2] 3)).cell? ((⟨w3.heap.size, 0, none⟩ : Addr).add j) = some u) := hide (World.news_of_block (heap_alloc_new w3 _))
        have HROW2 := hide (HO1.out.alloc (.cells #[.int .i64 a2] 3))
        have hsw2 := HBW1.out.size
        dsimp only
        go_wp2_with (at_builtin; (refine wpList_append_own _ rfl (.tmp 61) (.tmp 63) 24 rfl w1.heap.size 3 i0 (.int .i64 0) 1 8 Tryz.underlying24 HI.out.1 HI.out.2.1 HI.out.2.2.1 HI.out.2.2.2 rfl (by decide) (.slice (some ⟨g1, 0, none⟩) 1 d1) 1 [.int .i64 a1] rfl HROW2.out ⟨w3.heap.size, 0, none⟩ 1 1 [.int .i64 a2] rfl rfl HNEW2.out (by simp [Value.oneCell']) (by unfold maxLen; omega) (by omega) (by first | (simp; done) | (simp; omega)) ?_))
        intro v2 w4 hown hgrow _
        have HBW2 : Hid (Below w1.heap.size w1 w4) := hide ((HBW1.out.alloc (by omega) _).grown hgrow (by simp; omega) (fun k hk => (HROW2.out.lt k hk).1))
        have hown : w4.ownsRow w1.heap.size 3 1 v2 2 [.int .i64 a1, .int .i64 a2] := hown
        obtain ⟨g2, d2, hf2, hg2, hl2⟩ := hown.form (by decide)
        subst hf2
        have HO2 := hide hown
        have x3 : w4.cell? ⟨g, 3, none⟩ = some (.string t3) := (HBW2.out.cell (p := ⟨g, 3, none⟩) hgl).trans HC3.out
        have hgl3 := World.block_lt_of_cell? _ _ x3
        clear hown hgrow x2 hgl2 hg2 hl2
        go_wp2_with fail
        rw [rounds_succ]
        go_wp2_with fail
        refine (HN3.out _).mono ?_
        rintro e w2 ⟨rfl, hw2⟩
        obtain rfl := hw2.symm
        have HBE := hide (HB1.out.trans (HBW2.out.mono HB1.out.size))
        dsimp only
        go_wp2_with fail
        go_ret
        exact ⟨rfl, ThenZ.still HZ.out HBE.out⟩
    · have HN2 := hide fun wx => number_not wx hts2 (by simpa using hn2)
      have e1 : M.three1 t1.data.toList t2.data.toList t3.data.toList = M.wBad := if_neg fun h => hn2 h.2.1
      rw [e1]
      generalize M.numI t1.data.toList = a1 at *
      clear hn1 hn2 hts1 hts2 hts3 e1
      go_enter Tryz.func34, Tryz.ntmps34
      go_wp2_with fail
      refine (unhide HC).mono ?_
      rintro e w1 ⟨g, c, rfl, hg, hc0, hcs, hb1⟩
      have c1 : w1.cell? ⟨g, 1, none⟩ = some (.string t1) := hcs 0 (by simp)
      have c2 : w1.cell? ⟨g, 2, none⟩ = some (.string t2) := hcs 1 (by simp)
      have c3 : w1.cell? ⟨g, 3, none⟩ = some (.string t3) := hcs 2 (by simp)
      have HB1 := hide hb1
      have hgl := World.block_lt_of_cell? _ _ hc0
      have HC2 := hide c2
      have HC3 := hide c3
      clear hb1 hcs hg
      dsimp only
      go_wp2_with fail
      refine wp_loop_rounds 4 ?_
      rw [rounds_succ]
      go_wp2_with fail
      refine (HN1.out _).mono ?_
      rintro e w2 ⟨rfl, hw2⟩
      obtain rfl := hw2.symm
      have HNEW1 : Hid (∀ j u, [Value.int .i64 a1][j]? = some u → (w1.alloc (.cells #[.int .i64 a1] 3)).cell? ((⟨w1.heap.size, 0, none⟩ : Addr).add j) = some u) := hide (World.news_of_block (heap_alloc_new w1 _))
      dsimp only
      go_wp2_with (at_builtin; (refine wpList_append_own _ rfl (.tmp 61) (.tmp 63) 24 rfl w1.heap.size 3 i0 (.int .i64 0) 1 8 Tryz.underlying24 HI.out.1 HI.out.2.1 HI.out.2.2.1 HI.out.2.2.2 rfl (by decide) (.slice none 0 0) 0 [] rfl (World.ownsRow_nil _ _ _ _) ⟨w1.heap.size, 0, none⟩ 1 1 [.int .i64 a1] rfl rfl HNEW1.out (by simp [Value.oneCell']) (by unfold maxLen; omega) (by omega) (by first | (simp; done) | (simp; omega)) ?_))
      intro v1 w3 hown hgrow _
      have HBW1 : Hid (Below w1.heap.size w1 w3) := hide (((Below.refl _ _).alloc (Nat.le_refl _) _).grown hgrow (by simp) (fun k hk => by cases hk))
      have hown : w3.ownsRow w1.heap.size 3 1 v1 1 [.int .i64 a1] := hown
      obtain ⟨g1, d1, hf1, hg1, hl1⟩ := hown.form (by decide)
      subst hf1
      have HO1 := hide hown
      have x2 : w3.cell? ⟨g, 2, none⟩ = some (.string t2) := (HBW1.out.cell (p := ⟨g, 2, none⟩) hgl).trans HC2.out
      have hgl2 := World.block_lt_of_cell? _ _ x2
      clear hown hgrow hc0 c1 c2 c3 hg1 hl1
      go_wp2_with fail
      rw [rounds_succ]
      go_wp2_with fail
      refine (HN2.out _).mono ?_
      rintro e w2 ⟨rfl, hw2⟩
      obtain rfl := hw2.symm
      have HBE := hide (HB1.out.trans (HBW1.out.mono HB1.out.size))
      dsimp only
      go_wp2_with fail
      go_ret
      exact ⟨rfl, ThenZ.still HZ.out HBE.out⟩
  · have HN1 := hide fun wx => number_not wx hts1 (by simpa using hn1)
    have e1 : M.three1 t1.data.toList t2.data.toList t3.data.toList = M.wBad := if_neg fun h => hn1 h.1
    rw [e1]
    clear hn1 hts1 hts2 hts3 e1
    go_enter Tryz.func34, Tryz.ntmps34
    go_wp2_with fail
    refine (unhide HC).mono ?_
    rintro e w1 ⟨g, c, rfl, hg, hc0, hcs, hb1⟩
    have c1 : w1.cell? ⟨g, 1, none⟩ = some (.string t1) := hcs 0 (by simp)
    have c2 : w1.cell? ⟨g, 2, none⟩ = some (.string t2) := hcs 1 (by simp)
    have c3 : w1.cell? ⟨g, 3, none⟩ = some (.string t3) := hcs 2 (by simp)
    have HB1 := hide hb1
    have hgl := World.block_lt_of_cell? _ _ hc0
    have HC2 := hide c2
    have HC3 := hide c3
    clear hb1 hcs hg
    dsimp only
    go_wp2_with fail
    refine wp_loop_rounds 4 ?_
    rw [rounds_succ]
    go_wp2_with fail
    refine (HN1.out _).mono ?_
    rintro e w2 ⟨rfl, hw2⟩
    obtain rfl := hw2.symm
    have HBE := HB1
    dsimp only
    go_wp2_with fail
    go_ret
    exact ⟨rfl, ThenZ.still HZ.out HBE.out⟩
end
end Go.Proofs.YtlefhfmckimlaakGreatDoor
