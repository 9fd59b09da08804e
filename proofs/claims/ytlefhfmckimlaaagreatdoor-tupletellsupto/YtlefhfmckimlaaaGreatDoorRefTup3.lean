/-
  What the document's own ReadTuple does, as one law of its call: of a text that is not too long.
-/
import Derived.Test.YtlefhfmckimlaaaGreatDoorRefTup2
namespace Go.Proofs.YtlefhfmckimlaaaGreatDoor
open Go.RowKit

theorem rread_none (w : World) : Calls Tryz.prog 13 #[.string ⟨#[]⟩] w fun e w' => e = .returned (.tuple #[.slice none 0 0, .int .i64 5]) ∧ Below w.heap.size w w' := by
  go_enter Tryz.func13, Tryz.ntmps13
  go_wp2
  go_ret2
  exact ⟨rfl, Below.refl _ _⟩

def pvals (ps : List Str) : List M.Val := (lst ps).map M.pVal
theorem pvals_snoc (ps : List Str) (x : Str) : pvals (ps ++ [x]) = pvals ps ++ [⟨M.pK x.1, M.pN x.1, M.pS x.1⟩] := by
  unfold pvals; rw [lst_snoc, List.map_append]; simp [pVal_eq]
theorem pvals_len (ps : List Str) : (pvals ps).length = ps.length := by simp [pvals, lst]
theorem pvals_size {ps : List Str} (h : okS ps) : ∀ v ∈ pvals ps, v.s.size ≤ maxLen := fun v hv => by
  obtain ⟨p, hp, rfl⟩ := List.mem_map.1 hv
  obtain ⟨x, hx, rfl⟩ := List.mem_map.1 hp
  rw [pVal_eq]
  have := fault_size (v := ⟨M.pK x.1, M.pN x.1, M.pS x.1⟩) (M.back_text (h x hx)).1
  unfold maxLen; omega

set_option maxRecDepth 100000 in
set_option maxHeartbeats 2000000 in
theorem rread_some (s : ByteArray) (w : World) (hs : s.size ≤ 1048576) (h0 : s.size ≠ 0) :
    Calls Tryz.prog 13 #[.string s] w fun e w' => (∃ v, e = .returned (.tuple #[v, .int .i64 (M.readE s.data.toList)]) ∧ w'.ownsRow w.heap.size 41 3 v (M.readV s.data.toList).length (flat (M.readV s.data.toList)) ∧ ∀ x ∈ M.readV s.data.toList, x.s.size ≤ maxLen) ∧ Below w.heap.size w w' := by
  obtain ⟨hn1, hn2⟩ := empty_of h0
  have HL0 : Hid (s.data.toList.length ≠ 0) := hide (by simpa using h0)
  clear h0
  obtain ⟨i0, hi, hz0, hz1, hz2⟩ := info_parts infoV
  have HI := hide (And.intro hi (And.intro hz0 (And.intro hz1 hz2)))
  clear hi hz0 hz1 hz2
  go_enter Tryz.func13, Tryz.ntmps13
  go_wp2_with fail
  refine (rcut s _ hs).mono ?_
  rintro e w1 ⟨v, ps, rfl, hown, hlst, hlen, hb1⟩
  have hpos : 0 < ps.length := by
    rcases Nat.eq_zero_or_pos ps.length with h | h
    · have e0 := List.length_eq_zero_iff.1 h
      rw [e0] at hlst
      exact absurd hlst.symm (M.cutL_ne _)
    · exact h
  obtain ⟨g, cap, rfl, hg1, hg2⟩ := hown.form hpos
  have HCELL : Hid (∀ j (h : j < ps.length), w1.cell? ⟨g, j, none⟩ = some (.string (ps[j]'h).1)) := hide fun j h => by
    rw [hown.cellAt j (by omega)]
    unfold strs
    rw [List.getElem?_map, List.getElem?_eq_getElem h]; rfl
  have HLST := hide hlst
  have HB1 := hide hb1
  obtain ⟨n, hn⟩ : ∃ n, n = ps.length := ⟨_, rfl⟩
  rw [← hn] at hlen hpos ⊢
  have HN := hide hn
  clear hown hlst hb1 hn hg1
  go_wp2_with fail
  go_loopw [5, 6] (fun x i wr => ∃ (v : Value) (k : Nat), v = x ∧ k ≤ n ∧ i = .int .i64 k ∧ Hid (okS (ps.take k)) ∧ Hid (wr.ownsRow w1.heap.size 41 3 v k (flat (pvals (ps.take k)))) ∧ Below w1.heap.size w1 wr) (fun _ i _ => n - (intOf i).toNat)
  case atStart => exact ⟨_, 0, rfl, Nat.zero_le _, rfl, hide (fun x hx => by simp at hx), hide (World.ownsRow_nil _ _ _ _), Below.refl _ _⟩
  case round =>
    obtain ⟨v, k, rfl, hk, rfl, hok, hrow, hbel⟩ := hrel
    have hz := hbel.size
    have HBEL := hide hbel
    by_cases hlt : k < n
    · have hkl : k < ps.length := HN.out ▸ hlt
      have hc : wr.cell? ⟨g, k, none⟩ = some (.string ps[k].1) := (hbel.cell (p := ⟨g, k, none⟩) hg2).trans (HCELL.out k hkl)
      clear hbel
      have htk : Hid (ps.take (k + 1) = ps.take k ++ [ps[k]]) := hide (List.take_succ_eq_append_getElem hkl)
      obtain ⟨x, hx⟩ : ∃ x, x = ps[k] := ⟨_, rfl⟩
      rw [← hx] at hc htk
      have HXE := hide hx
      clear hx
      by_cases he : M.pErr x.1 = 0
      · have HR : Hid (∀ w, Calls Tryz.prog 27 #[.string x.1] w fun e w' => e = .returned (.tuple #[.agg #[.int .i64 (M.pK x.1), .int .i64 (M.pN x.1), .string (M.pS x.1)], .int .i64 0]) ∧ Below w.heap.size w w') := hide fun w => by have := refRead x.1 w x.2; rwa [he] at this
        have HE := hide he
        clear he
        go_wp2_with fail
        refine (unhide HR _).mono ?_
        rintro e w2 ⟨rfl, hb2⟩
        have hz2 : w1.heap.size ≤ w2.heap.size := Nat.le_trans hz hb2.size
        have HROW2 : Hid (((w2.alloc (cellsV x)).alloc (cellsV x)).ownsRow w1.heap.size 41 3 v k (flat (pvals (ps.take k)))) := hide (((owns_below hrow.out hb2).alloc _).alloc _)
        have HNEW := hide (news_two w2 x)
        have HB2 := hide (HBEL.out.trans (hb2.mono hz))
        clear hb2
        go_wp2_with (at_builtin; (refine wpList_append_own _ rfl (.tmp 30) (.tmp 32) 22 rfl w1.heap.size 41 i0 (.agg #[.int .i64 0, .int .i64 0, .string ⟨#[]⟩]) 3 32 Tryz.underlying22 HI.out.1 HI.out.2.1 HI.out.2.2.1 HI.out.2.2.2 rfl (by decide) v k (flat (pvals (ps.take k))) rfl HROW2.out ⟨w2.heap.size + 1, 0, none⟩ 1 1 [.int .i64 (M.pK x.1), .int .i64 (M.pN x.1), .string (M.pS x.1)] rfl rfl HNEW.out (flat_oneCell [⟨M.pK x.1, M.pN x.1, M.pS x.1⟩]) (by unfold maxLen; omega) (by omega) (Nat.le_trans hz2 (by simp; omega)) ?_))
        intro v' w3 hown' hgrow _
        have HO := hide hown'
        have HB3 := hide (((HB2.out.alloc hz2 _).alloc (by simp; omega) _).grown hgrow (by simp; omega) (fun j hj => (HROW2.out.lt j hj).1))
        clear hown' hgrow
        go_wp2
        go_roundw
        case rel =>
          refine ⟨_, k + 1, rfl, by omega, by go_num, hide ?_, hide ?_, HB3.out⟩
          · rw [htk.out]; exact okS_snoc hok.out HE.out
          · rw [htk.out, pvals_snoc, flat_append]; exact HO.out
        case measure => simp [intOf]; omega
      · have HR : Hid (∀ w, Calls Tryz.prog 27 #[.string x.1] w fun e w' => e = .returned (.tuple #[.agg #[.int .i64 (M.pK x.1), .int .i64 (M.pN x.1), .string (M.pS x.1)], .int .i64 (M.pErr x.1)]) ∧ Below w.heap.size w w') := hide fun w => refRead x.1 w x.2
        have HE := hide he
        have he' : (M.pErr x.1 != 0) = true := by simpa using he
        clear he
        have hst := parse_stop (l := s.data.toList) (front := ps.take k) (x := x) (by
          rw [← htk.out, ← HLST.out]
          unfold lst
          rw [List.map_take]
          exact List.take_prefix _ _) hok.out HE.out HL0.out
        have HST := hide hst
        clear hst
        go_wp2_with fail
        refine (unhide HR _).mono ?_
        rintro e w2 ⟨rfl, hb2⟩
        have HB2 := hide (HB1.out.trans ((HBEL.out.trans (hb2.mono hz)).mono HB1.out.size))
        clear hb2
        go_wp2_with fail
        go_ret2
        refine ⟨⟨.slice none 0 0, by rw [HST.out.1]; rfl, by rw [HST.out.2]; exact ⟨World.ownsRow_nil _ _ _ _, fun x hx => by simp at hx⟩⟩, HB2.out.alloc HB2.out.size _⟩
    · clear hbel
      have hfin : Hid (ps.take k = ps) := hide (List.take_of_length_le (by have := HN.out; omega))
      have hok' : Hid (okS ps) := hide (by have := hok.out; rwa [hfin.out] at this)
      have hrow' : Hid (wr.ownsRow w1.heap.size 41 3 v k (flat (pvals ps))) := hide (by have := hrow.out; rwa [hfin.out] at this)
      have hkn : k = n := by omega
      subst hkn
      obtain ⟨ao, cap2, hvs⟩ : ∃ ao cap, v = .slice ao k cap := by
        rcases hrow'.out.2 with ⟨h1, h2⟩ | ⟨g, cap, _, h1, _⟩
        · exact ⟨none, 0, by rw [h1, h2]⟩
        · exact ⟨_, cap, h1⟩
      subst hvs
      have HB2 := hide (HB1.out.trans (HBEL.out.mono HB1.out.size))
      rcases read_done HLST.out hok'.out HL0.out with ⟨d1, d2, d3⟩ | ⟨d1, d2, d3⟩
      · have h5 : (5 : Int) < (k : Int) := by have := HN.out; omega
        have H2 := hide d2
        have H3 := hide d3
        clear d1 d2 d3
        go_wp2
        go_ret2
        exact ⟨⟨.slice none 0 0, by rw [H2.out]; rfl, by rw [H3.out]; exact ⟨World.ownsRow_nil _ _ _ _, fun x hx => by simp at hx⟩⟩, HB2.out⟩
      · have h5 : ¬ (5 : Int) < (k : Int) := by have := HN.out; omega
        have H2 := hide d2
        have H3 := hide d3
        clear d1 d2 d3
        go_wp2
        go_ret2
        refine ⟨⟨.slice ao k cap2, by rw [H2.out]; rfl, ?_⟩, HB2.out⟩
        rw [H3.out]
        have hr := hrow'.out
        rw [HN.out, ← pvals_len ps] at hr
        rw [HN.out, ← pvals_len ps]
        refine ⟨⟨hr.1, ?_⟩, pvals_size hok'.out⟩
        rcases hr.2 with h2 | ⟨g, cap, cur, hv, hg, hh, r⟩
        · exact Or.inl h2
        · exact Or.inr ⟨g, cap, cur, hv, Nat.le_trans HB1.out.size hg, hh, r⟩

/-- .. in memory of its own -/
theorem rreadO (s : ByteArray) (w : World) (hs : s.size ≤ 1048576) :
    Calls Tryz.prog 13 #[.string s] w fun e w' => (∃ v, e = .returned (.tuple #[v, .int .i64 (M.readE s.data.toList)]) ∧ w'.ownsRow w.heap.size 41 3 v (M.readV s.data.toList).length (flat (M.readV s.data.toList)) ∧ ∀ x ∈ M.readV s.data.toList, x.s.size ≤ maxLen) ∧ Below w.heap.size w w' := by
  by_cases h : s.size = 0
  · have := size0 h; subst this
    refine (rread_none w).mono ?_
    rintro e w' ⟨rfl, hb⟩
    exact ⟨⟨_, rfl, World.ownsRow_nil _ _ _ _, fun x hx => by exact absurd hx (by simp [M.readV, M.readE])⟩, hb⟩
  · exact rread_some s w hs h
theorem rread (s : ByteArray) (w : World) (hs : s.size ≤ 1048576) :
    Calls Tryz.prog 13 #[.string s] w fun e w' => (∃ v, e = .returned (.tuple #[v, .int .i64 (M.readE s.data.toList)]) ∧ IsVals w' v (M.readV s.data.toList)) ∧ Below w.heap.size w w' := by
  refine (rreadO s w hs).mono ?_
  rintro e w' ⟨⟨v, rfl, h1, h2⟩, hb⟩
  exact ⟨⟨v, rfl, isVals_own h2 h1⟩, hb⟩

end Go.Proofs.YtlefhfmckimlaaaGreatDoor
