/-
  What Get of the document's own space does, as one law of its call.
-/
import Derived.Test.YtlefhfmckimlaaiGreatDoorJ33A
namespace Go.Proofs.YtlefhfmckimlaaiGreatDoor
open Go.RowKit

theorem rget_bad (R : Nat) (v : Value) (b : Bool) (c : Int) (w : World) (hc : c ≠ 0) (hC : Calls Tryz.prog 20 #[v] w fun e w' => e = .returned (.int .i64 c) ∧ Below w.heap.size w w') :
    Calls Tryz.prog 29 #[.pointer (some ⟨R, 0, none⟩), v, .bool b] w fun e w' => e = .returned (.tuple #[.slice none 0 0, .int .i64 c]) ∧ Below w.heap.size w w' := by
  have HC := hide hC
  have hb : (c != 0) = true := by simpa using hc
  clear hC
  go_enter Tryz.func29, Tryz.ntmps29
  go_wp2_with fail
  refine (unhide HC).mono ?_
  rintro e w1 ⟨rfl, hb1⟩
  go_wp2_with fail
  go_ret2
  exact ⟨rfl, hb1⟩

theorem rget_miss (R : Nat) (v : Value) (b : Bool) (w : World) (hC : Calls Tryz.prog 20 #[v] w fun e w' => e = .returned (.int .i64 0) ∧ Below w.heap.size w w') (hF : ∀ w1, Below w.heap.size w w1 → Calls Tryz.prog 50 #[.pointer (some ⟨R, 0, none⟩), v] w1 fun e w' => e = .returned (.int .i64 (-1)) ∧ Below w1.heap.size w1 w') :
    Calls Tryz.prog 29 #[.pointer (some ⟨R, 0, none⟩), v, .bool b] w fun e w' => e = .returned (.tuple #[.slice none 0 0, .int .i64 5]) ∧ Below w.heap.size w w' := by
  have HC := hide hC
  have HF := hide hF
  clear hC hF
  go_enter Tryz.func29, Tryz.ntmps29
  go_wp2_with fail
  refine (unhide HC).mono ?_
  rintro e w1 ⟨rfl, hb1⟩
  go_wp2_with fail
  refine (unhide HF _ hb1).mono ?_
  rintro e w2 ⟨rfl, hb2⟩
  go_wp2_with fail
  go_ret2
  exact ⟨rfl, hb1.trans (hb2.mono hb1.size)⟩

theorem rget_stay (w0 : World) (R p n g cap : Nat) (v : Value) (L : List (List M.Val)) (w : World) (hpl : p < L.length) (hn : n = L.length) (h : Ref w0 w R (.slice (some ⟨g, 0, none⟩) n cap) L) (hC : Calls Tryz.prog 20 #[v] w fun e w' => e = .returned (.int .i64 0) ∧ Below w.heap.size w w') (hF : ∀ w1, Below w.heap.size w w1 → Calls Tryz.prog 50 #[.pointer (some ⟨R, 0, none⟩), v] w1 fun e w' => e = .returned (.int .i64 p) ∧ Below w1.heap.size w1 w') :
    Calls Tryz.prog 29 #[.pointer (some ⟨R, 0, none⟩), v, .bool false] w fun e w' => ∃ r, e = .returned (.tuple #[r, .int .i64 0]) ∧ IsVals w0 r L[p] ∧ Below w.heap.size w w' := by
  have HC := hide hC
  have HF := hide hF
  have HR := hide h
  have HN := hide hn
  have hp1 : (p : Int) < (n : Int) := by omega
  have hp : p < n := by omega
  have hp0 : ¬ (p : Int) < 0 := by omega
  clear hC hF h hn
  go_enter Tryz.func29, Tryz.ntmps29
  go_wp2_with fail
  refine (unhide HC).mono ?_
  rintro e w1 ⟨rfl, hb1⟩
  have HB1 := hide hb1
  clear hb1
  go_wp2_with fail
  refine (unhide HF _ HB1.out).mono ?_
  rintro e w2 ⟨rfl, hb2⟩
  have HB2 := hide (HB1.out.trans (hb2.mono HB1.out.size))
  have HR2 : Hid (Ref w0 w2 R (.slice (some ⟨g, 0, none⟩) n cap) L) := hide (Sp.quiet HR.out HB2.out)
  have c1 := HR2.out.cell.1
  obtain ⟨g2, cap2, e, hat⟩ := HR2.out.row.at (by omega)
  simp only [Value.slice.injEq, Option.some.injEq, Addr.mk.injEq, and_true] at e
  obtain ⟨rfl, _, _⟩ := e
  obtain ⟨x, hx, hxv⟩ := hat p hpl
  have HXV := hide hxv
  clear hb2 hat hxv
  go_wp2_with fail
  go_ret2
  exact ⟨x, rfl, HXV.out, HB2.out⟩

theorem Ref.less {w0 w w2 w3 w4 : World} {R n p : Nat} {u v1 v2 : Value} {L : List (List M.Val)} {xs : List Value} (hb : Below w.heap.size w w2) (h : Ref w0 w2 R u L) (hlen : xs.length = n) (hx2 : ∀ i (h1 : i < xs.length) (h2 : i < L.length), IsVals w0 xs[i] L[i]) (hn : n = L.length) (hp : p < n) (hg1 : Below w2.heap.size w2 w3)
    (ho1 : w3.ownsRow w2.heap.size 35 1 v1 p (xs.take p)) (hg2 : w3.grownBy w4 v1.ownBlock) (ho2 : w4.ownsRow w2.heap.size 35 1 v2 (p + (n - (p + 1))) (xs.take p ++ xs.drop (p + 1))) :
    Ref w0 (w4.setCell ⟨R, 0, none⟩ v2) R v2 (L.eraseIdx p) ∧ Touch R u w (w4.setCell ⟨R, 0, none⟩ v2) ∧ Near w u v2 := by
  have hlo : w0.heap.size ≤ w2.heap.size := Nat.le_trans h.lo (Nat.le_of_lt h.cell.2.2)
  have hg : w2.grownBy w4 u.ownBlock := ⟨hg2.os.trans hg1.os, hg2.tape.trans hg1.tape, hg2.output.trans hg1.output, Nat.le_trans hg1.size hg2.size, fun k hk _ => (hg2.block k (Nat.lt_of_lt_of_le hk hg1.size) (fun e => by have := (ho1.lt k e.symm).1; omega)).trans (hg1.block k hk)⟩
  have e1 : p + (n - (p + 1)) = n - 1 := by omega
  rw [e1, ← List.eraseIdx_eq_take_drop_succ] at ho2
  have ho3 : w4.ownsRow w0.heap.size 35 1 v2 (n - 1) (xs.eraseIdx p) := by
    refine ⟨ho2.1, ?_⟩
    rcases ho2.2 with h2 | ⟨g, cap, cur, hv, hg, hh, r⟩
    · exact Or.inl h2
    · exact Or.inr ⟨g, cap, cur, hv, Nat.le_trans hlo hg, hh, r⟩
  have hne : Near w2 u v2 := Or.inr fun k hk => (ho2.lt k hk).1
  obtain ⟨h1, h2⟩ := Sp.stored (by decide) h hg (RowOf.erase hx2 hn.symm hp ho3) hne
  exact ⟨h1, h2.after hb, hne.mono hb.size⟩

set_option maxRecDepth 100000 in
theorem rget_away (w0 : World) (R p n g cap : Nat) (v : Value) (L : List (List M.Val)) (w : World) (hpl : p < L.length) (hn : n = L.length) (h20 : n ≤ 20) (hcap : n ≤ cap) (hcm : cap ≤ maxLen) (h : Ref w0 w R (.slice (some ⟨g, 0, none⟩) n cap) L) (hC : Calls Tryz.prog 20 #[v] w fun e w' => e = .returned (.int .i64 0) ∧ Below w.heap.size w w') (hF : ∀ w1, Below w.heap.size w w1 → Calls Tryz.prog 50 #[.pointer (some ⟨R, 0, none⟩), v] w1 fun e w' => e = .returned (.int .i64 p) ∧ Below w1.heap.size w1 w') :
    Calls Tryz.prog 29 #[.pointer (some ⟨R, 0, none⟩), v, .bool true] w fun e w' => ∃ r u', e = .returned (.tuple #[r, .int .i64 0]) ∧ IsVals w0 r L[p] ∧ Ref w0 w' R u' (L.eraseIdx p) ∧ Touch R (.slice (some ⟨g, 0, none⟩) n cap) w w' ∧ Near w (.slice (some ⟨g, 0, none⟩) n cap) u' := by
  unfold maxLen at hcm
  obtain ⟨i0, hi, hz0, hz1, hz2⟩ := info_parts infoT
  have HI := hide (And.intro hi (And.intro hz0 (And.intro hz1 hz2)))
  have HC := hide hC
  have HF := hide hF
  have HR := hide h
  have HN := hide hn
  have hp1 : (p : Int) < (n : Int) := by omega
  have hp : p < n := by omega
  have hp0 : ¬ (p : Int) < 0 := by omega
  clear hC hF h hn hi hz0 hz1 hz2
  go_enter Tryz.func29, Tryz.ntmps29
  go_wp2_with fail
  refine (unhide HC).mono ?_
  rintro e w1 ⟨rfl, hb1⟩
  have HB1 := hide hb1
  clear hb1
  go_wp2_with fail
  refine (unhide HF _ HB1.out).mono ?_
  rintro e w2 ⟨rfl, hb2⟩
  have HB2 := hide (HB1.out.trans (hb2.mono HB1.out.size))
  have HR2 : Hid (Ref w0 w2 R (.slice (some ⟨g, 0, none⟩) n cap) L) := hide (Sp.quiet HR.out HB2.out)
  obtain ⟨c1, f1, s1⟩ := HR2.out.cell
  obtain ⟨xs, hx1, hx2⟩ := HR2.out.row
  have hlen : xs.length = n := by have := hx1.1; have := HN.out; omega
  rw [← HN.out] at hx1
  have hx : w2.cell? ⟨g, p, none⟩ = some (xs[p]'(by omega)) := by rw [hx1.cellAt p (by omega), List.getElem?_eq_getElem (by omega)]
  have HXV := hide (hx2 p (by omega) hpl)
  obtain ⟨x, hxe⟩ : ∃ x, x = xs[p]'(by omega) := ⟨_, rfl⟩
  rw [← hxe] at hx HXV
  have HX1 := hide hx1
  have HX2 := hide hx2
  have HLN := hide hlen
  have s11 : Hid ((xs.take p).length = p * 1) := hide (by rw [List.length_take]; omega)
  have s12 : Hid (∀ j u, (xs.take p)[j]? = some u → w2.cell? ((⟨g, 0, none⟩ : Addr).add j) = some u) := hide fun j u hu => hx1.cells rfl j u (by rw [List.getElem?_take] at hu; split at hu; exact hu; cases hu)
  have one : ∀ u ∈ xs, u.oneCell' = true := fun u hu => by
    obtain ⟨i, hi, rfl⟩ := List.mem_iff_getElem.1 hu
    obtain ⟨a1, c1, e1, _⟩ := (hx2 i hi (by have := HN.out; omega)).shape
    rw [e1]; rfl
  have HON := hide one
  have hpc : (p : Int) ≤ (cap : Int) := by omega
  have hpc1 : (p : Int) + 1 ≤ (cap : Int) := by omega
  have hpn1 : (p : Int) + 1 ≤ (n : Int) := by omega
  clear hb2 hx1 hx2 hlen hxe one
  have one1 : Hid (∀ u ∈ xs.take p, u.oneCell' = true) := hide fun u hu => HON.out u (List.mem_of_mem_take hu)
  go_wp2_with (at_builtin; refine wpList_append_own _ rfl (.tmp 30) (.tmp 36) 43 rfl w2.heap.size 35 i0 (.slice none 0 0) 1 24 Tryz.underlying43 HI.out.1 HI.out.2.1 HI.out.2.2.1 HI.out.2.2.2 rfl (by decide) (.slice none 0 0) 0 [] rfl (World.ownsRow_nil _ _ _ _) ⟨g, 0, none⟩ p cap (xs.take p) rfl s11.out s12.out one1.out (by unfold maxLen; omega) (by omega) (Nat.le_refl _) ?_)
  intro v1 w3 hown1 hgrow1 _
  try simp only [Nat.zero_add, List.nil_append] at hown1
  have HO1 := hide hown1
  have HG1 := hide hgrow1
  have HB3 : Hid (Below w2.heap.size w2 w3) := hide ((Below.refl _ _).grown hgrow1 (Nat.le_refl _) (fun k hk => by cases hk))
  have HR3 : Hid (Ref w0 w3 R (.slice (some ⟨g, 0, none⟩) n cap) L) := hide (Sp.quiet HR2.out HB3.out)
  have c3 := HR3.out.cell.1
  clear hown1 hgrow1
  have hRl := HR3.out.cell.2.2
  have s21 : Hid ((xs.drop (p + 1)).length = (n - (p + 1)) * 1) := hide (by rw [List.length_drop, HLN.out]; omega)
  have one2 : Hid (∀ u ∈ xs.drop (p + 1), u.oneCell' = true) := hide fun u hu => HON.out u (List.mem_of_mem_drop hu)
  have HRW : Hid (∀ w4 : World, w3.grownBy w4 v1.ownBlock → w4.cell? ⟨R, 0, none⟩ = some (.slice (some ⟨g, 0, none⟩) n cap) ∧ w4.frozen? ⟨R, 0, none⟩ = false) := hide fun w4 hg => by
    have hne : some R ≠ v1.ownBlock := fun e => by have := (HO1.out.lt R e.symm).1; omega
    exact ⟨hg.cell HR3.out.cell.1 hne, (World.frozen?_of_block (hg.block R HR3.out.cell.2.2 hne)).trans HR3.out.cell.2.1⟩
  have HWS := hide HB3.out.size
  by_cases hcp : cap = p + 1
  · have h0 : Hid (xs.drop (p + 1) = [] ∧ n - (p + 1) = 0) := hide ⟨by rw [List.drop_eq_nil_iff]; have := HLN.out; omega, by omega⟩
    subst hcp
    go_wp2_with (at_builtin; refine wpList_append_own _ rfl (.tmp 39) (.tmp 46) 43 rfl w2.heap.size 35 i0 (.slice none 0 0) 1 24 Tryz.underlying43 HI.out.1 HI.out.2.1 HI.out.2.2.1 HI.out.2.2.2 rfl (by decide) v1 p (xs.take p) rfl HO1.out ⟨g, 0, none⟩ 0 0 [] rfl rfl (fun j u hu => by simp at hu) (fun u hu => by simp at hu) (by unfold maxLen; omega) (by omega) HWS.out ?_)
    intro v2 w4 hown2 hgrow2 _
    obtain ⟨c4, f4⟩ := HRW.out w4 hgrow2
    obtain ⟨a2, n2, k2, rfl⟩ := ownsRow_slice hown2
    have HO2 := hide hown2
    have HG2 := hide hgrow2
    clear hown2 hgrow2
    go_wp2
    go_ret2
    exact ⟨x, .slice a2 n2 k2, rfl, HXV.out, Ref.less HB2.out HR2.out HLN.out HX2.out HN.out hp HB3.out HO1.out HG2.out (by rw [h0.out.1, h0.out.2, Nat.add_zero, List.append_nil]; exact HO2.out)⟩
  · have s22 : Hid (∀ j u, (xs.drop (p + 1))[j]? = some u → w3.cell? ((⟨g, p + 1, none⟩ : Addr).add j) = some u) := hide fun j u hu => by
      rw [WideShapes.add_plain, HB3.out.cell (p := ⟨g, p + 1 + j, none⟩) (HX1.out.lt g rfl).2]
      rw [List.getElem?_drop] at hu
      have := HX1.out.cells rfl _ _ hu
      rwa [WideShapes.add_plain, Nat.zero_add] at this
    go_wp2_with (at_builtin; refine wpList_append_own _ rfl (.tmp 39) (.tmp 46) 43 rfl w2.heap.size 35 i0 (.slice none 0 0) 1 24 Tryz.underlying43 HI.out.1 HI.out.2.1 HI.out.2.2.1 HI.out.2.2.2 rfl (by decide) v1 p (xs.take p) rfl HO1.out ⟨g, p + 1, none⟩ (n - (p + 1)) (cap - (p + 1)) (xs.drop (p + 1)) rfl s21.out s22.out one2.out (by unfold maxLen; omega) (by omega) HWS.out ?_)
    intro v2 w4 hown2 hgrow2 _
    obtain ⟨c4, f4⟩ := HRW.out w4 hgrow2
    obtain ⟨a2, n2, k2, rfl⟩ := ownsRow_slice hown2
    have HO2 := hide hown2
    have HG2 := hide hgrow2
    clear hown2 hgrow2
    go_wp2
    go_ret2
    exact ⟨x, .slice a2 n2 k2, rfl, HXV.out, Ref.less HB2.out HR2.out HLN.out HX2.out HN.out hp HB3.out HO1.out HG2.out HO2.out⟩

theorem rget0 (w0 : World) (R : Nat) (u v : Value) (a : List M.Val) (L : List (List M.Val)) (w : World) (h : Ref w0 w R u L) (hL : M.Fine L) (hbw : Below w0.heap.size w0 w) (hv : IsVals w0 v a) :
    Calls Tryz.prog 29 #[.pointer (some ⟨R, 0, none⟩), v, .bool false] w fun e w' => ∃ r, e = .returned (.tuple #[r, .int .i64 (M.getF a L)]) ∧ IsVals w0 r (M.getV a L) ∧ Below w.heap.size w w' := by
  have hC := rlike v a w (hv.stays hbw (Nat.le_refl _))
  by_cases ha : M.likeF a = 0
  · rw [ha] at hC
    have hF : ∀ w1, Below w.heap.size w w1 → Calls Tryz.prog 50 #[.pointer (some ⟨R, 0, none⟩), v] w1 fun e w' => e = .returned (.int .i64 (M.place a L)) ∧ Below w1.heap.size w1 w' := fun w1 hb => rfirst w0 R u v a L w1 (Sp.quiet h hb) hL (hbw.trans (hb.mono hbw.size)) hv ha
    by_cases hp : M.spot a L < L.length
    · have e1 : M.place a L = (M.spot a L : Int) := by unfold M.place; rw [if_pos hp]
      rw [e1] at hF
      rw [getF_hit ha hp, getV_hit ha hp]
      obtain ⟨g, cap, rfl, _⟩ := h.row.at (by omega)
      exact rget_stay w0 R _ L.length g cap v L w hp rfl h hC hF
    · have e1 : M.place a L = -1 := by unfold M.place; rw [if_neg hp]
      rw [e1] at hF
      have e5 := getF_miss ha hp
      rw [getV_no (by rw [e5]; decide), e5]
      refine (rget_miss R v false w hC hF).mono ?_
      rintro e w' ⟨rfl, hb⟩
      exact ⟨_, rfl, Or.inl ⟨rfl, rfl⟩, hb⟩
  · rw [getV_no (by rw [getF_bad ha]; exact ha), getF_bad ha]
    refine (rget_bad R v false _ w ha hC).mono ?_
    rintro e w' ⟨rfl, hb⟩
    exact ⟨_, rfl, Or.inl ⟨rfl, rfl⟩, hb⟩

theorem rget1 (w0 : World) (R : Nat) (u v : Value) (a : List M.Val) (L : List (List M.Val)) (w : World) (h : Ref w0 w R u L) (hL : M.Fine L) (hbw : Below w0.heap.size w0 w) (hv : IsVals w0 v a) :
    Calls Tryz.prog 29 #[.pointer (some ⟨R, 0, none⟩), v, .bool true] w fun e w' => ∃ r u', e = .returned (.tuple #[r, .int .i64 (M.getF a L)]) ∧ IsVals w0 r (M.getV a L) ∧ Ref w0 w' R u' (M.lessL a L) ∧ Touch R u w w' ∧ Near w u u' := by
  have hC := rlike v a w (hv.stays hbw (Nat.le_refl _))
  by_cases ha : M.likeF a = 0
  · rw [ha] at hC
    have hF : ∀ w1, Below w.heap.size w w1 → Calls Tryz.prog 50 #[.pointer (some ⟨R, 0, none⟩), v] w1 fun e w' => e = .returned (.int .i64 (M.place a L)) ∧ Below w1.heap.size w1 w' := fun w1 hb => rfirst w0 R u v a L w1 (Sp.quiet h hb) hL (hbw.trans (hb.mono hbw.size)) hv ha
    by_cases hp : M.spot a L < L.length
    · have e1 : M.place a L = (M.spot a L : Int) := by unfold M.place; rw [if_pos hp]
      rw [e1] at hF
      rw [getF_hit ha hp, getV_hit ha hp, lessL_hit ha hp]
      obtain ⟨xs, hx1, hx2⟩ := h.row
      rcases hx1.2 with ⟨_, h0⟩ | ⟨g, cap, cur, rfl, _, _, hc1, hc2, _⟩
      · omega
      · exact rget_away w0 R _ L.length g cap v L w hp rfl hL.2 hc1 hc2 h hC hF
    · have e1 : M.place a L = -1 := by unfold M.place; rw [if_neg hp]
      rw [e1] at hF
      have e5 := getF_miss ha hp
      rw [getV_no (by rw [e5]; decide), lessL_no (by rw [e5]; decide), e5]
      refine (rget_miss R v true w hC hF).mono ?_
      rintro e w' ⟨rfl, hb⟩
      exact ⟨_, u, rfl, Or.inl ⟨rfl, rfl⟩, Sp.quiet h hb, Touch.of_below hb, Near.refl _ _⟩
  · rw [getV_no (by rw [getF_bad ha]; exact ha), lessL_no (by rw [getF_bad ha]; exact ha), getF_bad ha]
    refine (rget_bad R v true _ w ha hC).mono ?_
    rintro e w' ⟨rfl, hb⟩
    exact ⟨_, u, rfl, Or.inl ⟨rfl, rfl⟩, Sp.quiet h hb, Touch.of_below hb, Near.refl _ _⟩

end Go.Proofs.YtlefhfmckimlaaiGreatDoor
