/-
  What Get of the document's own space does, as one law of its call.
  What the document's own Rules, First and May do, each as one law of its call.
-/
import Derived.Test.YtlefhfmckimlaakGreatDoorJ40A
import Derived.Test.YtlefhfmckimlaakGreatDoorJ18A
import Derived.Test.YtlefhfmckimlaakGreatDoorJ39A
namespace Go.Proofs.YtlefhfmckimlaakGreatDoor
open Go.RowKit

theorem rget_bad (R : Nat) (v : Value) (b : Bool) (c : Int) (w : World) (hc : c ≠ 0) (hC : Calls Tryz.prog 43 #[v] w fun e w' => e = .returned (.int .i64 c) ∧ Below w.heap.size w w') :
    Calls Tryz.prog 49 #[.pointer (some ⟨R, 0, none⟩), v, .bool b] w fun e w' => e = .returned (.tuple #[.slice none 0 0, .int .i64 c]) ∧ Below w.heap.size w w' := by
  have HC := hide hC
  have hb : (c != 0) = true := by simpa using hc
  clear hC
  go_enter Tryz.func49, Tryz.ntmps49
  go_wp2_with fail
  refine (unhide HC).mono ?_
  rintro e w1 ⟨rfl, hb1⟩
  go_wp2_with fail
  go_ret2
  exact ⟨rfl, hb1⟩

theorem rget_miss (R : Nat) (v : Value) (b : Bool) (w : World) (hC : Calls Tryz.prog 43 #[v] w fun e w' => e = .returned (.int .i64 0) ∧ Below w.heap.size w w') (hF : ∀ w1, Below w.heap.size w w1 → Calls Tryz.prog 90 #[.pointer (some ⟨R, 0, none⟩), v] w1 fun e w' => e = .returned (.int .i64 (-1)) ∧ Below w1.heap.size w1 w') :
    Calls Tryz.prog 49 #[.pointer (some ⟨R, 0, none⟩), v, .bool b] w fun e w' => e = .returned (.tuple #[.slice none 0 0, .int .i64 5]) ∧ Below w.heap.size w w' := by
  have HC := hide hC
  have HF := hide hF
  clear hC hF
  go_enter Tryz.func49, Tryz.ntmps49
  go_wp2_with fail
  refine (unhide HC).mono ?_
  rintro e w1 ⟨rfl, hb1⟩
  go_wp2_with fail
  refine (unhide HF _ hb1).mono ?_
  rintro e w2 ⟨rfl, hb2⟩
  go_wp2_with fail
  go_ret2
  exact ⟨rfl, hb1.trans (hb2.mono hb1.size)⟩

theorem rget_stay (w0 : World) (R p n g cap : Nat) (v : Value) (L : List (List M.Val)) (w : World) (hpl : p < L.length) (hn : n = L.length) (h : Ref w0 w R (.slice (some ⟨g, 0, none⟩) n cap) L) (hC : Calls Tryz.prog 43 #[v] w fun e w' => e = .returned (.int .i64 0) ∧ Below w.heap.size w w') (hF : ∀ w1, Below w.heap.size w w1 → Calls Tryz.prog 90 #[.pointer (some ⟨R, 0, none⟩), v] w1 fun e w' => e = .returned (.int .i64 p) ∧ Below w1.heap.size w1 w') :
    Calls Tryz.prog 49 #[.pointer (some ⟨R, 0, none⟩), v, .bool false] w fun e w' => ∃ r, e = .returned (.tuple #[r, .int .i64 0]) ∧ IsVals w0 r L[p] ∧ Below w.heap.size w w' := by
  have HC := hide hC
  have HF := hide hF
  have HR := hide h
  have HN := hide hn
  have hp1 : (p : Int) < (n : Int) := by omega
  have hp : p < n := by omega
  have hp0 : ¬ (p : Int) < 0 := by omega
  clear hC hF h hn
  go_enter Tryz.func49, Tryz.ntmps49
  go_wp2_with fail
  refine (unhide HC).mono ?_
  rintro e w1 ⟨rfl, hb1⟩
  have HB1 := hide hb1
  clear hb1
  go_wp2_with fail
  refine (unhide HF _ HB1.out).mono ?_
  rintro e w2 ⟨rfl, hb2⟩
  have HB2 := hide (HB1.out.trans (hb2.mono HB1.out.size))
  have HR2 : Hid (Ref w0 w2 R (.slice (some ⟨g, 0, none⟩) n cap) L) := hide (Sp.quiet HR.out HB2.out)
  have c1 := HR2.out.cell.1
  obtain ⟨g2, cap2, e, hat⟩ := HR2.out.row.at (by omega)
  simp only [Value.slice.injEq, Option.some.injEq, Addr.mk.injEq, and_true] at e
  obtain ⟨rfl, _, _⟩ := e
  obtain ⟨x, hx, hxv⟩ := hat p hpl
  have HXV := hide hxv
  clear hb2 hat hxv
  go_wp2_with fail
  go_ret2
  exact ⟨x, rfl, HXV.out, HB2.out⟩

theorem Ref.less {w0 w w2 w3 w4 : World} {R n p : Nat} {u v1 v2 : Value} {L : List (List M.Val)} {xs : List Value} (hb : Below w.heap.size w w2) (h : Ref w0 w2 R u L) (hlen : xs.length = n) (hx2 : ∀ i (h1 : i < xs.length) (h2 : i < L.length), IsVals w0 xs[i] L[i]) (hn : n = L.length) (hp : p < n) (hg1 : Below w2.heap.size w2 w3)
    (ho1 : w3.ownsRow w2.heap.size 32 1 v1 p (xs.take p)) (hg2 : w3.grownBy w4 v1.ownBlock) (ho2 : w4.ownsRow w2.heap.size 32 1 v2 (p + (n - (p + 1))) (xs.take p ++ xs.drop (p + 1))) :
    Ref w0 (w4.setCell ⟨R, 0, none⟩ v2) R v2 (L.eraseIdx p) ∧ Touch R u w (w4.setCell ⟨R, 0, none⟩ v2) ∧ Near w u v2 := by
  have hlo : w0.heap.size ≤ w2.heap.size := Nat.le_trans h.lo (Nat.le_of_lt h.cell.2.2)
  have hg : w2.grownBy w4 u.ownBlock := ⟨hg2.os.trans hg1.os, hg2.tape.trans hg1.tape, hg2.output.trans hg1.output, Nat.le_trans hg1.size hg2.size, fun k hk _ => (hg2.block k (Nat.lt_of_lt_of_le hk hg1.size) (fun e => by have := (ho1.lt k e.symm).1; omega)).trans (hg1.block k hk)⟩
  have e1 : p + (n - (p + 1)) = n - 1 := by omega
  rw [e1, ← List.eraseIdx_eq_take_drop_succ] at ho2
  have ho3 : w4.ownsRow w0.heap.size 32 1 v2 (n - 1) (xs.eraseIdx p) := by
    refine ⟨ho2.1, ?_⟩
    rcases ho2.2 with h2 | ⟨g, cap, cur, hv, hg, hh, r⟩
    · exact Or.inl h2
    · exact Or.inr ⟨g, cap, cur, hv, Nat.le_trans hlo hg, hh, r⟩
  have hne : Near w2 u v2 := Or.inr fun k hk => (ho2.lt k hk).1
  obtain ⟨h1, h2⟩ := Sp.stored (by decide) h hg (RowOf.erase hx2 hn.symm hp ho3) hne
  exact ⟨h1, h2.after hb, hne.mono hb.size⟩

set_option maxRecDepth 100000 in
theorem rget_away (w0 : World) (R p n g cap : Nat) (v : Value) (L : List (List M.Val)) (w : World) (hpl : p < L.length) (hn : n = L.length) (h20 : n ≤ 20) (hcap : n ≤ cap) (hcm : cap ≤ maxLen) (h : Ref w0 w R (.slice (some ⟨g, 0, none⟩) n cap) L) (hC : Calls Tryz.prog 43 #[v] w fun e w' => e = .returned (.int .i64 0) ∧ Below w.heap.size w w') (hF : ∀ w1, Below w.heap.size w w1 → Calls Tryz.prog 90 #[.pointer (some ⟨R, 0, none⟩), v] w1 fun e w' => e = .returned (.int .i64 p) ∧ Below w1.heap.size w1 w') :
    Calls Tryz.prog 49 #[.pointer (some ⟨R, 0, none⟩), v, .bool true] w fun e w' => ∃ r u', e = .returned (.tuple #[r, .int .i64 0]) ∧ IsVals w0 r L[p] ∧ Ref w0 w' R u' (L.eraseIdx p) ∧ Touch R (.slice (some ⟨g, 0, none⟩) n cap) w w' ∧ Near w (.slice (some ⟨g, 0, none⟩) n cap) u' := by
  unfold maxLen at hcm
  obtain ⟨i0, hi, hz0, hz1, hz2⟩ := info_parts infoT
  have HI := hide (And.intro hi (And.intro hz0 (And.intro hz1 hz2)))
  have HC := hide hC
  have HF := hide hF
  have HR := hide h
  have HN := hide hn
  have hp1 : (p : Int) < (n : Int) := by omega
  have hp : p < n := by omega
  have hp0 : ¬ (p : Int) < 0 := by omega
  clear hC hF h hn hi hz0 hz1 hz2
  go_enter Tryz.func49, Tryz.ntmps49
  go_wp2_with fail
  refine (unhide HC).mono ?_
  rintro e w1 ⟨rfl, hb1⟩
  have HB1 := hide hb1
  clear hb1
  go_wp2_with fail
  refine (unhide HF _ HB1.out).mono ?_
  rintro e w2 ⟨rfl, hb2⟩
  have HB2 := hide (HB1.out.trans (hb2.mono HB1.out.size))
  have HR2 : Hid (Ref w0 w2 R (.slice (some ⟨g, 0, none⟩) n cap) L) := hide (Sp.quiet HR.out HB2.out)
  obtain ⟨c1, f1, s1⟩ := HR2.out.cell
  obtain ⟨xs, hx1, hx2⟩ := HR2.out.row
  have hlen : xs.length = n := by have := hx1.1; have := HN.out; omega
  rw [← HN.out] at hx1
  have hx : w2.cell? ⟨g, p, none⟩ = some (xs[p]'(by omega)) := by rw [hx1.cellAt p (by omega), List.getElem?_eq_getElem (by omega)]
  have HXV := hide (hx2 p (by omega) hpl)
  obtain ⟨x, hxe⟩ : ∃ x, x = xs[p]'(by omega) := ⟨_, rfl⟩
  rw [← hxe] at hx HXV
  have HX1 := hide hx1
  have HX2 := hide hx2
  have HLN := hide hlen
  have s11 : Hid ((xs.take p).length = p * 1) := hide (by rw [List.length_take]; omega)
  have s12 : Hid (∀ j u, (xs.take p)[j]? = some u → w2.cell? ((⟨g, 0, none⟩ : Addr).add j) = some u) := hide fun j u hu => hx1.cells rfl j u (by rw [List.getElem?_take] at hu; split at hu; exact hu; cases hu)
  have one : ∀ u ∈ xs, u.oneCell' = true := fun u hu => by
    obtain ⟨i, hi, rfl⟩ := List.mem_iff_getElem.1 hu
    obtain ⟨a1, c1, e1, _⟩ := (hx2 i hi (by have := HN.out; omega)).shape
    rw [e1]; rfl
  have HON := hide one
  have hpc : (p : Int) ≤ (cap : Int) := by omega
  have hpc1 : (p : Int) + 1 ≤ (cap : Int) := by omega
  have hpn1 : (p : Int) + 1 ≤ (n : Int) := by omega
  clear hb2 hx1 hx2 hlen hxe one
  have one1 : Hid (∀ u ∈ xs.take p, u.oneCell' = true) := hide fun u hu => HON.out u (List.mem_of_mem_take hu)
  go_wp2_with (at_builtin; refine wpList_append_own _ rfl (.tmp 30) (.tmp 36) 76 rfl w2.heap.size 32 i0 (.slice none 0 0) 1 24 Tryz.underlying76 HI.out.1 HI.out.2.1 HI.out.2.2.1 HI.out.2.2.2 rfl (by decide) (.slice none 0 0) 0 [] rfl (World.ownsRow_nil _ _ _ _) ⟨g, 0, none⟩ p cap (xs.take p) rfl s11.out s12.out one1.out (by unfold maxLen; omega) (by omega) (Nat.le_refl _) ?_)
  intro v1 w3 hown1 hgrow1 _
  try simp only [Nat.zero_add, List.nil_append] at hown1
  have HO1 := hide hown1
  have HG1 := hide hgrow1
  have HB3 : Hid (Below w2.heap.size w2 w3) := hide ((Below.refl _ _).grown hgrow1 (Nat.le_refl _) (fun k hk => by cases hk))
  have HR3 : Hid (Ref w0 w3 R (.slice (some ⟨g, 0, none⟩) n cap) L) := hide (Sp.quiet HR2.out HB3.out)
  have c3 := HR3.out.cell.1
  clear hown1 hgrow1
  have hRl := HR3.out.cell.2.2
  have s21 : Hid ((xs.drop (p + 1)).length = (n - (p + 1)) * 1) := hide (by rw [List.length_drop, HLN.out]; omega)
  have one2 : Hid (∀ u ∈ xs.drop (p + 1), u.oneCell' = true) := hide fun u hu => HON.out u (List.mem_of_mem_drop hu)
  have HRW : Hid (∀ w4 : World, w3.grownBy w4 v1.ownBlock → w4.cell? ⟨R, 0, none⟩ = some (.slice (some ⟨g, 0, none⟩) n cap) ∧ w4.frozen? ⟨R, 0, none⟩ = false) := hide fun w4 hg => by
    have hne : some R ≠ v1.ownBlock := fun e => by have := (HO1.out.lt R e.symm).1; omega
    exact ⟨hg.cell HR3.out.cell.1 hne, (World.frozen?_of_block (hg.block R HR3.out.cell.2.2 hne)).trans HR3.out.cell.2.1⟩
  have HWS := hide HB3.out.size
  by_cases hcp : cap = p + 1
  · have h0 : Hid (xs.drop (p + 1) = [] ∧ n - (p + 1) = 0) := hide ⟨by rw [List.drop_eq_nil_iff]; have := HLN.out; omega, by omega⟩
    subst hcp
    go_wp2_with (at_builtin; refine wpList_append_own _ rfl (.tmp 39) (.tmp 46) 76 rfl w2.heap.size 32 i0 (.slice none 0 0) 1 24 Tryz.underlying76 HI.out.1 HI.out.2.1 HI.out.2.2.1 HI.out.2.2.2 rfl (by decide) v1 p (xs.take p) rfl HO1.out ⟨g, 0, none⟩ 0 0 [] rfl rfl (fun j u hu => by simp at hu) (fun u hu => by simp at hu) (by unfold maxLen; omega) (by omega) HWS.out ?_)
    intro v2 w4 hown2 hgrow2 _
    obtain ⟨c4, f4⟩ := HRW.out w4 hgrow2
    obtain ⟨a2, n2, k2, rfl⟩ := ownsRow_slice hown2
    have HO2 := hide hown2
    have HG2 := hide hgrow2
    clear hown2 hgrow2
    go_wp2
    go_ret2
    exact ⟨x, .slice a2 n2 k2, rfl, HXV.out, Ref.less HB2.out HR2.out HLN.out HX2.out HN.out hp HB3.out HO1.out HG2.out (by rw [h0.out.1, h0.out.2, Nat.add_zero, List.append_nil]; exact HO2.out)⟩
  · have s22 : Hid (∀ j u, (xs.drop (p + 1))[j]? = some u → w3.cell? ((⟨g, p + 1, none⟩ : Addr).add j) = some u) := hide fun j u hu => by
      rw [WideShapes.add_plain, HB3.out.cell (p := ⟨g, p + 1 + j, none⟩) (HX1.out.lt g rfl).2]
      rw [List.getElem?_drop] at hu
      have := HX1.out.cells rfl _ _ hu
      rwa [WideShapes.add_plain, Nat.zero_add] at this
    go_wp2_with (at_builtin; refine wpList_append_own _ rfl (.tmp 39) (.tmp 46) 76 rfl w2.heap.size 32 i0 (.slice none 0 0) 1 24 Tryz.underlying76 HI.out.1 HI.out.2.1 HI.out.2.2.1 HI.out.2.2.2 rfl (by decide) v1 p (xs.take p) rfl HO1.out ⟨g, p + 1, none⟩ (n - (p + 1)) (cap - (p + 1)) (xs.drop (p + 1)) rfl s21.out s22.out one2.out (by unfold maxLen; omega) (by omega) HWS.out ?_)
    intro v2 w4 hown2 hgrow2 _
    obtain ⟨c4, f4⟩ := HRW.out w4 hgrow2
    obtain ⟨a2, n2, k2, rfl⟩ := ownsRow_slice hown2
    have HO2 := hide hown2
    have HG2 := hide hgrow2
    clear hown2 hgrow2
    go_wp2
    go_ret2
    exact ⟨x, .slice a2 n2 k2, rfl, HXV.out, Ref.less HB2.out HR2.out HLN.out HX2.out HN.out hp HB3.out HO1.out HG2.out HO2.out⟩

theorem rget0 (w0 : World) (R : Nat) (u v : Value) (a : List M.Val) (L : List (List M.Val)) (w : World) (h : Ref w0 w R u L) (hL : M.Fine L) (hbw : Below w0.heap.size w0 w) (hv : IsVals w0 v a) :
    Calls Tryz.prog 49 #[.pointer (some ⟨R, 0, none⟩), v, .bool false] w fun e w' => ∃ r, e = .returned (.tuple #[r, .int .i64 (M.getF a L)]) ∧ IsVals w0 r (M.getV a L) ∧ Below w.heap.size w w' := by
  have hC := rlike v a w (hv.stays hbw (Nat.le_refl _))
  by_cases ha : M.likeF a = 0
  · rw [ha] at hC
    have hF : ∀ w1, Below w.heap.size w w1 → Calls Tryz.prog 90 #[.pointer (some ⟨R, 0, none⟩), v] w1 fun e w' => e = .returned (.int .i64 (M.place a L)) ∧ Below w1.heap.size w1 w' := fun w1 hb => rfirst w0 R u v a L w1 (Sp.quiet h hb) hL (hbw.trans (hb.mono hbw.size)) hv ha
    by_cases hp : M.spot a L < L.length
    · have e1 : M.place a L = (M.spot a L : Int) := by unfold M.place; rw [if_pos hp]
      rw [e1] at hF
      rw [getF_hit ha hp, getV_hit ha hp]
      obtain ⟨g, cap, rfl, _⟩ := h.row.at (by omega)
      exact rget_stay w0 R _ L.length g cap v L w hp rfl h hC hF
    · have e1 : M.place a L = -1 := by unfold M.place; rw [if_neg hp]
      rw [e1] at hF
      have e5 := getF_miss ha hp
      rw [getV_no (by rw [e5]; decide), e5]
      refine (rget_miss R v false w hC hF).mono ?_
      rintro e w' ⟨rfl, hb⟩
      exact ⟨_, rfl, Or.inl ⟨rfl, rfl⟩, hb⟩
  · rw [getV_no (by rw [getF_bad ha]; exact ha), getF_bad ha]
    refine (rget_bad R v false _ w ha hC).mono ?_
    rintro e w' ⟨rfl, hb⟩
    exact ⟨_, rfl, Or.inl ⟨rfl, rfl⟩, hb⟩

theorem rget1 (w0 : World) (R : Nat) (u v : Value) (a : List M.Val) (L : List (List M.Val)) (w : World) (h : Ref w0 w R u L) (hL : M.Fine L) (hbw : Below w0.heap.size w0 w) (hv : IsVals w0 v a) :
    Calls Tryz.prog 49 #[.pointer (some ⟨R, 0, none⟩), v, .bool true] w fun e w' => ∃ r u', e = .returned (.tuple #[r, .int .i64 (M.getF a L)]) ∧ IsVals w0 r (M.getV a L) ∧ Ref w0 w' R u' (M.lessL a L) ∧ Touch R u w w' ∧ Near w u u' := by
  have hC := rlike v a w (hv.stays hbw (Nat.le_refl _))
  by_cases ha : M.likeF a = 0
  · rw [ha] at hC
    have hF : ∀ w1, Below w.heap.size w w1 → Calls Tryz.prog 90 #[.pointer (some ⟨R, 0, none⟩), v] w1 fun e w' => e = .returned (.int .i64 (M.place a L)) ∧ Below w1.heap.size w1 w' := fun w1 hb => rfirst w0 R u v a L w1 (Sp.quiet h hb) hL (hbw.trans (hb.mono hbw.size)) hv ha
    by_cases hp : M.spot a L < L.length
    · have e1 : M.place a L = (M.spot a L : Int) := by unfold M.place; rw [if_pos hp]
      rw [e1] at hF
      rw [getF_hit ha hp, getV_hit ha hp, lessL_hit ha hp]
      obtain ⟨xs, hx1, hx2⟩ := h.row
      rcases hx1.2 with ⟨_, h0⟩ | ⟨g, cap, cur, rfl, _, _, hc1, hc2, _⟩
      · omega
      · exact rget_away w0 R _ L.length g cap v L w hp rfl hL.2 hc1 hc2 h hC hF
    · have e1 : M.place a L = -1 := by unfold M.place; rw [if_neg hp]
      rw [e1] at hF
      have e5 := getF_miss ha hp
      rw [getV_no (by rw [e5]; decide), lessL_no (by rw [e5]; decide), e5]
      refine (rget_miss R v true w hC hF).mono ?_
      rintro e w' ⟨rfl, hb⟩
      exact ⟨_, u, rfl, Or.inl ⟨rfl, rfl⟩, Sp.quiet h hb, Touch.of_below hb, Near.refl _ _⟩
  · rw [getV_no (by rw [getF_bad ha]; exact ha), lessL_no (by rw [getF_bad ha]; exact ha), getF_bad ha]
    refine (rget_bad R v true _ w ha hC).mono ?_
    rintro e w' ⟨rfl, hb⟩
    exact ⟨_, u, rfl, Or.inl ⟨rfl, rfl⟩, Sp.quiet h hb, Touch.of_below hb, Near.refl _ _⟩

end Go.Proofs.YtlefhfmckimlaakGreatDoor

set_option linter.unusedVariables false
namespace Go.Proofs.YtlefhfmckimlaakGreatDoor
open Go.RowKit

theorem refRules_many (a : Option Addr) (n cap : Nat) (w : World) (h : 8 < n) (hn : n ≤ maxLen) :
    Calls Tryz.prog 15 #[.slice a n cap] w fun e w' => e = .returned (.int .i64 4) ∧ Below w.heap.size w w' := by
  unfold maxLen at hn
  have h8 : (8 : Int) < n := by omega
  go_enter Tryz.func15, Tryz.ntmps15
  go_wp2
  go_ret
  exact ⟨rfl, Below.refl _ _⟩

theorem refRules_some (av : Option Addr) (n cap : Nat) (l : List M.Rul) (w : World) (hn : n = l.length) (h : n ≤ 8) (hl : AtR w av l) :
    Calls Tryz.prog 15 #[.slice av n cap] w fun e w' => e = .returned (.int .i64 (M.first (M.rulA l) n)) ∧ Below w.heap.size w w' := by
  have HL := hide hl
  have HN := hide hn
  have h8 : ¬ (8 : Int) < n := by omega
  clear hl hn
  go_enter Tryz.func15, Tryz.ntmps15
  go_wp2
  go_loopw [3] (fun i wr => ∃ k : Nat, k ≤ n ∧ i = .int .i64 k ∧ Hid (M.first (M.rulA l) k = 0) ∧ Hid (Below w.heap.size w wr)) (fun i _ => n - (intOf i).toNat)
  case atStart => exact ⟨0, Nat.zero_le _, rfl, hide rfl, hide (Below.refl _ _)⟩
  case round =>
    obtain ⟨k, hk, rfl, hno, hbel⟩ := hrel
    by_cases hlt : k < n
    · have hkl : k < l.length := HN.out ▸ hlt
      have ik0 : (0 : Int) ≤ (k : Int) := by omega
      have ikn : (k : Int) < (n : Int) := by omega
      obtain ⟨b, off, rfl, hlie⟩ := HL.out (by omega)
      obtain ⟨a, m, c, c1, c2, c3, c4, hv⟩ := (hlie.stays hbel.out (Nat.le_refl _)).get hkl
      have HF := hide (M.rulA_at hkl)
      generalize l[k] = r at *
      obtain ⟨d, x, lk, my⟩ := r
      have HC : Hid (Calls Tryz.prog 43 #[.slice a m c] wr fun e w' => e = .returned (.int .i64 (M.likeF lk)) ∧ Below wr.heap.size wr w') := hide (rlike _ lk wr hv)
      clear hv hlie
      by_cases hr : d < 0 ∨ 2 < d ∨ x < -1 ∨ 1000000 < x
      · have HS : Hid (M.first (M.rulA l) n = 1) := hide (by
          have e1 := HF.out
          rw [M.rulF_range (r := ⟨d, x, lk, my⟩) hr] at e1
          rw [M.first_bad hlt hno.out (by rw [e1]; decide), e1])
        clear HF HC
        by_cases q1 : d < 0
        · clear hr
          go_wp2_with fail
          go_ret
          exact ⟨by rw [HS.out]; rfl, hbel.out⟩
        · by_cases q2 : 2 < d
          · clear hr
            go_wp2_with fail
            go_ret
            exact ⟨by rw [HS.out]; rfl, hbel.out⟩
          · by_cases q3 : x < -1
            · clear hr
              go_wp2_with fail
              go_ret
              exact ⟨by rw [HS.out]; rfl, hbel.out⟩
            · have q4 : 1000000 < x := by omega
              clear hr
              go_wp2_with fail
              go_ret
              exact ⟨by rw [HS.out]; rfl, hbel.out⟩
      · have HE : Hid (M.rulF ⟨d, x, lk, my⟩ = M.likeF lk) := hide (M.rulF_like (r := ⟨d, x, lk, my⟩) hr)
        have q1 : ¬ d < 0 := by omega
        have q2 : ¬ 2 < d := by omega
        have q3 : ¬ x < -1 := by omega
        have q4 : ¬ 1000000 < x := by omega
        clear hr
        by_cases hb : M.likeF lk = 0
        · have HS : Hid (M.first (M.rulA l) (k + 1) = 0) := hide (by rw [M.first_next hno.out, HF.out, HE.out, hb])
          rw [hb] at HC
          clear hb HF HE
          go_wp2_with fail
          refine (unhide HC).mono ?_
          rintro e w1 ⟨rfl, hb1⟩
          have HB1 := hide (hbel.out.trans (hb1.mono hbel.out.size))
          clear hb1
          go_wp2_with fail
          go_roundw
          case rel => exact ⟨k + 1, by omega, by go_num, HS, HB1⟩
          case measure => simp [intOf]; omega
        · have HS : Hid (M.first (M.rulA l) n = M.likeF lk) := hide (by rw [M.first_bad hlt hno.out (by rw [HF.out, HE.out]; exact hb), HF.out, HE.out])
          have hbb : (M.likeF lk != 0) = true := by simpa using hb
          clear hb HF HE
          generalize M.likeF lk = E at *
          go_wp2_with fail
          refine (unhide HC).mono ?_
          rintro e w1 ⟨rfl, hb1⟩
          have HB1 := hide (hbel.out.trans (hb1.mono hbel.out.size))
          clear hb1
          go_wp2_with fail
          go_ret
          exact ⟨by rw [HS.out]; rfl, HB1.out⟩
    · have HS : Hid (M.first (M.rulA l) n = 0) := hide (by have := hno.out; rwa [show k = n by omega] at this)
      go_wp2
      go_ret
      exact ⟨by rw [HS.out]; rfl, hbel.out⟩

theorem refRules (a : Option Addr) (n cap : Nat) (l : List M.Rul) (w : World) (hn : n = l.length) (hm : n ≤ maxLen) (hl : AtR w a l) :
    Calls Tryz.prog 15 #[.slice a n cap] w fun e w' => e = .returned (.int .i64 (M.rulE l)) ∧ Below w.heap.size w w' := by
  by_cases h : 8 < n
  · rw [M.rulE_many (hn ▸ h)]; exact refRules_many a n cap w h hm
  · rw [M.rulE_some (hn ▸ h), ← hn]; exact refRules_some a n cap l w hn (by omega) hl

theorem refFirst (av : Option Addr) (n cap : Nat) (L : List M.Rul) (who deed : Int) (tv : Value) (t : List M.Val) (w : World) (hn : n = L.length) (h8 : n ≤ 8) (hl : AtR w av L) (hL : ∀ r ∈ L, M.likeF r.like = 0) (ht : IsVals w tv t) :
    Calls Tryz.prog 89 #[.slice av n cap, .int .i64 who, .int .i64 deed, tv] w fun e w' => e = .returned (.int .i64 (M.placeR L who deed t)) ∧ Below w.heap.size w w' := by
  have HL := hide hl
  have HN := hide hn
  have HT : Hid (∀ wx, Below w.heap.size w wx → IsVals wx tv t) := hide fun wx hb => ht.stays hb (Nat.le_refl _)
  have HLK := hide hL
  clear hl hn ht hL
  go_enter Tryz.func89, Tryz.ntmps89
  go_wp2
  go_loopw [9] (fun i wr => ∃ k : Nat, k ≤ n ∧ i = .int .i64 k ∧ Hid (∀ j (hj : j < k) (hjl : j < L.length), M.goes who deed t L[j] = false) ∧ Hid (Below w.heap.size w wr)) (fun i _ => n - (intOf i).toNat)
  case atStart => exact ⟨0, Nat.zero_le _, rfl, hide (fun j hj => by omega), hide (Below.refl _ _)⟩
  case round =>
    obtain ⟨k, hk, rfl, hno, hbel⟩ := hrel
    by_cases hlt : k < n
    · have hkl : k < L.length := HN.out ▸ hlt
      have ik0 : (0 : Int) ≤ (k : Int) := by omega
      have ikn : (k : Int) < (n : Int) := by omega
      obtain ⟨b, off, rfl, hlie⟩ := HL.out (by omega)
      obtain ⟨a, m, c, c1, c2, c3, c4, hv⟩ := (hlie.stays hbel.out (Nat.le_refl _)).get hkl
      have hbw : b < wr.heap.size := World.block_lt_of_cell? wr _ c1
      have HK : Hid (∀ wx, Below wr.heap.size wr wx → wx.cell? ⟨b, off + k * 4, none⟩ = some (.int .i64 L[k].deed) ∧ wx.cell? ⟨b, off + k * 4 + 1, none⟩ = some (.int .i64 L[k].who)) := hide fun wx hb => ⟨(hb.cell (p := ⟨b, off + k * 4, none⟩) hbw).trans c1, (hb.cell (p := ⟨b, off + k * 4 + 1, none⟩) hbw).trans c2⟩
      have HC : Hid (Calls Tryz.prog 120 #[.slice a m c, tv] wr fun e w' => e = .returned (.bool (M.fitAll L[k].like t)) ∧ Below wr.heap.size wr w') := hide (rfits _ _ _ t wr hv (HT.out _ hbel.out) (HLK.out _ (List.getElem_mem hkl)))
      have HNX : Hid (M.goes who deed t L[k] = false → ∀ j (hj : j < k + 1) (hjl : j < L.length), M.goes who deed t L[j] = false) := hide fun hg j hj hjl => by
        rcases Nat.lt_succ_iff_lt_or_eq.1 hj with h | h
        · exact hno.out j h hjl
        · subst h; exact hg
      have HHT : Hid (M.goes who deed t L[k] = true → M.placeR L who deed t = (k : Int)) := hide fun hg => by
        have hsp : M.spotR L who deed t = k := M.spotR_hit hkl (fun j hj => hno.out j hj (by omega)) hg
        unfold M.placeR; rw [hsp, if_pos hkl]
      clear hv hlie c4 c1 c2
      generalize L[k] = r at *
      obtain ⟨d, x, lk, my⟩ := r
      have HG : Hid (M.goes who deed t ⟨d, x, lk, my⟩ = (M.fitAll lk t && (d == deed) && (x == -1 || x == who))) := hide rfl
      dsimp only at HC HK
      cases hf : M.fitAll lk t
      · have HS := hide (HNX.out (by rw [HG.out, hf]; rfl))
        rw [hf] at HC
        clear hf HG HNX HHT
        go_wp2_with fail
        refine (unhide HC).mono ?_
        rintro e w1 ⟨rfl, hb1⟩
        have HB1 := hide (hbel.out.trans (hb1.mono hbel.out.size))
        clear hb1
        go_wp2_with fail
        go_roundw
        case rel => exact ⟨k + 1, by omega, by go_num, HS, HB1⟩
        case measure => simp [intOf]; omega
      · rw [hf] at HC
        cases hd : (d == deed)
        · have HS := hide (HNX.out (by rw [HG.out, hf, hd]; rfl))
          clear hf HG HNX HHT
          go_wp2_with fail
          refine (unhide HC).mono ?_
          rintro e w1 ⟨rfl, hb1⟩
          obtain ⟨d1, d2⟩ := HK.out _ hb1
          have HB1 := hide (hbel.out.trans (hb1.mono hbel.out.size))
          clear hb1
          go_wp2_with fail
          go_roundw
          case rel => exact ⟨k + 1, by omega, by go_num, HS, HB1⟩
          case measure => simp [intOf]; omega
        · cases hx : (x == -1)
          · cases hw : (x == who)
            · have HS := hide (HNX.out (by rw [HG.out, hf, hd, hx, hw]; rfl))
              clear hf HG HNX HHT
              go_wp2_with fail
              refine (unhide HC).mono ?_
              rintro e w1 ⟨rfl, hb1⟩
              obtain ⟨d1, d2⟩ := HK.out _ hb1
              have HB1 := hide (hbel.out.trans (hb1.mono hbel.out.size))
              clear hb1
              go_wp2_with fail
              go_roundw
              case rel => exact ⟨k + 1, by omega, by go_num, HS, HB1⟩
              case measure => simp [intOf]; omega
            · have HS := hide (HHT.out (by rw [HG.out, hf, hd, hx, hw]; rfl))
              clear hf HG HNX HHT
              go_wp2_with fail
              refine (unhide HC).mono ?_
              rintro e w1 ⟨rfl, hb1⟩
              obtain ⟨d1, d2⟩ := HK.out _ hb1
              have HB1 := hide (hbel.out.trans (hb1.mono hbel.out.size))
              clear hb1
              go_wp2_with fail
              go_ret
              exact ⟨by rw [HS.out]; rfl, HB1.out⟩
          · have HS := hide (HHT.out (by rw [HG.out, hf, hd, hx]; rfl))
            clear hf HG HNX HHT
            go_wp2_with fail
            refine (unhide HC).mono ?_
            rintro e w1 ⟨rfl, hb1⟩
            obtain ⟨d1, d2⟩ := HK.out _ hb1
            have HB1 := hide (hbel.out.trans (hb1.mono hbel.out.size))
            clear hb1
            go_wp2_with fail
            go_ret
            exact ⟨by rw [HS.out]; rfl, HB1.out⟩
    · have hsp : M.spotR L who deed t = L.length := M.spotR_none (fun j hj => hno.out j (by have := HN.out; omega) hj)
      have hfin : Hid (M.placeR L who deed t = -1) := hide (by unfold M.placeR; rw [hsp, if_neg (Nat.lt_irrefl _)])
      clear hsp
      go_wp2
      go_ret
      exact ⟨by rw [hfin.out]; rfl, hbel.out⟩

theorem refMay (av : Option Addr) (n cap : Nat) (L : List M.Rul) (who deed : Int) (tv : Value) (t : List M.Val) (w : World) (hn : n = L.length) (hl : AtR w av L) (hE : M.mayE L who deed t = 0) (ht : IsVals w tv t) :
    Calls Tryz.prog 47 #[.slice av n cap, .int .i64 who, .int .i64 deed, tv] w fun e w' => e = .returned (.bool (M.mayR L who deed t)) ∧ Below w.heap.size w w' := by
  obtain ⟨e1, e2, e3⟩ := M.mayE_ok hE
  have h8 : n ≤ 8 := by rw [hn]; exact (M.rulE_ok e1).1
  have hF := refFirst av n cap L who deed tv t w hn h8 hl (M.rulE_like e1) ht
  clear ht
  by_cases hs : M.spotR L who deed t < L.length
  · have hp : M.placeR L who deed t = (M.spotR L who deed t : Int) := by unfold M.placeR; rw [if_pos hs]
    rw [hp] at hF
    have hR := M.mayR_hit hE hs
    rw [hR]
    obtain ⟨b, off, rfl, hlie⟩ := hl (by omega)
    have hc : ∀ wx, Below w.heap.size w wx → wx.cell? ⟨b, off + M.spotR L who deed t * 4 + 3, none⟩ = some (.bool L[M.spotR L who deed t].may) := fun wx hb => ((hlie.stays hb (Nat.le_refl _)) _ hs).2.2.2
    have hsn : M.spotR L who deed t < n := by omega
    generalize L[M.spotR L who deed t].may = my at *
    generalize M.spotR L who deed t = p at *
    have HF := hide hF
    have HCE := hide hc
    have p0 : (0 : Int) ≤ (p : Int) := by omega
    have pn : (p : Int) < (n : Int) := by omega
    clear hF hc hlie hR hp hs hE e1 e2 e3 hl hn
    go_enter Tryz.func47, Tryz.ntmps47
    go_wp2_with fail
    refine (unhide HF).mono ?_
    rintro e w1 ⟨rfl, hb1⟩
    have c1 := HCE.out _ hb1
    have HB1 := hide hb1
    clear hb1
    go_wp2_with fail
    go_ret
    exact ⟨rfl, HB1.out⟩
  · have hp : M.placeR L who deed t = -1 := by unfold M.placeR; rw [if_neg hs]
    rw [hp] at hF
    rw [M.mayR_none hE hs]
    have HF := hide hF
    clear hF hp hs hE e1 e2 e3 hl hn
    go_enter Tryz.func47, Tryz.ntmps47
    go_wp2_with fail
    refine (unhide HF).mono ?_
    rintro e w1 ⟨rfl, hb1⟩
    go_wp2_with fail
    go_ret
    exact ⟨rfl, hb1⟩

end Go.Proofs.YtlefhfmckimlaakGreatDoor
