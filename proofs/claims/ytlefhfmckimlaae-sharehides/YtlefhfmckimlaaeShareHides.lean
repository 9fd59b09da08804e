/-
  The walk of the Go function ShareHides: it returns true, whatever comes in.
-/
import Derived.Test.YtlefhfmckimlaaeShareDeal2
import Derived.Test.YtlefhfmckimlaaeHideMath
set_option linter.unusedVariables false
namespace Go.Proofs.Ytlefhfmckimlaae.shareHides
open Go.RowKit

theorem flatP_len : ∀ l : List (Int × Int), (flatP l).length = l.length * 2
  | [] => rfl
  | q :: l => by simp only [flatP, List.length_cons, flatP_len l]; omega
/-- the cells of points that lie somewhere -/
theorem lie_news {w : World} {b off : Nat} {l : List (Int × Int)} (h : LieP w b off l) : ∀ j u, (flatP l)[j]? = some u → w.cell? ((⟨b, off, none⟩ : Addr).add j) = some u := fun j u hu => by
  have hj : j < l.length * 2 := by
    have := (List.getElem?_eq_some_iff.1 hu).1
    rwa [flatP_len] at this
  rw [WideShapes.add_plain]
  obtain ⟨q1, q2⟩ := flatP_at l (j / 2) (by omega)
  obtain ⟨g1, g2⟩ := h (j / 2) (by omega)
  by_cases hm : j % 2 = 0
  · have e : j / 2 * 2 = j := by omega
    rw [e] at q1 g1
    rw [q1] at hu
    cases hu
    exact g1
  · have e : j / 2 * 2 + 1 = j := by omega
    rw [e] at q2
    rw [Nat.add_assoc, e] at g2
    rw [q2] at hu
    cases hu
    exact g2

theorem fact_at : M.ev [5, 2] 1 = 7 ∧ M.ev [5, 2] 3 = 11 := by decide +kernel
theorem fact_ok : M.secE 5 [2] = 0 := by decide +kernel
/-- the shares of 5, with 2 beside it -/
theorem fact (B : Nat) (w : World) (h : w.cell? ⟨B, 0, none⟩ = some (.int .i64 2)) :
    Calls Try.prog 10 #[.int .i64 5, .slice (some ⟨B, 0, none⟩) 1 1, .int .i64 3] w fun e w' => (∃ g, e = .returned (.tuple #[.slice (some ⟨g, 0, none⟩) 3 3, .nilIface]) ∧ w'.cell? ⟨g, 1, none⟩ = some (.int .i64 7) ∧ w'.cell? ⟨g, 5, none⟩ = some (.int .i64 11)) ∧ Below w.heap.size w w' := by
  refine (dealOk 5 (some ⟨B, 0, none⟩) 1 1 [2] 3 w rfl (by decide) (fun _ => ⟨B, 0, rfl, fun i hi => ?_⟩) (fun e => by cases e) fact_ok (by decide) (by decide) (by decide)).mono ?_
  · have hi0 : i = 0 := by simpa using hi
    subst hi0
    exact h
  · rintro e w' ⟨⟨g, rfl, hat⟩, hb⟩
    obtain ⟨b, off, e, hl⟩ := hat (by rw [M.deal_len]; decide)
    cases e
    have h0 := (hl 0 (by rw [M.deal_len]; decide)).2
    have h2 := (hl 2 (by rw [M.deal_len]; decide)).2
    rw [M.deal_at _ (by decide)] at h0 h2
    have f1 : M.ev [5, 2] (((0 : Nat) : Int) + 1) = 7 := fact_at.1
    have f3 : M.ev [5, 2] (((2 : Nat) : Int) + 1) = 11 := fact_at.2
    simp only [f1] at h0
    simp only [f3] at h2
    exact ⟨⟨g, rfl, h0, h2⟩, hb⟩

set_option maxRecDepth 100000 in
theorem bad (s : Int) (a : Option Addr) (n cap : Nat) (r : List Int) (m skip other : Int) (w : World) (hn : n = r.length) (hm : n ≤ maxLen) (hl : AtI w a r) (ht : Tidy a n cap) (h : M.dealE s r m ≠ 0) :
    Calls Try.prog 5 #[.int .i64 s, .slice a n cap, .int .i64 m, .int .i64 skip, .int .i64 other] w fun e w' => e = .returned (.bool true) ∧ Below w.heap.size w w' := by
  have HD : Hid (∀ wx, Below w.heap.size w wx → Calls Try.prog 10 #[.int .i64 s, .slice a n cap, .int .i64 m] wx fun e w' => (∃ v k c, e = .returned (.tuple #[.slice v k c, .iface 39 (.int .i64 (M.dealE s r m))])) ∧ Below wx.heap.size wx w') := hide fun wx hb => by
    refine (sDeal s a n cap r m wx hn hm (hl.stays hb (Nat.le_refl _)) ht).mono ?_
    rintro e w' ⟨⟨v, k, c, rfl, _⟩, hb'⟩
    exact ⟨⟨v, k, c, by rw [errV_bad h]⟩, hb'⟩
  have HF : Hid (∀ (wx : World) (B : Nat), wx.cell? ⟨B, 0, none⟩ = some (.int .i64 2) → Calls Try.prog 10 #[.int .i64 5, .slice (some ⟨B, 0, none⟩) 1 1, .int .i64 3] wx fun e w' => (∃ g, e = .returned (.tuple #[.slice (some ⟨g, 0, none⟩) 3 3, .nilIface]) ∧ w'.cell? ⟨g, 1, none⟩ = some (.int .i64 7) ∧ w'.cell? ⟨g, 5, none⟩ = some (.int .i64 11)) ∧ Below wx.heap.size wx w') := hide fun wx B h => fact B wx h
  generalize M.dealE s r m = E at HD
  unfold maxLen at hm
  clear hn hl ht h
  go_enter Try.func5, Try.ntmps5
  go_wp2_with fail
  refine (HF.out _ _ (by simp [go_sem])).mono ?_
  rintro e w1 ⟨⟨g, rfl, c1, c5⟩, hb1⟩
  have HB1 : Hid (Below w.heap.size w w1) := hide (((Below.refl w.heap.size w).alloc (Nat.le_refl _) _).trans (hb1.mono (by simp)))
  clear hb1 HF
  go_wp2_with fail
  refine (HD.out _ HB1.out).mono ?_
  rintro e w2 ⟨⟨v, k, c, rfl⟩, hb2⟩
  have HB2 := hide (HB1.out.trans (hb2.mono HB1.out.size))
  clear hb2 HB1 HD
  go_wp2_with fail
  go_ret
  exact ⟨rfl, HB2.out⟩

set_option maxRecDepth 100000 in
set_option maxHeartbeats 8000000 in
theorem good (s : Int) (a : Option Addr) (n cap : Nat) (r : List Int) (m : Nat) (skip other : Int) (w : World) (hn : n = r.length) (hm : n ≤ maxLen) (hl : AtI w a r) (ht : Tidy a n cap) (hf : M.secE s r = 0) (h1 : 1 ≤ m) (h7 : m ≤ 7) (hlt : n < m) (h6 : n ≤ 6) (s0 : 0 ≤ s) (s1 : s < 257) :
    Calls Try.prog 5 #[.int .i64 s, .slice a n cap, .int .i64 m, .int .i64 skip, .int .i64 other] w fun e w' => e = .returned (.bool true) ∧ Below w.heap.size w w' := by
  obtain ⟨i0, hi, hz0, hz1, hz2⟩ := info_parts infoP
  have HI := hide (And.intro hi (And.intro hz0 (And.intro hz1 hz2)))
  have HD : Hid (∀ wx, Below w.heap.size w wx → Calls Try.prog 10 #[.int .i64 s, .slice a n cap, .int .i64 m] wx fun e w' => (∃ g, e = .returned (.tuple #[.slice (some ⟨g, 0, none⟩) m m, .nilIface]) ∧ LieP w' g 0 (M.deal (s :: r) m)) ∧ Below wx.heap.size wx w') := hide fun wx hb => by
    refine (dealOk s a n cap r m wx hn hm (hl.stays hb (Nat.le_refl _)) ht hf h1 h7 (by omega)).mono ?_
    rintro e w' ⟨⟨g, rfl, hat⟩, hb'⟩
    obtain ⟨b, off, e, hl⟩ := hat (by rw [M.deal_len]; omega)
    cases e
    exact ⟨⟨g, rfl, hl⟩, hb'⟩
  have HF : Hid (∀ (wx : World) (B : Nat), wx.cell? ⟨B, 0, none⟩ = some (.int .i64 2) → Calls Try.prog 10 #[.int .i64 5, .slice (some ⟨B, 0, none⟩) 1 1, .int .i64 3] wx fun e w' => (∃ g, e = .returned (.tuple #[.slice (some ⟨g, 0, none⟩) 3 3, .nilIface]) ∧ w'.cell? ⟨g, 1, none⟩ = some (.int .i64 7) ∧ w'.cell? ⟨g, 5, none⟩ = some (.int .i64 11)) ∧ Below wx.heap.size wx w') := hide fun wx B h => fact B wx h
  have HN := hide hn
  clear hi hz0 hz1 hz2 hn hm hl ht hf
  go_enter Try.func5, Try.ntmps5
  go_wp2_with fail
  refine (HF.out _ _ (by simp [go_sem])).mono ?_
  rintro e w1 ⟨⟨gf, rfl, c1, c5⟩, hb1⟩
  have HB1 : Hid (Below w.heap.size w w1) := hide (((Below.refl w.heap.size w).alloc (Nat.le_refl _) _).trans (hb1.mono (by simp)))
  clear hb1 HF
  go_wp2_with fail
  refine (HD.out _ HB1.out).mono ?_
  rintro e w2 ⟨⟨g, rfl, hlie⟩, hb2⟩
  have HB2 := hide (HB1.out.trans (hb2.mono HB1.out.size))
  have HL := hide hlie
  clear hb2 HB1 HD hlie c1 c5
  go_wp2_with fail
  go_loopw [16, 17] (fun sv si wr => ∃ (v : Value) (k z : Nat) (S : List (Int × Int)), v = sv ∧ si = .int .i64 k ∧ k ≤ m ∧ z ≤ k ∧ Hid (z = S.length) ∧ Hid (wr.ownsRow w2.heap.size 29 2 v z (flatP S)) ∧ Hid (M.Picked (s :: r) (decide (m = n + 1)) skip k S) ∧ Hid (Below w2.heap.size w2 wr)) (fun _ si _ => m - (intOf si).toNat)
  case atStart => exact ⟨_, 0, 0, [], rfl, rfl, Nat.zero_le _, Nat.le_refl _, hide rfl, hide (World.ownsRow_nil _ _ _ _), hide (M.Picked.start _ _ _), hide (Below.refl _ _)⟩
  case round =>
    obtain ⟨v, k, z, S, rfl, rfl, hk, hzk, hz, hown, hpick, hbel⟩ := hrel
    by_cases hkm : k < m
    · have hcl := (HL.out.stays hbel.out (Nat.le_refl _)) k (by rw [M.deal_len]; exact hkm)
      rw [M.deal_at _ hkm] at hcl
      simp only [Nat.zero_add] at hcl
      obtain ⟨c1, c2⟩ := hcl
      have hq : ((k : Int) != skip) = true ∨ (((k : Int) != skip) = false ∧ ((m : Int) == (n : Int) + 1) = true) ∨ (((k : Int) != skip) = false ∧ ((m : Int) == (n : Int) + 1) = false ∧ (k : Int) = skip ∧ decide (m = n + 1) = false) := by
        by_cases q1 : (k : Int) = skip
        · by_cases q2 : m = n + 1
          · exact Or.inr (Or.inl ⟨by simpa using q1, by simp; omega⟩)
          · exact Or.inr (Or.inr ⟨by simpa using q1, by simp; omega, q1, by simpa using q2⟩)
        · exact Or.inl (by simpa using q1)
      have hz2 : w2.heap.size ≤ wr.heap.size := hbel.out.size
      rcases hq with q1 | ⟨q1, q2⟩ | ⟨q1, q2, q3, q4⟩
      case inr.inr =>
        have HP : Hid (M.Picked (s :: r) (decide (m = n + 1)) skip (k + 1) S) := hide (by
          have h := hpick.out
          rw [q4] at h ⊢
          exact h.pass q3)
        clear q3 q4 hpick
        go_wp2_with fail
        go_roundw
        case rel => exact ⟨_, k + 1, z, S, rfl, by go_num, by omega, by omega, hz, hown, HP, hbel⟩
        case measure => simp [intOf]; omega
      all_goals
        have HP := hide (hpick.out.add (by omega))
        generalize M.ev (s :: r) ((k : Int) + 1) = y at c2 HP
        have HROW : Hid ((wr.alloc (.cells #[.int .i64 ((k : Int) + 1), .int .i64 y] 29)).ownsRow w2.heap.size 29 2 v z (flatP S)) := hide (hown.out.alloc _)
        have HNEW : Hid (∀ j u, [Value.int .i64 ((k : Int) + 1), .int .i64 y][j]? = some u → (wr.alloc (.cells #[.int .i64 ((k : Int) + 1), .int .i64 y] 29)).cell? ((⟨wr.heap.size, 0, none⟩ : Addr).add j) = some u) := hide (World.news_of_block (World.alloc_heap_new wr _))
        clear hpick
        go_wp2_with (at_builtin; (refine wpList_append_own _ rfl (.tmp 82) (.tmp 87) 23 rfl w2.heap.size 29 i0 (.agg #[.int .i64 0, .int .i64 0]) 2 16 Try.underlying23 HI.out.1 HI.out.2.1 HI.out.2.2.1 HI.out.2.2.2 rfl (by decide) v z (flatP S) rfl HROW.out ⟨wr.heap.size, 0, none⟩ 1 1 [.int .i64 ((k : Int) + 1), .int .i64 y] rfl rfl HNEW.out (flatP_oneCell [((k : Int) + 1, y)]) (by unfold maxLen; omega) (by omega) (Nat.le_trans hz2 (by simp)) ?_))
        intro v' w3 hown' hgrow _
        have HO := hide hown'
        have HB3 := hide ((hbel.out.alloc hz2 _).grown hgrow (Nat.le_trans hz2 (by simp)) (fun j hj => (HROW.out.lt j hj).1))
        clear hown' hgrow
        go_wp2
        go_roundw
        case rel => exact ⟨_, k + 1, z + 1, S ++ [((k : Int) + 1, y)], rfl, by go_num, by omega, by omega, hide (by rw [List.length_append, ← hz.out]; rfl), hide (by rw [flatP_append]; exact HO.out), HP, HB3⟩
        case measure => simp [intOf]; omega
    · have hkm' : k = m := by omega
      subst hkm'
      have HS7 : Hid (S.length ≤ 7) := hide (by have := hz.out; omega)
      have HEN : Hid (n + 1 ≤ S.length) := hide (hpick.out.enough (by omega) (fun e => by have := of_decide_eq_false e; omega))
      have HON := hide hpick.out.1
      obtain ⟨av, cv, rfl, hcv1, hcv2, hav⟩ := atP_own hz.out hown.out
      have HAV := hide hav
      have hnz : n + 1 ≤ z := by have := HEN.out; have := hz.out; omega
      have hz7 : z ≤ 7 := by omega
      have HJ : Hid (Calls Try.prog 11 #[.slice av z cv, .int .i64 ((n : Int) + 1)] wr fun e w' => e = .returned (.tuple #[.int .i64 s, .nilIface]) ∧ Below wr.heap.size wr w') := hide (by
        have h := sJoin av z cv S ((n : Int) + 1) wr hz.out hcv1 hcv2 hav
        have hnr := HN.out
        obtain ⟨e1, e2⟩ := M.tells_secret s0 s1 HON.out HS7.out (by have := HEN.out; omega)
        rw [← hnr] at e1 e2
        rwa [e1, e2] at h)
      have HCV := hide hcv2
      obtain ⟨ba, oa, rfl, hlie⟩ := hav (by have := hz.out; omega)
      have HLS := hide hlie
      have HBA := hide (HB2.out.trans (hbel.out.mono HB2.out.size))
      unfold maxLen at hcv2
      clear hav hlie hown hpick hbel HL HB2 hkm hk
      go_wp2_with fail
      refine (unhide HJ).mono ?_
      rintro e w3 ⟨rfl, hb3⟩
      have HB3 := hide (HBA.out.trans (hb3.mono HBA.out.size))
      have HW3 := hide hb3
      clear hb3 HJ HBA
      have hc4 : n = 0 ∨ (((n : Int) + 1 == 1) = false ∧ 1 ≤ n ∧ other < 0) ∨ (((n : Int) + 1 == 1) = false ∧ 1 ≤ n ∧ ¬ other < 0 ∧ 256 < other) ∨ (((n : Int) + 1 == 1) = false ∧ 1 ≤ n ∧ ¬ other < 0 ∧ ¬ 256 < other) := by
        by_cases g0 : n = 0
        · exact Or.inl g0
        · have g1 : ((n : Int) + 1 == 1) = false := by simp; omega
          by_cases g2 : other < 0
          · exact Or.inr (Or.inl ⟨g1, by omega, g2⟩)
          · by_cases g3 : 256 < other
            · exact Or.inr (Or.inr (Or.inl ⟨g1, by omega, g2, g3⟩))
            · exact Or.inr (Or.inr (Or.inr ⟨g1, by omega, g2, g3⟩))
      rcases hc4 with g0 | ⟨g1, g0, g2⟩ | ⟨g1, g0, g2, g3⟩ | ⟨g1, g0, g2, g3⟩
      case inl =>
        subst g0
        go_wp2_with fail
        go_ret
        exact ⟨rfl, HB3.out⟩
      case inr.inl =>
        go_wp2_with fail
        go_ret
        exact ⟨rfl, HB3.out⟩
      case inr.inr.inl =>
        go_wp2_with fail
        go_ret
        exact ⟨rfl, HB3.out⟩
      case inr.inr.inr =>
        have o0 : 0 ≤ other := by omega
        have o1 : other < 257 := by omega
        have hns : n ≤ S.length := by have := HEN.out; omega
        have HNS := hide hns
        have HLIT : Hid ((w3.alloc (.cells #[.int .i64 0, .int .i64 other] 29)).ownsRow w3.heap.size 29 2 (.slice (some ⟨w3.heap.size, 0, none⟩) 1 1) 1 (#[Value.int .i64 0, .int .i64 other] : Array Value).toList) := hide (World.ownsRow_lit w3 #[.int .i64 0, .int .i64 other] 1 (Nat.le_refl _) (by decide) rfl)
        have HB4 : Hid (Below w3.heap.size w3 (w3.alloc (.cells #[.int .i64 0, .int .i64 other] 29))) := hide ((Below.refl _ w3).alloc (Nat.le_refl _) _)
        have HNEW : Hid (∀ j u, (flatP (S.take n))[j]? = some u → (w3.alloc (.cells #[.int .i64 0, .int .i64 other] 29)).cell? ((⟨ba, oa, none⟩ : Addr).add j) = some u) := hide (lie_news (((HLS.out.stays HW3.out (Nat.le_refl _)).stays HB4.out (Nat.le_refl _)).take n))
        have HLEN : Hid ((flatP (S.take n)).length = n * 2) := hide (by rw [flatP_len, List.length_take]; omega)
        clear hns
        go_wp2_with (at_builtin; (refine wpList_append_own _ rfl (.tmp 115) (.tmp 119) 23 rfl w3.heap.size 29 i0 (.agg #[.int .i64 0, .int .i64 0]) 2 16 Try.underlying23 HI.out.1 HI.out.2.1 HI.out.2.2.1 HI.out.2.2.2 rfl (by decide) (.slice (some ⟨w3.heap.size, 0, none⟩) 1 1) 1 _ rfl HLIT.out ⟨ba, oa, none⟩ n cv (flatP (S.take n)) rfl HLEN.out HNEW.out (flatP_oneCell _) (by unfold maxLen; omega) (by omega) (by simp) ?_))
        intro v4 w4 hown hgrow _
        have HW4 := hide (HB4.out.grown hgrow (by simp) (fun j hj => (HLIT.out.lt j hj).1))
        obtain ⟨af, cf, rfl, hcf1, hcf2, haf⟩ := atP_own (l := M.few other S n) (m := 1 + n) (by rw [M.few_len other HNS.out]; omega) hown
        have HNX : Hid (∀ (j : Nat) (wx : World), j ≤ 6 → Below w4.heap.size w4 wx → Calls Try.prog 9 #[.slice af (1 + n) cf, .int .i64 ((j : Int) + 1)] wx fun e w' => e = .returned (.tuple #[.int .i64 (M.next (M.few other S n) ((j : Int) + 1)), .nilIface]) ∧ Below wx.heap.size wx w') := hide fun j wx hj hb => by
          have h := pNext af (1 + n) cf (M.few other S n) ((j : Int) + 1) wx (by rw [M.few_len other HNS.out]; omega) hcf1 hcf2 (haf.stays hb (Nat.le_refl _))
          obtain ⟨e1, e2⟩ := M.few_next HON.out o0 o1 HNS.out h6 (a := j + 1) (by omega)
          rw [show ((j + 1 : Nat) : Int) = (j : Int) + 1 by omega] at e1 e2
          rwa [e1, e2] at h
        have HB5 := hide (HB3.out.trans (HW4.out.mono HB3.out.size))
        have HLS4 := hide ((HLS.out.stays HW3.out (Nat.le_refl _)).stays HW4.out (Nat.le_refl _))
        have hcf3 : 1 + n ≤ cf := hcf1
        clear hown hgrow haf hcf1 hcf2 HLIT HB4 HNEW HLEN HW3 HLS HW4 HB3 HAV
        go_wp2_with fail
        go_loopw [21, 22] (fun sv si wr => ∃ (v : Value) (j : Nat) (Q : List (Int × Int)), v = sv ∧ si = .int .i64 ((j : Int) + 1) ∧ j ≤ n + 1 ∧ Hid (Q = M.trail (M.next (M.few other S n)) j) ∧ Hid (wr.ownsRow w4.heap.size 29 2 v j (flatP Q)) ∧ Hid (Below w4.heap.size w4 wr)) (fun _ si _ => n + 3 - (intOf si).toNat)
        case atStart => exact ⟨_, 0, [], rfl, rfl, Nat.zero_le _, hide rfl, hide (World.ownsRow_nil _ _ _ _), hide (Below.refl _ _)⟩
        case round =>
          obtain ⟨v, j, Q, rfl, rfl, hj, hQ, hown, hbel⟩ := hrel
          by_cases hjn : j ≤ n
          · have HC := hide (HNX.out j _ (by omega) hbel.out)
            have HQ : Hid (Q ++ [((j : Int) + 1, M.next (M.few other S n) ((j : Int) + 1))] = M.trail (M.next (M.few other S n)) (j + 1)) := hide (by rw [M.trail_succ, hQ.out])
            generalize M.next (M.few other S n) ((j : Int) + 1) = y at HC HQ
            have hjn' : (j : Int) + 1 ≤ (n : Int) + 1 := by omega
            go_wp2_with fail
            refine (unhide HC).mono ?_
            rintro e w5 ⟨rfl, hb5⟩
            have HB6 := hide (hbel.out.trans (hb5.mono hbel.out.size))
            have hz5 : w4.heap.size ≤ w5.heap.size := HB6.out.size
            have HROW : Hid ((w5.alloc (.cells #[.int .i64 ((j : Int) + 1), .int .i64 y] 29)).ownsRow w4.heap.size 29 2 v j (flatP Q)) := hide ((row_stays hown.out hb5).alloc _)
            have HNEW : Hid (∀ j' u, [Value.int .i64 ((j : Int) + 1), .int .i64 y][j']? = some u → (w5.alloc (.cells #[.int .i64 ((j : Int) + 1), .int .i64 y] 29)).cell? ((⟨w5.heap.size, 0, none⟩ : Addr).add j') = some u) := hide (World.news_of_block (World.alloc_heap_new w5 _))
            clear hb5 HC
            go_wp2_with (at_builtin; (refine wpList_append_own _ rfl (.tmp 134) (.tmp 138) 23 rfl w4.heap.size 29 i0 (.agg #[.int .i64 0, .int .i64 0]) 2 16 Try.underlying23 HI.out.1 HI.out.2.1 HI.out.2.2.1 HI.out.2.2.2 rfl (by decide) v j (flatP Q) rfl HROW.out ⟨w5.heap.size, 0, none⟩ 1 1 [.int .i64 ((j : Int) + 1), .int .i64 y] rfl rfl HNEW.out (flatP_oneCell [((j : Int) + 1, y)]) (by unfold maxLen; omega) (by omega) (Nat.le_trans hz5 (by simp)) ?_))
            intro v' w6 hown' hgrow _
            have HO := hide hown'
            have HB7 := hide ((HB6.out.alloc hz5 _).grown hgrow (Nat.le_trans hz5 (by simp)) (fun i hi => (HROW.out.lt i hi).1))
            clear hown' hgrow
            go_wp2
            go_roundw
            case rel => exact ⟨_, j + 1, Q ++ [((j : Int) + 1, y)], rfl, by go_num, by omega, HQ, hide (by rw [flatP_append]; exact HO.out), HB7⟩
            case measure => simp [intOf]; omega
          · have hj' : j = n + 1 := by omega
            subst hj'
            have hlen : n + 1 = Q.length := by rw [hQ.out, M.trail_len]
            obtain ⟨aq, cq, rfl, hcq1, hcq2, haq⟩ := atP_own hlen hown.out
            have HJ2 := hide (sJoin aq (n + 1) cq Q ((n : Int) + 1) _ hlen hcq1 hcq2 haq)
            have HN3 : Hid (∀ (i : Nat) (wx : World) (hi : i < n) (hS : i < S.length), Below wr.heap.size wr wx → Calls Try.prog 9 #[.slice aq (n + 1) cq, .int .i64 S[i].1] wx fun e w' => e = .returned (.tuple #[.int .i64 S[i].2, .nilIface]) ∧ Below wx.heap.size wx w') := hide fun i wx hi hS hb => by
              have h := pNext aq (n + 1) cq Q S[i].1 wx hlen hcq1 hcq2 (haq.stays hb (Nat.le_refl _))
              obtain ⟨e1, e2⟩ := M.tells_share HON.out o0 o1 HNS.out h6 hi hS
              rw [hQ.out, e1, e2] at h
              exact h
            rw [hQ.out, (M.tells_other HON.out o0 o1 HNS.out h6).1, (M.tells_other HON.out o0 o1 HNS.out h6).2] at HJ2
            have HLS5 := hide (HLS4.out.stays hbel.out (Nat.le_refl _))
            have HB8 := hide (HB5.out.trans (hbel.out.mono HB5.out.size))
            unfold maxLen at hcq2
            clear haq hown hbel hQ hlen HLS4 HB5 HNX
            go_wp2_with fail
            refine (unhide HJ2).mono ?_
            rintro e w7 ⟨rfl, hb7⟩
            have HW7 := hide hb7
            clear hb7 HJ2
            rw [errV_0]
            go_wp2_with fail
            go_loopw [26] (fun si wy => ∃ i : Nat, si = .int .i64 i ∧ i ≤ n ∧ Hid (Below wr.heap.size wr wy)) (fun si _ => n - (intOf si).toNat)
            case atStart => exact ⟨0, rfl, Nat.zero_le _, HW7⟩
            case round =>
              obtain ⟨i, rfl, hi, hby⟩ := hrel
              by_cases hin : i < n
              · have hiS : i < S.length := by have := HNS.out; omega
                have HNJ := hide (HN3.out i _ hin hiS hby.out)
                have HCJ := hide (fun wx hb => (HLS5.out.stays (B := _) (w' := wx) hb (Nat.le_refl _)) i hiS)
                obtain ⟨d1, d2⟩ := HCJ.out _ hby.out
                generalize S[i].1 = ja at d1 HNJ HCJ
                generalize S[i].2 = jb at d2 HNJ HCJ
                go_wp2_with fail
                refine (unhide HNJ).mono ?_
                rintro e w8 ⟨rfl, hb8⟩
                have HB9 := hide (hby.out.trans (hb8.mono hby.out.size))
                obtain ⟨d3, d4⟩ := HCJ.out _ HB9.out
                clear hb8 d1 d2
                go_wp2_with fail
                go_roundw
                case rel => exact ⟨i + 1, by go_num, by omega, HB9⟩
                case measure => simp [intOf]; omega
              · go_wp2_with fail
                go_ret
                exact ⟨rfl, HB8.out.trans (hby.out.mono HB8.out.size)⟩

theorem walk (s : Int) (a : Option Addr) (n cap : Nat) (r : List Int) (m skip other : Int) (w : World) (hn : n = r.length) (hm : n ≤ maxLen) (hl : AtI w a r) (ht : Tidy a n cap) :
    Calls Try.prog 5 #[.int .i64 s, .slice a n cap, .int .i64 m, .int .i64 skip, .int .i64 other] w fun e w' => e = .returned (.bool true) ∧ Below w.heap.size w w' := by
  by_cases h : M.dealE s r m = 0
  · obtain ⟨⟨s0, s1⟩, h6, hf, ⟨m1, m7⟩, hlt⟩ := M.dealE_ok h
    obtain ⟨k, rfl⟩ : ∃ k : Nat, m = k := ⟨m.toNat, by omega⟩
    have hsec : M.secE s r = 0 := by
      by_cases g : M.secE s r = 0
      · exact g
      · rw [M.dealE_sec g] at h; exact absurd h g
    exact good s a n cap r k skip other w hn hm hl ht hsec (by omega) (by omega) (by omega) (by omega) s0 s1
  · exact bad s a n cap r m skip other w hn hm hl ht h

end Go.Proofs.Ytlefhfmckimlaae.shareHides
