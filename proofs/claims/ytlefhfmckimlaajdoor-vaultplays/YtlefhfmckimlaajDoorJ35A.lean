/-
  What the document's own Dealt, Deal and Join do, and tuplesame.Shares at lists that are the same: each as one law of its call.
  What the document's own Deal does, as one law of its call.
-/
import Derived.Test.YtlefhfmckimlaajDoorShareDeal2
import Derived.Test.YtlefhfmckimlaajDoorPolyRef2
import Derived.BigQuiet
import Derived.Deep.QuietTactic
import Derived.WalkSmall
import Derived.Test.YtlefhfmckimlaajDoorJ23A
set_option linter.unusedVariables false
namespace Go.Proofs.YtlefhfmckimlaajDoor
open Go.RowKit

theorem pairIn (a b : Int) (w : World) : (Op.equalIn 10000 31 (.agg #[.int .i64 a, .int .i64 b]) (.agg #[.int .i64 a, .int .i64 b])).run Tryd.prog w = .ok true w := by
  go_simp
theorem pairNe (a b : Int) (w : World) : (binOp .neq 31 (.agg #[.int .i64 a, .int .i64 b]) (.agg #[.int .i64 a, .int .i64 b])).run Tryd.prog w = .ok (.bool false) w := by
  rw [run_neq_struct, pairIn]; rfl


theorem rDealt (s : Int) (a : Option Addr) (n cap : Nat) (r : List Int) (m : Int) (w : World) (hn : n = r.length) (hm : n ≤ maxLen) (hl : AtI w a r) :
    Calls Tryd.prog 13 #[.int .i64 s, .slice a n cap, .int .i64 m] w fun e w' => e = .returned (.int .i64 (M.dealE s r m)) ∧ w' = w := by
  have hF := rFac a n cap r w hn hm hl
  unfold maxLen at hm
  cases hs : M.inR s
  · have e1 := M.secE_s (r := r) hs
    rw [M.dealE_sec (by rw [e1]; decide), e1]
    have HS : Hid (∀ wx, Calls Tryd.prog 16 #[.int .i64 s] wx fun e w' => e = .returned (.bool false) ∧ w' = wx) := hide fun wx => by have := rIn s wx; rwa [hs] at this
    clear hF hn hl hs e1
    go_enter Tryd.func13, Tryd.ntmps13
    go_wp2_with fail
    refine (HS.out _).mono ?_
    rintro e w1 ⟨rfl, hw⟩
    obtain rfl := hw.symm
    go_wp2_with fail
    go_ret
    exact ⟨rfl, rfl⟩
  · have HS : Hid (∀ wx, Calls Tryd.prog 16 #[.int .i64 s] wx fun e w' => e = .returned (.bool true) ∧ w' = wx) := hide fun wx => by have := rIn s wx; rwa [hs] at this
    by_cases h6 : 6 < n
    · have e1 := M.secE_many hs (hn ▸ h6)
      have h6' : (6 : Int) < n := by omega
      rw [M.dealE_sec (by rw [e1]; decide), e1]
      clear hF hn hl hs e1
      go_enter Tryd.func13, Tryd.ntmps13
      go_wp2_with fail
      refine (HS.out _).mono ?_
      rintro e w1 ⟨rfl, hw⟩
      obtain rfl := hw.symm
      go_wp2_with fail
      go_ret
      exact ⟨rfl, rfl⟩
    · have h6' : ¬ (6 : Int) < n := by omega
      have e1 : M.secE s r = M.facE r := by rw [M.secE_few hs (hn ▸ h6), M.facE_few (by omega)]
      by_cases hf : M.facE r = 0
      · have hsec : M.secE s r = 0 := by rw [e1]; exact hf
        rw [hf] at hF
        have HF := hide hF
        have hq : (m < 1 ∧ M.dealE s r m = 1) ∨ (¬ m < 1 ∧ 7 < m ∧ M.dealE s r m = 1) ∨ (¬ m < 1 ∧ ¬ 7 < m ∧ m ≤ (n : Int) ∧ M.dealE s r m = 3) ∨ (¬ m < 1 ∧ ¬ 7 < m ∧ ¬ m ≤ (n : Int) ∧ M.dealE s r m = 0) := by
          by_cases q1 : m < 1
          · exact Or.inl ⟨q1, M.dealE_cnt hsec (decide_eq_false (by omega))⟩
          · by_cases q2 : 7 < m
            · exact Or.inr (Or.inl ⟨q1, q2, M.dealE_cnt hsec (decide_eq_false (by omega))⟩)
            · by_cases q3 : m ≤ (n : Int)
              · exact Or.inr (Or.inr (Or.inl ⟨q1, q2, q3, M.dealE_few hsec (M.cntB_mk (by omega) (by omega)) (by omega)⟩))
              · exact Or.inr (Or.inr (Or.inr ⟨q1, q2, q3, M.dealE_0 hsec (M.cntB_mk (by omega) (by omega)) (by omega)⟩))
        clear hF hn hl hs e1 hf hsec
        rcases hq with ⟨q1, q4⟩ | ⟨q1, q2, q4⟩ | ⟨q1, q2, q3, q4⟩ | ⟨q1, q2, q3, q4⟩
        all_goals
          rw [q4]
          clear q4
          go_enter Tryd.func13, Tryd.ntmps13
          go_wp2_with fail
          refine (HS.out _).mono ?_
          rintro e w1 ⟨rfl, hw⟩
          obtain rfl := hw.symm
          go_wp2_with fail
          refine (unhide HF).mono ?_
          rintro e w1 ⟨rfl, hw⟩
          obtain rfl := hw.symm
          go_wp2_with fail
          go_ret
          exact ⟨rfl, rfl⟩
      · rw [M.dealE_sec (by rw [e1]; exact hf), e1]
        generalize M.facE r = f at hF hf ⊢
        have HF := hide hF
        have hf' : (f == 0) = false := by simpa using hf
        clear hF hn hl hs e1 hf
        go_enter Tryd.func13, Tryd.ntmps13
        go_wp2_with fail
        refine (HS.out _).mono ?_
        rintro e w1 ⟨rfl, hw⟩
        obtain rfl := hw.symm
        go_wp2_with fail
        refine (unhide HF).mono ?_
        rintro e w1 ⟨rfl, hw⟩
        obtain rfl := hw.symm
        go_wp2_with fail
        go_ret
        exact ⟨rfl, rfl⟩


end Go.Proofs.YtlefhfmckimlaajDoor

set_option linter.unusedVariables false
namespace Go.Proofs.YtlefhfmckimlaajDoor
open Go.RowKit

theorem row_lower {w : World} {base b2 n k : Nat} {e : TypeId} {v : Value} {xs : List Value} (h : w.ownsRow base e k v n xs) (hb : b2 ≤ base) : w.ownsRow b2 e k v n xs := by
  refine ⟨h.1, ?_⟩
  rcases h.2 with q | ⟨g, cap, cur, hv, hg, hh, r⟩
  · exact Or.inl q
  · exact Or.inr ⟨g, cap, cur, hv, Nat.le_trans hb hg, hh, r⟩
set_option maxRecDepth 100000 in
set_option maxHeartbeats 2000000 in
/-- .. and whose the row is -/
theorem rDealO (s : Int) (a : Option Addr) (n cap : Nat) (r : List Int) (m : Nat) (w : World) (hn : n = r.length) (hl : AtI w a r) (ht : Tidy a n cap) (hf : M.secE s r = 0) (h7 : m ≤ 7) :
    Calls Tryd.prog 14 #[.int .i64 s, .slice a n cap, .int .i64 m] w fun e w' => (∃ v c, e = .returned (.slice v m c) ∧ w'.ownsRow w.heap.size 31 2 (.slice v m c) m (flatP (M.deal (s :: r) m))) ∧ Below w.heap.size w w' := by
  obtain ⟨i0, hi, hz0, hz1, hz2⟩ := info_parts infoInt
  have HI := hide (And.intro hi (And.intro hz0 (And.intro hz1 hz2)))
  obtain ⟨i1, gi, gz0, gz1, gz2⟩ := info_parts infoP
  have GI := hide (And.intro gi (And.intro gz0 (And.intro gz1 gz2)))
  obtain ⟨⟨s0, s1⟩, hr6, hfr⟩ := M.secE_ok hf
  have HF := hide (M.facE_cons s0 s1 hr6 hfr)
  have hn6 : n ≤ 6 := by omega
  have HR := hide hn
  have HT := hide ht
  have HLIT : Hid ((w.alloc (.cells #[.int .i64 s] 3)).ownsRow w.heap.size 3 1 (.slice (some ⟨w.heap.size, 0, none⟩) 1 1) 1 (#[Value.int .i64 s] : Array Value).toList) := hide (World.ownsRow_lit w #[.int .i64 s] 1 (Nat.le_refl _) (by decide) rfl)
  have HB1 : Hid (Below w.heap.size w (w.alloc (.cells #[.int .i64 s] 3))) := hide ((Below.refl _ w).alloc (Nat.le_refl _) _)
  have HNEW : Hid (∀ ad, a = some ad → ∀ j u, (cellsI r)[j]? = some u → (w.alloc (.cells #[.int .i64 s] 3)).cell? (ad.add j) = some u) := hide fun ad e => by
    subst e
    exact (hl.stays HB1.out (Nat.le_refl _)).news
  have HLEN : Hid ((cellsI r).length = n * 1) := hide (by rw [cellsI_len, ← hn, Nat.mul_one])
  clear hi hz0 hz1 hz2 gi gz0 gz1 gz2 hn hl ht hf s0 s1 hr6 hfr
  go_enter Tryd.func14, Tryd.ntmps14
  go_wp2_with (at_builtin; refine append_tidy _ rfl (.tmp 12) (.tmp 13) 22 rfl w.heap.size 3 i0 (.int .i64 0) 1 8 Tryd.underlying22 HI.out.1 HI.out.2.1 HI.out.2.2.1 HI.out.2.2.2 rfl (by decide) (.slice (some ⟨w.heap.size, 0, none⟩) 1 1) 1 _ rfl HLIT.out a n cap (cellsI r) rfl HT.out HLEN.out HNEW.out (cellsI_oneCell r) (by unfold maxLen; omega) (by omega) (by simp) ?_)
  intro v1 w2 hown hgrow
  have HB2 := hide (HB1.out.grown hgrow (by simp) (fun j hj => (HLIT.out.lt j hj).1))
  have hlen : 1 + n = (s :: r).length := by rw [List.length_cons, HR.out]; omega
  obtain ⟨a1, c1, rfl, _, _, hat⟩ := atI_own (l := s :: r) hlen hown
  have HAT : Hid (∀ (k : Nat) (wx : World), k < m → Below w2.heap.size w2 wx → Calls Tryd.prog 34 #[.slice a1 (1 + n) c1, .int .i64 ((k : Int) + 1)] wx fun e w' => e = .returned (.int .i64 (M.ev (s :: r) ((k : Int) + 1))) ∧ w' = wx) := hide fun k wx hk hb =>
    rAt a1 (1 + n) c1 (s :: r) ((k : Int) + 1) wx hlen (hat.stays hb (Nat.le_refl _)) HF.out (by omega) (by omega)
  clear hown hgrow hat hlen HLIT HNEW HLEN HT HB1
  go_wp2
  go_loopw [8, 9] (fun sv si wr => ∃ (v : Value) (k : Nat), v = sv ∧ si = .int .i64 ((k : Int) + 1) ∧ k ≤ m ∧ Hid (wr.ownsRow w2.heap.size 31 2 v k (flatP (M.deal (s :: r) k))) ∧ Hid (Below w2.heap.size w2 wr)) (fun _ si _ => m + 2 - (intOf si).toNat)
  case atStart => exact ⟨_, 0, rfl, rfl, Nat.zero_le _, hide (World.ownsRow_nil _ _ _ _), hide (Below.refl _ _)⟩
  case round =>
    obtain ⟨v, k, rfl, rfl, hk, hown, hbel⟩ := hrel
    by_cases hkm : k < m
    · have HC := hide (HAT.out k wr hkm hbel.out)
      have HD := hide (M.deal_succ (s :: r) k)
      have hz2 : w2.heap.size ≤ wr.heap.size := hbel.out.size
      have hkm' : (k : Int) + 1 ≤ (m : Int) := by omega
      generalize M.ev (s :: r) ((k : Int) + 1) = y at HC HD
      go_wp2_with fail
      refine (unhide HC).mono ?_
      rintro e w3 ⟨rfl, hw⟩
      obtain rfl := hw.symm
      have HROW : Hid ((wr.alloc (.cells #[.int .i64 ((k : Int) + 1), .int .i64 y] 31)).ownsRow w2.heap.size 31 2 v k (flatP (M.deal (s :: r) k))) := hide (hown.out.alloc _)
      have HNEW : Hid (∀ j u, [Value.int .i64 ((k : Int) + 1), .int .i64 y][j]? = some u → (wr.alloc (.cells #[.int .i64 ((k : Int) + 1), .int .i64 y] 31)).cell? ((⟨wr.heap.size, 0, none⟩ : Addr).add j) = some u) := hide (World.news_of_block (World.alloc_heap_new wr _))
      go_wp2_with (at_builtin; (refine wpList_append_own _ rfl (.tmp 20) (.tmp 26) 23 rfl w2.heap.size 31 i1 (.agg #[.int .i64 0, .int .i64 0]) 2 16 Tryd.underlying23 GI.out.1 GI.out.2.1 GI.out.2.2.1 GI.out.2.2.2 rfl (by decide) v k (flatP (M.deal (s :: r) k)) rfl HROW.out ⟨wr.heap.size, 0, none⟩ 1 1 [.int .i64 ((k : Int) + 1), .int .i64 y] rfl rfl HNEW.out (flatP_oneCell [((k : Int) + 1, y)]) (by unfold maxLen; omega) (by omega) (Nat.le_trans hz2 (by simp)) ?_))
      intro v' w3 hown' hgrow _
      have HO := hide hown'
      have HB3 := hide ((hbel.out.alloc hz2 _).grown hgrow (Nat.le_trans hz2 (by simp)) (fun j hj => (HROW.out.lt j hj).1))
      clear hown' hgrow
      go_wp2
      go_roundw
      case rel => exact ⟨_, k + 1, rfl, by go_num, by omega, hide (by rw [HD.out, flatP_append]; exact HO.out), HB3⟩
      case measure => simp [intOf]; omega
    · have hkm' : k = m := by omega
      subst hkm'
      obtain ⟨av, cv, rfl, _⟩ := atP_own (M.deal_len (s :: r) k).symm hown.out
      go_wp2_with fail
      go_ret
      exact ⟨⟨_, _, rfl, row_lower hown.out HB2.out.size⟩, HB2.out.trans (hbel.out.mono HB2.out.size)⟩
theorem rDeal (s : Int) (a : Option Addr) (n cap : Nat) (r : List Int) (m : Nat) (w : World) (hn : n = r.length) (hl : AtI w a r) (ht : Tidy a n cap) (hf : M.secE s r = 0) (h7 : m ≤ 7) :
    Calls Tryd.prog 14 #[.int .i64 s, .slice a n cap, .int .i64 m] w fun e w' => (∃ v c, e = .returned (.slice v m c) ∧ m ≤ c ∧ c ≤ maxLen ∧ AtP w' v (M.deal (s :: r) m)) ∧ Below w.heap.size w w' := by
  refine (rDealO s a n cap r m w hn hl ht hf h7).mono ?_
  rintro e w' ⟨⟨v, c, rfl, ho⟩, hb⟩
  obtain ⟨av, cv, e1, h1, h2, h3⟩ := atP_own (M.deal_len (s :: r) m).symm ho
  cases e1
  exact ⟨⟨_, _, rfl, h1, h2, h3⟩, hb⟩

end Go.Proofs.YtlefhfmckimlaajDoor
