/-
  The walk of OnceOnly.
-/
import Derived.Test.YtlefhfmckimlaabOnceOnly
namespace Go.Proofs.Ytlefhfmckimlaab
open Go.RowKit

section
variable {w wr : World} {S q : Nat} {v x t : Value} {a l y : List M.Val} {L : List (List M.Val)}
theorem One.onlyPut (h : One w wr S v L) (hQ : OnlyL a q L) (hx : IsVals wr x a) (ht : IsVals wr t l) (ha : M.likeF a = 0) (hl : M.tupF l = 0) (hf : M.fitAll a l = true) :
    Calls Try.prog 10 #[.pointer (some ⟨S, 0, none⟩), x, t] wr fun e w' => e = .returned (.tuple #[.bool (decide (q = 0)), .nilIface]) ∧ ∃ v' y, One w w' S v' [y] ∧ M.fitAll a y = true := by
  obtain ⟨e1, e2, y, e3, e4, _⟩ := only_put hQ ha hl hf
  have := h.oput hx ht
  rw [e1, e2, e3] at this
  exact this.mono fun _ _ ⟨h1, v', h2, _⟩ => ⟨h1, v', y, h2, e4⟩
theorem One.onlyCh (h : One w wr S v [y]) (hy : M.fitAll a y = true) (hx : IsVals wr x a) (ht : Firm w.heap.size wr t l) (ha : M.likeF a = 0) (hl : M.tupF l = 0) :
    Calls Try.prog 12 #[.pointer (some ⟨S, 0, none⟩), x, t] wr fun e w' => ∃ ro rc v', e = .returned (.tuple #[.slice ro a.length rc, .nilIface]) ∧ One w w' S v' [l] := by
  obtain ⟨e1, e2, e3⟩ := only_ch (x := y) ha hl hy
  have := h.och hx ht
  rw [e1, e2, e3] at this
  refine this.mono ?_
  rintro _ _ ⟨r, v', rfl, h0, h2, _⟩
  obtain ⟨ro, rc, rfl, _⟩ := h0.vals.form
  exact ⟨ro, rc, v', by rw [fit_len hy]; rfl, h2⟩
theorem One.onlyCnt (h : One w wr S v [l]) (hx : IsVals wr x a) (ha : M.likeF a = 0) (hf : M.fitAll a l = true) :
    Calls Try.prog 13 #[.pointer (some ⟨S, 0, none⟩), x] wr fun e w' => e = .returned (.tuple #[.int .i64 1, .nilIface]) ∧ One w w' S v [l] := by
  have := h.count hx
  have e1 : M.cnt a [l] = 1 := by unfold M.cnt; rw [if_pos ha, many_one hf]
  rw [e1, ha] at this
  exact this.mono fun _ _ ⟨h1, h2, _⟩ => ⟨h1, h2⟩
theorem One.lastCh (h : One w wr S v L) (hx : IsVals wr x a) (ht : Firm w.heap.size wr t l) :
    Calls Try.prog 12 #[.pointer (some ⟨S, 0, none⟩), x, t] wr fun e w' => ∃ r v' L', e = .returned (.tuple #[r, errV (M.chF a L l)]) ∧ One w w' S v' L' ∧ L'.length = L.length :=
  (h.och hx ht).mono fun _ _ ⟨r, v', h1, _, h2, _⟩ => ⟨r, v', _, h1, h2, ch_len.1⟩
theorem One.allN {n : Nat} (h : One w wr S v L) (hn : L.length = n) :
    Calls Try.prog 11 #[.pointer (some ⟨S, 0, none⟩)] wr fun e w' => ∃ ao cap, e = .returned (.slice ao n cap) ∧ One w w' S v L := by
  subst hn
  exact h.all.mono fun _ _ ⟨ao, cap, h1, h2, _⟩ => ⟨ao, cap, h1, h2⟩
end

set_option maxHeartbeats 1000000 in
set_option maxRecDepth 1000000 in
theorem only (n cap ma ka : Nat) (ao aa : Option Addr) (tv : Value) (Ls : List (List M.Val)) (a l : List M.Val) (w : World) (hn : n = Ls.length) (hm : n ≤ maxLen) (hl : 0 < n → ∃ b off, ao = some ⟨b, off, none⟩ ∧ LieT w b off Ls) (hav : IsVals w (.slice aa ma ka) a) (hma : a.length = ma) (htv : IsVals w tv l) :
    Calls Try.prog 4 #[.slice ao n cap, .slice aa ma ka, tv] w fun e w' => e = .returned (.bool true) ∧ Below w.heap.size w w' := by
  unfold maxLen at hm
  have HN := hide hn
  have HL := hide hl
  have HA := hide hav
  have HMA := hide hma
  have HT := hide htv
  clear hn hl hav hma htv
  go_enter Try.func4, Try.ntmps4
  go_wp2_with fail
  refine (new _).mono ?_
  rintro e w0 ⟨rfl, hw0⟩
  have HO0 : Hid (One w w0 w.heap.size (.slice none 0 0) []) := hide (by rw [hw0]; exact One.start (Below.refl _ _))
  clear hw0
  go_wp2_with fail
  refine (HO0.out.first).mono ?_
  rintro e w1 ⟨rfl, v1, h1⟩
  have HO1 := hide h1
  clear h1 HO0
  go_wp2_with fail
  refine (HO1.out.second).mono ?_
  rintro e w2 ⟨rfl, v2, h2⟩
  have HO2 := hide h2
  clear h2 HO1
  go_wp2_with fail
  refine (HO2.out.allOne).mono ?_
  rintro e w3 ⟨ao3, c3, rfl, h3, _⟩
  have HB3 := hide h3.bel
  clear h3 HO2
  go_wp2_with fail
  refine (new _).mono ?_
  rintro e w4 ⟨rfl, hw4⟩
  have HO : Hid (One w w4 w3.heap.size (.slice none 0 0) []) := hide (by rw [hw4]; exact One.start HB3.out)
  generalize w3.heap.size = S at *
  clear hw4 HB3
  go_wp2_with fail
  go_loopw [13, 12] (fun i c wr => ∃ k q : Nat, ∃ v : Value, ∃ L : List (List M.Val), k ≤ n ∧ k ≤ 30 ∧ q ≤ k ∧ i = .int .i64 k ∧ c = .int .i64 q ∧ Hid (OnlyL a q L) ∧ Hid (One w wr S v L)) (fun i _ _ => n - (intOf i).toNat)
  case atStart => exact ⟨0, 0, _, [], Nat.zero_le _, Nat.zero_le _, Nat.le_refl _, rfl, rfl, hide (Or.inl ⟨rfl, rfl⟩), HO⟩
  case round =>
    clear HO
    obtain ⟨k, q, v, L, hk, hk30, hqk, rfl, rfl, hQ, hO⟩ := hrel
    by_cases hlt : k < n ∧ k < 30
    · obtain ⟨hkn, hk3⟩ := hlt
      have hkl : k < Ls.length := HN.out ▸ hkn
      have ik1 : (k : Int) < (n : Int) := by omega
      have ik2 : (k : Int) < 30 := by omega
      obtain ⟨b, off, rfl, hlie⟩ := HL.out (by omega)
      obtain ⟨x, hx, hxv⟩ := hlie k hkl
      have hbw : b < w.heap.size := World.block_lt_of_cell? w _ hx
      have HXR : Hid (∀ wr : World, Below w.heap.size w wr → wr.cell? ⟨b, off + k, none⟩ = some x) := hide fun wr hb => (hb.cell (p := ⟨b, off + k, none⟩) hbw).trans hx
      have HXV := hide hxv
      have cx := HXR.out wr hO.out.bel
      have hF := tfits (.slice aa ma ka) x a Ls[k] wr (HA.out.stays hO.out.bel (Nat.le_refl _)) (hxv.stays hO.out.bel (Nat.le_refl _))
      clear hlie hx hxv HL
      generalize Ls[k] = lk at *
      by_cases hok : M.likeF a = 0 ∧ M.tupF lk = 0
      · obtain ⟨ha, hlk⟩ := hok
        have hF := fitsOk (.slice aa ma ka) x a lk wr (HA.out.stays hO.out.bel (Nat.le_refl _)) (HXV.out.stays hO.out.bel (Nat.le_refl _)) ha hlk
        cases hb : M.fitAll a lk
        · rw [hb] at hF
          have HF := hide hF
          clear hF hb ha hlk
          go_wp2_with fail
          refine (unhide HF).mono ?_
          rintro e w5 ⟨rfl, hb5⟩
          have HO5 := hide (hO.out.quiet hb5)
          clear hb5
          go_wp2_with fail
          go_roundw
          case rel => exact ⟨k + 1, q, v, L, by omega, by omega, by omega, by go_num, rfl, hQ, HO5⟩
          case measure => simp [intOf]; omega
        · rw [hb] at hF
          have HF := hide hF
          have HH := hide (And.intro ha (And.intro hlk hb))
          clear hF hb ha hlk
          have hq30 : q < 30 := by omega
          rcases Nat.eq_zero_or_pos q with hq0 | hq0
          · subst hq0
            go_wp2_with fail
            refine (unhide HF).mono ?_
            rintro e w5 ⟨rfl, hb5⟩
            have HO5 := hide (hO.out.quiet hb5)
            have cx5 := HXR.out w5 HO5.out.bel
            clear hb5
            go_wp2_with fail
            refine (HO5.out.onlyPut hQ.out (HA.out.stays HO5.out.bel (Nat.le_refl _)) (HXV.out.stays HO5.out.bel (Nat.le_refl _)) HH.out.1 HH.out.2.1 HH.out.2.2).mono ?_
            rintro e w6 ⟨rfl, v6, y6, h6, hy6⟩
            have HO6 := hide h6
            have HY6 := hide hy6
            have cx6 := HXR.out w6 h6.bel
            clear h6 hy6 HO5 cx5
            go_wp2_with fail
            refine (HO6.out.onlyCh HY6.out (HA.out.stays HO6.out.bel (Nat.le_refl _)) (Firm.arg HXV.out HO6.out.bel) HH.out.1 HH.out.2.1).mono ?_
            rintro e w7 ⟨ro, rc, v7, rfl, h7⟩
            have HO7 := hide h7
            rw [HMA.out]
            clear h7 HO6 cx6
            go_wp2_with fail
            refine (HO7.out.onlyCnt (HA.out.stays HO7.out.bel (Nat.le_refl _)) HH.out.1 HH.out.2.2).mono ?_
            rintro e w8 ⟨rfl, h8⟩
            have HO8 := hide h8
            clear h8 HO7
            go_wp2_with fail
            go_roundw
            case rel => exact ⟨k + 1, 1, v7, [lk], by omega, by omega, by omega, by go_num, rfl, hide (Or.inr ⟨by omega, lk, rfl, HH.out.2.2, HH.out.2.1⟩), HO8⟩
            case measure => simp [intOf]; omega
          · have hqb : ((q : Int) == 0) = false := by simp; omega
            have hqd : decide (q = 0) = false := decide_eq_false (by omega)
            go_wp2_with fail
            refine (unhide HF).mono ?_
            rintro e w5 ⟨rfl, hb5⟩
            have HO5 := hide (hO.out.quiet hb5)
            have cx5 := HXR.out w5 HO5.out.bel
            have HP5 := hide (HO5.out.onlyPut hQ.out (HA.out.stays HO5.out.bel (Nat.le_refl _)) (HXV.out.stays HO5.out.bel (Nat.le_refl _)) HH.out.1 HH.out.2.1 HH.out.2.2)
            rw [hqd] at HP5
            clear hb5
            go_wp2_with fail
            refine (unhide HP5).mono ?_
            rintro e w6 ⟨rfl, v6, y6, h6, hy6⟩
            have HO6 := hide h6
            have HY6 := hide hy6
            have cx6 := HXR.out w6 h6.bel
            clear h6 hy6 HO5 cx5 HP5
            go_wp2_with fail
            refine (HO6.out.onlyCh HY6.out (HA.out.stays HO6.out.bel (Nat.le_refl _)) (Firm.arg HXV.out HO6.out.bel) HH.out.1 HH.out.2.1).mono ?_
            rintro e w7 ⟨ro, rc, v7, rfl, h7⟩
            have HO7 := hide h7
            rw [HMA.out]
            clear h7 HO6 cx6
            go_wp2_with fail
            refine (HO7.out.onlyCnt (HA.out.stays HO7.out.bel (Nat.le_refl _)) HH.out.1 HH.out.2.2).mono ?_
            rintro e w8 ⟨rfl, h8⟩
            have HO8 := hide h8
            clear h8 HO7
            go_wp2_with fail
            go_roundw
            case rel => exact ⟨k + 1, q + 1, v7, [lk], by omega, by omega, by omega, by go_num, by go_num, hide (Or.inr ⟨by omega, lk, rfl, HH.out.2.2, HH.out.2.1⟩), HO8⟩
            case measure => simp [intOf]; omega
      · have hbad : M.both (M.likeF a) (M.tupF lk) ≠ 0 := fun e => hok (by
          unfold M.both at e
          by_cases h : M.likeF a = 0
          · rw [h] at e; exact ⟨h, by simpa using e⟩
          · rw [if_neg h] at e; exact absurd e h)
        rw [errV_bad hbad] at hF
        have HF := hide hF
        clear hF hok hbad
        generalize M.both (M.likeF a) (M.tupF lk) = c at *
        generalize M.fitsB a lk = fb at *
        go_wp2_with fail
        refine (unhide HF).mono ?_
        rintro e w5 ⟨rfl, hb5⟩
        have HO5 := hide (hO.out.quiet hb5)
        clear hb5
        go_wp2_with fail
        go_roundw
        case rel => exact ⟨k + 1, q, v, L, by omega, by omega, by omega, by go_num, rfl, hQ, HO5⟩
        case measure => simp [intOf]; omega
    · clear HL HN
      have h20 := hO.out.fine.2
      obtain ⟨nL, hnL⟩ : ∃ m, L.length = m := ⟨_, rfl⟩
      rw [hnL] at h20
      have HNL := hide hnL
      clear hnL
      rcases (by omega : ¬ (k : Int) < (n : Int) ∨ (k : Int) < (n : Int) ∧ ¬ (k : Int) < 30) with hex | ⟨hex, hex2⟩
      all_goals
        go_wp2_with fail
        refine (hO.out.allN HNL.out).mono ?_
        rintro e w5 ⟨ao5, c5, rfl, h5⟩
        have HC := hide (h5.lastCh (HA.out.stays h5.bel (Nat.le_refl _)) (Firm.arg HT.out h5.bel))
        by_cases hc : M.chF a L l = 0
        · have hpos : 0 < nL := by rw [← HNL.out]; exact ch_len.2 hc
          have HC2 : Hid (Calls Try.prog 12 #[.pointer (some ⟨S, 0, none⟩), .slice aa ma ka, tv] w5 fun e w' => ∃ r v' L', e = .returned (.tuple #[r, .nilIface]) ∧ One w w' S v' L' ∧ L'.length = L.length) := hide (by have := HC.out; rwa [hc] at this)
          clear HC hc h5
          go_wp2_with fail
          refine (unhide HC2).mono ?_
          rintro e w6 ⟨r6, v6, L6, rfl, h6, hl6⟩
          have HO6 := hide h6
          have HL6 := hide (hl6.trans HNL.out)
          clear h6 hl6
          go_wp2_with fail
          refine (HO6.out.allN HL6.out).mono ?_
          rintro e w7 ⟨ao7, c7, rfl, h7⟩
          have HB7 := hide h7.bel
          clear h7
          go_wp2_with fail
          go_ret
          exact ⟨rfl, HB7.out⟩
        · have HC2 : Hid (Calls Try.prog 12 #[.pointer (some ⟨S, 0, none⟩), .slice aa ma ka, tv] w5 fun e w' => ∃ r v' L', e = .returned (.tuple #[r, .iface 43 (.int .i64 (M.chF a L l))]) ∧ One w w' S v' L' ∧ L'.length = L.length) := hide (by have := HC.out; rwa [errV_bad hc] at this)
          generalize M.chF a L l = cf at *
          clear HC hc h5
          go_wp2_with fail
          refine (unhide HC2).mono ?_
          rintro e w6 ⟨r6, v6, L6, rfl, h6, hl6⟩
          have HO6 := hide h6
          have HL6 := hide (hl6.trans HNL.out)
          clear h6 hl6
          go_wp2_with fail
          refine (HO6.out.allN HL6.out).mono ?_
          rintro e w7 ⟨ao7, c7, rfl, h7⟩
          have HB7 := hide h7.bel
          clear h7
          go_wp2_with fail
          go_ret
          exact ⟨rfl, HB7.out⟩

theorem onlyWalk (lv av tv : Value) (Ls : List (List M.Val)) (a l : List M.Val) (w : World) (hl : IsTups w lv Ls) (hav : IsVals w av a) (htv : IsVals w tv l) :
    Calls Try.prog 4 #[lv, av, tv] w fun e w' => e = .returned (.bool true) ∧ Below w.heap.size w w' := by
  obtain ⟨ao, cap, rfl, hm⟩ := hl.shape
  obtain ⟨aa, ka, rfl, _⟩ := hav.form
  refine only Ls.length cap a.length ka ao aa tv Ls a l w rfl hm (fun h0 => ?_) hav rfl htv
  obtain ⟨b, off, c, h1, _, _, h2⟩ := hl.some h0
  simp only [Value.slice.injEq] at h1
  exact ⟨b, off, h1.1, h2⟩

end Go.Proofs.Ytlefhfmckimlaab
