/-
  What the document's own Rules, First and May do, each as one law of its call.
-/
import Derived.Test.YtlefhfmckimlaakGreatDoorJRule
import Derived.Test.YtlefhfmckimlaakGreatDoorJRef
set_option linter.unusedVariables false
namespace Go.Proofs.YtlefhfmckimlaakGreatDoor
open Go.RowKit

theorem refRules_many (a : Option Addr) (n cap : Nat) (w : World) (h : 8 < n) (hn : n ≤ maxLen) :
    Calls Tryz.prog 15 #[.slice a n cap] w fun e w' => e = .returned (.int .i64 4) ∧ Below w.heap.size w w' := by
  unfold maxLen at hn
  have h8 : (8 : Int) < n := by omega
  go_enter Tryz.func15, Tryz.ntmps15
  go_wp2
  go_ret
  exact ⟨rfl, Below.refl _ _⟩

theorem refRules_some (av : Option Addr) (n cap : Nat) (l : List M.Rul) (w : World) (hn : n = l.length) (h : n ≤ 8) (hl : AtR w av l) :
    Calls Tryz.prog 15 #[.slice av n cap] w fun e w' => e = .returned (.int .i64 (M.first (M.rulA l) n)) ∧ Below w.heap.size w w' := by
  have HL := hide hl
  have HN := hide hn
  have h8 : ¬ (8 : Int) < n := by omega
  clear hl hn
  go_enter Tryz.func15, Tryz.ntmps15
  go_wp2
  go_loopw [3] (fun i wr => ∃ k : Nat, k ≤ n ∧ i = .int .i64 k ∧ Hid (M.first (M.rulA l) k = 0) ∧ Hid (Below w.heap.size w wr)) (fun i _ => n - (intOf i).toNat)
  case atStart => exact ⟨0, Nat.zero_le _, rfl, hide rfl, hide (Below.refl _ _)⟩
  case round =>
    obtain ⟨k, hk, rfl, hno, hbel⟩ := hrel
    by_cases hlt : k < n
    · have hkl : k < l.length := HN.out ▸ hlt
      have ik0 : (0 : Int) ≤ (k : Int) := by omega
      have ikn : (k : Int) < (n : Int) := by omega
      obtain ⟨b, off, rfl, hlie⟩ := HL.out (by omega)
      obtain ⟨a, m, c, c1, c2, c3, c4, hv⟩ := (hlie.stays hbel.out (Nat.le_refl _)).get hkl
      have HF := hide (M.rulA_at hkl)
      generalize l[k] = r at *
      obtain ⟨d, x, lk, my⟩ := r
      have HC : Hid (Calls Tryz.prog 43 #[.slice a m c] wr fun e w' => e = .returned (.int .i64 (M.likeF lk)) ∧ Below wr.heap.size wr w') := hide (rlike _ lk wr hv)
      clear hv hlie
      by_cases hr : d < 0 ∨ 2 < d ∨ x < -1 ∨ 1000000 < x
      · have HS : Hid (M.first (M.rulA l) n = 1) := hide (by
          have e1 := HF.out
          rw [M.rulF_range (r := ⟨d, x, lk, my⟩) hr] at e1
          rw [M.first_bad hlt hno.out (by rw [e1]; decide), e1])
        clear HF HC
        by_cases q1 : d < 0
        · clear hr
          go_wp2_with fail
          go_ret
          exact ⟨by rw [HS.out]; rfl, hbel.out⟩
        · by_cases q2 : 2 < d
          · clear hr
            go_wp2_with fail
            go_ret
            exact ⟨by rw [HS.out]; rfl, hbel.out⟩
          · by_cases q3 : x < -1
            · clear hr
              go_wp2_with fail
              go_ret
              exact ⟨by rw [HS.out]; rfl, hbel.out⟩
            · have q4 : 1000000 < x := by omega
              clear hr
              go_wp2_with fail
              go_ret
              exact ⟨by rw [HS.out]; rfl, hbel.out⟩
      · have HE : Hid (M.rulF ⟨d, x, lk, my⟩ = M.likeF lk) := hide (M.rulF_like (r := ⟨d, x, lk, my⟩) hr)
        have q1 : ¬ d < 0 := by omega
        have q2 : ¬ 2 < d := by omega
        have q3 : ¬ x < -1 := by omega
        have q4 : ¬ 1000000 < x := by omega
        clear hr
        by_cases hb : M.likeF lk = 0
        · have HS : Hid (M.first (M.rulA l) (k + 1) = 0) := hide (by rw [M.first_next hno.out, HF.out, HE.out, hb])
          rw [hb] at HC
          clear hb HF HE
          go_wp2_with fail
          refine (unhide HC).mono ?_
          rintro e w1 ⟨rfl, hb1⟩
          have HB1 := hide (hbel.out.trans (hb1.mono hbel.out.size))
          clear hb1
          go_wp2_with fail
          go_roundw
          case rel => exact ⟨k + 1, by omega, by go_num, HS, HB1⟩
          case measure => simp [intOf]; omega
        · have HS : Hid (M.first (M.rulA l) n = M.likeF lk) := hide (by rw [M.first_bad hlt hno.out (by rw [HF.out, HE.out]; exact hb), HF.out, HE.out])
          have hbb : (M.likeF lk != 0) = true := by simpa using hb
          clear hb HF HE
          generalize M.likeF lk = E at *
          go_wp2_with fail
          refine (unhide HC).mono ?_
          rintro e w1 ⟨rfl, hb1⟩
          have HB1 := hide (hbel.out.trans (hb1.mono hbel.out.size))
          clear hb1
          go_wp2_with fail
          go_ret
          exact ⟨by rw [HS.out]; rfl, HB1.out⟩
    · have HS : Hid (M.first (M.rulA l) n = 0) := hide (by have := hno.out; rwa [show k = n by omega] at this)
      go_wp2
      go_ret
      exact ⟨by rw [HS.out]; rfl, hbel.out⟩

theorem refRules (a : Option Addr) (n cap : Nat) (l : List M.Rul) (w : World) (hn : n = l.length) (hm : n ≤ maxLen) (hl : AtR w a l) :
    Calls Tryz.prog 15 #[.slice a n cap] w fun e w' => e = .returned (.int .i64 (M.rulE l)) ∧ Below w.heap.size w w' := by
  by_cases h : 8 < n
  · rw [M.rulE_many (hn ▸ h)]; exact refRules_many a n cap w h hm
  · rw [M.rulE_some (hn ▸ h), ← hn]; exact refRules_some a n cap l w hn (by omega) hl

theorem refFirst (av : Option Addr) (n cap : Nat) (L : List M.Rul) (who deed : Int) (tv : Value) (t : List M.Val) (w : World) (hn : n = L.length) (h8 : n ≤ 8) (hl : AtR w av L) (hL : ∀ r ∈ L, M.likeF r.like = 0) (ht : IsVals w tv t) :
    Calls Tryz.prog 89 #[.slice av n cap, .int .i64 who, .int .i64 deed, tv] w fun e w' => e = .returned (.int .i64 (M.placeR L who deed t)) ∧ Below w.heap.size w w' := by
  have HL := hide hl
  have HN := hide hn
  have HT : Hid (∀ wx, Below w.heap.size w wx → IsVals wx tv t) := hide fun wx hb => ht.stays hb (Nat.le_refl _)
  have HLK := hide hL
  clear hl hn ht hL
  go_enter Tryz.func89, Tryz.ntmps89
  go_wp2
  go_loopw [9] (fun i wr => ∃ k : Nat, k ≤ n ∧ i = .int .i64 k ∧ Hid (∀ j (hj : j < k) (hjl : j < L.length), M.goes who deed t L[j] = false) ∧ Hid (Below w.heap.size w wr)) (fun i _ => n - (intOf i).toNat)
  case atStart => exact ⟨0, Nat.zero_le _, rfl, hide (fun j hj => by omega), hide (Below.refl _ _)⟩
  case round =>
    obtain ⟨k, hk, rfl, hno, hbel⟩ := hrel
    by_cases hlt : k < n
    · have hkl : k < L.length := HN.out ▸ hlt
      have ik0 : (0 : Int) ≤ (k : Int) := by omega
      have ikn : (k : Int) < (n : Int) := by omega
      obtain ⟨b, off, rfl, hlie⟩ := HL.out (by omega)
      obtain ⟨a, m, c, c1, c2, c3, c4, hv⟩ := (hlie.stays hbel.out (Nat.le_refl _)).get hkl
      have hbw : b < wr.heap.size := World.block_lt_of_cell? wr _ c1
      have HK : Hid (∀ wx, Below wr.heap.size wr wx → wx.cell? ⟨b, off + k * 4, none⟩ = some (.int .i64 L[k].deed) ∧ wx.cell? ⟨b, off + k * 4 + 1, none⟩ = some (.int .i64 L[k].who)) := hide fun wx hb => ⟨(hb.cell (p := ⟨b, off + k * 4, none⟩) hbw).trans c1, (hb.cell (p := ⟨b, off + k * 4 + 1, none⟩) hbw).trans c2⟩
      have HC : Hid (Calls Tryz.prog 120 #[.slice a m c, tv] wr fun e w' => e = .returned (.bool (M.fitAll L[k].like t)) ∧ Below wr.heap.size wr w') := hide (rfits _ _ _ t wr hv (HT.out _ hbel.out) (HLK.out _ (List.getElem_mem hkl)))
      have HNX : Hid (M.goes who deed t L[k] = false → ∀ j (hj : j < k + 1) (hjl : j < L.length), M.goes who deed t L[j] = false) := hide fun hg j hj hjl => by
        rcases Nat.lt_succ_iff_lt_or_eq.1 hj with h | h
        · exact hno.out j h hjl
        · subst h; exact hg
      have HHT : Hid (M.goes who deed t L[k] = true → M.placeR L who deed t = (k : Int)) := hide fun hg => by
        have hsp : M.spotR L who deed t = k := M.spotR_hit hkl (fun j hj => hno.out j hj (by omega)) hg
        unfold M.placeR; rw [hsp, if_pos hkl]
      clear hv hlie c4 c1 c2
      generalize L[k] = r at *
      obtain ⟨d, x, lk, my⟩ := r
      have HG : Hid (M.goes who deed t ⟨d, x, lk, my⟩ = (M.fitAll lk t && (d == deed) && (x == -1 || x == who))) := hide rfl
      dsimp only at HC HK
      cases hf : M.fitAll lk t
      · have HS := hide (HNX.out (by rw [HG.out, hf]; rfl))
        rw [hf] at HC
        clear hf HG HNX HHT
        go_wp2_with fail
        refine (unhide HC).mono ?_
        rintro e w1 ⟨rfl, hb1⟩
        have HB1 := hide (hbel.out.trans (hb1.mono hbel.out.size))
        clear hb1
        go_wp2_with fail
        go_roundw
        case rel => exact ⟨k + 1, by omega, by go_num, HS, HB1⟩
        case measure => simp [intOf]; omega
      · rw [hf] at HC
        cases hd : (d == deed)
        · have HS := hide (HNX.out (by rw [HG.out, hf, hd]; rfl))
          clear hf HG HNX HHT
          go_wp2_with fail
          refine (unhide HC).mono ?_
          rintro e w1 ⟨rfl, hb1⟩
          obtain ⟨d1, d2⟩ := HK.out _ hb1
          have HB1 := hide (hbel.out.trans (hb1.mono hbel.out.size))
          clear hb1
          go_wp2_with fail
          go_roundw
          case rel => exact ⟨k + 1, by omega, by go_num, HS, HB1⟩
          case measure => simp [intOf]; omega
        · cases hx : (x == -1)
          · cases hw : (x == who)
            · have HS := hide (HNX.out (by rw [HG.out, hf, hd, hx, hw]; rfl))
              clear hf HG HNX HHT
              go_wp2_with fail
              refine (unhide HC).mono ?_
              rintro e w1 ⟨rfl, hb1⟩
              obtain ⟨d1, d2⟩ := HK.out _ hb1
              have HB1 := hide (hbel.out.trans (hb1.mono hbel.out.size))
              clear hb1
              go_wp2_with fail
              go_roundw
              case rel => exact ⟨k + 1, by omega, by go_num, HS, HB1⟩
              case measure => simp [intOf]; omega
            · have HS := hide (HHT.out (by rw [HG.out, hf, hd, hx, hw]; rfl))
              clear hf HG HNX HHT
              go_wp2_with fail
              refine (unhide HC).mono ?_
              rintro e w1 ⟨rfl, hb1⟩
              obtain ⟨d1, d2⟩ := HK.out _ hb1
              have HB1 := hide (hbel.out.trans (hb1.mono hbel.out.size))
              clear hb1
              go_wp2_with fail
              go_ret
              exact ⟨by rw [HS.out]; rfl, HB1.out⟩
          · have HS := hide (HHT.out (by rw [HG.out, hf, hd, hx]; rfl))
            clear hf HG HNX HHT
            go_wp2_with fail
            refine (unhide HC).mono ?_
            rintro e w1 ⟨rfl, hb1⟩
            obtain ⟨d1, d2⟩ := HK.out _ hb1
            have HB1 := hide (hbel.out.trans (hb1.mono hbel.out.size))
            clear hb1
            go_wp2_with fail
            go_ret
            exact ⟨by rw [HS.out]; rfl, HB1.out⟩
    · have hsp : M.spotR L who deed t = L.length := M.spotR_none (fun j hj => hno.out j (by have := HN.out; omega) hj)
      have hfin : Hid (M.placeR L who deed t = -1) := hide (by unfold M.placeR; rw [hsp, if_neg (Nat.lt_irrefl _)])
      clear hsp
      go_wp2
      go_ret
      exact ⟨by rw [hfin.out]; rfl, hbel.out⟩

theorem refMay (av : Option Addr) (n cap : Nat) (L : List M.Rul) (who deed : Int) (tv : Value) (t : List M.Val) (w : World) (hn : n = L.length) (hl : AtR w av L) (hE : M.mayE L who deed t = 0) (ht : IsVals w tv t) :
    Calls Tryz.prog 47 #[.slice av n cap, .int .i64 who, .int .i64 deed, tv] w fun e w' => e = .returned (.bool (M.mayR L who deed t)) ∧ Below w.heap.size w w' := by
  obtain ⟨e1, e2, e3⟩ := M.mayE_ok hE
  have h8 : n ≤ 8 := by rw [hn]; exact (M.rulE_ok e1).1
  have hF := refFirst av n cap L who deed tv t w hn h8 hl (M.rulE_like e1) ht
  clear ht
  by_cases hs : M.spotR L who deed t < L.length
  · have hp : M.placeR L who deed t = (M.spotR L who deed t : Int) := by unfold M.placeR; rw [if_pos hs]
    rw [hp] at hF
    have hR := M.mayR_hit hE hs
    rw [hR]
    obtain ⟨b, off, rfl, hlie⟩ := hl (by omega)
    have hc : ∀ wx, Below w.heap.size w wx → wx.cell? ⟨b, off + M.spotR L who deed t * 4 + 3, none⟩ = some (.bool L[M.spotR L who deed t].may) := fun wx hb => ((hlie.stays hb (Nat.le_refl _)) _ hs).2.2.2
    have hsn : M.spotR L who deed t < n := by omega
    generalize L[M.spotR L who deed t].may = my at *
    generalize M.spotR L who deed t = p at *
    have HF := hide hF
    have HCE := hide hc
    have p0 : (0 : Int) ≤ (p : Int) := by omega
    have pn : (p : Int) < (n : Int) := by omega
    clear hF hc hlie hR hp hs hE e1 e2 e3 hl hn
    go_enter Tryz.func47, Tryz.ntmps47
    go_wp2_with fail
    refine (unhide HF).mono ?_
    rintro e w1 ⟨rfl, hb1⟩
    have c1 := HCE.out _ hb1
    have HB1 := hide hb1
    clear hb1
    go_wp2_with fail
    go_ret
    exact ⟨rfl, HB1.out⟩
  · have hp : M.placeR L who deed t = -1 := by unfold M.placeR; rw [if_neg hs]
    rw [hp] at hF
    rw [M.mayR_none hE hs]
    have HF := hide hF
    clear hF hp hs hE e1 e2 e3 hl hn
    go_enter Tryz.func47, Tryz.ntmps47
    go_wp2_with fail
    refine (unhide HF).mono ?_
    rintro e w1 ⟨rfl, hb1⟩
    go_wp2_with fail
    go_ret
    exact ⟨rfl, hb1⟩

end Go.Proofs.YtlefhfmckimlaakGreatDoor
