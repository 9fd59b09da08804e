/-
  What First and May of package rule do, with the library's search that they call: each as one law of its call.
-/
import Derived.Test.YtlefhfmckimlaajGreatDoorJ22A
import Derived.Deep.RegionHeld3
set_option linter.unusedVariables false
namespace Go.Proofs.YtlefhfmckimlaajGreatDoor
open Go.RowKit

theorem ruleFits (v1 v2 : Value) (a l : List M.Val) (w : World) (h1 : IsVals w v1 a) (h2 : IsVals w v2 l) (ha : M.likeF a = 0) (hl : M.tupF l = 0) :
    Calls Tryz.prog 109 #[v1, v2] w fun e w' => e = .returned (.tuple #[.bool (M.fitAll a l), .nilIface]) ∧ Below w.heap.size w w' := by
  have := tfits v1 v2 a l w h1 h2
  have e1 : M.both (M.likeF a) (M.tupF l) = 0 := by rw [ha, hl]; rfl
  have e2 : M.fitsB a l = M.fitAll a l := by unfold M.fitsB; rw [e1]; rfl
  rwa [e1, e2] at this

/-- the question that is asked of each rule -/
theorem asksR (d x deed who : Int) (a : Option Addr) (n c : Nat) (m : Bool) (B1 B2 B3 : Nat) (ta : Option Addr) (tn tc : Nat) (l t : List M.Val) (w : World)
    (h1 : w.cell? ⟨B1, 0, none⟩ = some (.int .i64 deed)) (h2 : w.cell? ⟨B2, 0, none⟩ = some (.int .i64 who)) (h3 : w.cell? ⟨B3, 0, none⟩ = some (.slice ta tn tc)) (hv : IsVals w (.slice a n c) l) (ht : IsVals w (.slice ta tn tc) t) (hl : M.likeF l = 0) (htf : M.tupF t = 0) :
    Calls Tryz.prog 144 #[aggR d x a n c m, .pointer (some ⟨B1, 0, none⟩), .pointer (some ⟨B2, 0, none⟩), .pointer (some ⟨B3, 0, none⟩)] w fun e w' => e = .returned (.bool (M.goes who deed t ⟨d, x, l, m⟩)) ∧ Below w.heap.size w w' := by
  have HA : Hid (∀ o, Below w.heap.size w (w.alloc o)) := hide fun o => (Below.refl _ _).alloc (Nat.le_refl _) o
  have HF : Hid (∀ wx, Below w.heap.size w wx → Calls Tryz.prog 109 #[.slice a n c, .slice ta tn tc] wx fun e w' => e = .returned (.tuple #[.bool (M.fitAll l t), .nilIface]) ∧ Below wx.heap.size wx w') := hide fun wx hb => ruleFits _ _ l t wx (hv.stays hb (Nat.le_refl _)) (ht.stays hb (Nat.le_refl _)) hl htf
  have b1 := World.block_lt_of_cell? w _ h1
  have b2 := World.block_lt_of_cell? w _ h2
  have b3 := World.block_lt_of_cell? w _ h3
  have q1 : ¬ B1 = w.heap.size := by simp at b1; omega
  have q2 : ¬ B2 = w.heap.size := by simp at b2; omega
  have q3 : ¬ B3 = w.heap.size := by simp at b3; omega
  clear hv ht hl htf
  by_cases hd : d = deed
  · have hdb : (d != deed) = false := by simpa using hd
    by_cases hx : x = -1
    · have HG : Hid (M.goes who deed t ⟨d, x, l, m⟩ = M.fitAll l t) := hide (by unfold M.goes; simp [hd, hx])
      rw [HG.out]
      generalize M.fitAll l t = f at *
      clear HG hd
      have hxb : (x != -1) = false := by simpa using hx
      clear hx
      go_enter Tryz.func144, Tryz.ntmps144
      go_wp2_with fail
      refine (HF.out _ (HA.out _)).mono ?_
      rintro e w1 ⟨rfl, hb1⟩
      have HB1 := hide ((HA.out _).trans (hb1.mono (by simp)))
      clear hb1
      go_wp2_with fail
      go_ret
      exact ⟨rfl, HB1.out⟩
    · have hxb : (x != -1) = true := by simpa using hx
      by_cases hw : x = who
      · have HG : Hid (M.goes who deed t ⟨d, x, l, m⟩ = M.fitAll l t) := hide (by unfold M.goes; simp [hd, hw])
        have hwb : (x != who) = false := by simpa using hw
        rw [HG.out]
        generalize M.fitAll l t = f at *
        clear HG hd hx hw
        go_enter Tryz.func144, Tryz.ntmps144
        go_wp2_with fail
        refine (HF.out _ (HA.out _)).mono ?_
        rintro e w1 ⟨rfl, hb1⟩
        have HB1 := hide ((HA.out _).trans (hb1.mono (by simp)))
        clear hb1
        go_wp2_with fail
        go_ret
        exact ⟨rfl, HB1.out⟩
      · have HG : Hid (M.goes who deed t ⟨d, x, l, m⟩ = false) := hide (by unfold M.goes; simp [hx, hw])
        have hwb : (x != who) = true := by simpa using hw
        rw [HG.out]
        clear HG hd hx hw HF
        go_enter Tryz.func144, Tryz.ntmps144
        go_wp2_with fail
        go_ret
        exact ⟨rfl, HA.out _⟩
  · have HG : Hid (M.goes who deed t ⟨d, x, l, m⟩ = false) := hide (by unfold M.goes; simp [hd])
    have hdb : (d != deed) = true := by simpa using hd
    rw [HG.out]
    clear HG hd HF
    go_enter Tryz.func144, Tryz.ntmps144
    go_wp2_with fail
    go_ret
    exact ⟨rfl, HA.out _⟩

/-- the answer of the search: where, or -1 -/
def M.placeR (l : List M.Rul) (who deed : Int) (t : List M.Val) : Int := if M.spotR l who deed t < l.length then M.spotR l who deed t else -1

theorem indexR (av : Option Addr) (n cap : Nat) (L : List M.Rul) (deed who : Int) (B1 B2 B3 : Nat) (ta : Option Addr) (tn tc : Nat) (t : List M.Val) (w : World) (hn : n = L.length) (h8 : n ≤ 8) (hl : AtR w av L) (hL : ∀ r ∈ L, M.likeF r.like = 0)
    (h1 : w.cell? ⟨B1, 0, none⟩ = some (.int .i64 deed)) (h2 : w.cell? ⟨B2, 0, none⟩ = some (.int .i64 who)) (h3 : w.cell? ⟨B3, 0, none⟩ = some (.slice ta tn tc)) (ht : IsVals w (.slice ta tn tc) t) (htf : M.tupF t = 0) :
    Calls Tryz.prog 143 #[.slice av n cap, .func (.func 144) #[] #[.pointer (some ⟨B1, 0, none⟩), .pointer (some ⟨B2, 0, none⟩), .pointer (some ⟨B3, 0, none⟩)]] w fun e w' => e = .returned (.int .i64 (M.placeR L who deed t)) ∧ Below w.heap.size w w' := by
  have HK : Hid (∀ wr, Below w.heap.size w wr → ∀ k (hk : k < L.length), ∃ b off a m c, av = some ⟨b, off, none⟩ ∧ wr.cell? ⟨b, off + k * 4, none⟩ = some (.int .i64 L[k].deed) ∧ wr.cell? ⟨b, off + k * 4 + 1, none⟩ = some (.int .i64 L[k].who) ∧ wr.cell? ⟨b, off + k * 4 + 2, none⟩ = some (.slice a m c) ∧ wr.cell? ⟨b, off + k * 4 + 3, none⟩ = some (.bool L[k].may) ∧ Calls Tryz.prog 144 #[aggR L[k].deed L[k].who a m c L[k].may, .pointer (some ⟨B1, 0, none⟩), .pointer (some ⟨B2, 0, none⟩), .pointer (some ⟨B3, 0, none⟩)] wr fun e w' => e = .returned (.bool (M.goes who deed t L[k])) ∧ Below wr.heap.size wr w') := hide fun wr hb k hk => by
    obtain ⟨b, off, e, hlie⟩ := hl (by omega)
    obtain ⟨a, m, c, c1, c2, c3, c4, hv⟩ := (hlie.stays hb (Nat.le_refl _)).get hk
    exact ⟨b, off, a, m, c, e, c1, c2, c3, c4, asksR _ _ deed who a m c _ B1 B2 B3 ta tn tc L[k].like t wr ((hb.cell (p := ⟨B1, 0, none⟩) (World.block_lt_of_cell? w _ h1)).trans h1) ((hb.cell (p := ⟨B2, 0, none⟩) (World.block_lt_of_cell? w _ h2)).trans h2) ((hb.cell (p := ⟨B3, 0, none⟩) (World.block_lt_of_cell? w _ h3)).trans h3) hv (ht.stays hb (Nat.le_refl _)) (hL _ (List.getElem_mem hk)) htf⟩
  have HN := hide hn
  clear hn hl hL h1 h2 h3 ht htf
  go_enter Tryz.func143, Tryz.ntmps143
  go_wp2
  go_loopw [8] (fun i wr => ∃ k : Nat, k ≤ n ∧ i = .int .i64 k ∧ Hid (∀ j (hj : j < k) (hjl : j < L.length), M.goes who deed t L[j] = false) ∧ Hid (Below w.heap.size w wr)) (fun i _ => n - (intOf i).toNat)
  case atStart => exact ⟨0, Nat.zero_le _, rfl, hide (fun j hj => by omega), hide (Below.refl _ _)⟩
  case round =>
    obtain ⟨k, hk, rfl, hno, hbel⟩ := hrel
    by_cases hlt : k < n
    · have hkl : k < L.length := HN.out ▸ hlt
      obtain ⟨b, off, a, m, c, rfl, c1, c2, c3, c4, hC⟩ := (unhide HK) wr hbel.out k hkl
      have hbl : b < wr.heap.size := World.block_lt_of_cell? wr _ c1
      cases hb : M.goes who deed t L[k]
      · rw [hb] at hC
        have HB := hide hb
        have HC := hide hC
        clear hb hC
        generalize L[k].deed = xd at *
        generalize L[k].who = xw at *
        generalize L[k].may = xm at *
        go_wp2_with fail
        refine (unhide HC).mono ?_
        rintro e w1 ⟨rfl, hb1⟩
        have HB1 := hide (hbel.out.trans (hb1.mono hbel.out.size))
        clear hb1
        go_wp2_with fail
        go_roundw
        case rel =>
          refine ⟨k + 1, by omega, by go_num, hide (fun j hj hjl => ?_), HB1⟩
          rcases Nat.lt_succ_iff_lt_or_eq.1 hj with h | h
          · exact hno.out j h hjl
          · subst h; exact HB.out
        case measure => simp [intOf]; omega
      · rw [hb] at hC
        have HC := hide hC
        have hsp : M.spotR L who deed t = k := M.spotR_hit hkl (fun j hj => hno.out j hj (by omega)) hb
        have hfin : Hid (M.placeR L who deed t = (k : Int)) := hide (by unfold M.placeR; rw [hsp, if_pos hkl])
        clear hb hC hsp
        generalize L[k].deed = xd at *
        generalize L[k].who = xw at *
        generalize L[k].may = xm at *
        go_wp2_with fail
        refine (unhide HC).mono ?_
        rintro e w1 ⟨rfl, hb1⟩
        have HB1 := hide (hbel.out.trans (hb1.mono hbel.out.size))
        clear hb1
        go_wp2_with fail
        go_ret
        exact ⟨by rw [hfin.out]; rfl, HB1.out⟩
    · have hsp : M.spotR L who deed t = L.length := M.spotR_none (fun j hj => hno.out j (by have := HN.out; omega) hj)
      have hfin : Hid (M.placeR L who deed t = -1) := hide (by unfold M.placeR; rw [hsp, if_neg (Nat.lt_irrefl _)])
      clear hsp
      go_wp2
      go_ret
      exact ⟨by rw [hfin.out]; rfl, hbel.out⟩

/-- the place of the first that goes -/
theorem findR (av : Option Addr) (n cap : Nat) (L : List M.Rul) (who deed : Int) (ta : Option Addr) (tn tc : Nat) (t : List M.Val) (w : World) (hn : n = L.length) (h8 : n ≤ 8) (hl : AtR w av L) (hL : ∀ r ∈ L, M.likeF r.like = 0) (ht : IsVals w (.slice ta tn tc) t) (htf : M.tupF t = 0) :
    Calls Tryz.prog 126 #[.slice av n cap, .int .i64 who, .int .i64 deed, .slice ta tn tc] w fun e w' => e = .returned (.int .i64 (M.placeR L who deed t)) ∧ Below w.heap.size w w' := by
  obtain ⟨W, hW⟩ : ∃ W, W = ((w.alloc (.cells #[.int .i64 who] 3)).alloc (.cells #[.int .i64 deed] 3)).alloc (.cells #[.slice ta tn tc] 33) := ⟨_, rfl⟩
  have hb : Below w.heap.size w W := by rw [hW]; exact (((Below.refl _ _).alloc (Nat.le_refl _) _).alloc (by simp) _).alloc (by simp; omega) _
  have HI : Hid (Calls Tryz.prog 143 #[.slice av n cap, .func (.func 144) #[] #[.pointer (some ⟨w.heap.size + 1, 0, none⟩), .pointer (some ⟨w.heap.size, 0, none⟩), .pointer (some ⟨w.heap.size + 1 + 1, 0, none⟩)]] W fun e w' => e = .returned (.int .i64 (M.placeR L who deed t)) ∧ Below W.heap.size W w') := hide
    (indexR av n cap L deed who _ _ _ ta tn tc t W hn h8 (hl.stays hb (Nat.le_refl _)) hL (by rw [hW]; simp [go_sem]) (by rw [hW]; simp [go_sem]) (by rw [hW]; simp [go_sem]) (ht.stays hb (Nat.le_refl _)) htf)
  have HB := hide hb
  have HW := hide hW
  clear hn h8 hl hL ht htf hb hW
  go_enter Tryz.func126, Tryz.ntmps126
  go_wp2_with fail
  rw [← HW.out]
  refine (unhide HI).mono ?_
  rintro e w1 ⟨rfl, hb1⟩
  have HB1 := hide (HB.out.trans (hb1.mono HB.out.size))
  clear hb1
  go_wp2_with fail
  go_ret
  exact ⟨rfl, HB1.out⟩

/-- May, whatever comes in -/
theorem rMay (av : Option Addr) (n cap : Nat) (L : List M.Rul) (who deed : Int) (tv : Value) (t : List M.Val) (w : World) (hn : n = L.length) (hm : n ≤ maxLen) (hl : AtR w av L) (ht : IsVals w tv t) :
    Calls Tryz.prog 97 #[.slice av n cap, .int .i64 who, .int .i64 deed, tv] w fun e w' => e = .returned (.tuple #[.bool (M.mayR L who deed t), errV (M.mayE L who deed t)]) ∧ Below w.heap.size w w' := by
  have hC := checkAll av n cap L who deed tv t w hn hm hl ht
  by_cases hE : M.mayE L who deed t = 0
  · rw [hE] at hC ⊢
    have HC : Hid (Calls Tryz.prog 125 #[.slice av n cap, .int .i64 who, .int .i64 deed, tv] w fun e w' => e = .returned .nilIface ∧ Below w.heap.size w w') := hide hC
    show Calls Tryz.prog 97 #[.slice av n cap, .int .i64 who, .int .i64 deed, tv] w fun e w' => e = .returned (.tuple #[.bool (M.mayR L who deed t), .nilIface]) ∧ Below w.heap.size w w'
    obtain ⟨e1, e2, e3⟩ := M.mayE_ok hE
    have h8 : n ≤ 8 := by rw [hn]; exact (M.rulE_ok e1).1
    have hF : ∀ wx, Below w.heap.size w wx → Calls Tryz.prog 126 #[.slice av n cap, .int .i64 who, .int .i64 deed, tv] wx fun e w' => e = .returned (.int .i64 (M.placeR L who deed t)) ∧ Below wx.heap.size wx w' := fun wx hb => by
      obtain ⟨ta, tn, tc, rfl⟩ := ht.isSlice
      exact findR av n cap L who deed ta tn tc t wx hn h8 (hl.stays hb (Nat.le_refl _)) (M.rulE_like e1) (ht.stays hb (Nat.le_refl _)) e3
    clear hC ht
    by_cases hs : M.spotR L who deed t < L.length
    · have hp : M.placeR L who deed t = (M.spotR L who deed t : Int) := by unfold M.placeR; rw [if_pos hs]
      rw [hp] at hF
      have hR := M.mayR_hit hE hs
      rw [hR]
      obtain ⟨b, off, rfl, hlie⟩ := hl (by omega)
      have hc : ∀ wx, Below w.heap.size w wx → wx.cell? ⟨b, off + M.spotR L who deed t * 4 + 3, none⟩ = some (.bool L[M.spotR L who deed t].may) := fun wx hb => ((hlie.stays hb (Nat.le_refl _)) _ hs).2.2.2
      have hsn : M.spotR L who deed t < n := by omega
      generalize L[M.spotR L who deed t].may = my at *
      generalize M.spotR L who deed t = p at *
      have HF := hide hF
      have HCE := hide hc
      have p0 : (0 : Int) ≤ (p : Int) := by omega
      have pn : (p : Int) < (n : Int) := by omega
      clear hF hc hlie hR hp hs hE e1 e2 e3 hl hn hm
      go_enter Tryz.func97, Tryz.ntmps97
      go_wp2_with fail
      refine (unhide HC).mono ?_
      rintro e w1 ⟨rfl, hb1⟩
      have HB1 := hide hb1
      clear hb1
      go_wp2_with fail
      refine (HF.out _ HB1.out).mono ?_
      rintro e w2 ⟨rfl, hb2⟩
      have hb := HB1.out.trans (hb2.mono HB1.out.size)
      have c1 := HCE.out _ hb
      have HB2 := hide hb
      clear hb hb2
      go_wp2_with fail
      go_ret2
      exact ⟨rfl, HB2.out⟩
    · have hp : M.placeR L who deed t = -1 := by unfold M.placeR; rw [if_neg hs]
      rw [hp] at hF
      rw [M.mayR_none hE hs]
      have HF := hide hF
      clear hF hp hs hE e1 e2 e3 hl hn hm
      go_enter Tryz.func97, Tryz.ntmps97
      go_wp2_with fail
      refine (unhide HC).mono ?_
      rintro e w1 ⟨rfl, hb1⟩
      have HB1 := hide hb1
      clear hb1
      go_wp2_with fail
      refine (HF.out _ HB1.out).mono ?_
      rintro e w2 ⟨rfl, hb2⟩
      have HB2 := hide (HB1.out.trans (hb2.mono HB1.out.size))
      clear hb2
      go_wp2_with fail
      go_ret2
      exact ⟨rfl, HB2.out⟩
  · rw [M.mayR_bad hE, errV_bad hE]
    rw [errV_bad hE] at hC
    have HC := hide hC
    clear hC hE hl ht hn hm
    generalize M.mayE L who deed t = E at *
    go_enter Tryz.func97, Tryz.ntmps97
    go_wp2_with fail
    refine (unhide HC).mono ?_
    rintro e w1 ⟨rfl, hb1⟩
    go_wp2_with fail
    go_ret2
    exact ⟨rfl, hb1⟩


end Go.Proofs.YtlefhfmckimlaajGreatDoor
