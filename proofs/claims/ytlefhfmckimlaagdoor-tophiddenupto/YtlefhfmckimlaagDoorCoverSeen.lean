/-
  What Tuple and Like of package cover do, each as one law of its call.
-/
import Derived.Test.YtlefhfmckimlaagDoorCoverWalks
import Derived.Deep.RegionWith
import Derived.Deep.DeepCutAuto
import Derived.Deep.CutBlock
set_option linter.unusedVariables false
namespace Go.Proofs.YtlefhfmckimlaagDoor
open Go.RowKit

/-- a row that is covered so far, and open behind it -/
def M.mix (c : M.Val) (l : List M.Val) (s : List Int) (k : Nat) : List M.Val := M.covL c (l.take k) (s.take k) ++ l.drop k
theorem mix_zero (c : M.Val) (l : List M.Val) (s : List Int) : M.mix c l s 0 = l := by unfold M.mix M.covL; simp
theorem mix_all {c : M.Val} {l : List M.Val} {s : List Int} (h : s.length = l.length) : M.mix c l s l.length = M.covL c l s := by
  unfold M.mix; rw [List.take_length, List.drop_length, List.append_nil, ← h, List.take_length]
theorem mix_front {c : M.Val} {l : List M.Val} {s : List Int} {k : Nat} (h : s.length = l.length) (hk : k ≤ l.length) : (M.covL c (l.take k) (s.take k)).length = k := by
  unfold M.covL; rw [List.length_zipWith, List.length_take, List.length_take]; omega
theorem mix_len {c : M.Val} {l : List M.Val} {s : List Int} {k : Nat} (h : s.length = l.length) (hk : k ≤ l.length) : (M.mix c l s k).length = l.length := by
  unfold M.mix; rw [List.length_append, mix_front h hk, List.length_drop]; omega
theorem mix_at {c : M.Val} {l : List M.Val} {s : List Int} {k : Nat} (h : s.length = l.length) (hk : k < l.length) : (M.mix c l s k)[k]'(by rw [mix_len h (by omega)]; exact hk) = l[k] := by
  unfold M.mix
  rw [List.getElem_append_right (by rw [mix_front h (by omega)]; exact Nat.le_refl _)]
  rw [List.getElem_drop]
  congr 1
  rw [mix_front h (by omega)]; omega
theorem mix_next {c : M.Val} {l : List M.Val} {s : List Int} {k : Nat} (h : s.length = l.length) (hk : k < l.length) : (M.mix c l s k).set k (M.cov1 c l[k] (s[k]'(by omega))) = M.mix c l s (k + 1) := by
  unfold M.mix
  rw [List.set_append_right _ _ (by rw [mix_front h (by omega)]; exact Nat.le_refl _), mix_front h (by omega), Nat.sub_self, List.drop_eq_getElem_cons hk, List.set_cons_zero, M.covL_take hk (by omega), List.append_assoc, List.singleton_append]
theorem flat_set : ∀ (l : List M.Val) (i : Nat) (v : M.Val), (((flat l).set (i * 3) (.int .i64 v.k)).set (i * 3 + 1) (.int .i64 v.n)).set (i * 3 + 2) (.string v.s) = flat (l.set i v)
  | [], i, v => by simp [flat]
  | q :: l, 0, v => by simp [flat]
  | q :: l, i + 1, v => by
    have e : (i + 1) * 3 = i * 3 + 1 + 1 + 1 := by omega
    rw [e]
    simp only [flat, List.set_cons_succ, flat_set l i v]
theorem val_set {w : World} {base g n cap : Nat} {K : List M.Val} (h : w.ownsRow base 29 3 (.slice (some ⟨g, 0, none⟩) n cap) n (flat K)) (i : Nat) (v : M.Val) :
    (((w.setCell ⟨g, i * 3, none⟩ (.int .i64 v.k)).setCell ⟨g, i * 3 + 1, none⟩ (.int .i64 v.n)).setCell ⟨g, i * 3 + 2, none⟩ (.string v.s)).ownsRow base 29 3 (.slice (some ⟨g, 0, none⟩) n cap) n (flat (K.set i v)) := by
  have h1 := (h.stored (i * 3) (.int .i64 v.k)).1
  have h2 := (h1.stored (i * 3 + 1) (.int .i64 v.n)).1
  have h3 := (h2.stored (i * 3 + 2) (.string v.s)).1
  rwa [flat_set] at h3
theorem cov1_size {c v : M.Val} {z : Int} (hc : c.s.size ≤ maxLen) (hv : v.s.size ≤ maxLen) : (M.cov1 c v z).s.size ≤ maxLen := by
  unfold M.cov1
  split
  · exact hc
  · split
    · split
      · exact hv
      · exact Nat.zero_le _
    · exact hv
theorem covL_size {c : M.Val} {l : List M.Val} {s : List Int} (hc : c.s.size ≤ maxLen) (hl : ∀ x ∈ l, x.s.size ≤ maxLen) : ∀ x ∈ M.covL c l s, x.s.size ≤ maxLen := fun x hx => by
  obtain ⟨i, hi, rfl⟩ := List.getElem_of_mem hx
  have hi' : i < (List.zipWith (M.cov1 c) l s).length := hi
  show ((List.zipWith (M.cov1 c) l s)[i]'hi').s.size ≤ maxLen
  rw [List.getElem_zipWith]
  exact cov1_size hc (hl _ (List.getElem_mem _))
theorem ownT_empty (base : Nat) (w : World) : OwnT base w (.slice none 0 0) [] := ⟨World.ownsRow_nil _ _ _ _, fun x hx => by simp at hx⟩

theorem seenBad (v : Value) (c : M.Val) (l : List M.Val) (a : Option Addr) (n cap : Nat) (s : List Int) (w : World) (h : IsVals w v l) (hk : M.likeF l = 0) (hn : n = s.length) (hm : n ≤ maxLen) (hs : AtI w a s) (hf : M.shwE l.length s ≠ 0) :
    Calls Tryd.prog 28 #[v, .slice a n cap, aggV c] w fun e w' => e = .returned (.tuple #[.slice none 0 0, errV (M.shwE l.length s)]) ∧ Below w.heap.size w w' := by
  obtain ⟨h0, h5⟩ := likeF_len hk
  have HC : Hid (∀ wx, Below w.heap.size w wx → Calls Tryd.prog 47 #[.slice a n cap, .int .i64 l.length] wx fun e w' => e = .returned (.iface 64 (.int .i64 (M.shwE l.length s))) ∧ w' = wx) := hide fun wx hb => by
    have := cShows a n cap l.length s wx hn hm h5 (hs.stays hb (Nat.le_refl _))
    rwa [errV_bad hf] at this
  obtain ⟨b, off, cp, rfl, _, _, _⟩ := h.some h0
  have HF := hide hf
  obtain ⟨m, hmm⟩ : ∃ m, m = l.length := ⟨_, rfl⟩
  rw [← hmm] at HC HF h5 ⊢
  obtain ⟨k', n', s'⟩ := c
  clear h hk hn hm hs hf hmm h0
  go_enter Tryd.func28, Tryd.ntmps28
  go_wp2_with fail
  refine (HC.out _ ((Below.refl _ _).alloc (Nat.le_refl _) _)).mono ?_
  rintro e w1 ⟨rfl, rfl⟩
  go_wp2_with fail
  go_ret2
  exact ⟨by rw [errV_bad HF.out]; rfl, (Below.refl _ _).alloc (Nat.le_refl _) _⟩

/-- a value of nothing, laid ahead of a call -/
abbrev zeroV : Obj := .cells #[.int .i64 0, .int .i64 0, .string ⟨#[]⟩] 29
def Zeros (w w' : World) : Prop := w'.cell? ⟨w.heap.size, 0, none⟩ = some (.int .i64 0) ∧ w'.cell? ⟨w.heap.size, 1, none⟩ = some (.int .i64 0) ∧ w'.cell? ⟨w.heap.size, 2, none⟩ = some (.string ⟨#[]⟩) ∧ w'.frozen? ⟨w.heap.size, 0, none⟩ = false ∧ w'.frozen? ⟨w.heap.size, 1, none⟩ = false ∧ w'.frozen? ⟨w.heap.size, 2, none⟩ = false ∧ w.heap.size < w'.heap.size
theorem zeros_kept {w w' : World} (h : Below (w.alloc zeroV).drew.heap.size (w.alloc zeroV).drew w') : Zeros w w' := by
  have hz : w.heap.size < (w.alloc zeroV).drew.heap.size := by show w.heap.size < (w.alloc zeroV).heap.size; simp
  obtain ⟨hc, hf⟩ := bcell h
  refine ⟨?_, ?_, ?_, ?_, ?_, ?_, Nat.lt_of_lt_of_le hz h.size⟩
  · rw [hc _ _ hz]; simp [go_sem]
  · rw [hc _ _ hz]; simp [go_sem]
  · rw [hc _ _ hz]; simp [go_sem]
  · rw [hf _ _ hz]; simp [go_sem]
  · rw [hf _ _ hz]; simp [go_sem]
  · rw [hf _ _ hz]; simp [go_sem]

/-- one element of a row of values, in a world that has it still -/
theorem row_facts {wr wx : World} {base g n cg k : Nat} {K : List M.Val} {x : M.Val} (hrow : wr.ownsRow base 29 3 (.slice (some ⟨g, 0, none⟩) n cg) n (flat K)) (hb : Below wr.heap.size wr wx) (hk : k < n) (q : (flat K)[k * 3]? = some (.int .i64 x.k) ∧ (flat K)[k * 3 + 1]? = some (.int .i64 x.n) ∧ (flat K)[k * 3 + 2]? = some (.string x.s)) :
    wx.cell? ⟨g, k * 3, none⟩ = some (.int .i64 x.k) ∧ wx.cell? ⟨g, k * 3 + 1, none⟩ = some (.int .i64 x.n) ∧ wx.cell? ⟨g, k * 3 + 2, none⟩ = some (.string x.s) ∧ wx.frozen? ⟨g, k * 3, none⟩ = false ∧ wx.frozen? ⟨g, k * 3 + 1, none⟩ = false ∧ wx.frozen? ⟨g, k * 3 + 2, none⟩ = false ∧ g < wx.heap.size ∧ wx.ownsRow base 29 3 (.slice (some ⟨g, 0, none⟩) n cg) n (flat K) := by
  have h := ownsRow_solid hrow (Solid.below hb)
  have c1 : wx.cell? ⟨g, k * 3, none⟩ = some (.int .i64 x.k) := by rw [h.cellAt (k * 3) (by omega)]; exact q.1
  exact ⟨c1, by rw [h.cellAt (k * 3 + 1) (by omega)]; exact q.2.1, by rw [h.cellAt (k * 3 + 2) (by omega)]; exact q.2.2, h.frozenAt _, h.frozenAt _, h.frozenAt _, World.block_lt_of_cell? wx _ c1, h⟩

/-- what stands for a closed field, boxed -/
theorem box_cells {w W1 : World} {c : M.Val} (hW1 : W1 = w.alloc (.cells #[.int .i64 c.k, .int .i64 c.n, .string c.s] 29)) : ∀ wx, Below W1.heap.size W1 wx → wx.cell? ⟨w.heap.size, 0, none⟩ = some (.int .i64 c.k) ∧ wx.cell? ⟨w.heap.size, 1, none⟩ = some (.int .i64 c.n) ∧ wx.cell? ⟨w.heap.size, 2, none⟩ = some (.string c.s) := fun wx hb => by
  have h0 : W1.cell? ⟨w.heap.size, 0, none⟩ = some (.int .i64 c.k) := by rw [hW1]; simp [go_sem]
  have h1 : W1.cell? ⟨w.heap.size, 1, none⟩ = some (.int .i64 c.n) := by rw [hW1]; simp [go_sem]
  have h2 : W1.cell? ⟨w.heap.size, 2, none⟩ = some (.string c.s) := by rw [hW1]; simp [go_sem]
  exact ⟨(hb.cell (p := ⟨w.heap.size, 0, none⟩) (World.block_lt_of_cell? W1 _ h0)).trans h0, (hb.cell (p := ⟨w.heap.size, 1, none⟩) (World.block_lt_of_cell? W1 _ h1)).trans h1, (hb.cell (p := ⟨w.heap.size, 2, none⟩) (World.block_lt_of_cell? W1 _ h2)).trans h2⟩

set_option maxRecDepth 100000 in
set_option maxHeartbeats 2000000 in
theorem seenOk (v : Value) (c : M.Val) (l : List M.Val) (a : Option Addr) (n cap : Nat) (s : List Int) (w : World) (h : IsVals w v l) (hk : M.likeF l = 0) (hn : n = s.length) (hm : n ≤ maxLen) (hs : AtI w a s) (hf : M.shwE l.length s = 0) (ht : Tab w) (hcs : c.s.size ≤ maxLen) :
    Calls Tryd.prog 28 #[v, .slice a n cap, aggV c] w fun e w' => ∃ v', e = .returned (.tuple #[v', .nilIface]) ∧ OwnT w.heap.size w' v' (M.covL c l s) ∧ Below w.heap.size w w' := by
  obtain ⟨h0, h5⟩ := likeF_len hk
  obtain ⟨hsl, hsr⟩ := M.shwE_ok hf
  obtain ⟨W1, hW1⟩ : ∃ W1, W1 = w.alloc (.cells #[.int .i64 c.k, .int .i64 c.n, .string c.s] 29) := ⟨_, rfl⟩
  have hb0 : Below w.heap.size w W1 := by rw [hW1]; exact (Below.refl _ w).alloc (Nat.le_refl _) _
  have HB1 := hide hb0
  have HBOX := hide (box_cells hW1)
  have hn' : n = l.length := by omega
  have HC : Hid (Calls Tryd.prog 47 #[.slice a n cap, .int .i64 n] W1 fun e w' => e = .returned .nilIface ∧ w' = W1) := hide (by
    have := cShows a n cap l.length s W1 hn hm h5 (hs.stays hb0 (Nat.le_refl _))
    rw [hf] at this
    rw [hn']; rw [hn'] at this; exact this)
  have HFR := hide (freshL v l W1 (h.stays hb0 (Nat.le_refl _)) hk)
  have HFLD : Hid (∀ (k : Nat) (h1 : k < l.length) (h2 : k < s.length) (wx : World), Below W1.heap.size W1 wx → Calls Tryd.prog 48 #[aggV l[k], .int .i64 s[k], aggV c] wx fun e w' => e = .returned (.tuple #[aggV (M.cov1 c l[k] s[k]), .nilIface]) ∧ Below wx.heap.size wx w') := hide fun k h1 h2 wx hb =>
    cField l[k] c s[k] wx (likeF_each hk _ (List.getElem_mem h1)) (hsr k h2) (ht.stays (hb0.trans (hb.mono hb0.size)) (Nat.le_refl _)) (Nat.le_trans (text_small (likeF_each hk _ (List.getElem_mem h1))) (by unfold maxLen; decide))
  have HSZ : Hid (∀ x ∈ M.covL c l s, x.s.size ≤ maxLen) := hide (covL_size hcs fun x hx => Nat.le_trans (text_small (likeF_each hk x hx)) (by unfold maxLen; decide))
  obtain ⟨b0, off0, cp, rfl, _, _, _⟩ := h.some h0
  obtain ⟨b, off, rfl, hlie⟩ := hs (by omega)
  have HS : Hid (LieI W1 b off s) := hide (hlie.stays hb0 (Nat.le_refl _))
  have HZ : Hid (w.heap.size < W1.heap.size) := hide (by rw [hW1]; simp)
  rw [← hn'] at HFR h0 h5 ⊢
  have HN := hide hn
  have HN' := hide hn'
  have HSL := hide hsl
  clear h hk hn hm hs hf ht hsl hsr hlie hn' hcs hb0
  obtain ⟨ck, cn, cs⟩ := c
  go_enter Tryd.func28, Tryd.ntmps28
  go_wp2_with fail
  rw [← hW1]
  clear hW1
  refine (unhide HC).mono ?_
  rintro e w1 ⟨rfl, hw⟩
  obtain rfl := hw.symm
  go_wp2_with fail
  refine (unhide HFR).mono ?_
  rintro e w1 ⟨v', rfl, hown, hb1⟩
  have hrow := hown.1
  rw [← HN'.out] at hrow
  obtain ⟨g, cg, rfl, hg, hgl⟩ := hrow.form h0
  have HO : Hid (w1.ownsRow W1.heap.size 29 3 (.slice (some ⟨g, 0, none⟩) n cg) n (flat (M.mix ⟨ck, cn, cs⟩ l s 0))) := hide (by rw [mix_zero]; exact hrow)
  have HB2 := hide hb1
  clear hown hb1 hrow hgl
  go_wp2_with fail
  go_loopw [25] (fun si wr => ∃ k : Nat, si = .int .i64 k ∧ k ≤ n ∧ Hid (wr.ownsRow W1.heap.size 29 3 (.slice (some ⟨g, 0, none⟩) n cg) n (flat (M.mix ⟨ck, cn, cs⟩ l s k))) ∧ Hid (Below W1.heap.size W1 wr)) (fun si _ => n - (intOf si).toNat)
  case atStart => exact ⟨0, rfl, Nat.zero_le _, HO, HB2⟩
  case round =>
    obtain ⟨k, rfl, hk, hrow, hbel⟩ := hrel
    by_cases hlt : k < n
    · have hkl : k < l.length := HN'.out ▸ hlt
      have hks : k < s.length := HN.out ▸ hlt
      have hAs : Below wr.heap.size wr wr.drew := (Below.refl wr.heap.size wr).drew
      have hBs : Below wr.heap.size wr (wr.alloc zeroV).drew := ((Below.refl wr.heap.size wr).alloc (Nat.le_refl _) _).drew
      have HDA : Hid (Calls Tryd.prog 48 #[aggV l[k], .int .i64 s[k], aggV ⟨ck, cn, cs⟩] wr.drew fun e w' => e = .returned (.tuple #[aggV (M.cov1 ⟨ck, cn, cs⟩ l[k] s[k]), .nilIface]) ∧ Below wr.heap.size wr w') := hide (by
        refine (HFLD.out k hkl hks _ (hbel.out.trans (hAs.mono hbel.out.size))).mono ?_
        rintro e w' ⟨rfl, h5⟩
        exact ⟨rfl, hAs.trans (h5.mono hAs.size)⟩)
      have HDB : Hid (Calls Tryd.prog 48 #[aggV l[k], .int .i64 s[k], aggV ⟨ck, cn, cs⟩] (wr.alloc zeroV).drew fun e w' => e = .returned (.tuple #[aggV (M.cov1 ⟨ck, cn, cs⟩ l[k] s[k]), .nilIface]) ∧ Below wr.heap.size wr w' ∧ Zeros wr w') := hide (by
        refine (HFLD.out k hkl hks _ (hbel.out.trans (hBs.mono hbel.out.size))).mono ?_
        rintro e w' ⟨rfl, h5⟩
        exact ⟨rfl, hBs.trans (h5.mono hBs.size), zeros_kept h5⟩)
      have HNX := hide (mix_next (c := ⟨ck, cn, cs⟩) HSL.out hkl)
      obtain ⟨q1, q2, q3⟩ := flat_at (M.mix ⟨ck, cn, cs⟩ l s k) k (by rw [mix_len HSL.out (by omega)]; exact hkl)
      rw [mix_at HSL.out hkl] at q1 q2 q3
      have Q := hide (And.intro q1 (And.intro q2 q3))
      have c1 : wr.cell? ⟨g, k * 3, none⟩ = some (.int .i64 l[k].k) := by rw [hrow.out.cellAt (k * 3) (by omega), q1]
      have c2 : wr.cell? ⟨g, k * 3 + 1, none⟩ = some (.int .i64 l[k].n) := by rw [hrow.out.cellAt (k * 3 + 1) (by omega), q2]
      have c3 : wr.cell? ⟨g, k * 3 + 2, none⟩ = some (.string l[k].s) := by rw [hrow.out.cellAt (k * 3 + 2) (by omega), q3]
      have c4 : wr.cell? ⟨b, off + k, none⟩ = some (.int .i64 s[k]) := (HS.out.stays hbel.out (Nat.le_refl _)) k hks
      obtain ⟨d1, d2, d3⟩ := HBOX.out wr hbel.out
      generalize M.cov1 ⟨ck, cn, cs⟩ l[k] s[k] = u at HDA HDB HNX
      generalize l[k] = x at *
      generalize s[k] = z at *
      obtain ⟨uk, un, us⟩ := u
      obtain ⟨xk, xn, xs⟩ := x
      clear q1 q2 q3 HFLD HFR HC hAs hBs
      have hgw : g < wr.heap.size := World.block_lt_of_cell? wr _ c1
      have hwr : w.heap.size < wr.heap.size := World.block_lt_of_cell? wr _ d1
      go_upto_region 8 with fail
      go_cut [12, 13] from 30 to 39 (fun sp se wx => ∃ B : Nat, sp = .pointer (some ⟨B, 0, none⟩) ∧ se = .nilIface ∧ Hid (Below wr.heap.size wr wx) ∧ wr.heap.size ≤ B ∧ wx.cell? ⟨B, 0, none⟩ = some (.int .i64 uk) ∧ wx.cell? ⟨B, 1, none⟩ = some (.int .i64 un) ∧ wx.cell? ⟨B, 2, none⟩ = some (.string us))
      case first =>
        go_region_with ((go_at_call 48; first | (refine (unhide HDA).mono ?_; rintro e w2 ⟨rfl, hb2⟩; have hw2 := hb2.size; have HB2 := hide hb2; clear hb2) | (refine (unhide HDB).mono ?_; rintro e w2 ⟨rfl, hb2, z1, z2, z3, y1, y2, y3, y4⟩; have hw2 := hb2.size; have HB2 := hide hb2; clear hb2)))
        all_goals
          go_wp2_with fail
          go_meet
          case rel =>
            first
            | exact ⟨w2.heap.size, rfl, rfl, hide (HB2.out.alloc hw2 _), hw2, by simp [go_sem], by simp [go_sem], by simp [go_sem]⟩
            | exact ⟨wr.heap.size, rfl, rfl, hide (((HB2.out.setCell (p := ⟨wr.heap.size, 0, none⟩) (Nat.le_refl _) _).setCell (p := ⟨wr.heap.size, 1, none⟩) (Nat.le_refl _) _).setCell (p := ⟨wr.heap.size, 2, none⟩) (Nat.le_refl _) _), Nat.le_refl _, by simp [go_sem, z1], by simp [go_sem, z2], by simp [go_sem, z3]⟩
      case rest =>
        obtain ⟨B, rfl, rfl, HB2, hB, z1, z2, z3⟩ := hcut
        obtain ⟨e1, e2, e3, f1, f2, f3, hg2, hr⟩ := row_facts hrow.out HB2.out hlt Q.out
        have HR2 := hide hr
        have HB3 := hide (hbel.out.trans (HB2.out.mono hbel.out.size))
        have hne : ¬ g = B := by omega
        have hne2 : ¬ B = g := by omega
        clear hr c1 c2 c3 c4 d1 d2 d3 HDA HDB
        go_wp2_with fail
        go_roundw
        case rel => exact ⟨k + 1, by go_num, by omega, hide (by rw [← HNX.out]; exact val_set HR2.out k ⟨uk, un, us⟩), hide (((HB3.out.setCell (p := ⟨g, k * 3, none⟩) hg _).setCell (p := ⟨g, k * 3 + 1, none⟩) hg _).setCell (p := ⟨g, k * 3 + 2, none⟩) hg _)⟩
        case measure => simp [intOf]; omega
    · have hkn : k = n := by omega
      rw [hkn, HN'.out, mix_all HSL.out, ← HN'.out] at hrow
      go_wp2_with fail
      go_ret2
      refine ⟨_, rfl, OwnT.mono ⟨?_, HSZ.out⟩ (Nat.le_of_lt HZ.out), HB1.out.trans (hbel.out.mono HB1.out.size)⟩
      rw [M.covL_len HSL.out, ← HN'.out]
      exact hrow.out

theorem covE_bad {l : List M.Val} {s : List Int} (h : M.tupF l = 0) (h1 : M.shwE l.length s ≠ 0) : M.covE l s ≠ 0 := by rw [M.covE_shw h]; exact h1
theorem askE_bad {l : List M.Val} {s : List Int} (h : M.likeF l = 0) (h1 : M.shwE l.length s ≠ 0) : M.askE l s ≠ 0 := by rw [M.askE_shw h]; exact h1

/-- a tuple as it is seen, whatever comes in -/
theorem cTuple (v : Value) (l : List M.Val) (a : Option Addr) (n cap : Nat) (s : List Int) (w : World) (h : IsVals w v l) (hn : n = s.length) (hm : n ≤ maxLen) (hs : AtI w a s) (ht : Tab w) :
    Calls Tryd.prog 9 #[v, .slice a n cap] w fun e w' => ∃ v', e = .returned (.tuple #[v', errV (M.covE l s)]) ∧ OwnT w.heap.size w' v' (M.covR l s) ∧ Below w.heap.size w w' := by
  by_cases hf : M.tupF l = 0
  · have hk := (tupF_ok hf).1
    have HC : Hid (Calls Tryd.prog 11 #[v] w fun e w' => e = .returned .nilIface ∧ Below w.heap.size w w') := hide (by have := tcheck v l w h; rwa [hf] at this)
    by_cases hsh : M.shwE l.length s = 0
    · have he : M.covE l s = 0 := by rw [M.covE_shw hf]; exact hsh
      rw [M.covR_ok he, he]
      have HS : Hid (∀ wx, Below w.heap.size w wx → Calls Tryd.prog 28 #[v, .slice a n cap, .agg #[.int .i64 0, .int .i64 0, .string ⟨#[]⟩]] wx fun e w' => ∃ v', e = .returned (.tuple #[v', .nilIface]) ∧ OwnT wx.heap.size w' v' (M.covL (M.numV 0) l s) ∧ Below wx.heap.size wx w') := hide fun wx hb =>
        seenOk v (M.numV 0) l a n cap s wx (h.stays hb (Nat.le_refl _)) hk hn hm (hs.stays hb (Nat.le_refl _)) hsh (ht.stays hb (Nat.le_refl _)) (Nat.zero_le _)
      clear hf hk hsh he h hn hm hs ht
      go_enter Tryd.func9, Tryd.ntmps9
      go_wp2_with fail
      refine (unhide HC).mono ?_
      rintro e w1 ⟨rfl, hb1⟩
      have HB1 := hide hb1
      clear hb1
      go_wp2_with fail
      refine (HS.out _ HB1.out).mono ?_
      rintro e w2 ⟨v', rfl, ho, hb2⟩
      have HO := hide (ho.mono HB1.out.size)
      have HB2 := hide (HB1.out.trans (hb2.mono HB1.out.size))
      clear ho hb2
      go_wp2_with fail
      go_ret2
      exact ⟨v', rfl, HO.out, HB2.out⟩
    · have he := covE_bad hf hsh
      rw [M.covR_bad he, M.covE_shw hf, errV_bad hsh]
      have HS : Hid (∀ wx, Below w.heap.size w wx → Calls Tryd.prog 28 #[v, .slice a n cap, .agg #[.int .i64 0, .int .i64 0, .string ⟨#[]⟩]] wx fun e w' => e = .returned (.tuple #[.slice none 0 0, .iface 64 (.int .i64 (M.shwE l.length s))]) ∧ Below wx.heap.size wx w') := hide fun wx hb => by
        have := seenBad v (M.numV 0) l a n cap s wx (h.stays hb (Nat.le_refl _)) hk hn hm (hs.stays hb (Nat.le_refl _)) hsh
        rwa [errV_bad hsh] at this
      generalize M.shwE l.length s = E at HS
      clear hf hk hsh he h hn hm hs ht
      go_enter Tryd.func9, Tryd.ntmps9
      go_wp2_with fail
      refine (unhide HC).mono ?_
      rintro e w1 ⟨rfl, hb1⟩
      have HB1 := hide hb1
      clear hb1
      go_wp2_with fail
      refine (HS.out _ HB1.out).mono ?_
      rintro e w2 ⟨rfl, hb2⟩
      have HB2 := hide (HB1.out.trans (hb2.mono HB1.out.size))
      clear hb2
      go_wp2_with fail
      go_ret2
      exact ⟨_, rfl, ownT_empty _ _, HB2.out⟩
  · have he : M.covE l s ≠ 0 := by rw [M.covE_tup hf]; exact hf
    rw [M.covR_bad he, M.covE_tup hf, errV_bad hf]
    have HC : Hid (Calls Tryd.prog 11 #[v] w fun e w' => e = .returned (.iface 64 (.int .i64 (M.tupF l))) ∧ Below w.heap.size w w') := hide (by rw [← errV_bad hf]; exact tcheck v l w h)
    generalize M.tupF l = E at HC
    clear hf he h hn hm hs ht
    go_enter Tryd.func9, Tryd.ntmps9
    go_wp2_with fail
    refine (unhide HC).mono ?_
    rintro e w1 ⟨rfl, hb1⟩
    have HB1 := hide hb1
    clear hb1
    go_wp2_with fail
    go_ret2
    exact ⟨_, rfl, ownT_empty _ _, HB1.out⟩

/-- what is asked for as it is seen, whatever comes in -/
theorem cLike (v : Value) (l : List M.Val) (a : Option Addr) (n cap : Nat) (s : List Int) (w : World) (h : IsVals w v l) (hn : n = s.length) (hm : n ≤ maxLen) (hs : AtI w a s) (ht : Tab w) :
    Calls Tryd.prog 12 #[v, .slice a n cap] w fun e w' => ∃ v', e = .returned (.tuple #[v', errV (M.askE l s)]) ∧ OwnT w.heap.size w' v' (M.askR l s) ∧ Below w.heap.size w w' := by
  by_cases hf : M.likeF l = 0
  · have hk := hf
    have HC : Hid (Calls Tryd.prog 29 #[v] w fun e w' => e = .returned .nilIface ∧ Below w.heap.size w w') := hide (by have := like v l w h; rwa [hf] at this)
    by_cases hsh : M.shwE l.length s = 0
    · have he : M.askE l s = 0 := by rw [M.askE_shw hf]; exact hsh
      rw [M.askR_ok he, he]
      have HS : Hid (∀ wx, Below w.heap.size w wx → Calls Tryd.prog 28 #[v, .slice a n cap, .agg #[.int .i64 2, .int .i64 0, .string ⟨#[]⟩]] wx fun e w' => ∃ v', e = .returned (.tuple #[v', .nilIface]) ∧ OwnT wx.heap.size w' v' (M.covL M.anyV l s) ∧ Below wx.heap.size wx w') := hide fun wx hb =>
        seenOk v M.anyV l a n cap s wx (h.stays hb (Nat.le_refl _)) hk hn hm (hs.stays hb (Nat.le_refl _)) hsh (ht.stays hb (Nat.le_refl _)) (Nat.zero_le _)
      clear hf hk hsh he h hn hm hs ht
      go_enter Tryd.func12, Tryd.ntmps12
      go_wp2_with fail
      refine (unhide HC).mono ?_
      rintro e w1 ⟨rfl, hb1⟩
      have HB1 := hide hb1
      clear hb1
      go_wp2_with fail
      refine (HS.out _ HB1.out).mono ?_
      rintro e w2 ⟨v', rfl, ho, hb2⟩
      have HO := hide (ho.mono HB1.out.size)
      have HB2 := hide (HB1.out.trans (hb2.mono HB1.out.size))
      clear ho hb2
      go_wp2_with fail
      go_ret2
      exact ⟨v', rfl, HO.out, HB2.out⟩
    · have he := askE_bad hf hsh
      rw [M.askR_bad he, M.askE_shw hf, errV_bad hsh]
      have HS : Hid (∀ wx, Below w.heap.size w wx → Calls Tryd.prog 28 #[v, .slice a n cap, .agg #[.int .i64 2, .int .i64 0, .string ⟨#[]⟩]] wx fun e w' => e = .returned (.tuple #[.slice none 0 0, .iface 64 (.int .i64 (M.shwE l.length s))]) ∧ Below wx.heap.size wx w') := hide fun wx hb => by
        have := seenBad v M.anyV l a n cap s wx (h.stays hb (Nat.le_refl _)) hk hn hm (hs.stays hb (Nat.le_refl _)) hsh
        rwa [errV_bad hsh] at this
      generalize M.shwE l.length s = E at HS
      clear hf hk hsh he h hn hm hs ht
      go_enter Tryd.func12, Tryd.ntmps12
      go_wp2_with fail
      refine (unhide HC).mono ?_
      rintro e w1 ⟨rfl, hb1⟩
      have HB1 := hide hb1
      clear hb1
      go_wp2_with fail
      refine (HS.out _ HB1.out).mono ?_
      rintro e w2 ⟨rfl, hb2⟩
      have HB2 := hide (HB1.out.trans (hb2.mono HB1.out.size))
      clear hb2
      go_wp2_with fail
      go_ret2
      exact ⟨_, rfl, ownT_empty _ _, HB2.out⟩
  · have he : M.askE l s ≠ 0 := by rw [M.askE_like hf]; exact hf
    rw [M.askR_bad he, M.askE_like hf, errV_bad hf]
    have HC : Hid (Calls Tryd.prog 29 #[v] w fun e w' => e = .returned (.iface 64 (.int .i64 (M.likeF l))) ∧ Below w.heap.size w w') := hide (by rw [← errV_bad hf]; exact like v l w h)
    generalize M.likeF l = E at HC
    clear hf he h hn hm hs ht
    go_enter Tryd.func12, Tryd.ntmps12
    go_wp2_with fail
    refine (unhide HC).mono ?_
    rintro e w1 ⟨rfl, hb1⟩
    have HB1 := hide hb1
    clear hb1
    go_wp2_with fail
    go_ret2
    exact ⟨_, rfl, ownT_empty _ _, HB1.out⟩

end Go.Proofs.YtlefhfmckimlaagDoor
