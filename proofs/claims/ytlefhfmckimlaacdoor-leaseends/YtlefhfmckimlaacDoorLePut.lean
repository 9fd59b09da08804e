/-
  What Put of package lease does, as one law of its call.
-/
import Derived.Test.YtlefhfmckimlaacDoorLeFind
namespace Go.Proofs.YtlefhfmckimlaacDoor
open Go.RowKit
attribute [local go_sem ↓] Go.wp_at_zero Go.wp_at_succ

theorem lput_bad (S : Nat) (t : Value) (l : List M.Val) (u : Int) (w : World) (ht : IsVals w t l) (hf : M.tupF l ≠ 0) :
    Calls Tryd.prog 21 #[.pointer (some ⟨S, 0, none⟩), t, .int .i64 u] w fun e w' => e = .returned (.tuple #[.int .i64 0, errV (M.tupF l)]) ∧ Below w.heap.size w w' := by
  have HC : Hid (Calls Tryd.prog 24 #[t] w fun e w' => e = .returned (.iface 69 (.int .i64 (M.tupF l))) ∧ Below w.heap.size w w') := hide (by rw [← errV_bad hf]; exact tcheck t l w ht)
  have HF := hide hf
  clear hf ht
  go_enter Tryd.func21, Tryd.ntmps21
  go_wp2_with fail
  refine (unhide HC).mono ?_
  rintro e w1 ⟨rfl, hb1⟩
  go_wp2_with fail
  go_ret2
  exact ⟨by rw [errV_bad HF.out]; rfl, hb1⟩

theorem lput_late (S : Nat) (t : Value) (l : List M.Val) (tm u : Int) (w : World) (ht : IsVals w t l) (hf : M.tupF l = 0) (hc : w.cell? ⟨S, 0, none⟩ = some (.int .i64 tm)) (hu : M.may tm u = false) :
    Calls Tryd.prog 21 #[.pointer (some ⟨S, 0, none⟩), t, .int .i64 u] w fun e w' => e = .returned (.tuple #[.int .i64 0, errV 1]) ∧ Below w.heap.size w w' := by
  have HC : Hid (Calls Tryd.prog 24 #[t] w fun e w' => e = .returned .nilIface ∧ Below w.heap.size w w') := hide (by have := tcheck t l w ht; rwa [hf] at this)
  have HU := hide hu
  have HS := hide (World.block_lt_of_cell? w _ hc)
  have HCe := hide hc
  clear hf ht hu hc
  go_enter Tryd.func21, Tryd.ntmps21
  go_wp2_with fail
  refine (unhide HC).mono ?_
  rintro e w1 ⟨rfl, hb1⟩
  have HA := hide (lahead S tm u w1 ((hb1.cell (p := ⟨S, 0, none⟩) HS.out).trans HCe.out))
  rw [HU.out] at HA
  go_wp2_with fail
  refine (unhide HA).mono ?_
  rintro e w2 ⟨rfl, hb2⟩
  go_wp2_with fail
  go_ret2
  exact ⟨rfl, hb1.trans (hb2.mono hb1.size)⟩

theorem lput_full (base S : Nat) (t v : Value) (l : List M.Val) (tm gv u : Int) (E : List Ent) (w : World) (h : Ls base w S tm gv v E) (hm : E.length ≤ 20) (ht : IsVals w t l) (hf : M.tupF l = 0) (hu : M.may tm u = true) (hn : 20 ≤ E.length ∨ 10000 ≤ gv) :
    Calls Tryd.prog 21 #[.pointer (some ⟨S, 0, none⟩), t, .int .i64 u] w fun e w' => e = .returned (.tuple #[.int .i64 0, errV 4]) ∧ Below w.heap.size w w' := by
  have HC : Hid (Calls Tryd.prog 24 #[t] w fun e w' => e = .returned .nilIface ∧ Below w.heap.size w w') := hide (by have := tcheck t l w ht; rwa [hf] at this)
  obtain ⟨ao, cap, rfl⟩ := h.shape
  have HU := hide hu
  have HL := hide h
  obtain ⟨n, hne⟩ : ∃ n, n = E.length := ⟨_, rfl⟩
  have HN := hide hne
  rw [← hne] at hn hm
  clear hf ht hu h hne
  by_cases h20 : (20 : Int) ≤ (n : Int)
  all_goals
    go_enter Tryd.func21, Tryd.ntmps21
    go_wp2_with fail
    refine (unhide HC).mono ?_
    rintro e w1 ⟨rfl, hb1⟩
    have HL1 := hide (HL.out.below hb1)
    have HA := hide (lahead S tm u w1 HL1.out.c0)
    rw [HU.out] at HA
    go_wp2_with fail
    refine (unhide HA).mono ?_
    rintro e w2 ⟨rfl, hb2⟩
    have HL2 := HL1.out.below hb2
    have c1 := HL2.c1
    have c2 := HL2.c2
    rw [← HN.out] at c2
    clear HL2
    go_wp2_with fail
    go_ret2
    exact ⟨rfl, hb1.trans (hb2.mono hb1.size)⟩

theorem infoL : (Tryd.prog.info? 78).map (fun i => (i.zero, i.size, i.bytes)) = some (some (.agg #[.int .i64 0, .int .i64 0, .slice none 0 0]), 3, 40) := by kernel_rfl

theorem lput_end {base S n cap g2 k2 g3 k3 : Nat} {ao : Option Addr} {l : List M.Val} {tm gv u : Int} {E : List Ent} {w w2 w3 w4 w5 : World} (hb : Below w.heap.size w w2) (h3 : Ls base w3 S tm (gv + 1) (.slice ao n cap) E) (ht : Touch S (.slice ao n cap) w2 w3) (hb4 : Below w3.heap.size w3 w4) (hn : n = E.length)
    (hO2 : OwnT w3.drew.heap.size w4 (.slice (some ⟨g2, 0, none⟩) l.length k2) l) (h5 : Ls base (w4.alloc (.cells #[.int .i64 (gv + 1), .int .i64 u, .slice (some ⟨g2, 0, none⟩) l.length k2] 78)) S tm (gv + 1) (.slice ao n cap) E)
    (hO5 : w5.ownsRow base 78 3 (.slice (some ⟨g3, 0, none⟩) (n + 1) k3) (n + 1) (cellsE E ++ [.int .i64 (gv + 1), .int .i64 u, .slice (some ⟨g2, 0, none⟩) l.length k2]))
    (hG : (w4.alloc (.cells #[.int .i64 (gv + 1), .int .i64 u, .slice (some ⟨g2, 0, none⟩) l.length k2] 78)).grownBy w5 (Value.slice ao n cap).ownBlock) (hat : (Value.slice ao n cap).ownBlock = some g3 ∨ g3 = w4.heap.size + 1) :
    ∃ v' x, Ls base (w5.setCell ⟨S, 2, none⟩ (.slice (some ⟨g3, 0, none⟩) (n + 1) k3)) S tm (gv + 1) v' (E ++ [x]) ∧ x.i = gv + 1 ∧ x.u = u ∧ x.t = l ∧ Touch S (.slice ao n cap) w (w5.setCell ⟨S, 2, none⟩ (.slice (some ⟨g3, 0, none⟩) (n + 1) k3)) ∧ Near w (.slice ao n cap) v' := by
  obtain ⟨x, hx⟩ : ∃ x : Ent, x = ⟨gv + 1, u, some ⟨g2, 0, none⟩, l.length, k2, l⟩ := ⟨_, rfl⟩
  have hO : w5.ownsRow base 78 3 (.slice (some ⟨g3, 0, none⟩) (n + 1) k3) (E ++ [x]).length (cellsE (E ++ [x])) := by
    rw [cellsE_append, List.length_append, ← hn, hx]
    exact hO5
  have hnear : Near (w4.alloc (.cells #[.int .i64 (gv + 1), .int .i64 u, .slice (some ⟨g2, 0, none⟩) l.length k2] 78)) (.slice ao n cap) (.slice (some ⟨g3, 0, none⟩) (n + 1) k3) := by
    rcases hat with h | h
    · exact Or.inl h.symm
    · refine Or.inr fun k hk => ?_
      have : g3 = k := by simpa [Value.ownBlock] using hk
      rw [World.size_alloc]; omega
  obtain ⟨r1, r2⟩ := h5.stored hG hO (fun y hy => by
    rcases List.mem_append.1 hy with hy | hy
    · exact h5.held.own y hy
    · have hyx := List.mem_singleton.1 hy
      rw [hyx, hx]
      exact (hO2.mono (Nat.le_trans h3.lo (Nat.le_of_lt h3.lt))).solid (Solid.below ((Below.refl _ _).alloc (Nat.le_refl _) _))) hnear
  have hB : Below w3.heap.size w3 (w4.alloc (.cells #[.int .i64 (gv + 1), .int .i64 u, .slice (some ⟨g2, 0, none⟩) l.length k2] 78)) := hb4.alloc hb4.size _
  refine ⟨_, x, r1, by rw [hx], by rw [hx], by rw [hx], ?_, ?_⟩
  · exact touch_trans (ht.after hb) (Near.refl _ _) (r2.after hB)
  · exact hnear.mono (Nat.le_trans hb.size (Nat.le_trans ht.size hB.size))

set_option maxHeartbeats 1000000 in
set_option maxRecDepth 100000 in
theorem lput_ok (base S n cap : Nat) (ao : Option Addr) (t : Value) (l : List M.Val) (tm gv u : Int) (E : List Ent) (w : World) (h : Ls base w S tm gv (.slice ao n cap) E) (hnE : n = E.length) (hn : n < 20) (h0 : 0 ≤ gv) (hg : gv < 10000) (ht : IsVals w t l) (hf : M.tupF l = 0) (hu : M.may tm u = true) :
    Calls Tryd.prog 21 #[.pointer (some ⟨S, 0, none⟩), t, .int .i64 u] w fun e w' => e = .returned (.tuple #[.int .i64 (gv + 1), .nilIface]) ∧
      ∃ v' x, Ls base w' S tm (gv + 1) v' (E ++ [x]) ∧ x.i = gv + 1 ∧ x.u = u ∧ x.t = l ∧ Touch S (.slice ao n cap) w w' ∧ Near w (.slice ao n cap) v' := by
  obtain ⟨i0, hi, hz0, hz1, hz2⟩ := info_parts infoL
  have HI := hide (And.intro hi (And.intro hz0 (And.intro hz1 hz2)))
  have HC : Hid (Calls Tryd.prog 24 #[t] w fun e w' => e = .returned .nilIface ∧ Below w.heap.size w w') := hide (by have := tcheck t l w ht; rwa [hf] at this)
  have h20 : ¬ (20 : Int) ≤ (n : Int) := by omega
  have hg1 : ¬ (10000 : Int) ≤ gv := by omega
  have HU := hide hu
  have HL := hide h
  have HN := hide hnE
  have HT := hide ht
  have HF := hide hf
  clear hf ht hu h hnE hi hz0 hz1 hz2
  go_enter Tryd.func21, Tryd.ntmps21
  go_wp2_with fail
  refine (unhide HC).mono ?_
  rintro e w1 ⟨rfl, hb1⟩
  have HL1 := hide (HL.out.below hb1)
  have HA := hide (lahead S tm u w1 HL1.out.c0)
  rw [HU.out] at HA
  go_wp2_with fail
  refine (unhide HA).mono ?_
  rintro e w2 ⟨rfl, hb2⟩
  have HB2 := hide (hb1.trans (hb2.mono hb1.size))
  have HL2 := hide (HL.out.below HB2.out)
  have HT2 := hide (HT.out.stays HB2.out (Nat.le_refl _))
  have c1 := HL2.out.c1
  have c2 := HL2.out.c2
  have f1 := HL2.out.fz 1
  have f2 := HL2.out.fz 2
  have s2 := HL2.out.lt
  clear hb1 hb2 HL1
  have HT3 := hide (HL2.out.valsGiven HT2.out (.int .i64 (gv + 1)) 1)
  have HL3 := hide (HL2.out.setGiven (gv + 1))
  go_wp2_with fail
  obtain ⟨w3, hw3⟩ : ∃ w3, w3 = w2.setCell ⟨S, 1, none⟩ (.int .i64 (gv + 1)) := ⟨_, rfl⟩
  rw [← hw3] at HT3 HL3 ⊢
  clear hw3 c1 c2 f1 f2 s2
  have c1 := HL3.out.1.c1
  have c2 := HL3.out.1.c2
  have f2 := HL3.out.1.fz 2
  have s2 := HL3.out.1.lt
  have HG : Hid (Calls Tryd.prog 41 #[t] w3.drew fun e w' => ∃ v', e = .returned v' ∧ ∃ g c, v' = .slice (some ⟨g, 0, none⟩) l.length c ∧ OwnT w3.drew.heap.size w' (.slice (some ⟨g, 0, none⟩) l.length c) l ∧ Below w3.drew.heap.size w3.drew w') := hide ((freshAt t l w3.drew HT3.out HF.out).mono fun e w' ⟨g, c, h1, h2⟩ => ⟨_, h1, g, c, rfl, h2⟩)
  have HE : Hid (Enters Tryd.prog 41) := hide (enters_of Tryd.func41 (by kernel_rfl) rfl)
  go_region_law
    (first
      | (refine step_fn (by rfl) 41 #[.tmp 50] #[30] (by rfl) #[t] (by simp [Act.eval, Act.put]) HE.out _ HG.out ?_
         rintro v4 w4 ⟨g2, k2, rfl, hO2, hb4⟩
         have HB4 := hide ((Below.refl w3.heap.size w3).drew.trans hb4)
         have HL4 := hide (HL3.out.1.below HB4.out)
         have HL5 := hide (HL4.out.below ((Below.refl _ _).alloc (Nat.le_refl _) (.cells #[.int .i64 (gv + 1), .int .i64 u, .slice (some ⟨g2, 0, none⟩) l.length k2] 78)))
         have hne := hide HL5.out.row_ne
         have HX := hide HL5.out.held.row
         rw [← HN.out] at HX
         have d1 := HL4.out.c1
         have d2 := HL4.out.c2
         have e2 := HL4.out.fz 2
         have s4 := HL4.out.lt
         have HBs := hide HL5.out.base_le
         have HNW : Hid (∀ j v, [Value.int .i64 (gv + 1), .int .i64 u, .slice (some ⟨g2, 0, none⟩) l.length k2][j]? = some v → (w4.alloc (.cells #[.int .i64 (gv + 1), .int .i64 u, .slice (some ⟨g2, 0, none⟩) l.length k2] 78)).cell? ((⟨w4.heap.size, 0, none⟩ : Addr).add j) = some v) := hide (World.news_of_block (heap_alloc_new w4 _))
         have HO2 := hide hO2
         clear hO2 hb4)
      | (refine step_append_lies _ (by rfl) (.tmp 44) (.tmp 53) 73 (by rfl) base 78 i0 (.agg #[.int .i64 0, .int .i64 0, .slice none 0 0]) 3 40 Tryd.underlying73 HI.out.1 HI.out.2.1 HI.out.2.2.1 HI.out.2.2.2 rfl (by decide) (.slice ao n cap) n (cellsE E) (by simp [Act.eval]) HX.out ⟨w4.heap.size, 0, none⟩ 1 1 [.int .i64 (gv + 1), .int .i64 u, .slice (some ⟨g2, 0, none⟩) l.length k2] (by simp [Act.eval]) rfl HNW.out (by intro u hu; simp at hu; rcases hu with rfl | rfl | rfl <;> rfl) (by decide) (by unfold maxLen; omega) (by omega) HBs.out (w4.heap.size + 1) (by simp) ?_
         intro g3 k3 w5 hown5 hgrow5 hat5 hlt5
         have c5 : w5.cell? ⟨S, 2, none⟩ = some (.slice ao n cap) := hgrow5.cell HL5.out.c2 (fun e => hne.out e.symm)
         have b5 : w5.cell? ⟨S, 1, none⟩ = some (.int .i64 (gv + 1)) := hgrow5.cell HL5.out.c1 (fun e => hne.out e.symm)
         have f5 : w5.frozen? ⟨S, 2, none⟩ = false := (World.frozen?_of_block (hgrow5.block S HL5.out.lt (fun e => hne.out e.symm))).trans (HL5.out.fz 2)
         have HO5 := hide hown5
         have HG5 := hide hgrow5
         clear hown5 hgrow5))
  all_goals
    go_wp2_with fail
    go_ret2
    exact ⟨rfl, lput_end HB2.out HL3.out.1 HL3.out.2 HB4.out HN.out HO2.out HL5.out HO5.out HG5.out hat5⟩

end Go.Proofs.YtlefhfmckimlaacDoor
