/-
  What Renew and Read of package lease do, each as one law of its call.
-/
import Derived.Test.YtlefhfmckimlaacDoorLeFind
namespace Go.Proofs.YtlefhfmckimlaacDoor
open Go.RowKit
attribute [local go_sem ↓] Go.wp_at_zero Go.wp_at_succ

theorem Ls.askNumb {base S : Nat} {w wA : World} {tm gv id : Int} {v : Value} {E : List Ent} (h : Ls base wA S tm gv v E) (h20 : E.length ≤ 20) (hw : wA = w.alloc (.cells #[.int .i64 id] 3)) :
    Calls Tryd.prog 47 #[v, .func (.func 48) #[] #[.pointer (some ⟨w.heap.size, 0, none⟩)]] wA fun e w' => e = .returned (.int .i64 (M.where (fun x => x.i == id) E)) ∧ Below wA.heap.size wA w' := by
  refine lindex 48 w.heap.size base (fun x => x.i == id) v E wA (enters_of Tryd.func48 (by kernel_rfl) rfl) h20 h.held.row (fun wr hb k hk => isNumb w.heap.size _ _ id _ _ _ wr ?_)
  have hc : wA.cell? ⟨w.heap.size, 0, none⟩ = some (.int .i64 id) := by
    rw [hw]
    exact (cell_of_row (w.alloc (.cells #[.int .i64 id] 3)) w.heap.size 0 #[.int .i64 id] 3 (0, 0) (heap_alloc_new w _)).trans rfl
  exact (hb.cell (p := ⟨w.heap.size, 0, none⟩) (World.block_lt_of_cell? wA _ hc)).trans hc

theorem lrenew_none (base S : Nat) (tm gv id u : Int) (v : Value) (E : List Ent) (w : World) (h : Ls base w S tm gv v E) (h20 : E.length ≤ 20) (hn : ¬ M.numb id E < E.length) :
    Calls Tryd.prog 25 #[.pointer (some ⟨S, 0, none⟩), .int .i64 id, .int .i64 u] w fun e w' => e = .returned (errV 5) ∧ Below w.heap.size w w' := by
  have hb : Hid (Below w.heap.size w (w.alloc (.cells #[.int .i64 id] 3))) := hide ((Below.refl _ _).alloc (Nat.le_refl _) _)
  have HC := hide ((h.below hb.out).askNumb h20 rfl)
  rw [where_miss (p := fun x => x.i == id) hn] at HC
  obtain ⟨ao, cap, rfl⟩ := h.shape
  obtain ⟨n, hn2⟩ : ∃ n, n = E.length := ⟨_, rfl⟩
  have hS := h.lt
  have c2 := h.c2
  rw [← hn2] at HC c2
  clear h h20 hn hn2
  go_enter Tryd.func25, Tryd.ntmps25
  go_wp2_with fail
  refine (unhide HC).mono ?_
  rintro e w1 ⟨rfl, hb1⟩
  go_wp2_with fail
  go_ret
  exact ⟨rfl, hb.out.trans (hb1.mono hb.out.size)⟩

theorem lrenew_bad (base S : Nat) (tm gv id u : Int) (v : Value) (E : List Ent) (w : World) (h : Ls base w S tm gv v E) (h20 : E.length ≤ 20) (hn : M.numb id E < E.length) (hu : ¬ (M.may tm u = true ∧ E[M.numb id E].u ≤ u)) :
    Calls Tryd.prog 25 #[.pointer (some ⟨S, 0, none⟩), .int .i64 id, .int .i64 u] w fun e w' => e = .returned (errV 1) ∧ Below w.heap.size w w' := by
  have hb : Hid (Below w.heap.size w (w.alloc (.cells #[.int .i64 id] 3))) := hide ((Below.refl _ _).alloc (Nat.le_refl _) _)
  have HC := hide ((h.below hb.out).askNumb h20 rfl)
  rw [where_hit (p := fun x => x.i == id) hn] at HC
  have HL := hide h
  obtain ⟨g, cap, hv, _, hg⟩ := h.held.row.form (by omega)
  subst hv
  change Hid (Calls _ _ _ _ fun e w' => e = .returned (.int .i64 (M.numb id E : Int)) ∧ _) at HC
  obtain ⟨k, hk⟩ : ∃ k, k = M.numb id E := ⟨_, rfl⟩
  rw [← hk] at HC
  simp only [← hk] at hu hn
  obtain ⟨xu, hxu⟩ : ∃ xu, xu = E[k].u := ⟨_, rfl⟩
  rw [← hxu] at hu
  have a2 := (cellsE_at E k hn).2.1
  rw [← hxu] at a2
  have HA2 := hide a2
  obtain ⟨n, hn2⟩ : ∃ n, n = E.length := ⟨_, rfl⟩
  have HN := hide hn2
  have hS := h.lt
  have c2 := h.c2
  rw [← hn2] at HC c2 hn h20
  have k1 : (k : Int) < (n : Int) := by omega
  have k0 : (0 : Int) ≤ (k : Int) := by omega
  have k2 : ¬ (k : Int) < 0 := by omega
  clear h a2 hk hxu hn2
  have hq : M.may tm u = false ∨ M.may tm u = true ∧ u < xu := by
    cases hm : M.may tm u
    · exact Or.inl rfl
    · exact Or.inr ⟨rfl, by
        rcases Int.lt_or_le u xu with q | q
        · exact q
        · exact absurd ⟨hm, q⟩ hu⟩
  clear hu
  rcases hq with hq | ⟨hq, hlt⟩
  all_goals
    have HQ := hide hq
    clear hq
    go_enter Tryd.func25, Tryd.ntmps25
    go_wp2_with fail
    refine (unhide HC).mono ?_
    rintro e w1 ⟨rfl, hb1⟩
    have HB1 := hide (hb.out.trans (hb1.mono hb.out.size))
    have HL1 := hide (HL.out.below HB1.out)
    have d0 := HL1.out.c0
    have d2 := HL1.out.c2
    rw [← HN.out] at d2
    have hro := HL1.out.held.row
    rw [← HN.out] at hro
    have d3 : w1.cell? ⟨g, k * 3 + 1, none⟩ = some (.int .i64 xu) := by rw [hro.cellAt _ (by omega)]; exact HA2.out
    have HA := hide (laheadAt S tm u w1 d0)
    rw [HQ.out] at HA
    clear hb1 hro
    go_wp2_with fail
    refine (unhide HA).mono ?_
    rintro e w2 ⟨rfl, rfl⟩
    go_wp2_with fail
    go_ret
    exact ⟨rfl, HB1.out⟩

/-- the time of one written into the row -/
theorem row_till {w : World} {base g n cap k : Nat} {E : List Ent} (h : w.ownsRow base 78 3 (.slice (some ⟨g, 0, none⟩) n cap) n (cellsE E)) (hk : k < E.length) (u : Int) :
    (w.setCell ⟨g, k * 3 + 1, none⟩ (.int .i64 u)).ownsRow base 78 3 (.slice (some ⟨g, 0, none⟩) n cap) n (cellsE (E.set k (E[k].till u))) ∧ w.grownBy (w.setCell ⟨g, k * 3 + 1, none⟩ (.int .i64 u)) (some g) := by
  obtain ⟨h1, g1⟩ := h.stored (k * 3 + 1) (.int .i64 u)
  refine ⟨?_, g1⟩
  obtain ⟨a1, a2, a3⟩ := cellsE_at E k hk
  rw [cellsE_set E k _ hk]
  have e1 : (cellsE E).set (k * 3) (.int .i64 (E[k].till u).i) = cellsE E := set_self a1
  rw [e1]
  have e3 : ((cellsE E).set (k * 3 + 1) (.int .i64 (E[k].till u).u)).set (k * 3 + 2) (E[k].till u).v = (cellsE E).set (k * 3 + 1) (.int .i64 u) := set_self (by
    rw [List.getElem?_set_ne (by omega)]
    exact a3)
  rw [e3]
  exact h1

theorem lrenew_ok (base S : Nat) (tm gv id u : Int) (v : Value) (E : List Ent) (w : World) (h : Ls base w S tm gv v E) (h20 : E.length ≤ 20) (hn : M.numb id E < E.length) (hm : M.may tm u = true) (hu : E[M.numb id E].u ≤ u) :
    Calls Tryd.prog 25 #[.pointer (some ⟨S, 0, none⟩), .int .i64 id, .int .i64 u] w fun e w' => e = .returned .nilIface ∧ Ls base w' S tm gv v (E.set (M.numb id E) (E[M.numb id E].till u)) ∧ Touch S v w w' := by
  have hb : Hid (Below w.heap.size w (w.alloc (.cells #[.int .i64 id] 3))) := hide ((Below.refl _ _).alloc (Nat.le_refl _) _)
  have HC := hide ((h.below hb.out).askNumb h20 rfl)
  rw [where_hit (p := fun x => x.i == id) hn] at HC
  have HL := hide h
  obtain ⟨g, cap, hv, _, hg⟩ := h.held.row.form (by omega)
  subst hv
  change Hid (Calls _ _ _ _ fun e w' => e = .returned (.int .i64 (M.numb id E : Int)) ∧ _) at HC
  generalize M.numb id E = k at *
  have HK := hide hn
  obtain ⟨xu, hxu⟩ : ∃ xu, xu = E[k].u := ⟨_, rfl⟩
  have hu2 : xu ≤ u := by rw [hxu]; exact hu
  clear hu
  have HA2 : Hid ((cellsE E)[k * 3 + 1]? = some (.int .i64 xu)) := hide (by rw [hxu]; exact (cellsE_at E k hn).2.1)
  obtain ⟨n, hn2⟩ : ∃ n, n = E.length := ⟨_, rfl⟩
  have HN := hide hn2
  have hS := h.lt
  have c2 := h.c2
  have HQ := hide hm
  have hkn : k < n := by omega
  rw [← hn2] at HC c2 h20
  have k1 : (k : Int) < (n : Int) := by omega
  have k0 : (0 : Int) ≤ (k : Int) := by omega
  have k2 : ¬ (k : Int) < 0 := by omega
  have k3 : ¬ u < xu := by omega
  clear h hxu hn2 hm
  go_enter Tryd.func25, Tryd.ntmps25
  go_wp2_with fail
  refine (unhide HC).mono ?_
  rintro e w1 ⟨rfl, hb1⟩
  have HB1 := hide (hb.out.trans (hb1.mono hb.out.size))
  have HL1 := hide (HL.out.below HB1.out)
  have d0 := HL1.out.c0
  have d2 := HL1.out.c2
  rw [← HN.out] at d2
  have hro := HL1.out.held.row
  rw [← HN.out] at hro
  have d3 : w1.cell? ⟨g, k * 3 + 1, none⟩ = some (.int .i64 xu) := by rw [hro.cellAt _ (by omega)]; exact HA2.out
  have f3 : w1.frozen? ⟨g, k * 3 + 1, none⟩ = false := hro.frozenAt _
  have HA := hide (laheadAt S tm u w1 d0)
  rw [HQ.out] at HA
  have HR := hide hro
  clear hb1 hro
  go_wp2_with fail
  refine (unhide HA).mono ?_
  rintro e w2 ⟨rfl, rfl⟩
  go_wp2_with fail
  go_ret
  obtain ⟨r1, r2⟩ := row_till HR.out HK.out u
  obtain ⟨q1, q2⟩ := HL1.out.written (E' := E.set k (E[k].till u)) r2 (by rw [List.length_set, ← HN.out]; exact r1) (fun y hy => by
    rcases List.mem_or_eq_of_mem_set hy with hy | hy
    · exact HL1.out.held.own y hy
    · rw [hy]
      exact HL1.out.held.own E[k] (List.getElem_mem HK.out))
  exact ⟨rfl, q1, q2.after HB1.out⟩

theorem lasks (B : Nat) (v : Value) (a : List M.Val) (i u : Int) (x : Option Addr) (n c : Nat) (l : List M.Val) (w : World) (hB : w.cell? ⟨B, 0, none⟩ = some v) (hv : IsVals w v a) (ht : IsVals w (.slice x n c) l) (ha : M.likeF a = 0) (hl : M.tupF l = 0) :
    Calls Tryd.prog 63 #[.agg #[.int .i64 i, .int .i64 u, .slice x n c], .pointer (some ⟨B, 0, none⟩)] w fun e w' => e = .returned (.bool (M.fitAll a l)) ∧ Below w.heap.size w w' := by
  have hBl : B < w.heap.size := World.block_lt_of_cell? w _ hB
  have hb : Hid (Below w.heap.size w (w.alloc (.cells #[.int .i64 i, .int .i64 u, .slice x n c] 78))) := hide ((Below.refl _ _).alloc (Nat.le_refl _) _)
  have e1 : M.both (M.likeF a) (M.tupF l) = 0 := by rw [ha, hl]; rfl
  have e2 : M.fitsB a l = M.fitAll a l := by unfold M.fitsB; rw [e1]; rfl
  have HF := hide (tfits v (.slice x n c) a l (w.alloc (.cells #[.int .i64 i, .int .i64 u, .slice x n c] 78)) (hv.stays hb.out (Nat.le_refl _)) (ht.stays hb.out (Nat.le_refl _)))
  rw [e1, e2] at HF
  change Hid (Calls _ _ _ _ fun e w' => e = .returned (.tuple #[.bool (M.fitAll a l), .nilIface]) ∧ _) at HF
  clear hv ht ha hl e1 e2
  cases hq : M.fitAll a l
  all_goals
    rw [hq] at HF
    clear hq
    go_enter Tryd.func63, Tryd.ntmps63
    go_wp2_with fail
    refine (unhide HF).mono ?_
    rintro e w1 ⟨rfl, hb1⟩
    go_wp2_with fail
    go_ret
    exact ⟨rfl, hb.out.trans (hb1.mono hb.out.size)⟩

theorem lfitting (ao : Option Addr) (n cap : Nat) (w : World) : Calls Tryd.prog 49 #[.slice ao n cap] w fun e w' => e = .returned (.func (.func 63) #[] #[.pointer (some ⟨w.heap.size, 0, none⟩)]) ∧ w' = w.alloc (.cells #[.slice ao n cap] 30) := by
  go_enter Tryd.func49, Tryd.ntmps49
  go_wp2
  go_ret
  exact ⟨rfl, rfl⟩

/-- all that is held is right -/
def Good (E : List Ent) : Prop := ∀ x ∈ E, M.tupF x.t = 0

theorem lread_bad (S : Nat) (v : Value) (a : List M.Val) (w : World) (hv : IsVals w v a) (ha : M.likeF a ≠ 0) :
    Calls Tryd.prog 26 #[.pointer (some ⟨S, 0, none⟩), v] w fun e w' => e = .returned (.tuple #[.slice none 0 0, errV (M.likeF a)]) ∧ Below w.heap.size w w' := by
  have HC : Hid (Calls Tryd.prog 35 #[v] w fun e w' => e = .returned (.iface 69 (.int .i64 (M.likeF a))) ∧ Below w.heap.size w w') := hide (by rw [← errV_bad ha]; exact like v a w hv)
  have HF := hide ha
  clear ha hv
  go_enter Tryd.func26, Tryd.ntmps26
  go_wp2_with fail
  refine (unhide HC).mono ?_
  rintro e w1 ⟨rfl, hb1⟩
  go_wp2_with fail
  go_ret2
  exact ⟨by rw [errV_bad HF.out]; rfl, hb1⟩

set_option maxRecDepth 100000 in
theorem lread_in (base S : Nat) (tm gv : Int) (ao2 : Option Addr) (m c : Nat) (a : List M.Val) (v : Value) (E : List Ent) (w : World) (h : Ls base w S tm gv v E) (h20 : E.length ≤ 20) (hE : Good E) (hv : IsVals w (.slice ao2 m c) a) (ha : M.likeF a = 0) :
    Calls Tryd.prog 26 #[.pointer (some ⟨S, 0, none⟩), .slice ao2 m c] w fun e w' => (∃ hk : M.oldest a E < E.length, ∃ r, e = .returned (.tuple #[r, .nilIface]) ∧ OwnT w.heap.size w' r E[M.oldest a E].t ∧ Below w.heap.size w w') ∨ (¬ M.oldest a E < E.length ∧ e = .returned (.tuple #[.slice none 0 0, errV 5]) ∧ Below w.heap.size w w') := by
  have HC : Hid (Calls Tryd.prog 35 #[.slice ao2 m c] w fun e w' => e = .returned .nilIface ∧ Below w.heap.size w w') := hide (by have := like _ a w hv; rwa [ha] at this)
  have HI : Hid (∀ w1 B, Below w.heap.size w w1 → w1.cell? ⟨B, 0, none⟩ = some (.slice ao2 m c) → Calls Tryd.prog 47 #[v, .func (.func 63) #[] #[.pointer (some ⟨B, 0, none⟩)]] w1 fun e w' => e = .returned (.int .i64 (M.where (fun x => M.fitAll a x.t) E)) ∧ Below w1.heap.size w1 w') := hide fun w1 B hb h1 =>
    lindex 63 B base (fun x => M.fitAll a x.t) v E w1 (enters_of Tryd.func63 (by kernel_rfl) rfl) h20 (h.below hb).held.row (fun wr hbr k hk => lasks B _ a _ _ _ _ _ E[k].t wr ((hbr.cell (p := ⟨B, 0, none⟩) (World.block_lt_of_cell? w1 _ h1)).trans h1) ((hv.stays hb (Nat.le_refl _)).stays hbr (Nat.le_refl _)) (((h.below hb).below hbr).held.own _ (List.getElem_mem hk)).vals ha (hE _ (List.getElem_mem hk)))
  obtain ⟨ao, cap, rfl⟩ := h.shape
  have HL := hide h
  have HG := hide hE
  have hS := h.lt
  obtain ⟨n, hn⟩ : ∃ n, n = E.length := ⟨_, rfl⟩
  have HN := hide hn
  rw [← hn] at h20 HI
  clear hv ha h hE hn
  by_cases hsp : E.findIdx (fun x => M.fitAll a x.t) < E.length
  · rw [where_hit hsp] at HI
    have HS : Hid (∃ hk : M.oldest a E < E.length, M.oldest a E = E.findIdx (fun x => M.fitAll a x.t)) := hide ⟨hsp, rfl⟩
    obtain ⟨p, hp⟩ : ∃ p, p = E.findIdx (fun x => M.fitAll a x.t) := ⟨_, rfl⟩
    rw [← hp] at HI HS
    have hpl : p < E.length := by rw [hp]; exact hsp
    have HP := hide hpl
    have hpn : p < n := by have := HN.out; omega
    obtain ⟨g, cap2, hv2, _, hg⟩ := HL.out.held.row.form (by omega)
    simp only [Value.slice.injEq, true_and] at hv2
    obtain ⟨rfl, rfl⟩ := hv2
    have k1 : (p : Int) < (n : Int) := by omega
    have k0 : (0 : Int) ≤ (p : Int) := by omega
    have k2 : ¬ (p : Int) < 0 := by omega
    have HG1 := hide (HG.out E[p] (List.getElem_mem hpl))
    clear hp hsp
    go_enter Tryd.func26, Tryd.ntmps26
    go_wp2_with fail
    refine (unhide HC).mono ?_
    rintro e w1 ⟨rfl, hb1⟩
    have HL1 := hide (HL.out.below hb1)
    have c1 := HL1.out.c2
    rw [← HN.out] at c1
    have s1 := HL1.out.lt
    have s2 : S < w1.heap.size + 1 := Nat.lt_succ_of_lt s1
    have HW1 : Hid (Below w.heap.size w (w1.drew.alloc (.cells #[.slice ao2 m c] 30))) := hide (hb1.drew.alloc hb1.size _)
    have HW2 : Hid ((w1.drew.alloc (.cells #[.slice ao2 m c] 30)).cell? ⟨w1.heap.size, 0, none⟩ = some (.slice ao2 m c)) := hide ((cell_of_row (w1.drew.alloc (.cells #[.slice ao2 m c] 30)) w1.drew.heap.size 0 #[.slice ao2 m c] 30 (0, 0) (heap_alloc_new w1.drew _)).trans rfl)
    clear hb1
    go_wp2_with fail
    go_region_held3 (fun w' => w'.cell? ⟨S, 2, none⟩ = some (.slice (some ⟨g, 0, none⟩) n cap)) (go_keep)
      (first
        | (go_at_call 49; refine (lfitting _ _ _ _).mono ?_; rintro e w2 ⟨rfl, rfl⟩)
        | (go_at_call 47; refine (unhide HI (w1.drew.alloc (.cells #[.slice ao2 m c] 30)) w1.heap.size HW1.out HW2.out).mono ?_; rintro e w3 ⟨rfl, hb3⟩; obtain ⟨hc, hff⟩ := bcell hb3))
    have HB3 := hide (HW1.out.trans (hb3.mono HW1.out.size))
    have HL3 := hide (HL.out.below HB3.out)
    have hro := HL3.out.held.row
    rw [← HN.out] at hro
    have d2 : w3.cell? ⟨g, p * 3 + 2, none⟩ = some (.slice E[p].a E[p].n E[p].c) := by rw [hro.cellAt _ (by omega)]; exact (cellsE_at E p HP.out).2.2
    have c3 := HL3.out.c2
    rw [← HN.out] at c3
    have HX := hide (HL3.out.held.own E[p] (List.getElem_mem HP.out)).vals
    clear hb3 hro hc hff
    go_wp2_with fail
    refine (fresh _ _ _ HX.out HG1.out).mono ?_
    rintro e w4 ⟨r, rfl, hO4, hb4⟩
    have HO4 := hide hO4
    have HB4 := hide hb4
    clear hO4 hb4
    go_wp2_with fail
    go_ret2
    obtain ⟨hk, he⟩ := HS.out
    refine Or.inl ⟨hk, r, rfl, ?_, HB3.out.trans (HB4.out.mono HB3.out.size)⟩
    simp only [he]
    exact HO4.out.mono HB3.out.size
  · rw [where_miss hsp] at HI
    have HS : Hid (¬ M.oldest a E < E.length) := hide hsp
    clear hsp
    go_enter Tryd.func26, Tryd.ntmps26
    go_wp2_with fail
    refine (unhide HC).mono ?_
    rintro e w1 ⟨rfl, hb1⟩
    have HL1 := hide (HL.out.below hb1)
    have c1 := HL1.out.c2
    rw [← HN.out] at c1
    have s1 := HL1.out.lt
    have s2 : S < w1.heap.size + 1 := Nat.lt_succ_of_lt s1
    have HW1 : Hid (Below w.heap.size w (w1.drew.alloc (.cells #[.slice ao2 m c] 30))) := hide (hb1.drew.alloc hb1.size _)
    have HW2 : Hid ((w1.drew.alloc (.cells #[.slice ao2 m c] 30)).cell? ⟨w1.heap.size, 0, none⟩ = some (.slice ao2 m c)) := hide ((cell_of_row (w1.drew.alloc (.cells #[.slice ao2 m c] 30)) w1.drew.heap.size 0 #[.slice ao2 m c] 30 (0, 0) (heap_alloc_new w1.drew _)).trans rfl)
    clear hb1
    go_wp2_with fail
    go_region_held3 (fun w' => w'.cell? ⟨S, 2, none⟩ = some (.slice ao n cap)) (go_keep)
      (first
        | (go_at_call 49; refine (lfitting _ _ _ _).mono ?_; rintro e w2 ⟨rfl, rfl⟩)
        | (go_at_call 47; refine (unhide HI (w1.drew.alloc (.cells #[.slice ao2 m c] 30)) w1.heap.size HW1.out HW2.out).mono ?_; rintro e w3 ⟨rfl, hb3⟩; obtain ⟨hc, hff⟩ := bcell hb3))
    go_wp2_with fail
    go_ret2
    exact Or.inr ⟨HS.out, rfl, HW1.out.trans (hb3.mono HW1.out.size)⟩

end Go.Proofs.YtlefhfmckimlaacDoor
