/-
  What Push of package queue does, as one law of its call.
-/
import Derived.Test.YtlefhfmckimlaahDoorQueWalks
import Derived.Test.YtlefhfmckimlaahDoorStep
import Derived.Deep.RegionHeld3
import Derived.Deep.RegionLaw
import Derived.Deep.DrawnRows
import Derived.Deep.Draws
import Derived.WalkSmall
set_option linter.unusedVariables false
namespace Go.Proofs.YtlefhfmckimlaahDoor
open Go.RowKit Go.WideMaps Go.Maps
attribute [local go_sem ↓] Go.wp_at_zero Go.wp_at_succ

/-- a store into a map as one step of a region that draws its order -/
theorem step_mapUpdate_own {H : Type} {P : Program} (w : World) {ops : Array Oper} {o : Oper} {a : Act} {K : Act → World → Prop} {Q : Exit → Act → World → Prop} {E : Prop} (hgd : o.guard = none) (m x v : Operand) (t : TypeId) (hop : o.op = Op.mapUpdate t m x v)
    (k e : TypeId) (L : Keyed P k) (ht : P.underlying t = some (.map k e)) (R : Value → Option (DataW H × List MemPlace)) (b n : Nat) (D : DataW H)
    (hm : a.eval m = .map (some b)) (hown : w.ownsMap P k R b n D) (hn : n < maxLen) (key val : Value) (kl : Lit) (hx : a.eval x = key) (hv : a.eval v = val) (hkey : keyOf P k key = some kl)
    (d : DataW H) (ps : List MemPlace) (hval : R val = some (d, ps))
    (hK : ∀ w', w'.ownsMap P k R b (n + 1) (D.put kl d) → w.grownBy w' (some b) → K (a.put o.dst undef) w') :
    if Region.wanted o (yielded ops a.tmps) = true then Oper.wp P o a w K Q else E := by
  have hw : Region.wanted o (yielded ops a.tmps) = true := by simp [Region.wanted, hgd]
  rw [if_pos hw]
  obtain ⟨w', hrun, r1, r2⟩ := hown.update L ht hn hkey hval
  unfold Oper.wp
  simp [execOp, hop, hm, hx, hv, hrun, Result.andThen]
  exact hK w' r1 r2

theorem qpush_bad (S : Nat) (who seq deed : Int) (a : Option Addr) (n c : Nat) (l : List M.Val) (w : World) (hv : IsVals w (.slice a n c) l) (hf : M.askF ⟨who, seq, deed, l⟩ ≠ 0) :
    Calls Tryd.prog 13 #[.pointer (some ⟨S, 0, none⟩), aggA who seq deed a n c] w fun e w' => e = .returned (errV (M.askF ⟨who, seq, deed, l⟩)) ∧ Below w.heap.size w w' := by
  have HB : Hid (∀ o, Below w.heap.size w (w.alloc o)) := hide fun o => (Below.refl _ _).alloc (Nat.le_refl _) o
  have HC : Hid (∀ wx, Below w.heap.size w wx → Calls Tryd.prog 22 #[aggA who seq deed a n c] wx fun e w' => e = .returned (.iface 53 (.int .i64 (M.askF ⟨who, seq, deed, l⟩))) ∧ Below wx.heap.size wx w') := hide fun wx hb => by
    have := qcheck who seq deed a n c l wx (hv.stays hb (Nat.le_refl _))
    rwa [errV_bad hf] at this
  rw [errV_bad hf]
  clear hf hv
  go_enter Tryd.func13, Tryd.ntmps13
  go_wp2_with fail
  refine (HC.out _ (HB.out _)).mono ?_
  rintro e w1 ⟨rfl, hb1⟩
  go_wp2_with fail
  go_ret
  exact ⟨rfl, (HB.out _).trans (hb1.mono (by simp))⟩

theorem infoA : (Tryd.prog.info? 41).map (fun i => (i.zero, i.size, i.bytes)) = some (some (.agg #[.int .i64 0, .int .i64 0, .int .i64 0, .slice none 0 0]), 4, 48) := by kernel_rfl

/-- a push whose number is not the next -/
theorem qpush_late {base S B : Nat} {v : Value} {E : List QEnt} {m : Nat} {f : Int → Int} (who seq deed : Int) (a : Option Addr) (n c : Nat) (l : List M.Val) (w : World) (h : Qs base w S B v E m f) (hv : IsVals w (.slice a n c) l) (hf : M.askF ⟨who, seq, deed, l⟩ = 0) (hfk : 0 ≤ f who ∧ f who ≤ 1000000) (hs : seq ≠ f who + 1) :
    Calls Tryd.prog 13 #[.pointer (some ⟨S, 0, none⟩), aggA who seq deed a n c] w fun e w' => e = .returned (errV (if seq < f who + 1 then 7 else 6)) ∧ Below w.heap.size w w' := by
  have HB : Hid (∀ o, Below w.heap.size w (w.alloc o)) := hide fun o => (Below.refl _ _).alloc (Nat.le_refl _) o
  have HC : Hid (∀ wx, Below w.heap.size w wx → Calls Tryd.prog 22 #[aggA who seq deed a n c] wx fun e w' => e = .returned .nilIface ∧ Below wx.heap.size wx w') := hide fun wx hb => by
    have := qcheck who seq deed a n c l wx (hv.stays hb (Nat.le_refl _))
    rwa [hf] at this
  obtain ⟨hw0, _, _⟩ := M.askF_ok hf
  simp only at hw0
  have HQ : Hid (∀ wx, Below w.heap.size w wx → wx.cell? ⟨S, 1, none⟩ = some (.map (some B)) ∧ S < wx.heap.size ∧ ∀ q, (Instr.lookup 57 (.map (some B)) (.int .i64 who) false).run Tryd.prog (wx.drewN q) = .ok (.int .i64 (f who)) (wx.drewN q)) := hide fun wx hb => by
    have hq := h.below hb
    exact ⟨hq.c1, hq.lt, fun q => (hq.below (Go.below_drewN (Below.refl _ _) q)).look (wfI (by omega) (by omega))⟩
  have HS := hide h.lt
  generalize f who = F at *
  clear hf hv h hw0
  by_cases h1 : seq < F + 1
  all_goals
    first
      | rw [if_pos h1]
      | rw [if_neg h1]
    go_enter Tryd.func13, Tryd.ntmps13
    go_wp2_with fail
    refine (HC.out _ (HB.out _)).mono ?_
    rintro e w1 ⟨rfl, hb1⟩
    obtain ⟨k1, k2, k3⟩ := HQ.out w1 ((HB.out _).trans (hb1.mono (by simp)))
    obtain ⟨hc, _⟩ := bcell hb1
    have b0 : w1.cell? ⟨w.heap.size, 0, none⟩ = some (.int .i64 who) := by rw [hc _ _ (by simp)]; simp [go_sem]
    have b1 : w1.cell? ⟨w.heap.size, 1, none⟩ = some (.int .i64 seq) := by rw [hc _ _ (by simp)]; simp [go_sem]
    have HB1 := hide ((HB.out _).trans (hb1.mono (by simp)))
    clear hc hb1
    obtain ⟨g1, g2⟩ := hfk
    go_wp2_with fail
    go_quiet (fail)
    go_wp2_with fail
    go_ret
    exact ⟨rfl, Go.below_drewN HB1.out _⟩

theorem qpush_full {base S B : Nat} {v : Value} {E : List QEnt} {m : Nat} {f : Int → Int} (who seq deed : Int) (a : Option Addr) (n c : Nat) (l : List M.Val) (w : World) (h : Qs base w S B v E m f) (hv : IsVals w (.slice a n c) l) (hf : M.askF ⟨who, seq, deed, l⟩ = 0) (hfk : 0 ≤ f who ∧ f who ≤ 1000000) (hs : seq = f who + 1) (hn : 30 ≤ E.length) (hn2 : E.length ≤ 30) :
    Calls Tryd.prog 13 #[.pointer (some ⟨S, 0, none⟩), aggA who seq deed a n c] w fun e w' => e = .returned (errV 4) ∧ Below w.heap.size w w' := by
  have HB : Hid (∀ o, Below w.heap.size w (w.alloc o)) := hide fun o => (Below.refl _ _).alloc (Nat.le_refl _) o
  have HC : Hid (∀ wx, Below w.heap.size w wx → Calls Tryd.prog 22 #[aggA who seq deed a n c] wx fun e w' => e = .returned .nilIface ∧ Below wx.heap.size wx w') := hide fun wx hb => by
    have := qcheck who seq deed a n c l wx (hv.stays hb (Nat.le_refl _))
    rwa [hf] at this
  obtain ⟨hw0, _, _⟩ := M.askF_ok hf
  simp only at hw0
  obtain ⟨ao, cap, rfl⟩ := h.shape
  have he : E.length = 30 := by omega
  rw [he] at h
  have HQ : Hid (∀ wx, Below w.heap.size w wx → wx.cell? ⟨S, 0, none⟩ = some (.slice ao 30 cap) ∧ wx.cell? ⟨S, 1, none⟩ = some (.map (some B)) ∧ S < wx.heap.size ∧ ∀ q, (Instr.lookup 57 (.map (some B)) (.int .i64 who) false).run Tryd.prog (wx.drewN q) = .ok (.int .i64 (f who)) (wx.drewN q)) := hide fun wx hb => by
    have hq := h.below hb
    exact ⟨hq.c0, hq.c1, hq.lt, fun q => (hq.below (Go.below_drewN (Below.refl _ _) q)).look (wfI (by omega) (by omega))⟩
  have HS := hide h.lt
  generalize f who = F at *
  subst hs
  clear hf hv h hw0 he hn hn2
  go_enter Tryd.func13, Tryd.ntmps13
  go_wp2_with fail
  refine (HC.out _ (HB.out _)).mono ?_
  rintro e w1 ⟨rfl, hb1⟩
  obtain ⟨k0, k1, k2, k3⟩ := HQ.out w1 ((HB.out _).trans (hb1.mono (by simp)))
  obtain ⟨hc, _⟩ := bcell hb1
  have b0 : w1.cell? ⟨w.heap.size, 0, none⟩ = some (.int .i64 who) := by rw [hc _ _ (by simp)]; simp [go_sem]
  have b1 : w1.cell? ⟨w.heap.size, 1, none⟩ = some (.int .i64 (F + 1)) := by rw [hc _ _ (by simp)]; simp [go_sem]
  have HB1 := hide ((HB.out _).trans (hb1.mono (by simp)))
  clear hc hb1
  obtain ⟨g1, g2⟩ := hfk
  go_wp2_with fail
  go_quiet (fail)
  go_wp2_with fail
  go_ret
  exact ⟨rfl, Go.below_drewN HB1.out _⟩

/-- the box that holds what is asked -/
theorem box_ask {w wx : World} {c : Array Value} (hb : Below (w.alloc (.cells c 41)).heap.size (w.alloc (.cells c 41)) wx) : wx.heap[w.heap.size]? = some (.cells c 41 (0, 0)) :=
  (hb.block w.heap.size (by simp)).trans (heap_alloc_new w _)

theorem solid_box {w : World} {N j : Nat} {c : Array Value} {fr : Nat × Nat} {u : Value} (hN : w.heap[N]? = some (.cells c 41 fr)) : Solid w (w.setCell ⟨N, j, none⟩ u) := fun b cur fr' hb => by
  rw [heap_setCell_other w ⟨N, j, none⟩ b u (fun e => ?_)]
  · exact hb
  · subst e
    rw [hN] at hb
    exact absurd (tag_eq hb) (by decide)
/-- a queue stays while a box is written -/
theorem Qs.box {base S B N j : Nat} {w : World} {v u : Value} {E : List QEnt} {n : Nat} {f : Int → Int} {c : Array Value} {fr : Nat × Nat} (h : Qs base w S B v E n f) (hN : w.heap[N]? = some (.cells c 41 fr)) (hr : v.ownBlock ≠ some N) : Qs base (w.setCell ⟨N, j, none⟩ u) S B v E n f := by
  obtain ⟨n1, n2⟩ := h.boxed hN
  have hg := grownBy_setCell w ⟨N, j, none⟩ u
  obtain ⟨D, hD, hf⟩ := h.map
  exact ⟨h.lo, h.lob, (hg.block S h.lt (fun e => n1 (by cases e; rfl))).trans h.heap, h.row.kept hg (fun g hv e => hr (by cases e; exact hv)), fun x hx => (h.own x hx).solid (solid_box hN), D, hD.kept hg (fun e => n2 (by cases e; rfl)), hf⟩
/-- the queue behind the append and its store -/
theorem Qs.pushed {base S B p cap m g o k q : Nat} {w w5 : World} {ao : Option Addr} {E : List QEnt} {f : Int → Int} {who seq deed : Int} {gt kt : Nat} {l : List M.Val} (h : Qs base w S B (.slice ao p cap) E m f) (hp : p = E.length) (hO : OwnT base w (.slice (some ⟨gt, 0, none⟩) l.length kt) l)
    (hw : winRow w5 base 41 4 (.slice (some ⟨g, o, none⟩) (p + 1) k) (p + 1) (cellsQ E ++ [.int .i64 who, .int .i64 seq, .int .i64 deed, .slice (some ⟨gt, 0, none⟩) l.length kt])) (hg : w.grownBy w5 (Value.slice ao p cap).ownBlock) (hat : (Value.slice ao p cap).ownBlock = some g ∨ g = q) (hq : w.heap.size ≤ q) :
    Qs base (w5.setCell ⟨S, 0, none⟩ (.slice (some ⟨g, o, none⟩) (p + 1) k)) S B (.slice (some ⟨g, o, none⟩) (p + 1) k) (E ++ [⟨⟨who, seq, deed, l⟩, some ⟨gt, 0, none⟩, l.length, kt⟩]) m f ∧ TouchQ S B (.slice ao p cap) w (w5.setCell ⟨S, 0, none⟩ (.slice (some ⟨g, o, none⟩) (p + 1) k)) ∧ Near w (.slice ao p cap) (.slice (some ⟨g, o, none⟩) (p + 1) k) := by
  have hnear : Near w (.slice ao p cap) (.slice (some ⟨g, o, none⟩) (p + 1) k) := by
    rcases hat with h | h
    · exact Or.inl h.symm
    · refine Or.inr fun i hi => ?_
      have : g = i := by simpa [Value.ownBlock] using hi
      omega
  obtain ⟨r1, r2⟩ := h.stored (E' := E ++ [⟨⟨who, seq, deed, l⟩, some ⟨gt, 0, none⟩, l.length, kt⟩]) hg (by
    rw [cellsQ_append, List.length_append, ← hp]
    exact hw) (fun x hx => by
    rcases List.mem_append.1 hx with hx | hx
    · exact h.own x hx
    · rw [List.mem_singleton.1 hx]; exact hO) hnear
  exact ⟨r1, r2, hnear⟩

theorem push_end {base S B m : Nat} {w wA w6 w6' w7 : World} {v v5 : Value} {E : List QEnt} {f f' : Int → Int} {D : DataW Unit} (hb : Below w.heap.size w wA) (h6 : Qs base w6 S B v5 E m f) (t6 : TouchQ S B v wA w6) (n6 : Near wA v v5) (hd : Below w6.heap.size w6 w6') (hg7 : w6'.grownBy w7 (some B))
    (hD7 : w7.ownsMap Tryd.prog 3 (plainElem (H := Unit) Tryd.prog 3) B (m + 1) D) (hf : Lasts D f') : Qs base w7 S B v5 E (m + 1) f' ∧ TouchQ S B v w w7 ∧ Near w v v5 := by
  obtain ⟨r1, r2⟩ := (h6.below hd).mapped hg7 hD7 hf
  exact ⟨r1, (t6.trans n6 (r2.after hd)).after hb, n6.mono hb.size⟩

set_option maxRecDepth 100000 in
set_option maxHeartbeats 1000000 in
theorem qpush_ok {base S B : Nat} {v : Value} {E : List QEnt} {m : Nat} {f : Int → Int} (who seq deed : Int) (a : Option Addr) (n c : Nat) (l : List M.Val) (w : World) (h : Qs base w S B v E m f) (hv : IsVals w (.slice a n c) l) (hf : M.askF ⟨who, seq, deed, l⟩ = 0) (hfk : 0 ≤ f who ∧ f who ≤ 1000000) (hs : seq = f who + 1) (hn : E.length < 30) (hm : m < 1000) :
    Calls Tryd.prog 13 #[.pointer (some ⟨S, 0, none⟩), aggA who seq deed a n c] w fun e w' => e = .returned .nilIface ∧ ∃ v' x, Qs base w' S B v' (E ++ [x]) (m + 1) (M.upF f ⟨who, seq, deed, l⟩) ∧ x.a = ⟨who, seq, deed, l⟩ ∧ TouchQ S B v w w' ∧ Near w v v' := by
  obtain ⟨i0, hi, hz0, hz1, hz2⟩ := info_parts infoA
  have HI := hide (And.intro hi (And.intro hz0 (And.intro hz1 hz2)))
  have HB : Hid (∀ o, Below w.heap.size w (w.alloc o)) := hide fun o => (Below.refl _ _).alloc (Nat.le_refl _) o
  have HC : Hid (∀ wx, Below w.heap.size w wx → Calls Tryd.prog 22 #[aggA who seq deed a n c] wx fun e w' => e = .returned .nilIface ∧ Below wx.heap.size wx w') := hide fun wx hb => by
    have := qcheck who seq deed a n c l wx (hv.stays hb (Nat.le_refl _))
    rwa [hf] at this
  obtain ⟨hw0, _, hlk⟩ := M.askF_ok hf
  simp only at hw0 hlk
  have HFR : Hid (∀ wx, Below w.heap.size w wx → Calls Tryd.prog 23 #[.slice a n c] wx fun e w' => ∃ g k, e = .returned (.slice (some ⟨g, 0, none⟩) l.length k) ∧ OwnT wx.heap.size w' (.slice (some ⟨g, 0, none⟩) l.length k) l ∧ Below wx.heap.size wx w') := hide fun wx hb => by
    refine (freshL _ l wx (hv.stays hb (Nat.le_refl _)) hlk).mono ?_
    rintro e w1 ⟨v', rfl, h1, h2⟩
    obtain ⟨g, c, rfl, _⟩ := h1.1.form (likeF_len hlk).1
    exact ⟨g, c, rfl, h1, h2⟩
  obtain ⟨ao, cap, rfl⟩ := h.shape
  obtain ⟨p, hp⟩ : ∃ p, p = E.length := ⟨_, rfl⟩
  rw [← hp] at h hn ⊢
  have hn' : ¬ (30 : Int) ≤ (p : Int) := by omega
  have HP := hide hp
  have HQ : Hid (∀ wx, Below w.heap.size w wx → wx.cell? ⟨S, 0, none⟩ = some (.slice ao p cap) ∧ wx.cell? ⟨S, 1, none⟩ = some (.map (some B)) ∧ S < wx.heap.size ∧ ∀ q, (Instr.lookup 57 (.map (some B)) (.int .i64 who) false).run Tryd.prog (wx.drewN q) = .ok (.int .i64 (f who)) (wx.drewN q)) := hide fun wx hb => by
    have hq := h.below hb
    exact ⟨hq.c0, hq.c1, hq.lt, fun q => (hq.below (Go.below_drewN (Below.refl _ _) q)).look (wfI (by omega) (by omega))⟩
  have HH := hide h
  have HW : Hid (0 ≤ who ∧ who ≤ 1000000) := hide hw0
  have HSQ := hide hs
  have HL5 := hide (likeF_len hlk).2
  generalize hF : f who = F at *
  have HF := hide hF
  subst hs
  clear hf hv h hw0 hp hi hz0 hz1 hz2 hlk hF
  go_enter Tryd.func13, Tryd.ntmps13
  go_wp2_with fail
  refine (HC.out _ (HB.out _)).mono ?_
  rintro e w1 ⟨rfl, hb1⟩
  obtain ⟨k0, k1, k2, k3⟩ := HQ.out w1 ((HB.out _).trans (hb1.mono (by simp)))
  obtain ⟨hc, _⟩ := bcell hb1
  have b0 : w1.cell? ⟨w.heap.size, 0, none⟩ = some (.int .i64 who) := by rw [hc _ _ (by simp)]; simp [go_sem]
  have b1 : w1.cell? ⟨w.heap.size, 1, none⟩ = some (.int .i64 (F + 1)) := by rw [hc _ _ (by simp)]; simp [go_sem]
  have b3 : w1.cell? ⟨w.heap.size, 3, none⟩ = some (.slice a n c) := by rw [hc _ _ (by simp)]; simp [go_sem]
  have HX1 := hide (box_ask hb1)
  have HB1 := hide ((HB.out _).trans (hb1.mono (by simp)))
  clear hc hb1
  obtain ⟨g1, g2⟩ := hfk
  go_wp2_with fail
  go_quiet (fail)
  have HB2 := hide (Go.below_drewN HB1.out nq)
  have HX2 : Hid ((w1.drewN nq).heap[w.heap.size]? = some (.cells #[.int .i64 who, .int .i64 (F + 1), .int .i64 deed, .slice a n c] 41 (0, 0))) := hide HX1.out
  obtain ⟨w2, hw2⟩ : ∃ w2, w2 = w1.drewN nq := ⟨_, rfl⟩
  rw [← hw2] at HB2 HX2 ⊢
  clear hw2 k0 k1 k2 k3 b0 b1 b3 HB1 HX1
  obtain ⟨k0, k1, k2, _⟩ := HQ.out w2 HB2.out
  have b1 : w2.cell? ⟨w.heap.size, 1, none⟩ = some (.int .i64 (F + 1)) := by rw [cell_of_row w2 _ 1 _ _ (0, 0) HX2.out]; rfl
  have b3 : w2.cell? ⟨w.heap.size, 3, none⟩ = some (.slice a n c) := by rw [cell_of_row w2 _ 3 _ _ (0, 0) HX2.out]; rfl
  go_wp2_with fail
  refine (HFR.out _ HB2.out).mono ?_
  rintro e w3 ⟨gt, kt, rfl, hO3, hb3⟩
  have HB3 := hide (HB2.out.trans (hb3.mono HB2.out.size))
  have HX3 : Hid (w3.heap[w.heap.size]? = some (.cells #[.int .i64 who, .int .i64 (F + 1), .int .i64 deed, .slice a n c] 41 (0, 0))) := hide ((hb3.block _ (heap_lt HX2.out)).trans HX2.out)
  have HQ3 := hide (HH.out.below HB3.out)
  have HO3 : Hid (OwnT base w3 (.slice (some ⟨gt, 0, none⟩) l.length kt) l) := hide (hO3.mono (Nat.le_trans HH.out.base_le HB2.out.size))
  have HRN : Hid ((Value.slice ao p cap).ownBlock ≠ some w.heap.size) := hide fun e => absurd (HH.out.row.lt _ e).2 (Nat.lt_irrefl _)
  have b0 : w3.cell? ⟨w.heap.size, 0, none⟩ = some (.int .i64 who) := by rw [cell_of_row w3 _ 0 _ _ (0, 0) HX3.out]; rfl
  have bz : w3.frozen? ⟨w.heap.size, 3, none⟩ = false := frozen_of_row w3 _ 3 _ _ HX3.out
  have b3 : w3.cell? ⟨w.heap.size, 3, none⟩ = some (.slice a n c) := by rw [cell_of_row w3 _ 3 _ _ (0, 0) HX3.out]; rfl
  have s3 := heap_lt HX3.out
  clear k0 k1 k2 b1 hO3 hb3 HX2 HB2
  have HX4 : Hid ((w3.setCell ⟨w.heap.size, 3, none⟩ (.slice (some ⟨gt, 0, none⟩) l.length kt)).heap[w.heap.size]? = some (.cells #[.int .i64 who, .int .i64 (F + 1), .int .i64 deed, .slice (some ⟨gt, 0, none⟩) l.length kt] 41 (0, 0))) := hide (by rw [heap_setCell_same w3 _ 3 _ _ _ HX3.out]; rfl)
  have HQ4 := hide (HQ3.out.box (j := 3) (u := .slice (some ⟨gt, 0, none⟩) l.length kt) HX3.out HRN.out)
  have HO4 := hide (HO3.out.solid (solid_box (j := 3) (u := .slice (some ⟨gt, 0, none⟩) l.length kt) HX3.out))
  have HB4 : Hid (Below w.heap.size w (w3.setCell ⟨w.heap.size, 3, none⟩ (.slice (some ⟨gt, 0, none⟩) l.length kt))) := hide (HB3.out.setCell (Nat.le_refl _) _)
  go_wp2_with fail
  obtain ⟨w4, hw4⟩ : ∃ w4, w4 = w3.setCell ⟨w.heap.size, 3, none⟩ (.slice (some ⟨gt, 0, none⟩) l.length kt) := ⟨_, rfl⟩
  rw [← hw4] at HX4 HQ4 HO4 HB4 ⊢
  clear hw4 HX3 HQ3 HO3 HB3 b0 bz b3 s3
  have k0 := HQ4.out.c0
  have k1 := HQ4.out.c1
  have k2 := HQ4.out.lt
  have z0 := HQ4.out.fz 0
  have b0 : w4.cell? ⟨w.heap.size, 0, none⟩ = some (.int .i64 who) := by rw [cell_of_row w4 _ 0 _ _ (0, 0) HX4.out]; rfl
  have b1 : w4.cell? ⟨w.heap.size, 1, none⟩ = some (.int .i64 (F + 1)) := by rw [cell_of_row w4 _ 1 _ _ (0, 0) HX4.out]; rfl
  have b2 : w4.cell? ⟨w.heap.size, 2, none⟩ = some (.int .i64 deed) := by rw [cell_of_row w4 _ 2 _ _ (0, 0) HX4.out]; rfl
  have b3 : w4.cell? ⟨w.heap.size, 3, none⟩ = some (.slice (some ⟨gt, 0, none⟩) l.length kt) := by rw [cell_of_row w4 _ 3 _ _ (0, 0) HX4.out]; rfl
  have s4 := heap_lt HX4.out
  have HQA : Hid (Qs base (w4.alloc (.cells #[.int .i64 who, .int .i64 (F + 1), .int .i64 deed, .slice (some ⟨gt, 0, none⟩) l.length kt] 41)).drew S B (.slice ao p cap) E m f) := hide (HQ4.out.below ((Below.refl _ _).alloc (Nat.le_refl _) _).drew)
  have HRW := hide HQA.out.row
  rw [← HP.out] at HRW
  have hne := hide HQA.out.row_ne
  go_region_law
    (refine step_append_win _ (by rfl) (.tmp 45) (.tmp 47) 34 (by rfl) base 41 i0 (.agg #[.int .i64 0, .int .i64 0, .int .i64 0, .slice none 0 0]) 4 48 Tryd.underlying34 HI.out.1 HI.out.2.1 HI.out.2.2.1 HI.out.2.2.2 rfl (by decide) (.slice ao p cap) p (cellsQ E) (by simp [Act.eval]) HRW.out ⟨w4.heap.size, 0, none⟩ 1 1 [.int .i64 who, .int .i64 (F + 1), .int .i64 deed, .slice (some ⟨gt, 0, none⟩) l.length kt] (by simp [Act.eval]) rfl (World.news_of_block (heap_alloc_new _ _)) (by intro u hu; simp at hu; rcases hu with rfl | rfl | rfl | rfl <;> rfl) (by decide) (by unfold maxLen; omega) (by omega) HQA.out.base_le (w4.heap.size + 1) (by simp) ?_
     intro g3 o3 k3 w5 hown5 hgrow5 hat5 hlt5
     have c5 : w5.cell? ⟨S, 0, none⟩ = some (.slice ao p cap) := hgrow5.cell HQA.out.c0 (fun e => hne.out e.symm)
     have f5 : w5.frozen? ⟨S, 0, none⟩ = false := (World.frozen?_of_block (hgrow5.block S HQA.out.lt (fun e => hne.out e.symm))).trans (HQA.out.fz 0)
     have HO5 := hide hown5
     have HG5 := hide hgrow5
     clear hown5 hgrow5)
  all_goals
    obtain ⟨q1, q2, q3⟩ := HQA.out.pushed HP.out (HO4.out.solid (Solid.below ((Below.refl _ _).alloc (Nat.le_refl _) (.cells #[.int .i64 who, .int .i64 (F + 1), .int .i64 deed, .slice (some ⟨gt, 0, none⟩) l.length kt] 41)).drew)) HO5.out HG5.out hat5 (by simp)
    have HQ6 := hide q1
    have HT6 := hide q2
    have HN6 := hide q3
    have HX6 : Hid ((w5.setCell ⟨S, 0, none⟩ (.slice (some ⟨g3, o3, none⟩) (p + 1) k3)).heap[w.heap.size]? = some (.cells #[.int .i64 who, .int .i64 (F + 1), .int .i64 deed, .slice (some ⟨gt, 0, none⟩) l.length kt] 41 (0, 0))) := hide (by
      have hx : (w4.alloc (.cells #[.int .i64 who, .int .i64 (F + 1), .int .i64 deed, .slice (some ⟨gt, 0, none⟩) l.length kt] 41)).drew.heap[w.heap.size]? = some (.cells #[.int .i64 who, .int .i64 (F + 1), .int .i64 deed, .slice (some ⟨gt, 0, none⟩) l.length kt] 41 (0, 0)) := (Below.heap_alloc w4 _ _ (heap_lt HX4.out)).trans HX4.out
      have hn1 := (HQ4.out.boxed HX4.out).1
      rw [heap_setCell_other w5 ⟨S, 0, none⟩ w.heap.size _ hn1, HG5.out.block _ (heap_lt hx) (fun e => HRN.out e.symm)]
      exact hx)
    obtain ⟨w6, hw6⟩ : ∃ w6, w6 = w5.setCell ⟨S, 0, none⟩ (.slice (some ⟨g3, o3, none⟩) (p + 1) k3) := ⟨_, rfl⟩
    rw [← hw6] at HX6 HQ6 HT6 ⊢
    clear hw6 q1 q2 q3 k0 k1 k2 z0 b0 b1 b2 b3 s4 c5 f5 HO5 HG5 hat5 hlt5
    have k1 := HQ6.out.c1
    have k2 := HQ6.out.lt
    have b0 : w6.cell? ⟨w.heap.size, 0, none⟩ = some (.int .i64 who) := by rw [cell_of_row w6 _ 0 _ _ (0, 0) HX6.out]; rfl
    have b1 : w6.cell? ⟨w.heap.size, 1, none⟩ = some (.int .i64 (F + 1)) := by rw [cell_of_row w6 _ 1 _ _ (0, 0) HX6.out]; rfl
    have s6 := heap_lt HX6.out
    obtain ⟨D, hD, hl⟩ := HQ6.out.map
    have HD := hide hD
    have HLA := hide hl
    clear hD hl
    obtain ⟨w7, hr7, r1, r2⟩ := HD.out.drew.update lawI Tryd.underlying57 (by unfold maxLen; omega) (keyI_of (wfI (k := who) (by have := HW.out.1; omega) (by have := HW.out.2; omega))) (plainElem_int Tryd.underlying3 (wfI (k := F + 1) (by omega) (by omega)))
    have HD7 := hide r1
    have HG7 := hide r2
    clear r1 r2
    go_wp2_with fail
    go_region
    all_goals
      go_wp2_with fail
      go_ret
      exact ⟨rfl, _, _, (push_end (HB4.out.trans (((Below.refl _ _).alloc (Nat.le_refl _) _).drew.mono HB4.out.size)) HQ6.out HT6.out HN6.out ((Below.refl _ _).drew) HG7.out HD7.out (HLA.out.up ⟨who, F + 1, deed, l⟩)).1, rfl, (push_end (HB4.out.trans (((Below.refl _ _).alloc (Nat.le_refl _) _).drew.mono HB4.out.size)) HQ6.out HT6.out HN6.out ((Below.refl _ _).drew) HG7.out HD7.out (HLA.out.up ⟨who, F + 1, deed, l⟩)).2⟩

end Go.Proofs.YtlefhfmckimlaahDoor
