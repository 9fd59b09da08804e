/-
  For the Go function LogKeeps: a contract a call on all that stands side by side; and what a log answers, held against what the law's own way makes of it.
-/
import Derived.Test.YtlefhfmckimlaakGreatDoorLogKeepsA
set_option linter.unusedVariables false
namespace Go.Proofs.YtlefhfmckimlaakGreatDoor.logKeeps
open Go.RowKit

/-- the log, the copies and the marks, wherever they lie -/
def Lk (w0 w : World) (J : Nat) (dv mv : Value) (p : Nat) (Cs : Nat → Nat) (cl : List M.Cop) (ml : List Nat) (g : M.Lg) (ra : Option Addr) (rn rc : Nat) (R : List M.Rul) : Prop := ∃ FJ Fs, LkX w0 w J FJ dv mv p Cs Fs cl ml g ra rn rc R
section
variable {w0 w w' : World} {J : Nat} {dv mv : Value} {p : Nat} {Cs : Nat → Nat} {cl : List M.Cop} {ml : List Nat} {g : M.Lg} {ra : Option Addr} {rn rc : Nat} {R : List M.Rul} {a : Option Addr} {n cp : Nat}
theorem Lk.bel (h : Lk w0 w J dv mv p Cs cl ml g ra rn rc R) : Below w0.heap.size w0 w := by
  obtain ⟨FJ, Fs, h⟩ := h
  exact h.bel
theorem Lk.ok (h : Lk w0 w J dv mv p Cs cl ml g ra rn rc R) : g.Ok R := by
  obtain ⟨FJ, Fs, h⟩ := h
  exact h.lg.ok
theorem Lk.quiet (h : Lk w0 w J dv mv p Cs cl ml g ra rn rc R) (hb : Below w.heap.size w w') : Lk w0 w' J dv mv p Cs cl ml g ra rn rc R := by
  obtain ⟨FJ, Fs, h⟩ := h
  exact ⟨FJ, Fs, h.quiet hb⟩
theorem Lk.tab (h : Lk w0 w J dv mv p Cs cl ml g ra rn rc R) (ht : Tab w0) : TabFrom w0.heap.size w := fun wx hx => ht.stays (h.bel.trans hx) (Nat.le_refl _)
theorem Lk.fail (m : Int) (hm : m ≤ 9223372036854775807) (h : Lk w0 w J dv mv p Cs cl ml g ra rn rc R) :
    Calls Tryz.prog 18 #[.pointer (some ⟨J, 0, none⟩), .int .i64 m] w fun e w' => e = .returned (.tuple #[]) ∧ Lk w0 w' J dv mv p Cs cl ml (M.lgFail g m) ra rn rc R := by
  obtain ⟨FJ, Fs, h⟩ := h
  refine (lFail m hm h.lg).mono ?_
  rintro e w' ⟨rfl, F', q1, q2, q3⟩
  exact ⟨rfl, F', Fs, h.logged q1 q2 q3⟩
theorem Lk.sync (h : Lk w0 w J dv mv p Cs cl ml g ra rn rc R) :
    Calls Tryz.prog 10 #[.pointer (some ⟨J, 0, none⟩)] w fun e w' => e = .returned (errV (M.lgSync g).1) ∧ Lk w0 w' J dv mv p Cs cl ml (M.lgSync g).2 ra rn rc R := by
  obtain ⟨FJ, Fs, h⟩ := h
  refine (lSync h.lg).mono ?_
  rintro e w' ⟨rfl, F', q1, q2, q3⟩
  exact ⟨rfl, F', Fs, h.logged q1 q2 q3⟩
theorem Lk.crash (m : Int) (h : Lk w0 w J dv mv p Cs cl ml g ra rn rc R) (ht : Tab w0) :
    Calls Tryz.prog 11 #[.pointer (some ⟨J, 0, none⟩), .int .i64 m] w fun e w' => e = .returned (.tuple #[]) ∧ Lk w0 w' J dv mv p Cs cl ml (M.lgCrash g m) ra rn rc R := by
  have hT := h.tab ht
  obtain ⟨FJ, Fs, h⟩ := h
  refine (lCrash m h.lg hT).mono ?_
  rintro e w' ⟨rfl, F', q1, q2, q3⟩
  exact ⟨rfl, F', Fs, h.logged q1 q2 q3⟩
theorem Lk.jdo (x : M.Ask) (h : Lk w0 w J dv mv p Cs cl ml g ra rn rc R) (hv : IsVals w (.slice a n cp) x.t) (ht : Tab w0) :
    Calls Tryz.prog 9 #[.pointer (some ⟨J, 0, none⟩), aggA x.who x.seq x.deed a n cp] w fun e w' => ∃ k, 2 ≤ k ∧ k ≤ 1000000 ∧ e = .returned (.tuple #[.string (M.lgDo R g x k).2.1, errV (M.lgDo R g x k).1]) ∧ Lk w0 w' J dv mv p Cs cl ml (M.lgDo R g x k).2.2 ra rn rc R := by
  have hT := h.tab ht
  obtain ⟨FJ, Fs, h⟩ := h
  refine (lDo x h.lg hv hT).mono ?_
  rintro e w' ⟨k, k2, k6, rfl, F', q1, q2, q3⟩
  exact ⟨k, k2, k6, rfl, F', Fs, h.logged q1 q2 q3⟩
theorem Lk.jmark (h : Lk w0 w J dv mv p Cs cl ml g ra rn rc R) (ht : Tab w0) :
    Calls Tryz.prog 12 #[.pointer (some ⟨J, 0, none⟩)] w fun e w' => e = .returned (.tuple #[.int .i64 g.cop.n, .int .i64 (M.mark g.cop.l)]) ∧ Lk w0 w' J dv mv p Cs cl ml g ra rn rc R := by
  have hT := h.tab ht
  have hh := h
  obtain ⟨FJ, Fs, h⟩ := h
  exact (lMark h.lg hT).mono fun _ _ he => ⟨he.1, hh.quiet he.2⟩
theorem Lk.bytes (h : Lk w0 w J dv mv p Cs cl ml g ra rn rc R) :
    Calls Tryz.prog 13 #[.pointer (some ⟨J, 0, none⟩)] w fun e w' => e = .returned (.int .i64 g.bytes) ∧ Lk w0 w' J dv mv p Cs cl ml g ra rn rc R := by
  have hh := h
  obtain ⟨FJ, Fs, h⟩ := h
  exact (lBytes h.lg).mono fun _ _ he => ⟨he.1, hh.quiet he.2⟩
theorem Lk.safe (h : Lk w0 w J dv mv p Cs cl ml g ra rn rc R) :
    Calls Tryz.prog 14 #[.pointer (some ⟨J, 0, none⟩)] w fun e w' => e = .returned (.int .i64 g.safe) ∧ Lk w0 w' J dv mv p Cs cl ml g ra rn rc R := by
  have hh := h
  obtain ⟨FJ, Fs, h⟩ := h
  exact (lSafe h.lg).mono fun _ _ he => ⟨he.1, hh.quiet he.2⟩
theorem Lk.rmark {i : Nat} (h : Lk w0 w J dv mv p Cs cl ml g ra rn rc R) (hi : i < cl.length) :
    Calls Tryz.prog 21 #[.pointer (some ⟨Cs i, 0, none⟩)] w fun e w' => e = .returned (.tuple #[.int .i64 cl[i].n, .int .i64 (M.mark cl[i].l)]) ∧ Lk w0 w' J dv mv p Cs cl ml g ra rn rc R := by
  have hh := h
  obtain ⟨FJ, Fs, h⟩ := h
  exact (h.cps i hi).mark.mono fun _ _ he => ⟨he.1, hh.quiet he.2⟩
theorem Lk.twin {i : Nat} (h : Lk w0 w J dv mv p Cs cl ml g ra rn rc R) (hi : i < cl.length) (hn : cl[i].n ≤ 1000) :
    Calls Tryz.prog 19 #[.pointer (some ⟨Cs i, 0, none⟩)] w fun e w' => ∃ C', e = .returned (.pointer (some ⟨C', 0, none⟩)) ∧ Lk w0 w' J dv mv p (up Cs cl.length C') (cl ++ [cl[i]]) ml g ra rn rc R := by
  obtain ⟨FJ, Fs, h⟩ := h
  refine ((h.cps i hi).twin hn).mono ?_
  rintro e w' ⟨C', F', rfl, q1, q2, q3⟩
  exact ⟨C', rfl, FJ, _, h.twinned q1 q2 q3⟩
theorem Lk.act {c : M.Cop} {C' : Nat} (x : M.Ask) (h : Lk w0 w J dv mv p Cs (cl ++ [c]) ml g ra rn rc R) (hC : Cs cl.length = C') (hv : IsVals w0 (.slice a n cp) x.t) (hn : c.n < 1000) :
    Calls Tryz.prog 20 #[.pointer (some ⟨C', 0, none⟩), aggA x.who x.seq x.deed a n cp] w fun e w' => e = .returned (.tuple #[.string (M.doR R c x).2.1, .int .i64 (M.doR R c x).1]) ∧ Lk w0 w' J dv mv p Cs (cl ++ [(M.doR R c x).2.2]) ml g ra rn rc R := by
  obtain ⟨FJ, Fs, h⟩ := h
  subst hC
  have hc := h.cps cl.length (by simp)
  simp only [List.getElem_concat_length] at hc
  refine (hc.act x hv hn).mono ?_
  rintro e w' ⟨rfl, F', q1, q2, q3⟩
  exact ⟨rfl, FJ, _, h.acted q1 q2 q3⟩
theorem Lk.less (h : Lk w0 w J dv mv p Cs cl ml g ra rn rc R) {q : Nat} (hq : p ≤ q) : Lk w0 w J dv mv p Cs (cl.take q) ml g ra rn rc R := by
  obtain ⟨FJ, Fs, h⟩ := h
  exact ⟨FJ, Fs, h.less hq⟩
theorem Lk.many {i : Nat} (h : Lk w0 w J dv mv p Cs cl ml g ra rn rc R) (hi : i < cl.length) : w.cell? ⟨Cs i, 3, none⟩ = some (.int .i64 cl[i].n) ∧ Cs i < w.heap.size := by
  obtain ⟨FJ, Fs, h⟩ := h
  exact (h.cps i hi).many
/-- where the rows lie -/
theorem row_has {T k m : Nat} {v : Value} {xs : List Value} {b : Nat} (h : w.ownsRow b T k v m xs) (h0 : 0 < m) : ∃ gg cap, v = .slice (some ⟨gg, 0, none⟩) m cap ∧ m ≤ cap ∧ cap ≤ maxLen ∧ gg < w.heap.size ∧ ∀ j u, xs[j]? = some u → w.cell? ⟨gg, j, none⟩ = some u := by
  rcases h.2 with ⟨_, hn⟩ | ⟨gg, cap, cur, hv, _, hh, h1, h2, _⟩
  · omega
  · refine ⟨gg, cap, hv, h1, h2, heap_lt hh, fun j u hu => ?_⟩
    have := h.cells (g := gg) (by rw [hv]; rfl) j u hu
    rw [WideShapes.add_plain] at this
    simpa using this
theorem Lk.rows (h : Lk w0 w J dv mv p Cs cl ml g ra rn rc R) (hp : 0 < p) (hm : 0 < ml.length) : ∃ gd dc gm mc, dv = .slice (some ⟨gd, 0, none⟩) p dc ∧ mv = .slice (some ⟨gm, 0, none⟩) ml.length mc ∧ (p ≤ dc ∧ dc ≤ maxLen) ∧ (ml.length ≤ mc ∧ mc ≤ maxLen) ∧ ∀ wx, Below w.heap.size w wx → (∀ i, i < p → wx.cell? ⟨gd, i, none⟩ = some (.pointer (some ⟨Cs i, 0, none⟩))) ∧ ∀ i (hi : i < ml.length), wx.cell? ⟨gm, i, none⟩ = some (.int .i64 ml[i]) := by
  obtain ⟨FJ, Fs, h⟩ := h
  obtain ⟨gd, dc, e1, a1, a2, a3, a4⟩ := row_has h.dn hp
  obtain ⟨gm, mc, e2, b1, b2, b3, b4⟩ := row_has h.mks hm
  exact ⟨gd, dc, gm, mc, e1, e2, ⟨a1, a2⟩, ⟨b1, b2⟩, fun wx hb => ⟨fun i hi => (hb.cell (p := ⟨gd, i, none⟩) a3).trans (a4 i _ (ptrC_at hi)), fun i hi => (hb.cell (p := ⟨gm, i, none⟩) b3).trans (b4 i _ (cellsN_at hi))⟩⟩
theorem Lk.cut {gd gm q : Nat} {dc mc mn : Nat} (h : Lk w0 w J (.slice (some ⟨gd, 0, none⟩) p dc) (.slice (some ⟨gm, 0, none⟩) mn mc) p Cs cl ml g ra rn rc R) (hml : ml.length = mn) (hq : q ≤ p) (hm : q ≤ mn) : Lk w0 w J (.slice (some ⟨gd, 0, none⟩) q dc) (.slice (some ⟨gm, 0, none⟩) q mc) q Cs (cl.take q) (ml.take q) g ra rn rc R := by
  obtain ⟨FJ, Fs, h⟩ := h
  subst hml
  exact ⟨FJ, Fs, h.cut hq hm⟩
end

/-- what the law's own way makes of it: the error, the text, and whether it is the last one again -/
def wAg (R : List M.Rul) (c : M.Cop) (x : M.Ask) : Bool := decide ((M.doR R c x).1 = 0) && decide ((M.doR R c x).2.2.n = c.n)
def wE (R : List M.Rul) (c : M.Cop) (x : M.Ask) (p : Nat) : Int := if (M.doR R c x).1 = 0 ∧ wAg R c x = false ∧ 30 < p then 4 else (M.doR R c x).1
def wS (R : List M.Rul) (c : M.Cop) (x : M.Ask) (p : Nat) : ByteArray := if (M.doR R c x).1 = 0 ∧ wAg R c x = false ∧ 30 < p then M.sNo else (M.doR R c x).2.1
section
variable {R : List M.Rul} {g : M.Lg} {x : M.Ask} {k : Nat}
theorem doR_sNo {c : M.Cop} (h : (M.doR R c x).1 ≠ 0) : (M.doR R c x).2.1 = M.sNo := by
  rcases M.doR_ways R c x with h1 | ⟨h1, h2⟩ | ⟨h1, h2, h3⟩ | ⟨h1, h2, h3, h4⟩ | ⟨h1, h2, h3, h4⟩
  · rw [M.doR_bad h1]
  · rw [M.doR_again h1 h2] at h; exact absurd rfl h
  · rw [M.doR_state h1 h2 h3]
  · rw [M.doR_did h1 h2 h3 h4] at h; exact absurd rfl h
  · rw [M.doR_denied h1 h2 h3 h4]
/-- the ways of one that is asked: it has stopped; it is refused; it is the last one again; it is done -/
theorem ways (hg : g.Ok R) (x : M.Ask) (k : Nat) :
    ((M.lgDo R g x k).1 = 6 ∧ (M.lgDo R g x k).2.1 = M.sNo ∧ (M.lgDo R g x k).2.2.cs = g.cs ∧ (M.lgDo R g x k).2.2.ms = g.ms) ∨
    ((M.lgDo R g x k).1 ≠ 0 ∧ (M.lgDo R g x k).1 = wE R g.cop x g.cs.length ∧ (M.lgDo R g x k).2.1 = M.sNo ∧ wS R g.cop x g.cs.length = M.sNo ∧ (M.lgDo R g x k).2.2 = g) ∨
    ((M.lgDo R g x k).1 = 0 ∧ wE R g.cop x g.cs.length = 0 ∧ (M.lgDo R g x k).2.1 = wS R g.cop x g.cs.length ∧ wAg R g.cop x = true ∧ (M.lgDo R g x k).2.2 = g) ∨
    ((M.lgDo R g x k).1 = 0 ∧ wE R g.cop x g.cs.length = 0 ∧ (M.lgDo R g x k).2.1 = wS R g.cop x g.cs.length ∧ wAg R g.cop x = false ∧ (M.lgDo R g x k).2.2.cs = g.cs ++ [(M.doR R g.cop x).2.2] ∧ (M.lgDo R g x k).2.2.ms = g.ms ++ [g.bytes + k] ∧ (M.lgDo R g x k).2.2.bytes = g.bytes + k ∧ g.cs.length < 31) := by
  cases hs : g.stop
  · by_cases h1 : (M.doR R g.cop x).1 = 0
    · by_cases h2 : (M.doR R g.cop x).2.2.n = g.cop.n
      · have ha : wAg R g.cop x = true := by unfold wAg; simp [h1, h2]
        have hE : wE R g.cop x g.cs.length = 0 := by unfold wE; rw [if_neg (by simp [ha])]; exact h1
        have hS : wS R g.cop x g.cs.length = (M.doR R g.cop x).2.1 := by unfold wS; rw [if_neg (by simp [ha])]
        rw [M.lgDo_again hs h1 h2]
        exact Or.inr (Or.inr (Or.inl ⟨rfl, hE, hS.symm, ha, rfl⟩))
      · have ha : wAg R g.cop x = false := by unfold wAg; simp [h2]
        by_cases h3 : 31 ≤ g.cs.length
        · have hE : wE R g.cop x g.cs.length = 4 := by unfold wE; rw [if_pos ⟨h1, ha, by omega⟩]
          have hS : wS R g.cop x g.cs.length = M.sNo := by unfold wS; rw [if_pos ⟨h1, ha, by omega⟩]
          rw [M.lgDo_full hs h1 h2 h3]
          exact Or.inr (Or.inl ⟨by show (4 : Int) ≠ 0; decide, hE.symm, rfl, hS, rfl⟩)
        · have hE : wE R g.cop x g.cs.length = 0 := by unfold wE; rw [if_neg (fun q => by omega)]; exact h1
          have hS : wS R g.cop x g.cs.length = (M.doR R g.cop x).2.1 := by unfold wS; rw [if_neg (fun q => by omega)]
          by_cases h4 : g.left = 0
          · rw [M.lgDo_last hs h1 h2 h3 h4]
            exact Or.inl ⟨rfl, rfl, rfl, rfl⟩
          · rw [M.lgDo_did hs h1 h2 h3 h4]
            refine Or.inr (Or.inr (Or.inr ⟨rfl, hE, hS.symm, ha, rfl, rfl, ?_, by omega⟩))
            show (g.ms ++ [g.bytes + k]).getLastD 0 + g.half = _
            rw [List.getLastD_concat, hg.whole hs]; rfl
    · have hE : wE R g.cop x g.cs.length = (M.doR R g.cop x).1 := by unfold wE; rw [if_neg (fun q => h1 q.1)]
      have hS : wS R g.cop x g.cs.length = M.sNo := by unfold wS; rw [if_neg (fun q => h1 q.1)]; exact doR_sNo h1
      rw [M.lgDo_bad hs h1]
      exact Or.inr (Or.inl ⟨h1, hE.symm, rfl, hS, rfl⟩)
  · rw [M.lgDo_stop hs]
    exact Or.inl ⟨rfl, rfl, rfl, rfl⟩
/-- behind a crash: how many are left, and what is there -/
theorem crashed (hg : g.Ok R) (keep : Int) {q : Nat} (hq : q + 1 = M.upTo g.ms (M.lgHigh g keep)) : (M.lgCrash g keep).cs = g.cs.take (q + 1) ∧ (M.lgCrash g keep).ms = g.ms.take (q + 1) ∧ ∃ (h1 : q < g.cs.length) (h2 : q < g.ms.length), (M.lgCrash g keep).cop = g.cs[q] ∧ (M.lgCrash g keep).bytes = g.ms[q] ∧ (M.lgCrash g keep).safe = g.ms[q] := by
  have hle := M.upTo_le g.ms (M.lgHigh g keep)
  have hl := hg.len
  have e : M.lgCrash g keep = ⟨g.cs.take (q + 1), g.ms.take (q + 1), 0, (g.ms.take (q + 1)).getLastD 0, -1, false⟩ := by unfold M.lgCrash; rw [← hq]
  have e1 : (g.ms.take (q + 1)).getLastD 0 = g.ms[q]'(by omega) := by
    rw [List.take_succ_eq_append_getElem (by omega), List.getLastD_concat]
  have e2 : (g.cs.take (q + 1)).getLastD M.Cop.new = g.cs[q]'(by omega) := by
    rw [List.take_succ_eq_append_getElem (by omega), List.getLastD_concat]
  rw [e]
  exact ⟨rfl, rfl, by omega, by omega, e2, by show _ + 0 = _; rw [e1]; rfl, e1⟩
end

end Go.Proofs.YtlefhfmckimlaakGreatDoor.logKeeps
