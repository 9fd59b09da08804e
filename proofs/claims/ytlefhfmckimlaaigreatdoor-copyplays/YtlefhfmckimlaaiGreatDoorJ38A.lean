/-
  What the document's own copy does: Do whatever comes in, and Mark, each as one law of its call.
  What is asked, in memory behind a slice: what a walk is told of some that came in, and that they stay while only new memory is written. For any program.
-/
import Derived.Test.YtlefhfmckimlaaiGreatDoorRcDo3
import Derived.Test.YtlefhfmckimlaaiGreatDoorJ0A
import Derived.Test.YtlefhfmckimlaaiGreatDoorJ11A
import Derived.Lib.SmallJoins
set_option linter.unusedVariables false
namespace Go.Proofs.YtlefhfmckimlaaiGreatDoor
open Go.RowKit

section
variable {w0 w : World} {C S : Nat} {u dv : Value} {ra : Option Addr} {rn rc : Nat} {c : M.Cop} {D : List M.Dn} {R : List M.Rul} {a : Option Addr} {n cp : Nat}

/-- Do, whatever comes in -/
theorem rDo (x : M.Ask) (h : RcIs w0 w C S u dv ra rn rc c D R) (hv : IsVals w0 (.slice a n cp) x.t) (hn : c.n < 1000) :
    Calls Tryz.prog 9 #[.pointer (some ⟨C, 0, none⟩), aggA x.who x.seq x.deed a n cp] w fun e w' => e = .returned (.tuple #[.string (M.doR R c x).2.1, .int .i64 (M.doR R c x).1]) ∧ ∃ u' dv' D', RcIs w0 w' C S u' dv' ra rn rc (M.doR R c x).2.2 D' R ∧ Tch (rcF C S u dv) w w' ∧ Grows w (rcF C S u dv) (rcF C S u' dv') := by
  obtain ⟨who, seq, deed, l⟩ := x
  simp only at hv ⊢
  have still : ∀ {s : ByteArray} {E : Int} {e : Ending} {w' : World}, e = .returned (.tuple #[.string s, .int .i64 E]) ∧ Below w.heap.size w w' → e = .returned (.tuple #[.string s, .int .i64 E]) ∧ ∃ u' dv' D', RcIs w0 w' C S u' dv' ra rn rc c D' R ∧ Tch (rcF C S u dv) w w' ∧ Grows w (rcF C S u dv) (rcF C S u' dv') := fun he => ⟨he.1, u, dv, D, h.quiet he.2, Tch.of_below he.2, Grows.refl _ _⟩
  rcases M.doR_ways R c ⟨who, seq, deed, l⟩ with h1 | ⟨h1, h2⟩ | ⟨h1, h2, h3⟩ | ⟨h1, h2, h3, h4⟩ | ⟨h1, h2, h3, h4⟩
  · rw [M.doR_bad h1]
    exact (rDo_bad h hv h1).mono fun _ _ he => still he
  · rw [M.doR_again h1 h2]
    obtain ⟨g1, g2⟩ := M.again_yes h2
    exact (rDo_again h hv h1 (Nat.le_of_lt hn) g1 g2).mono fun _ _ he => still he
  · rw [M.doR_state h1 h2 h3]
    exact (rDo_state h hv h1 (Nat.le_of_lt hn) (M.again_non h2) h3).mono fun _ _ he => still he
  · rw [M.doR_did h1 h2 h3 h4]
    have hw := M.allow_way h1 h4
    have hok := h.ok.did h3
    have h3' : seq = (c.g who).1 + 1 := h3
    subst h3'
    refine (rDo_did _ _ h hv h1 hn hw).mono ?_
    rintro e w' ⟨rfl, u', dv', r1, r2, r3⟩
    refine ⟨rfl, u', dv', _, ⟨r1, ?_, ?_, hok, h.rules, h.many, h.fine⟩, r2, r3⟩
    · exact (M.lastD_snoc D ⟨who, (c.g who).1 + 1, deed, l⟩ _).trans (by rw [h.last]; rfl)
    · rw [List.length_append, h.len]; rfl
  · rw [M.doR_denied h1 h2 h3 h4]
    have h3' : seq = (c.g who).1 + 1 := h3
    subst h3'
    rcases M.allow_no h4 with ⟨g1, g2⟩ | ⟨g1, g2, g3⟩
    · have g1' : deed = 0 := g1
      subst g1'
      exact (rDo_deniedPut h hv h1 (Nat.le_of_lt hn) g2).mono fun _ _ he => still he
    · exact (rDo_deniedGet h hv h1 (Nat.le_of_lt hn) g1 g2 g3).mono fun _ _ he => still he
end

theorem rMark_none (C S cap : Nat) (ao : Option Addr) (n : Int) (w : World) (hC : C < w.heap.size) (h1 : w.cell? ⟨C, 1, none⟩ = some (.pointer (some ⟨S, 0, none⟩))) (h3 : w.cell? ⟨C, 3, none⟩ = some (.int .i64 n)) (hc : w.cell? ⟨S, 0, none⟩ = some (.slice ao 0 cap)) (hS : S < w.heap.size) :
    Calls Tryz.prog 12 #[.pointer (some ⟨C, 0, none⟩)] w fun e w' => e = .returned (.tuple #[.int .i64 n, .int .i64 (M.mark [])]) ∧ Below w.heap.size w w' := by
  have HH : Hid (∀ wx, Calls Tryz.prog 39 #[.string ⟨#[]⟩] wx fun e w' => e = .returned (.int .i64 (M.mark [])) ∧ w' = wx) := hide fun wx => refHash ⟨#[]⟩ wx (by decide)
  generalize M.mark [] = K at *
  go_enter Tryz.func12, Tryz.ntmps12
  go_wp2
  go_loopw [4, 5] (fun s i wr => s = .string ⟨#[]⟩ ∧ i = .int .i64 0 ∧ wr = w) (fun _ _ _ => 0)
  case atStart => exact ⟨rfl, rfl, rfl⟩
  case round =>
    obtain ⟨rfl, rfl, rfl⟩ := hrel
    go_wp2_with fail
    go_quiet ((go_at_call 39; exact Calls.quiet_of_same (HH.out _)))
    go_wp2_with fail
    go_ret2
    exact ⟨rfl, Go.below_drewN (Below.refl _ _) _⟩

set_option maxHeartbeats 1000000 in
theorem rMark_many (C S g cap : Nat) (n : Int) (L : List (List M.Val)) (m : Nat) (w : World) (hm : m = L.length) (h0 : 0 < m) (hL : M.Fine L)
    (hR : ∀ wr, Below w.heap.size w wr → C < wr.heap.size ∧ S < wr.heap.size ∧ wr.cell? ⟨C, 1, none⟩ = some (.pointer (some ⟨S, 0, none⟩)) ∧ wr.cell? ⟨C, 3, none⟩ = some (.int .i64 n) ∧ wr.cell? ⟨S, 0, none⟩ = some (.slice (some ⟨g, 0, none⟩) m cap) ∧ ∀ j (hj : j < L.length), ∃ x, wr.cell? ⟨g, j, none⟩ = some x ∧ Calls Tryz.prog 30 #[x] wr fun e w' => e = .returned (.string (M.line L[j])) ∧ Below wr.heap.size wr w') :
    Calls Tryz.prog 12 #[.pointer (some ⟨C, 0, none⟩)] w fun e w' => e = .returned (.tuple #[.int .i64 n, .int .i64 (M.mark L)]) ∧ Below w.heap.size w w' := by
  have HR := hide hR
  have HM := hide hm
  have HF := hide hL
  have h20 : m ≤ 20 := by have := hL.2; omega
  clear hR hm hL
  go_enter Tryz.func12, Tryz.ntmps12
  go_wp2
  go_loopw [4, 5] (fun s i wr => ∃ (k : Nat) (q : ByteArray), k ≤ m ∧ s = .string q ∧ i = .int .i64 k ∧ Hid (q.data.toList = M.markL (L.take k)) ∧ Hid (Below w.heap.size w wr)) (fun _ i _ => m - (intOf i).toNat)
  case atStart => exact ⟨0, ⟨#[]⟩, Nat.zero_le _, rfl, rfl, hide rfl, hide (Below.refl _ _)⟩
  case round =>
    obtain ⟨k, q, hk, rfl, rfl, hq, hbel⟩ := hrel
    have hqs : q.size ≤ 1420 := by
      have h1 := M.markL_len (L := L.take k) (fun t ht => HF.out.1 t (List.mem_of_mem_take ht))
      rw [← hq.out] at h1
      have h2 : q.data.toList.length = q.size := Array.length_toList
      have h3 : (L.take k).length ≤ k := List.length_take_le _ _
      omega
    obtain ⟨s1, s2, c1, c3, c0, hat⟩ := HR.out wr hbel.out
    by_cases hlt : k < m
    · have hkl : k < L.length := HM.out ▸ hlt
      have ik : (k : Int) < (m : Int) := by omega
      obtain ⟨x, hx, hC⟩ := hat k hkl
      have hls := M.line_small (M.tupF_like (HF.out.1 L[k] (List.getElem_mem hkl)))
      have HT : Hid (M.markL (L.take (k + 1)) = M.markL (L.take k) ++ ((M.line L[k]).data.toList ++ [10])) := hide (M.markL_take hkl)
      generalize M.line L[k] = y at *
      have HC := hide hC
      have hadd1 : ∀ w, (Op.stringOp .add q y).run Tryz.prog w = .ok (.string (q ++ y)) w := fun w => run_string_add_sum w _ _ (by omega)
      have hadd2 : ∀ w, (Op.stringOp .add (q ++ y) ⟨#[10]⟩).run Tryz.prog w = .ok (.string ((q ++ y) ++ ⟨#[10]⟩)) w := fun w => run_string_add_sum w _ _ (by rw [ByteArray.size_append]; show q.size + y.size + 1 ≤ _; omega)
      clear hat hC
      go_wp2_with fail
      refine (unhide HC).mono ?_
      rintro e w1 ⟨rfl, hb1⟩
      go_wp2_with fail
      go_roundw
      case rel =>
        refine ⟨k + 1, _, by omega, rfl, by go_num, hide ?_, hide (hbel.out.trans (hb1.mono hbel.out.size))⟩
        rw [HT.out, ← hq.out, ByteArray.data_append, Array.toList_append, ByteArray.data_append, Array.toList_append, List.append_assoc]
      case measure => simp [intOf]; omega
    · have hk2 : k = m := by omega
      have ik : ¬ (k : Int) < (m : Int) := by omega
      obtain ⟨Z, hZ⟩ : ∃ Z, Z = M.mark L := ⟨_, rfl⟩
      have HZ := hide hZ
      have HH : Hid (∀ wx, Calls Tryz.prog 39 #[.string q] wx fun e w' => e = .returned (.int .i64 Z) ∧ w' = wx) := hide fun wx => by
        have h1 := refHash q wx (by unfold maxLen; omega)
        have e : M.hash q = M.mark L := by
          unfold M.hash M.mark
          rw [hq.out, hk2, HM.out, List.take_length]
        rwa [e, ← hZ] at h1
      clear hat hk2 hZ
      go_wp2_with fail
      go_quiet ((go_at_call 39; exact Calls.quiet_of_same (HH.out _)))
      go_wp2_with fail
      go_ret2
      exact ⟨by rw [← HZ.out]; rfl, Go.below_drewN hbel.out _⟩

theorem rMark {w0 w : World} {C S : Nat} {u dv : Value} {ra : Option Addr} {rn rc : Nat} {c : M.Cop} {D : List M.Dn} {R : List M.Rul} (h : RcIs w0 w C S u dv ra rn rc c D R) :
    Calls Tryz.prog 12 #[.pointer (some ⟨C, 0, none⟩)] w fun e w' => e = .returned (.tuple #[.int .i64 c.n, .int .i64 (M.mark c.l)]) ∧ Below w.heap.size w w' := by
  rcases Nat.eq_zero_or_pos c.l.length with h0 | h0
  · obtain ⟨ao, cap, e⟩ := h.rc.sp.row.shape
    have hl := List.length_eq_zero_iff.1 h0
    obtain ⟨_, c1, _, c3, cn, _⟩ := h.rc.cells
    obtain ⟨s0, _, sn⟩ := h.rc.sp.cell
    rw [e, h0] at s0
    rw [hl]
    exact rMark_none C S cap ao _ w cn c1 c3 s0 sn
  · obtain ⟨g, cap, e, _⟩ := h.rc.sp.row.at h0
    refine rMark_many C S g cap _ c.l c.l.length w rfl h0 h.ok.fine (fun wr hb => ?_)
    have h' := h.rc.quiet hb
    obtain ⟨_, c1, _, c3, cn, _⟩ := h'.cells
    obtain ⟨s0, _, sn⟩ := h'.sp.cell
    obtain ⟨g2, cap2, e2, hat⟩ := h'.sp.row.at h0
    rw [e] at e2
    simp only [Value.slice.injEq, Option.some.injEq, Addr.mk.injEq, and_true, true_and] at e2
    obtain ⟨rfl, rfl⟩ := e2
    rw [e] at s0
    refine ⟨cn, sn, c1, c3, s0, fun j hj => ?_⟩
    obtain ⟨x, hx, hxv⟩ := hat j hj
    exact ⟨x, hx, rline x _ wr (hxv.stays h'.bel (Nat.le_refl _)) (M.tupF_like (h.ok.fine.1 _ (List.getElem_mem hj)))⟩

end Go.Proofs.YtlefhfmckimlaaiGreatDoor

namespace Go.Proofs.YtlefhfmckimlaaiGreatDoor
open Go.RowKit Go.Deep

/-- the asks l lie in w, four cells each, from cell off of block b on -/
def LieA (w : World) (b off : Nat) (l : List M.Ask) : Prop :=
  ∀ i (h : i < l.length), w.cell? ⟨b, off + i * 4, none⟩ = some (.int .i64 l[i].who) ∧ w.cell? ⟨b, off + i * 4 + 1, none⟩ = some (.int .i64 l[i].seq) ∧ w.cell? ⟨b, off + i * 4 + 2, none⟩ = some (.int .i64 l[i].deed) ∧ ∃ v, w.cell? ⟨b, off + i * 4 + 3, none⟩ = some v ∧ IsVals w v l[i].t
/-- where a slice has its asks: nowhere, if there are none -/
def AtA (w : World) (a : Option Addr) (l : List M.Ask) : Prop := 0 < l.length → ∃ b off, a = some ⟨b, off, none⟩ ∧ LieA w b off l

theorem LieA.stays {w w' : World} {b off B : Nat} {l : List M.Ask} (h : LieA w b off l) (hb : Below B w w') (hB : w.heap.size ≤ B) : LieA w' b off l := fun i hi => by
  obtain ⟨h1, h2, h5, v, h3, h4⟩ := h i hi
  have hlt := Nat.lt_of_lt_of_le (World.block_lt_of_cell? w _ h1) hB
  exact ⟨(hb.cell (p := ⟨b, off + i * 4, none⟩) hlt).trans h1, (hb.cell (p := ⟨b, off + i * 4 + 1, none⟩) hlt).trans h2, (hb.cell (p := ⟨b, off + i * 4 + 2, none⟩) hlt).trans h5, v, (hb.cell (p := ⟨b, off + i * 4 + 3, none⟩) hlt).trans h3, h4.stays hb hB⟩
theorem AtA.stays {w w' : World} {a : Option Addr} {B : Nat} {l : List M.Ask} (h : AtA w a l) (hb : Below B w w') (hB : w.heap.size ≤ B) : AtA w' a l := fun h0 => by
  obtain ⟨b, off, e, g⟩ := h h0
  exact ⟨b, off, e, g.stays hb hB⟩

theorem LieA.get {w : World} {b off : Nat} {l : List M.Ask} (h : LieA w b off l) {k : Nat} (hk : k < l.length) : ∃ a n c, w.cell? ⟨b, off + k * 4, none⟩ = some (.int .i64 l[k].who) ∧ w.cell? ⟨b, off + k * 4 + 1, none⟩ = some (.int .i64 l[k].seq) ∧ w.cell? ⟨b, off + k * 4 + 2, none⟩ = some (.int .i64 l[k].deed) ∧ w.cell? ⟨b, off + k * 4 + 3, none⟩ = some (.slice a n c) ∧ IsVals w (.slice a n c) l[k].t := by
  obtain ⟨h1, h2, h3, v, h4, h5⟩ := h k hk
  have hs : ∃ a n c, v = .slice a n c := by
    rcases h5 with ⟨h, _⟩ | ⟨a, c, h, _⟩ | ⟨b, off, c, _, h, _⟩
    · exact ⟨_, _, _, h⟩
    · exact ⟨_, _, _, h⟩
    · exact ⟨_, _, _, h⟩
  obtain ⟨a, n, c, rfl⟩ := hs
  exact ⟨a, n, c, h1, h2, h3, h4, h5⟩

/-- an argument of type []api.Ask -/
theorem open_asks {H : Type} {enc : TypeId × Value → H} {P : Program} {w : World} {t e ev : TypeId} {f0 f1 f2 f3 g0 g1 g2 : Field} {a : Option Addr} {len cap : Nat} {d : DataW H} {p : List MemPlace}
    (ht : P.underlying t = some (.slice e)) (he : P.underlying e = some (.struct #[f0, f1, f2, f3])) (ce : P.cellsOf e = 4) (o0 : f0.offset = 0) (o1 : f1.offset = 1) (o2 : f2.offset = 2) (o3 : f3.offset = 3)
    (u0 : P.underlying f0.type = some (.int .i64)) (u1 : P.underlying f1.type = some (.int .i64)) (u2 : P.underlying f2.type = some (.int .i64)) (u3 : P.underlying f3.type = some (.slice ev)) (c0 : P.cellsOf f0.type = 1) (c1 : P.cellsOf f1.type = 1) (c2 : P.cellsOf f2.type = 1) (c3 : P.cellsOf f3.type = 1)
    (hv : P.underlying ev = some (.struct #[g0, g1, g2])) (cv : P.cellsOf ev = 3) (q0 : g0.offset = 0) (q1 : g1.offset = 1) (q2 : g2.offset = 2) (r0 : P.underlying g0.type = some (.int .i64)) (r1 : P.underlying g1.type = some (.int .i64)) (r2 : P.underlying g2.type = some .string) (k0 : P.cellsOf g0.type = 1) (k1 : P.cellsOf g1.type = 1) (k2 : P.cellsOf g2.type = 1)
    (h : DataW.Trod enc P w 0 (fun _ => true) true t (.slice a len cap) d p) : ∃ l : List M.Ask, len = l.length ∧ len ≤ cap ∧ cap ≤ maxLen ∧ AtA w a l ∧ ((d = .nil ∧ l = []) ∨ ∃ D1 D2, d = .slice D1 D2 ∧ D1.length = l.length) ∧ (a = none → len = 0 ∧ cap = 0) := by
  obtain ⟨fuel, hf⟩ := h
  rcases open_slice ht hf with ⟨hcs, hd⟩ | ⟨x, len', cap', m, n, D, Pl, hcs, _, hl, hm, hmm, hd, hx⟩
  · simp [Value.cells] at hcs
    obtain ⟨rfl, rfl, rfl⟩ := hcs
    exact ⟨[], rfl, Nat.zero_le _, Nat.zero_le _, fun h => absurd h (by decide), Or.inl ⟨(Prod.mk.inj hd).1, rfl⟩, fun _ => ⟨rfl, rfl⟩⟩
  · simp [Value.cells] at hcs
    obtain ⟨rfl, rfl, rfl⟩ := hcs
    have hmc : m = cap := by rw [hmm]; simp
    have each : ∀ i, i < len → ∃ r : M.Ask, w.cell? (x.add (i * 4)) = some (.int .i64 r.who) ∧ w.cell? (x.add (i * 4 + 1)) = some (.int .i64 r.seq) ∧ w.cell? (x.add (i * 4 + 2)) = some (.int .i64 r.deed) ∧ ∃ v, w.cell? (x.add (i * 4 + 3)) = some v ∧ IsVals w v r.t := by
      intro i hi
      obtain ⟨cs', h1, h2⟩ := hx i (by omega)
      rw [ce] at h1
      obtain ⟨_, hlen, hcell⟩ := World.cells?_some h1
      obtain ⟨y0, y1, y2, y3, k, _, _, t0, t1, t2, t3⟩ := Joins.trod_struct4 he h2
      match cs', hlen with
      | [v0, v1, v2, v3], _ =>
        rw [o0, c0] at t0
        rw [o1, c1] at t1
        rw [o2, c2] at t2
        rw [o3, c3] at t3
        obtain ⟨z0, s0, _, _⟩ := DataW.trod_int u0 t0
        obtain ⟨z1, s1, _, _⟩ := DataW.trod_int u1 t1
        obtain ⟨z2, s2, _, _⟩ := DataW.trod_int u2 t2
        simp at s0 s1 s2
        have t3' : DataW.trod enc P w 0 (fun _ => true) true k f3.type [v3] = some y3 := by simpa using t3
        have hV : ∃ a' len' cap', v3 = .slice a' len' cap' := by
          rcases open_slice u3 t3' with ⟨hc, _⟩ | ⟨x', l', c', _, _, _, _, hc, _⟩
          · exact ⟨none, 0, 0, by simpa using hc⟩
          · exact ⟨some x', l', c', by simpa using hc⟩
        obtain ⟨a', l', c', hve⟩ := hV
        subst hve
        obtain ⟨ll, hll, _⟩ := open_vals (d := y3.1) (p := y3.2) u3 hv cv q0 q1 q2 r0 r1 r2 k0 k1 k2 ⟨k, by simpa [Value.cells] using t3'⟩
        have e0 := hcell 0 (by omega)
        have e1 := hcell 1 (by omega)
        have e2 := hcell 2 (by omega)
        have e3 := hcell 3 (by omega)
        refine ⟨⟨z0, z1, z2, ll⟩, ?_, ?_, ?_, _, ?_, hll⟩
        · simpa [add_add, s0] using e0
        · simpa [add_add, s1] using e1
        · simpa [add_add, s2] using e2
        · simpa [add_add] using e3
    rcases Nat.eq_zero_or_pos len with h0 | h0
    · subst h0; exact ⟨[], rfl, hl, hm, fun h => absurd h (by simp), Or.inr ⟨_, _, (Prod.mk.inj hd).1, by simp⟩, fun e => by cases e⟩
    haveI : Inhabited M.Ask := ⟨⟨0, 0, 0, []⟩⟩
    obtain ⟨f, hfe⟩ := choose_lt each
    obtain ⟨b, off, spot⟩ := x
    have hspot : spot = none := by simpa [Addr.add] using World.cell?_spot (hfe 0 h0).1
    subst hspot
    have hll : ((List.range len).map f).length = len := by simp
    refine ⟨(List.range len).map f, hll.symm, hl, hm, fun _ => ⟨b, off, rfl, fun i hi => ?_⟩, Or.inr ⟨_, _, (Prod.mk.inj hd).1, by simp⟩, fun e => by cases e⟩
    have hi' : i < len := by rw [hll] at hi; exact hi
    have e : ((List.range len).map f)[i] = f i := by simp
    rw [e]
    have g := hfe i hi'
    simp only [WideShapes.add_plain] at g
    exact g

/-- an argument of type api.Ask -/
theorem open_ask {H : Type} {enc : TypeId × Value → H} {P : Program} {w : World} {r : Reach} {b0 : Nat} {e ev : TypeId} {f0 f1 f2 f3 g0 g1 g2 : Field} {v : Value} {d : DataW H} {p : List MemPlace}
    (he : P.underlying e = some (.struct #[f0, f1, f2, f3])) (ce : P.cellsOf e = 4) (o0 : f0.offset = 0) (o1 : f1.offset = 1) (o2 : f2.offset = 2) (o3 : f3.offset = 3)
    (u0 : P.underlying f0.type = some (.int .i64)) (u1 : P.underlying f1.type = some (.int .i64)) (u2 : P.underlying f2.type = some (.int .i64)) (u3 : P.underlying f3.type = some (.slice ev)) (c0 : P.cellsOf f0.type = 1) (c1 : P.cellsOf f1.type = 1) (c2 : P.cellsOf f2.type = 1) (c3 : P.cellsOf f3.type = 1)
    (hv : P.underlying ev = some (.struct #[g0, g1, g2])) (cv : P.cellsOf ev = 3) (q0 : g0.offset = 0) (q1 : g1.offset = 1) (q2 : g2.offset = 2) (r0 : P.underlying g0.type = some (.int .i64)) (r1 : P.underlying g1.type = some (.int .i64)) (r2 : P.underlying g2.type = some .string) (k0 : P.cellsOf g0.type = 1) (k1 : P.cellsOf g1.type = 1) (k2 : P.cellsOf g2.type = 1)
    (hw : Value.okWide P w r b0 e v) (h : DataW.Trod enc P w 0 (fun _ => true) true e v d p) : ∃ (x : M.Ask) (a : Option Addr) (n c : Nat), v = .agg #[.int .i64 x.who, .int .i64 x.seq, .int .i64 x.deed, .slice a n c] ∧ IsVals w (.slice a n c) x.t := by
  obtain ⟨cs, rfl, hsz⟩ := WideShapes.okWide_struct he hw
  rw [ce] at hsz
  obtain ⟨v0, v1, v2, v3, rfl⟩ := Joins.array4 hsz
  obtain ⟨fuel, hf⟩ := h
  obtain ⟨y0, y1, y2, y3, k, _, _, t0, t1, t2, t3⟩ := Joins.trod_struct4 he hf
  rw [o0, c0] at t0
  rw [o1, c1] at t1
  rw [o2, c2] at t2
  rw [o3, c3] at t3
  obtain ⟨z0, s0, _, _⟩ := DataW.trod_int u0 t0
  obtain ⟨z1, s1, _, _⟩ := DataW.trod_int u1 t1
  obtain ⟨z2, s2, _, _⟩ := DataW.trod_int u2 t2
  simp [Value.cells] at s0 s1 s2
  have t3' : DataW.trod enc P w 0 (fun _ => true) true k f3.type [v3] = some y3 := by simpa [Value.cells] using t3
  have hV : ∃ a' len' cap', v3 = .slice a' len' cap' := by
    rcases open_slice u3 t3' with ⟨hc, _⟩ | ⟨x', l', c', _, _, _, _, hc, _⟩
    · exact ⟨none, 0, 0, by simpa using hc⟩
    · exact ⟨some x', l', c', by simpa using hc⟩
  obtain ⟨a', l', c', hve⟩ := hV
  subst hve
  obtain ⟨ll, hll, _⟩ := open_vals (d := y3.1) (p := y3.2) u3 hv cv q0 q1 q2 r0 r1 r2 k0 k1 k2 ⟨k, by simpa [Value.cells] using t3'⟩
  exact ⟨⟨z0, z1, z2, ll⟩, a', l', c', by rw [s0, s1, s2], hll⟩

end Go.Proofs.YtlefhfmckimlaaiGreatDoor
