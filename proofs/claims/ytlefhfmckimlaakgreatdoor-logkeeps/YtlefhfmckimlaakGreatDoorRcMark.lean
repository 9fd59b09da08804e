/-
  What the document's own copy does: Do whatever comes in, and Mark, each as one law of its call.
-/
import Derived.Test.YtlefhfmckimlaakGreatDoorRcDo3
set_option linter.unusedVariables false
namespace Go.Proofs.YtlefhfmckimlaakGreatDoor
open Go.RowKit

section
variable {w0 w : World} {C S : Nat} {u dv : Value} {ra : Option Addr} {rn rc : Nat} {c : M.Cop} {D : List M.Dn} {R : List M.Rul} {a : Option Addr} {n cp : Nat}

/-- Do, whatever comes in -/
theorem rDo (x : M.Ask) (h : RcIs w0 w C S u dv ra rn rc c D R) (hv : IsVals w0 (.slice a n cp) x.t) (hn : c.n < 1000) :
    Calls Tryz.prog 20 #[.pointer (some ⟨C, 0, none⟩), aggA x.who x.seq x.deed a n cp] w fun e w' => e = .returned (.tuple #[.string (M.doR R c x).2.1, .int .i64 (M.doR R c x).1]) ∧ ∃ u' dv' D', RcIs w0 w' C S u' dv' ra rn rc (M.doR R c x).2.2 D' R ∧ Tch (rcF C S u dv) w w' ∧ Grows w (rcF C S u dv) (rcF C S u' dv') := by
  obtain ⟨who, seq, deed, l⟩ := x
  simp only at hv ⊢
  have still : ∀ {s : ByteArray} {E : Int} {e : Ending} {w' : World}, e = .returned (.tuple #[.string s, .int .i64 E]) ∧ Below w.heap.size w w' → e = .returned (.tuple #[.string s, .int .i64 E]) ∧ ∃ u' dv' D', RcIs w0 w' C S u' dv' ra rn rc c D' R ∧ Tch (rcF C S u dv) w w' ∧ Grows w (rcF C S u dv) (rcF C S u' dv') := fun he => ⟨he.1, u, dv, D, h.quiet he.2, Tch.of_below he.2, Grows.refl _ _⟩
  rcases M.doR_ways R c ⟨who, seq, deed, l⟩ with h1 | ⟨h1, h2⟩ | ⟨h1, h2, h3⟩ | ⟨h1, h2, h3, h4⟩ | ⟨h1, h2, h3, h4⟩
  · rw [M.doR_bad h1]
    exact (rDo_bad h hv h1).mono fun _ _ he => still he
  · rw [M.doR_again h1 h2]
    obtain ⟨g1, g2⟩ := M.again_yes h2
    exact (rDo_again h hv h1 (Nat.le_of_lt hn) g1 g2).mono fun _ _ he => still he
  · rw [M.doR_state h1 h2 h3]
    exact (rDo_state h hv h1 (Nat.le_of_lt hn) (M.again_non h2) h3).mono fun _ _ he => still he
  · rw [M.doR_did h1 h2 h3 h4]
    have hw := M.allow_way h1 h4
    have hok := h.ok.did h3
    have h3' : seq = (c.g who).1 + 1 := h3
    subst h3'
    refine (rDo_did _ _ h hv h1 hn hw).mono ?_
    rintro e w' ⟨rfl, u', dv', r1, r2, r3⟩
    refine ⟨rfl, u', dv', _, ⟨r1, ?_, ?_, hok, h.rules, h.many, h.fine⟩, r2, r3⟩
    · exact (M.lastD_snoc D ⟨who, (c.g who).1 + 1, deed, l⟩ _).trans (by rw [h.last]; rfl)
    · rw [List.length_append, h.len]; rfl
  · rw [M.doR_denied h1 h2 h3 h4]
    have h3' : seq = (c.g who).1 + 1 := h3
    subst h3'
    rcases M.allow_no h4 with ⟨g1, g2⟩ | ⟨g1, g2, g3⟩
    · have g1' : deed = 0 := g1
      subst g1'
      exact (rDo_deniedPut h hv h1 (Nat.le_of_lt hn) g2).mono fun _ _ he => still he
    · exact (rDo_deniedGet h hv h1 (Nat.le_of_lt hn) g1 g2 g3).mono fun _ _ he => still he
end

theorem rMark_none (C S cap : Nat) (ao : Option Addr) (n : Int) (w : World) (hC : C < w.heap.size) (h1 : w.cell? ⟨C, 1, none⟩ = some (.pointer (some ⟨S, 0, none⟩))) (h3 : w.cell? ⟨C, 3, none⟩ = some (.int .i64 n)) (hc : w.cell? ⟨S, 0, none⟩ = some (.slice ao 0 cap)) (hS : S < w.heap.size) :
    Calls Tryz.prog 21 #[.pointer (some ⟨C, 0, none⟩)] w fun e w' => e = .returned (.tuple #[.int .i64 n, .int .i64 (M.mark [])]) ∧ Below w.heap.size w w' := by
  have HH : Hid (∀ wx, Calls Tryz.prog 51 #[.string ⟨#[]⟩] wx fun e w' => e = .returned (.int .i64 (M.mark [])) ∧ w' = wx) := hide fun wx => refHash ⟨#[]⟩ wx (by decide)
  generalize M.mark [] = K at *
  go_enter Tryz.func21, Tryz.ntmps21
  go_wp2
  go_loopw [4, 5] (fun s i wr => s = .string ⟨#[]⟩ ∧ i = .int .i64 0 ∧ wr = w) (fun _ _ _ => 0)
  case atStart => exact ⟨rfl, rfl, rfl⟩
  case round =>
    obtain ⟨rfl, rfl, rfl⟩ := hrel
    go_wp2_with fail
    go_quiet ((go_at_call 51; exact Calls.quiet_of_same (HH.out _)))
    go_wp2_with fail
    go_ret2
    exact ⟨rfl, Go.below_drewN (Below.refl _ _) _⟩

set_option maxHeartbeats 1000000 in
theorem rMark_many (C S g cap : Nat) (n : Int) (L : List (List M.Val)) (m : Nat) (w : World) (hm : m = L.length) (h0 : 0 < m) (hL : M.Fine L)
    (hR : ∀ wr, Below w.heap.size w wr → C < wr.heap.size ∧ S < wr.heap.size ∧ wr.cell? ⟨C, 1, none⟩ = some (.pointer (some ⟨S, 0, none⟩)) ∧ wr.cell? ⟨C, 3, none⟩ = some (.int .i64 n) ∧ wr.cell? ⟨S, 0, none⟩ = some (.slice (some ⟨g, 0, none⟩) m cap) ∧ ∀ j (hj : j < L.length), ∃ x, wr.cell? ⟨g, j, none⟩ = some x ∧ Calls Tryz.prog 50 #[x] wr fun e w' => e = .returned (.string (M.line L[j])) ∧ Below wr.heap.size wr w') :
    Calls Tryz.prog 21 #[.pointer (some ⟨C, 0, none⟩)] w fun e w' => e = .returned (.tuple #[.int .i64 n, .int .i64 (M.mark L)]) ∧ Below w.heap.size w w' := by
  have HR := hide hR
  have HM := hide hm
  have HF := hide hL
  have h20 : m ≤ 20 := by have := hL.2; omega
  clear hR hm hL
  go_enter Tryz.func21, Tryz.ntmps21
  go_wp2
  go_loopw [4, 5] (fun s i wr => ∃ (k : Nat) (q : ByteArray), k ≤ m ∧ s = .string q ∧ i = .int .i64 k ∧ Hid (q.data.toList = M.markL (L.take k)) ∧ Hid (Below w.heap.size w wr)) (fun _ i _ => m - (intOf i).toNat)
  case atStart => exact ⟨0, ⟨#[]⟩, Nat.zero_le _, rfl, rfl, hide rfl, hide (Below.refl _ _)⟩
  case round =>
    obtain ⟨k, q, hk, rfl, rfl, hq, hbel⟩ := hrel
    have hqs : q.size ≤ 1420 := by
      have h1 := M.markL_len (L := L.take k) (fun t ht => HF.out.1 t (List.mem_of_mem_take ht))
      rw [← hq.out] at h1
      have h2 : q.data.toList.length = q.size := Array.length_toList
      have h3 : (L.take k).length ≤ k := List.length_take_le _ _
      omega
    obtain ⟨s1, s2, c1, c3, c0, hat⟩ := HR.out wr hbel.out
    by_cases hlt : k < m
    · have hkl : k < L.length := HM.out ▸ hlt
      have ik : (k : Int) < (m : Int) := by omega
      obtain ⟨x, hx, hC⟩ := hat k hkl
      have hls := M.line_small (M.tupF_like (HF.out.1 L[k] (List.getElem_mem hkl)))
      have HT : Hid (M.markL (L.take (k + 1)) = M.markL (L.take k) ++ ((M.line L[k]).data.toList ++ [10])) := hide (M.markL_take hkl)
      generalize M.line L[k] = y at *
      have HC := hide hC
      have hadd1 : ∀ w, (Op.stringOp .add q y).run Tryz.prog w = .ok (.string (q ++ y)) w := fun w => run_string_add_sum w _ _ (by omega)
      have hadd2 : ∀ w, (Op.stringOp .add (q ++ y) ⟨#[10]⟩).run Tryz.prog w = .ok (.string ((q ++ y) ++ ⟨#[10]⟩)) w := fun w => run_string_add_sum w _ _ (by rw [ByteArray.size_append]; show q.size + y.size + 1 ≤ _; omega)
      clear hat hC
      go_wp2_with fail
      refine (unhide HC).mono ?_
      rintro e w1 ⟨rfl, hb1⟩
      go_wp2_with fail
      go_roundw
      case rel =>
        refine ⟨k + 1, _, by omega, rfl, by go_num, hide ?_, hide (hbel.out.trans (hb1.mono hbel.out.size))⟩
        rw [HT.out, ← hq.out, ByteArray.data_append, Array.toList_append, ByteArray.data_append, Array.toList_append, List.append_assoc]
      case measure => simp [intOf]; omega
    · have hk2 : k = m := by omega
      have ik : ¬ (k : Int) < (m : Int) := by omega
      obtain ⟨Z, hZ⟩ : ∃ Z, Z = M.mark L := ⟨_, rfl⟩
      have HZ := hide hZ
      have HH : Hid (∀ wx, Calls Tryz.prog 51 #[.string q] wx fun e w' => e = .returned (.int .i64 Z) ∧ w' = wx) := hide fun wx => by
        have h1 := refHash q wx (by unfold maxLen; omega)
        have e : M.hash q = M.mark L := by
          unfold M.hash M.mark
          rw [hq.out, hk2, HM.out, List.take_length]
        rwa [e, ← hZ] at h1
      clear hat hk2 hZ
      go_wp2_with fail
      go_quiet ((go_at_call 51; exact Calls.quiet_of_same (HH.out _)))
      go_wp2_with fail
      go_ret2
      exact ⟨by rw [← HZ.out]; rfl, Go.below_drewN hbel.out _⟩

theorem rMark {w0 w : World} {C S : Nat} {u dv : Value} {ra : Option Addr} {rn rc : Nat} {c : M.Cop} {D : List M.Dn} {R : List M.Rul} (h : RcIs w0 w C S u dv ra rn rc c D R) :
    Calls Tryz.prog 21 #[.pointer (some ⟨C, 0, none⟩)] w fun e w' => e = .returned (.tuple #[.int .i64 c.n, .int .i64 (M.mark c.l)]) ∧ Below w.heap.size w w' := by
  rcases Nat.eq_zero_or_pos c.l.length with h0 | h0
  · obtain ⟨ao, cap, e⟩ := h.rc.sp.row.shape
    have hl := List.length_eq_zero_iff.1 h0
    obtain ⟨_, c1, _, c3, cn, _⟩ := h.rc.cells
    obtain ⟨s0, _, sn⟩ := h.rc.sp.cell
    rw [e, h0] at s0
    rw [hl]
    exact rMark_none C S cap ao _ w cn c1 c3 s0 sn
  · obtain ⟨g, cap, e, _⟩ := h.rc.sp.row.at h0
    refine rMark_many C S g cap _ c.l c.l.length w rfl h0 h.ok.fine (fun wr hb => ?_)
    have h' := h.rc.quiet hb
    obtain ⟨_, c1, _, c3, cn, _⟩ := h'.cells
    obtain ⟨s0, _, sn⟩ := h'.sp.cell
    obtain ⟨g2, cap2, e2, hat⟩ := h'.sp.row.at h0
    rw [e] at e2
    simp only [Value.slice.injEq, Option.some.injEq, Addr.mk.injEq, and_true, true_and] at e2
    obtain ⟨rfl, rfl⟩ := e2
    rw [e] at s0
    refine ⟨cn, sn, c1, c3, s0, fun j hj => ?_⟩
    obtain ⟨x, hx, hxv⟩ := hat j hj
    exact ⟨x, hx, rline x _ wr (hxv.stays h'.bel (Nat.le_refl _)) (M.tupF_like (h.ok.fine.1 _ (List.getElem_mem hj)))⟩

end Go.Proofs.YtlefhfmckimlaakGreatDoor
