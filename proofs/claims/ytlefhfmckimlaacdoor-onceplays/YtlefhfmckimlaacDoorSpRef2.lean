/-
  What the document's own space does: First and Count of package tupleref1, each as one law of its call.
-/
import Derived.Test.YtlefhfmckimlaacDoorSpRef
namespace Go.Proofs.YtlefhfmckimlaacDoor
open Go.RowKit

theorem rfirst_none (R cap : Nat) (ao : Option Addr) (v : Value) (w : World) (hc : w.cell? ⟨R, 0, none⟩ = some (.slice ao 0 cap)) :
    Calls Tryd.prog 34 #[.pointer (some ⟨R, 0, none⟩), v] w fun e w' => e = .returned (.int .i64 (-1)) ∧ Below w.heap.size w w' := by
  go_enter Tryd.func34, Tryd.ntmps34
  go_wp2
  go_loopw [5] (fun i wr => i = .int .i64 0 ∧ wr = w) (fun _ _ => 0)
  case atStart => exact ⟨rfl, rfl⟩
  case round =>
    obtain ⟨rfl, rfl⟩ := hrel
    go_wp2
    go_ret
    exact ⟨rfl, Below.refl _ _⟩

/-- what a loop over the list reads, whatever has been laid since -/
def Reads (R g n cap : Nat) (v : Value) (a : List M.Val) (L : List (List M.Val)) (w : World) : Prop :=
  ∀ wr, Below w.heap.size w wr → wr.cell? ⟨R, 0, none⟩ = some (.slice (some ⟨g, 0, none⟩) n cap) ∧ ∀ j (hj : j < L.length), ∃ x, wr.cell? ⟨g, j, none⟩ = some x ∧ Calls Tryd.prog 27 #[v, x] wr fun e w' => e = .returned (.bool (M.fitAll a L[j])) ∧ Below wr.heap.size wr w'

theorem rfirst_many (R g n cap : Nat) (v : Value) (a : List M.Val) (L : List (List M.Val)) (w : World) (hn : n = L.length) (h0 : 0 < n) (h20 : n ≤ 20) (hR : Reads R g n cap v a L w) :
    Calls Tryd.prog 34 #[.pointer (some ⟨R, 0, none⟩), v] w fun e w' => e = .returned (.int .i64 (M.place a L)) ∧ Below w.heap.size w w' := by
  have HR := hide hR
  have HN := hide hn
  clear hR hn
  go_enter Tryd.func34, Tryd.ntmps34
  go_wp2
  go_loopw [5] (fun i wr => ∃ k : Nat, k ≤ n ∧ i = .int .i64 k ∧ Hid (∀ j (hj : j < k) (hjl : j < L.length), M.fitAll a L[j] = false) ∧ Hid (Below w.heap.size w wr)) (fun i _ => n - (intOf i).toNat)
  case atStart => exact ⟨0, Nat.zero_le _, rfl, hide (fun j hj => by omega), hide (Below.refl _ _)⟩
  case round =>
    obtain ⟨k, hk, rfl, hno, hbel⟩ := hrel
    obtain ⟨c1, hat⟩ := (unhide HR) wr hbel.out
    by_cases hlt : k < n
    · have hkl : k < L.length := HN.out ▸ hlt
      have ik : (k : Int) < (n : Int) := by omega
      obtain ⟨x, hx, hC⟩ := hat k hkl
      clear hat
      cases hb : M.fitAll a L[k]
      · rw [hb] at hC
        have HB := hide hb
        have HC := hide hC
        clear hb hC
        go_wp2_with fail
        refine (unhide HC).mono ?_
        rintro e w1 ⟨rfl, hb1⟩
        go_wp2_with fail
        go_roundw
        case rel =>
          refine ⟨k + 1, by omega, by go_num, hide (fun j hj hjl => ?_), hide (hbel.out.trans (hb1.mono hbel.out.size))⟩
          rcases Nat.lt_succ_iff_lt_or_eq.1 hj with h | h
          · exact hno.out j h hjl
          · subst h; exact HB.out
        case measure => simp [intOf]; omega
      · rw [hb] at hC
        have HC := hide hC
        have hsp : M.spot a L = k := spot_hit hkl (fun j hj => hno.out j hj (by omega)) hb
        have hfin : Hid (M.place a L = (k : Int)) := hide (by unfold M.place; rw [hsp, if_pos hkl])
        clear hb hC hsp
        go_wp2_with fail
        refine (unhide HC).mono ?_
        rintro e w1 ⟨rfl, hb1⟩
        go_wp2_with fail
        go_ret
        exact ⟨by rw [hfin.out]; rfl, hbel.out.trans (hb1.mono hbel.out.size)⟩
    · have hsp : M.spot a L = L.length := spot_none (fun j hj => hno.out j (by have := HN.out; omega) hj)
      have hfin : Hid (M.place a L = -1) := hide (by unfold M.place; rw [hsp, if_neg (Nat.lt_irrefl _)])
      have ik : ¬ (k : Int) < (n : Int) := by omega
      clear hsp hat
      go_wp2
      go_ret
      exact ⟨by rw [hfin.out]; rfl, hbel.out⟩

theorem rcount_none (R cap : Nat) (ao : Option Addr) (v : Value) (w : World) (hc : w.cell? ⟨R, 0, none⟩ = some (.slice ao 0 cap)) :
    Calls Tryd.prog 16 #[.pointer (some ⟨R, 0, none⟩), v] w fun e w' => e = .returned (.int .i64 0) ∧ Below w.heap.size w w' := by
  go_enter Tryd.func16, Tryd.ntmps16
  go_wp2
  go_loopw [6, 5] (fun i c wr => i = .int .i64 0 ∧ c = .int .i64 0 ∧ wr = w) (fun _ _ _ => 0)
  case atStart => exact ⟨rfl, rfl, rfl⟩
  case round =>
    obtain ⟨rfl, rfl, rfl⟩ := hrel
    go_wp2
    go_ret
    exact ⟨rfl, Below.refl _ _⟩

theorem rcount_many (R g n cap : Nat) (v : Value) (a : List M.Val) (L : List (List M.Val)) (w : World) (hn : n = L.length) (h0 : 0 < n) (h20 : n ≤ 20) (hR : Reads R g n cap v a L w) :
    Calls Tryd.prog 16 #[.pointer (some ⟨R, 0, none⟩), v] w fun e w' => e = .returned (.int .i64 (M.many a L)) ∧ Below w.heap.size w w' := by
  have HR := hide hR
  have HN := hide hn
  clear hR hn
  go_enter Tryd.func16, Tryd.ntmps16
  go_wp2
  go_loopw [6, 5] (fun i c wr => ∃ k q : Nat, k ≤ n ∧ q ≤ k ∧ i = .int .i64 k ∧ c = .int .i64 q ∧ Hid (q = M.many a (L.take k)) ∧ Hid (Below w.heap.size w wr)) (fun i _ _ => n - (intOf i).toNat)
  case atStart => exact ⟨0, 0, Nat.zero_le _, Nat.le_refl _, rfl, rfl, hide rfl, hide (Below.refl _ _)⟩
  case round =>
    obtain ⟨k, q, hk, hqk, rfl, rfl, hq, hbel⟩ := hrel
    obtain ⟨c1, hat⟩ := (unhide HR) wr hbel.out
    by_cases hlt : k < n
    · have hkl : k < L.length := HN.out ▸ hlt
      have ik : (k : Int) < (n : Int) := by omega
      obtain ⟨x, hx, hC⟩ := hat k hkl
      have hms := hide (many_snoc (a := a) hkl)
      clear hat
      cases hb : M.fitAll a L[k]
      · rw [hb] at hC hms
        have HC := hide hC
        clear hb hC
        go_wp2_with fail
        refine (unhide HC).mono ?_
        rintro e w1 ⟨rfl, hb1⟩
        go_wp2_with fail
        go_roundw
        case rel => exact ⟨k + 1, q, by omega, by omega, by go_num, rfl, hide (by rw [hms.out]; exact hq.out), hide (hbel.out.trans (hb1.mono hbel.out.size))⟩
        case measure => simp [intOf]; omega
      · rw [hb] at hC hms
        have HC := hide hC
        clear hb hC
        go_wp2_with fail
        refine (unhide HC).mono ?_
        rintro e w1 ⟨rfl, hb1⟩
        go_wp2_with fail
        go_roundw
        case rel => exact ⟨k + 1, q + 1, by omega, by omega, by go_num, by go_num, hide (by rw [hms.out]; have := hq.out; simp; omega), hide (hbel.out.trans (hb1.mono hbel.out.size))⟩
        case measure => simp [intOf]; omega
    · have hfin : Hid (q = M.many a L) := hide (by have := hq.out; rwa [List.take_of_length_le (by have := HN.out; omega)] at this)
      have ik : ¬ (k : Int) < (n : Int) := by omega
      clear hat
      go_wp2
      go_ret
      exact ⟨by rw [← hfin.out]; rfl, hbel.out⟩

theorem Ref.reads {w0 w : World} {R : Nat} {u v : Value} {a : List M.Val} {L : List (List M.Val)} (h : Ref w0 w R u L) (h0 : 0 < L.length) (hbw : Below w0.heap.size w0 w) (hv : IsVals w0 v a) (ha : M.likeF a = 0) : ∃ g cap, u = .slice (some ⟨g, 0, Option.none⟩) L.length cap ∧ Reads R g L.length cap v a L w := by
  obtain ⟨g, cap, rfl, _⟩ := h.row.at h0
  refine ⟨g, cap, rfl, fun wr hb => ?_⟩
  have h' : Ref w0 wr R (.slice (some ⟨g, 0, Option.none⟩) L.length cap) L := Sp.quiet h hb
  have hbr := hbw.trans (hb.mono hbw.size)
  refine ⟨h'.cell.1, fun j hj => ?_⟩
  obtain ⟨g2, cap2, e, hat⟩ := h'.row.at h0
  simp only [Value.slice.injEq, Option.some.injEq, Addr.mk.injEq, and_true, true_and] at e
  obtain ⟨rfl, rfl⟩ := e
  obtain ⟨x, hx, hxv⟩ := hat j hj
  exact ⟨x, hx, rfits v x a L[j] wr (hv.stays hbr (Nat.le_refl _)) (hxv.stays hbr (Nat.le_refl _)) ha⟩

theorem rfirst (w0 : World) (R : Nat) (u v : Value) (a : List M.Val) (L : List (List M.Val)) (w : World) (h : Ref w0 w R u L) (hL : M.Fine L) (hbw : Below w0.heap.size w0 w) (hv : IsVals w0 v a) (ha : M.likeF a = 0) :
    Calls Tryd.prog 34 #[.pointer (some ⟨R, 0, none⟩), v] w fun e w' => e = .returned (.int .i64 (M.place a L)) ∧ Below w.heap.size w w' := by
  rcases Nat.eq_zero_or_pos L.length with h0 | h0
  · obtain ⟨ao, cap, rfl⟩ := h.row.shape
    have hl := List.length_eq_zero_iff.1 h0
    subst hl
    exact rfirst_none R cap ao v w h.cell.1
  · obtain ⟨g, cap, rfl, hr⟩ := Ref.reads h h0 hbw hv ha
    exact rfirst_many R g L.length cap v a L w rfl h0 hL.2 hr
theorem rcount (w0 : World) (R : Nat) (u v : Value) (a : List M.Val) (L : List (List M.Val)) (w : World) (h : Ref w0 w R u L) (hL : M.Fine L) (hbw : Below w0.heap.size w0 w) (hv : IsVals w0 v a) (ha : M.likeF a = 0) :
    Calls Tryd.prog 16 #[.pointer (some ⟨R, 0, none⟩), v] w fun e w' => e = .returned (.int .i64 (M.many a L)) ∧ Below w.heap.size w w' := by
  rcases Nat.eq_zero_or_pos L.length with h0 | h0
  · obtain ⟨ao, cap, rfl⟩ := h.row.shape
    have hl := List.length_eq_zero_iff.1 h0
    subst hl
    exact rcount_none R cap ao v w h.cell.1
  · obtain ⟨g, cap, rfl, hr⟩ := Ref.reads h h0 hbw hv ha
    exact rcount_many R g L.length cap v a L w rfl h0 hL.2 hr

end Go.Proofs.YtlefhfmckimlaacDoor
