/-
  What the document's own copy does: NewCopy, Last and Mark of package tupleref2, each as one law of its call.
  What the document's own space does: First and Count of package tupleref1, each as one law of its call.
-/
import Derived.Test.YtlefhfmckimlaaiGreatDoorJ32A
import Derived.Test.YtlefhfmckimlaaiGreatDoorJ27A
import Derived.Test.YtlefhfmckimlaaiGreatDoorRefTup
import Derived.BigQuiet
import Derived.Deep.QuietTactic
set_option linter.unusedVariables false
namespace Go.Proofs.YtlefhfmckimlaaiGreatDoor
open Go.RowKit

theorem rNewCopy (av : Option Addr) (n cap : Nat) (w : World) : Calls Tryz.prog 8 #[.slice av n cap] w fun e w' => e = .returned (.pointer (some ⟨w.heap.size + 1, 0, none⟩)) ∧ w' = (w.alloc (.cells #[.slice none 0 0] 46)).alloc (.cells #[.slice av n cap, .pointer (some ⟨w.heap.size, 0, none⟩), .slice none 0 0, .int .i64 0] 50) := by
  go_enter Tryz.func8, Tryz.ntmps8
  go_wp2
  go_ret
  exact ⟨rfl, rfl⟩
theorem Rc.new {w0 w : World} (hb : Below w0.heap.size w0 w) (rv : Value) : Rc w0 ((w.alloc (.cells #[.slice none 0 0] 46)).alloc (.cells #[rv, .pointer (some ⟨w.heap.size, 0, none⟩), .slice none 0 0, .int .i64 0] 50)) (w.heap.size + 1) w.heap.size (.slice none 0 0) (.slice none 0 0) rv [] [] 0 := by
  have h1 : Ref w0 (w.alloc (.cells #[.slice none 0 0] 46)) w.heap.size (.slice none 0 0) [] := ⟨hb.size, heap_alloc_new w _, RowOf.nil _ _ _⟩
  refine ⟨Nat.le_succ_of_le hb.size, ?_, Sp.quiet h1 ((Below.refl _ _).alloc (Nat.le_refl _) _), World.ownsRow_nil _ _ _ _, (hb.alloc hb.size _).alloc (by simp; exact Nat.le_succ_of_le hb.size) _⟩
  have := heap_alloc_new (w.alloc (.cells #[.slice none 0 0] 46)) (.cells #[rv, .pointer (some ⟨w.heap.size, 0, none⟩), .slice none 0 0, .int .i64 0] 50)
  simpa using this

theorem rLast_none (C cap : Nat) (ao : Option Addr) (who : Int) (w : World) (hC : C < w.heap.size) (hc : w.cell? ⟨C, 2, none⟩ = some (.slice ao 0 cap)) :
    Calls Tryz.prog 26 #[.pointer (some ⟨C, 0, none⟩), .int .i64 who] w fun e w' => e = .returned (.tuple #[.int .i64 0, .string ⟨#[]⟩]) ∧ Below w.heap.size w w' := by
  go_enter Tryz.func26, Tryz.ntmps26
  go_wp2
  go_loopw [6] (fun i wr => i = .int .i64 (-1) ∧ wr = w) (fun _ _ => 0)
  case atStart => exact ⟨rfl, rfl⟩
  case round =>
    obtain ⟨rfl, rfl⟩ := hrel
    go_wp2
    go_ret2
    exact ⟨rfl, Below.refl _ _⟩

theorem rLast_many (C g n cap : Nat) (who : Int) (D : List M.Dn) (w : World) (hC : C < w.heap.size) (hc : w.cell? ⟨C, 2, none⟩ = some (.slice (some ⟨g, 0, none⟩) n cap)) (hn : n = D.length) (h0 : 0 < n) (hm : n ≤ 1000)
    (hD : ∀ i (h : i < D.length), w.cell? ⟨g, i * 3, none⟩ = some (.int .i64 D[i].who) ∧ w.cell? ⟨g, i * 3 + 1, none⟩ = some (.int .i64 D[i].seq) ∧ w.cell? ⟨g, i * 3 + 2, none⟩ = some (.string D[i].ans)) :
    Calls Tryz.prog 26 #[.pointer (some ⟨C, 0, none⟩), .int .i64 who] w fun e w' => e = .returned (.tuple #[.int .i64 (M.lastD D who).1, .string (M.lastD D who).2]) ∧ Below w.heap.size w w' := by
  have HD := hide hD
  have HN := hide hn
  clear hD hn
  go_enter Tryz.func26, Tryz.ntmps26
  go_wp2
  go_loopw [6] (fun i wr => ∃ k : Nat, k ≤ n ∧ i = .int .i64 ((k : Int) - 1) ∧ Hid (∀ j (hj : j < D.length), k ≤ j → D[j].who ≠ who) ∧ wr = w) (fun i _ => (intOf i + 1).toNat)
  case atStart => exact ⟨n, Nat.le_refl _, rfl, hide (fun j hj hk => by have := HN.out; omega), rfl⟩
  case round =>
    obtain ⟨k, hk, rfl, hno, rfl⟩ := hrel
    by_cases hlt : 0 < k
    · obtain ⟨i, rfl⟩ : ∃ i, k = i + 1 := ⟨k - 1, by omega⟩
      have hil : i < D.length := by have := HN.out; omega
      obtain ⟨c0, c1, c2⟩ := HD.out i hil
      have hik : ((i + 1 : Nat) : Int) - 1 = (i : Int) := by omega
      have h0i : (0 : Int) ≤ (i : Int) := by omega
      have hin : (i : Int) < (n : Int) := by omega
      rw [hik]
      by_cases he : D[i].who = who
      · have HL : Hid (M.lastD D who = (D[i].seq, D[i].ans)) := hide (M.lastD_at hil he (fun j hj hij => hno.out j hj (by omega)))
        have hb : (D[i].who == who) = true := by simpa using he
        generalize D[i].seq = s at *
        generalize D[i].ans = t at *
        clear hlt
        go_wp2_with fail
        go_quiet (fail)
        go_wp2_with fail
        go_ret2
        exact ⟨by rw [HL.out]; rfl, Go.below_drewN (Below.refl _ _) _⟩
      · have hb : (D[i].who == who) = false := by simpa using he
        have HE := hide he
        clear he hlt
        go_wp2_with fail
        go_roundw
        case rel => exact ⟨i, by omega, by go_num, hide (fun j hj hij => by
          by_cases e : j = i
          · subst e; exact HE.out
          · exact hno.out j hj (by omega)), trivial⟩
        case measure => simp [intOf]
    · have HL : Hid (M.lastD D who = (0, M.sNo)) := hide (M.lastD_none (fun j hj => hno.out j hj (by omega)))
      have hk0 : k = 0 := by omega
      subst hk0
      go_wp2
      go_ret2
      exact ⟨by rw [HL.out]; rfl, Below.refl _ _⟩

theorem rLast {w0 w : World} {C S : Nat} {u dv rv : Value} {K : List (List M.Val)} {D : List M.Dn} {n : Int} (h : Rc w0 w C S u dv rv K D n) (who : Int) (hm : D.length ≤ 1000) :
    Calls Tryz.prog 26 #[.pointer (some ⟨C, 0, none⟩), .int .i64 who] w fun e w' => e = .returned (.tuple #[.int .i64 (M.lastD D who).1, .string (M.lastD D who).2]) ∧ Below w.heap.size w w' := by
  obtain ⟨_, _, c2, _, hC, _⟩ := h.cells
  rcases h.row.2 with ⟨hv, hn⟩ | ⟨g, cap, cur, hv, _, _, hn, hcm, _⟩
  · have e := List.length_eq_zero_iff.1 hn
    subst e
    rw [hv] at c2
    exact rLast_none C 0 none who w hC c2
  · rcases Nat.eq_zero_or_pos D.length with h0 | h0
    · have e := List.length_eq_zero_iff.1 h0
      subst e
      rw [hv] at c2
      exact rLast_none C cap _ who w hC c2
    · have hr := h.row
      rw [hv] at c2 hr
      refine rLast_many C g D.length cap who D w hC c2 rfl h0 hm (fun i hi => ?_)
      obtain ⟨d0, d1, d2⟩ := cellsD_at D i hi
      have g0 := hr.cells (g := g) rfl _ _ d0
      have g1 := hr.cells (g := g) rfl _ _ d1
      have g2 := hr.cells (g := g) rfl _ _ d2
      rw [WideShapes.add_plain] at g0 g1 g2
      refine ⟨?_, ?_, ?_⟩
      · simpa using g0
      · simpa [Nat.add_assoc] using g1
      · simpa [Nat.add_assoc] using g2

end Go.Proofs.YtlefhfmckimlaaiGreatDoor

namespace Go.Proofs.YtlefhfmckimlaaiGreatDoor
open Go.RowKit

theorem rfirst_none (R cap : Nat) (ao : Option Addr) (v : Value) (w : World) (hc : w.cell? ⟨R, 0, none⟩ = some (.slice ao 0 cap)) :
    Calls Tryz.prog 50 #[.pointer (some ⟨R, 0, none⟩), v] w fun e w' => e = .returned (.int .i64 (-1)) ∧ Below w.heap.size w w' := by
  go_enter Tryz.func50, Tryz.ntmps50
  go_wp2
  go_loopw [5] (fun i wr => i = .int .i64 0 ∧ wr = w) (fun _ _ => 0)
  case atStart => exact ⟨rfl, rfl⟩
  case round =>
    obtain ⟨rfl, rfl⟩ := hrel
    go_wp2
    go_ret
    exact ⟨rfl, Below.refl _ _⟩

/-- what a loop over the list reads, whatever has been laid since -/
def Reads (R g n cap : Nat) (v : Value) (a : List M.Val) (L : List (List M.Val)) (w : World) : Prop :=
  ∀ wr, Below w.heap.size w wr → wr.cell? ⟨R, 0, none⟩ = some (.slice (some ⟨g, 0, none⟩) n cap) ∧ ∀ j (hj : j < L.length), ∃ x, wr.cell? ⟨g, j, none⟩ = some x ∧ Calls Tryz.prog 70 #[v, x] wr fun e w' => e = .returned (.bool (M.fitAll a L[j])) ∧ Below wr.heap.size wr w'

theorem rfirst_many (R g n cap : Nat) (v : Value) (a : List M.Val) (L : List (List M.Val)) (w : World) (hn : n = L.length) (h0 : 0 < n) (h20 : n ≤ 20) (hR : Reads R g n cap v a L w) :
    Calls Tryz.prog 50 #[.pointer (some ⟨R, 0, none⟩), v] w fun e w' => e = .returned (.int .i64 (M.place a L)) ∧ Below w.heap.size w w' := by
  have HR := hide hR
  have HN := hide hn
  clear hR hn
  go_enter Tryz.func50, Tryz.ntmps50
  go_wp2
  go_loopw [5] (fun i wr => ∃ k : Nat, k ≤ n ∧ i = .int .i64 k ∧ Hid (∀ j (hj : j < k) (hjl : j < L.length), M.fitAll a L[j] = false) ∧ Hid (Below w.heap.size w wr)) (fun i _ => n - (intOf i).toNat)
  case atStart => exact ⟨0, Nat.zero_le _, rfl, hide (fun j hj => by omega), hide (Below.refl _ _)⟩
  case round =>
    obtain ⟨k, hk, rfl, hno, hbel⟩ := hrel
    obtain ⟨c1, hat⟩ := (unhide HR) wr hbel.out
    by_cases hlt : k < n
    · have hkl : k < L.length := HN.out ▸ hlt
      have ik : (k : Int) < (n : Int) := by omega
      obtain ⟨x, hx, hC⟩ := hat k hkl
      clear hat
      cases hb : M.fitAll a L[k]
      · rw [hb] at hC
        have HB := hide hb
        have HC := hide hC
        clear hb hC
        go_wp2_with fail
        refine (unhide HC).mono ?_
        rintro e w1 ⟨rfl, hb1⟩
        go_wp2_with fail
        go_roundw
        case rel =>
          refine ⟨k + 1, by omega, by go_num, hide (fun j hj hjl => ?_), hide (hbel.out.trans (hb1.mono hbel.out.size))⟩
          rcases Nat.lt_succ_iff_lt_or_eq.1 hj with h | h
          · exact hno.out j h hjl
          · subst h; exact HB.out
        case measure => simp [intOf]; omega
      · rw [hb] at hC
        have HC := hide hC
        have hsp : M.spot a L = k := spot_hit hkl (fun j hj => hno.out j hj (by omega)) hb
        have hfin : Hid (M.place a L = (k : Int)) := hide (by unfold M.place; rw [hsp, if_pos hkl])
        clear hb hC hsp
        go_wp2_with fail
        refine (unhide HC).mono ?_
        rintro e w1 ⟨rfl, hb1⟩
        go_wp2_with fail
        go_ret
        exact ⟨by rw [hfin.out]; rfl, hbel.out.trans (hb1.mono hbel.out.size)⟩
    · have hsp : M.spot a L = L.length := spot_none (fun j hj => hno.out j (by have := HN.out; omega) hj)
      have hfin : Hid (M.place a L = -1) := hide (by unfold M.place; rw [hsp, if_neg (Nat.lt_irrefl _)])
      have ik : ¬ (k : Int) < (n : Int) := by omega
      clear hsp hat
      go_wp2
      go_ret
      exact ⟨by rw [hfin.out]; rfl, hbel.out⟩

theorem Ref.reads {w0 w : World} {R : Nat} {u v : Value} {a : List M.Val} {L : List (List M.Val)} (h : Ref w0 w R u L) (h0 : 0 < L.length) (hbw : Below w0.heap.size w0 w) (hv : IsVals w0 v a) (ha : M.likeF a = 0) : ∃ g cap, u = .slice (some ⟨g, 0, Option.none⟩) L.length cap ∧ Reads R g L.length cap v a L w := by
  obtain ⟨g, cap, rfl, _⟩ := h.row.at h0
  refine ⟨g, cap, rfl, fun wr hb => ?_⟩
  have h' : Ref w0 wr R (.slice (some ⟨g, 0, Option.none⟩) L.length cap) L := Sp.quiet h hb
  have hbr := hbw.trans (hb.mono hbw.size)
  refine ⟨h'.cell.1, fun j hj => ?_⟩
  obtain ⟨g2, cap2, e, hat⟩ := h'.row.at h0
  simp only [Value.slice.injEq, Option.some.injEq, Addr.mk.injEq, and_true, true_and] at e
  obtain ⟨rfl, rfl⟩ := e
  obtain ⟨x, hx, hxv⟩ := hat j hj
  exact ⟨x, hx, rfits v x a L[j] wr (hv.stays hbr (Nat.le_refl _)) (hxv.stays hbr (Nat.le_refl _)) ha⟩

theorem rfirst (w0 : World) (R : Nat) (u v : Value) (a : List M.Val) (L : List (List M.Val)) (w : World) (h : Ref w0 w R u L) (hL : M.Fine L) (hbw : Below w0.heap.size w0 w) (hv : IsVals w0 v a) (ha : M.likeF a = 0) :
    Calls Tryz.prog 50 #[.pointer (some ⟨R, 0, none⟩), v] w fun e w' => e = .returned (.int .i64 (M.place a L)) ∧ Below w.heap.size w w' := by
  rcases Nat.eq_zero_or_pos L.length with h0 | h0
  · obtain ⟨ao, cap, rfl⟩ := h.row.shape
    have hl := List.length_eq_zero_iff.1 h0
    subst hl
    exact rfirst_none R cap ao v w h.cell.1
  · obtain ⟨g, cap, rfl, hr⟩ := Ref.reads h h0 hbw hv ha
    exact rfirst_many R g L.length cap v a L w rfl h0 hL.2 hr
end Go.Proofs.YtlefhfmckimlaaiGreatDoor
