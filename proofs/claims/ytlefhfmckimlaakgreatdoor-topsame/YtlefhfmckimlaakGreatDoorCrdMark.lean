/-
  What Mark of package crowd does, as one law of its call.
-/
import Derived.Test.YtlefhfmckimlaakGreatDoorCrdCalls
import Derived.OwnWalk
set_option linter.unusedVariables false
namespace Go.Proofs.YtlefhfmckimlaakGreatDoor
open Go.RowKit
attribute [local go_sem ↓] Go.wp_at_zero Go.wp_at_succ

section
variable {base : Nat} {w : World} {F : Nat → Prop} {K n : Nat} {c : M.Cop} {R : List M.Rul}
theorem crMark_no (h : CwIs base w F K n c R) (i : Int) (hi : i < 0 ∨ (n : Int) ≤ i) :
    Calls Tryz.prog 31 #[.pointer (some ⟨K, 0, none⟩), .int .i64 i] w fun e w' => e = .returned (.tuple #[.int .i64 0, .int .i64 0, .iface 87 (.int .i64 1)]) ∧ Below w.heap.size w w' := by
  obtain ⟨v, Cs, Fs, hlen, _, hc⟩ := h.is
  obtain ⟨ao, cap, rfl⟩ := hc.shape
  obtain ⟨c0, _, cn, _⟩ := hc.cells
  rw [hlen] at c0
  have := h.seven
  clear hc h hlen
  by_cases h0 : i < 0
  · clear hi
    go_enter Tryz.func31, Tryz.ntmps31
    go_wp2_with fail
    go_ret3
    exact ⟨rfl, Below.refl _ _⟩
  · have h1 : (n : Int) ≤ i := by omega
    clear hi
    go_enter Tryz.func31, Tryz.ntmps31
    go_wp2_with fail
    go_ret3
    exact ⟨rfl, Below.refl _ _⟩
theorem crMark_ok (h : CwIs base w F K n c R) (i : Nat) (hi : i < n) (ht : TabFrom base w) :
    Calls Tryz.prog 31 #[.pointer (some ⟨K, 0, none⟩), .int .i64 i] w fun e w' => e = .returned (.tuple #[.int .i64 c.n, .int .i64 (M.mark c.l), .nilIface]) ∧ Below w.heap.size w w' := by
  obtain ⟨v, Cs, Fs, hlen, _, hc⟩ := h.is
  obtain ⟨ao, cap, rfl⟩ := hc.shape
  rw [hlen] at hc
  have hiC : i < Cs.length := by omega
  obtain ⟨g, rfl, _⟩ := hc.ptr hlen (by omega)
  obtain ⟨C, hC⟩ : ∃ C, Cs[i]? = some C := ⟨Cs[i], List.getElem?_eq_getElem hiC⟩
  have hp := ptr_at hc hlen hC
  have hg := World.block_lt_of_cell? w _ hp
  obtain ⟨c0, _, cn, _⟩ := hc.cells
  have HM := hide (mMark (hc.cp hC) ht)
  have i1 : ¬ (i : Int) < 0 := by omega
  have i2 : ¬ (n : Int) ≤ (i : Int) := by omega
  have i3 : (i : Int) < (n : Int) := by omega
  have i4 : (0 : Int) ≤ (i : Int) := by omega
  have := h.seven
  generalize M.mark c.l = Z at *
  generalize (c.n : Int) = N at *
  clear hc h hlen hC hiC ht
  go_enter Tryz.func31, Tryz.ntmps31
  go_wp2_with fail
  refine (unhide HM).mono ?_
  rintro e w1 ⟨rfl, hb1⟩
  have HB1 := hide hb1
  clear hb1
  go_wp2_with fail
  go_ret3
  exact ⟨rfl, HB1.out⟩
end

end Go.Proofs.YtlefhfmckimlaakGreatDoor
