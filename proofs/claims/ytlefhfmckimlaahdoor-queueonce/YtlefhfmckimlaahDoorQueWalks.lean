/-
  What New, Next and Count of package queue do, each as one law of its call.
-/
import Derived.Test.YtlefhfmckimlaahDoorQueOwn
import Derived.Test.YtlefhfmckimlaahDoorQueCheck
import Derived.BigQuiet
import Derived.Deep.QuietTactic
set_option linter.unusedVariables false
namespace Go.Proofs.YtlefhfmckimlaahDoor
open Go.RowKit Go.WideMaps Go.Maps

theorem lawI : Keyed Tryd.prog 3 := int_keyed Tryd.underlying3
theorem zeroI (w : World) : (zeroValue 3).run Tryd.prog w = .ok (.int .i64 0) w := by kernel_rfl
theorem keyI_of {k : Int} (h : (Lit.int .i64 k).wf = true) : keyOf Tryd.prog 3 (.int .i64 k) = some (keyI k) := keyOf_int_mk Tryd.underlying3 h
/-- a number's word in the map -/
theorem Qs.look {base S B : Nat} {w : World} {v : Value} {E : List QEnt} {n : Nat} {f : Int → Int} (h : Qs base w S B v E n f) {k : Int} (hk : (Lit.int .i64 k).wf = true) : (Instr.lookup 57 (.map (some B)) (.int .i64 k) false).run Tryd.prog w = .ok (.int .i64 (f k)) w := by
  obtain ⟨D, hD, hf⟩ := h.map
  obtain ⟨c, hr, hat, _⟩ := hD.lookup_int lawI Tryd.underlying57 Tryd.underlying3 (zeroI w) (keyI_of hk)
  rw [hf.said hat] at hr
  exact hr

theorem qnew (w : World) : Calls Tryd.prog 12 #[] w fun e w' => e = .returned (.pointer (some ⟨w.heap.size + 1, 0, none⟩)) ∧ w' = (w.alloc (.map #[] 0)).alloc (.cells #[.slice none 0 0, .map (some w.heap.size)] 59) := by
  have hmm := @run_makeMap Tryd.prog
  go_enter Tryd.func12, Tryd.ntmps12
  go_wp2
  go_ret
  exact ⟨rfl, rfl⟩
theorem Qs.new (w : World) {base : Nat} (hb : base ≤ w.heap.size) : Qs base ((w.alloc (.map #[] 0)).alloc (.cells #[.slice none 0 0, .map (some w.heap.size)] 59)) (w.heap.size + 1) w.heap.size (.slice none 0 0) [] 0 (fun _ => 0) := by
  refine ⟨Nat.le_succ_of_le hb, hb, ?_, winRow_nil _ _ _ _, (fun x hx => by cases hx), .map [], ?_, lasts_none⟩
  · have := heap_alloc_new (w.alloc (.map #[] 0)) (.cells #[.slice none 0 0, .map (some w.heap.size)] 59)
    simpa using this
  · exact (World.ownsMap_made w _ _ _).alloc _

theorem wfI {k : Int} (h1 : -1000001 ≤ k) (h2 : k ≤ 1000001) : (Lit.int .i64 k).wf = true := WalkArith.wf_i64 (by omega)

theorem qnext_bad (S : Nat) (k : Int) (w : World) (hk : k < 0 ∨ 1000000 < k) :
    Calls Tryd.prog 14 #[.pointer (some ⟨S, 0, none⟩), .int .i64 k] w fun e w' => e = .returned (.tuple #[.int .i64 0, errV 1]) ∧ w' = w := by
  have HW := isWho_no hk
  clear hk
  go_enter Tryd.func14, Tryd.ntmps14
  go_wp2_with fail
  refine (HW.out _).mono ?_
  rintro e w1 ⟨rfl, hw1⟩
  obtain rfl := hw1.symm
  go_wp2_with fail
  go_ret2
  exact ⟨rfl, rfl⟩
theorem qnext_ok {base S B : Nat} {w : World} {v : Value} {E : List QEnt} {n : Nat} {f : Int → Int} (h : Qs base w S B v E n f) (k : Int) (h1 : 0 ≤ k) (h2 : k ≤ 1000000) (hf : 0 ≤ f k ∧ f k ≤ 1000000) :
    Calls Tryd.prog 14 #[.pointer (some ⟨S, 0, none⟩), .int .i64 k] w fun e w' => e = .returned (.tuple #[.int .i64 (f k + 1), .nilIface]) ∧ w' = w := by
  have HW := isWho_yes h1 h2
  have c1 := h.c1
  have hl := h.look (wfI (k := k) (by omega) (by omega))
  obtain ⟨f1, f2⟩ := hf
  generalize f k = c at *
  clear h h1 h2
  go_enter Tryd.func14, Tryd.ntmps14
  go_wp2_with fail
  refine (HW.out _).mono ?_
  rintro e w1 ⟨rfl, hw1⟩
  obtain rfl := hw1.symm
  go_wp2_with fail
  go_ret2
  exact ⟨rfl, rfl⟩
theorem qcount {base S B : Nat} {w : World} {v : Value} {E : List QEnt} {n : Nat} {f : Int → Int} (h : Qs base w S B v E n f) :
    Calls Tryd.prog 15 #[.pointer (some ⟨S, 0, none⟩)] w fun e w' => e = .returned (.int .i64 E.length) ∧ w' = w := by
  obtain ⟨ao, cap, rfl⟩ := h.shape
  have c0 := h.c0
  obtain ⟨m, hm⟩ : ∃ m, m = E.length := ⟨_, rfl⟩
  rw [← hm] at c0 ⊢
  clear h hm
  go_enter Tryd.func15, Tryd.ntmps15
  go_wp2
  go_ret
  exact ⟨rfl, rfl⟩

end Go.Proofs.YtlefhfmckimlaahDoor
