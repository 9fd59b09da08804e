/-
  What New, Part and True of package vault do, each as one law of its call.
-/
import Derived.Test.YtmhkngceeeibpajGreatDoorVltOwn
import Derived.Test.YtmhkngceeeibpajGreatDoorJProof
import Derived.Test.YtmhkngceeeibpajGreatDoorJVal
import Derived.WalkSmall
import Derived.Deep.RegionHeld3
set_option linter.unusedVariables false
namespace Go.Proofs.YtmhkngceeeibpajGreatDoor
open Go.RowKit Go.WideMaps Go.Maps

theorem vNew_bad (many need : Int) (w : World) (h : many < 1 ∨ 7 < many ∨ need < 1 ∨ many < need) :
    Calls Tryz.prog 5 #[.int .i64 many, .int .i64 need] w fun e w' => e = .returned (.tuple #[.pointer none, .iface 50 (.int .i64 1)]) ∧ w' = w := by
  have hx : many < 1 ∨ (¬ many < 1 ∧ 7 < many) ∨ (¬ many < 1 ∧ ¬ 7 < many ∧ need < 1) ∨ (¬ many < 1 ∧ ¬ 7 < many ∧ ¬ need < 1 ∧ many < need) := by omega
  clear h
  rcases hx with h1 | ⟨h1, h2⟩ | ⟨h1, h2, h3⟩ | ⟨h1, h2, h3, h4⟩
  all_goals
    go_enter Tryz.func5, Tryz.ntmps5
    go_wp2_with fail
    go_ret2
    exact ⟨rfl, rfl⟩
theorem Vt.made {base : Nat} {w : World} (hb : base ≤ w.heap.size) (many need : Nat) :
    Vt base ((w.alloc (.map #[] 0)).alloc (.cells #[.int .i64 many, .int .i64 need, .map (some w.heap.size)] 53)) (w.heap.size + 1) w.heap.size (M.Vlt.new many need) (fun _ => (nilS, nilS)) := by
  refine ⟨by omega, hb, ?_, ⟨.map [], ?_, holds_none⟩, fun a p h => by cases h⟩
  · have := heap_alloc_new (w.alloc (.map #[] 0)) (.cells #[.int .i64 many, .int .i64 need, .map (some w.heap.size)] 53)
    rw [show (w.alloc (.map #[] 0)).heap.size = w.heap.size + 1 by simp] at this
    exact this
  · exact (World.ownsMap_made w Tryz.prog 9 heldV).alloc _
theorem vNew_ok (base many need : Nat) (w : World) (hb : base ≤ w.heap.size) (h1 : 1 ≤ need) (h2 : need ≤ many) (h7 : many ≤ 7) :
    Calls Tryz.prog 5 #[.int .i64 many, .int .i64 need] w fun e w' => ∃ V F, e = .returned (.tuple #[.pointer (some ⟨V, 0, none⟩), .nilIface]) ∧ VtIs base w' F V (M.Vlt.new many need) ∧ (∀ i, F i → w.heap.size ≤ i) ∧ Below w.heap.size w w' := by
  have HV := hide (Vt.made (w := w) hb many need)
  have hmm := @run_makeMap Tryz.prog
  have n1 : ¬ (many : Int) < 1 := by omega
  have n2 : ¬ (7 : Int) < (many : Int) := by omega
  have n3 : ¬ (need : Int) < 1 := by omega
  have n4 : ¬ (many : Int) < (need : Int) := by omega
  clear hb
  go_enter Tryz.func5, Tryz.ntmps5
  go_wp2_with fail
  go_ret2
  refine ⟨_, rfl, _, ⟨M.Vlt.new_ok h1 h2 h7, _, _, rfl, HV.out⟩, fun i hi => ?_, ((Below.refl _ _).alloc (Nat.le_refl _) _).alloc (by simp) _⟩
  rcases hi with rfl | rfl | ⟨a, p, hp, _⟩
  · exact Nat.le_succ _
  · exact Nat.le_refl _
  · cases hp

theorem vPlace (V many : Nat) (x : Int) (w : World) (hV : w.cell? ⟨V, 0, none⟩ = some (.int .i64 many)) :
    Calls Tryz.prog 18 #[.pointer (some ⟨V, 0, none⟩), .int .i64 x] w fun e w' => e = .returned (.bool (M.placeB many x)) ∧ w' = w := by
  have hVl : V < w.heap.size := World.block_lt_of_cell? w _ hV
  by_cases h1 : 1 ≤ x
  · by_cases h2 : x ≤ (many : Int)
    · rw [M.placeB_yes h1 h2]
      go_enter Tryz.func18, Tryz.ntmps18
      go_wp2
      go_ret
      exact ⟨by simp, rfl⟩
    · rw [M.placeB_no (by omega)]
      go_enter Tryz.func18, Tryz.ntmps18
      go_wp2
      go_ret
      exact ⟨by simp, rfl⟩
  · rw [M.placeB_no (by omega)]
    go_enter Tryz.func18, Tryz.ntmps18
    go_wp2
    go_ret
    exact ⟨by simp, rfl⟩


end Go.Proofs.YtmhkngceeeibpajGreatDoor
