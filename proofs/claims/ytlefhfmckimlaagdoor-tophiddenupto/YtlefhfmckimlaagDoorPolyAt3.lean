/-
  What At of package poly answers, whatever comes in, as one law of its call.
-/
import Derived.Test.YtlefhfmckimlaagDoorPolyAt2
set_option linter.unusedVariables false
namespace Go.Proofs.YtlefhfmckimlaagDoor
open Go.RowKit

theorem atFac (a : Option Addr) (n cap : Nat) (p : List Int) (x : Int) (w : World) (hn : n = p.length) (hm : n ≤ maxLen) (hl : AtI w a p) (hf : M.facE p ≠ 0) :
    Calls Tryd.prog 77 #[.slice a n cap, .int .i64 x] w fun e w' => e = .returned (.tuple #[.int .i64 0, .iface 64 (.int .i64 (M.facE p))]) ∧ Below w.heap.size w w' := by
  have HC : Hid (∀ w1, Below w.heap.size w w1 → Calls Tryd.prog 87 #[.slice a n cap] w1 fun e w' => e = .returned (.iface 64 (.int .i64 (M.facE p))) ∧ w' = w1) := hide fun w1 hb => by
    have := checkFac a n cap p w1 hn hm (hl.stays hb (Nat.le_refl _))
    rwa [errV_bad hf] at this
  clear hn hm hl hf
  go_enter Tryd.func77, Tryd.ntmps77
  go_wp2_with fail
  refine (unhide HC _ ((Below.refl _ w).alloc (Nat.le_refl _) _)).mono ?_
  rintro e w1 ⟨rfl, rfl⟩
  go_wp2_with fail
  go_ret2
  exact ⟨rfl, (Below.refl _ _).alloc (Nat.le_refl _) _⟩

theorem atX (a : Option Addr) (n cap : Nat) (p : List Int) (x : Int) (w : World) (hn : n = p.length) (hm : n ≤ maxLen) (hl : AtI w a p) (hf : M.facE p = 0) (hx : x < 0 ∨ 257 ≤ x) :
    Calls Tryd.prog 77 #[.slice a n cap, .int .i64 x] w fun e w' => e = .returned (.tuple #[.int .i64 0, .iface 64 (.int .i64 1)]) ∧ Below w.heap.size w w' := by
  have HC : Hid (∀ w1, Below w.heap.size w w1 → Calls Tryd.prog 87 #[.slice a n cap] w1 fun e w' => e = .returned .nilIface ∧ w' = w1) := hide fun w1 hb => by
    have := checkFac a n cap p w1 hn hm (hl.stays hb (Nat.le_refl _))
    rwa [hf] at this
  have HX := hide hx
  clear hn hm hl hf hx
  go_enter Tryd.func77, Tryd.ntmps77
  go_wp2_with fail
  refine (unhide HC _ ((Below.refl _ w).alloc (Nat.le_refl _) _)).mono ?_
  rintro e w1 ⟨rfl, rfl⟩
  go_wp2_with fail
  refine (Md.isNo x _ HX.out).mono ?_
  rintro e w1 ⟨rfl, rfl⟩
  go_wp2_with fail
  go_ret2
  exact ⟨rfl, (Below.refl _ _).alloc (Nat.le_refl _) _⟩

theorem pAt (a : Option Addr) (n cap : Nat) (p : List Int) (x : Int) (w : World) (hn : n = p.length) (hm : n ≤ maxLen) (hl : AtI w a p) :
    Calls Tryd.prog 77 #[.slice a n cap, .int .i64 x] w fun e w' => e = .returned (.tuple #[.int .i64 (M.atR p x), errV (M.atE p x)]) ∧ Below w.heap.size w w' := by
  by_cases hf : M.facE p = 0
  · cases hx : M.inR x
    · have h := M.atE_x hf hx
      rw [M.atR_bad (by rw [h]; decide), h]
      exact atX a n cap p x w hn hm hl hf (M.inR_no hx)
    · have h := M.atE_0 hf hx
      rw [M.atR_ok h, h]
      exact atOk a n cap p x w hn hm hl hf (M.inR_yes hx).1 (M.inR_yes hx).2
  · have h := M.atE_fac (x := x) hf
    rw [M.atR_bad (by rw [h]; exact hf), h, errV_bad hf]
    exact atFac a n cap p x w hn hm hl hf

end Go.Proofs.YtlefhfmckimlaagDoor
