/-
  The first part of SpaceKeeps: of two tuples the elder one is taken. Each step as one law of its call.
-/
import Derived.Test.YtlefhfmckimlaabDoorSpKeep
import Derived.Test.YtlefhfmckimlaabDoorErrTold
namespace Go.Proofs.YtlefhfmckimlaabDoor
open Go.RowKit

theorem putLit (base S : Nat) (v : Value) (L : List (List M.Val)) (x : M.Val) (w : World) (h : Space base w S v L) (hs : x.s.size ≤ maxLen) (hf : M.putF L [x] = 0) :
    Calls Tryd.prog 7 #[.pointer (some ⟨S, 0, none⟩), .slice (some ⟨w.heap.size, 0, none⟩) 1 1] (w.alloc (.cells #[.int .i64 x.k, .int .i64 x.n, .string x.s] 30)) fun e w' => e = .returned .nilIface ∧ (∃ v', Space base w' S v' (L ++ [[x]])) ∧ Below base w w' := by
  have hb := (Below.refl w.heap.size w).alloc (Nat.le_refl _) (.cells #[.int .i64 x.k, .int .i64 x.n, .string x.s] 30)
  have h' := Space.stays h hb
  have := put base S v _ [x] L _ h' (lit_vals w x hs)
  rw [hf, putL_yes hf] at this
  refine this.mono ?_
  rintro e w' ⟨rfl, v', h1, h2, _⟩
  exact ⟨rfl, ⟨v', h1⟩, (hb.mono (Nat.le_trans h.lo (Nat.le_of_lt h.cell.2.2))).trans (Sp.below h' h2 (Nat.le_refl _))⟩

def M.one : M.Val := ⟨0, 1, ⟨#[]⟩⟩
def M.two : M.Val := ⟨0, 2, ⟨#[]⟩⟩
def M.any : M.Val := ⟨2, 0, ⟨#[]⟩⟩
theorem one_put : M.putF [] [M.one] = 0 := by decide
theorem two_put : M.putF ([] ++ [[M.one]]) [M.two] = 0 := by decide
theorem any_like : M.likeF [M.any] = 0 := by decide
theorem any_fit : M.fitAll [M.any] [M.one] = true := by simp [M.fitAll, M.fit1, M.any]
theorem any_get : M.getF [M.any] [[M.one], [M.two]] = 0 ∧ M.getV [M.any] [[M.one], [M.two]] = [M.one] ∧ M.lessL [M.any] [[M.one], [M.two]] = [[M.two]] := get_app (K := []) (D := [[M.two]]) any_like (fun j hj => by simp at hj) any_fit
theorem fine_one : M.Fine [[M.one], [M.two]] := ⟨fun t ht => by
  rcases List.mem_cons.1 ht with rfl | ht
  · decide
  · rw [List.mem_singleton.1 ht]; decide, by decide⟩
theorem fine_two : M.Fine [[M.two]] := ⟨fun t ht => by rw [List.mem_singleton.1 ht]; decide, by decide⟩

theorem space0 (w : World) : Space w.heap.size (w.alloc (.cells #[.slice none 0 0] 52)) w.heap.size (.slice none 0 0) [] := ⟨Nat.le_refl _, heap_alloc_new w _, RowOf.nil _ _ _⟩
theorem putOne (base S : Nat) (v : Value) (w : World) (h : Space base w S v []) :
    Calls Tryd.prog 7 #[.pointer (some ⟨S, 0, none⟩), .slice (some ⟨w.heap.size, 0, none⟩) 1 1] (w.alloc (.cells #[.int .i64 0, .int .i64 1, .string ⟨#[]⟩] 30)) fun e w' => e = .returned .nilIface ∧ (∃ v', Space base w' S v' [[M.one]]) ∧ Below base w w' := putLit base S v [] M.one w h (by decide) one_put
theorem putTwo (base S : Nat) (v : Value) (w : World) (h : Space base w S v [[M.one]]) :
    Calls Tryd.prog 7 #[.pointer (some ⟨S, 0, none⟩), .slice (some ⟨w.heap.size, 0, none⟩) 1 1] (w.alloc (.cells #[.int .i64 0, .int .i64 2, .string ⟨#[]⟩] 30)) fun e w' => e = .returned .nilIface ∧ (∃ v', Space base w' S v' [[M.one], [M.two]]) ∧ Below base w w' := putLit base S v [[M.one]] M.two w h (by decide) two_put
theorem takeAny (base S : Nat) (v : Value) (w : World) (h : Space base w S v [[M.one], [M.two]]) :
    Calls Tryd.prog 8 #[.pointer (some ⟨S, 0, none⟩), .slice (some ⟨w.heap.size, 0, none⟩) 1 1] (w.alloc (.cells #[.int .i64 2, .int .i64 0, .string ⟨#[]⟩] 30)) fun e w' => ∃ g c, e = .returned (.tuple #[.slice (some ⟨g, 0, none⟩) 1 c, .nilIface]) ∧ w'.cell? ⟨g, 1, none⟩ = some (.int .i64 1) ∧ (∃ v', Space base w' S v' [[M.two]]) ∧ Below base w w' := by
  have hb := (Below.refl w.heap.size w).alloc (Nat.le_refl _) (.cells #[.int .i64 2, .int .i64 0, .string ⟨#[]⟩] 30)
  have h' := Space.stays h hb
  have := take base S v _ [M.any] [[M.one], [M.two]] _ h' fine_one (lit_vals w M.any (by decide))
  rw [any_get.1, any_get.2.1, any_get.2.2] at this
  refine this.mono ?_
  rintro e w' ⟨r, v', rfl, h1, h2, h3, _⟩
  obtain ⟨g, c, rfl, _⟩ := h1.1.form (by decide)
  refine ⟨g, c, rfl, ?_, ⟨v', h2⟩, (hb.mono (Nat.le_trans h.lo (Nat.le_of_lt h.cell.2.2))).trans (Sp.below h' h3 (Nat.le_refl _))⟩
  have := h1.1.cellAt 1 (by decide)
  rw [this]; rfl
theorem allTwo (base S : Nat) (v : Value) (w : World) (h : Space base w S v [[M.two]]) :
    Calls Tryd.prog 9 #[.pointer (some ⟨S, 0, none⟩)] w fun e w' => ∃ ao cap, e = .returned (.slice ao 1 cap) ∧ Below base w w' := by
  refine (all base S v [[M.two]] w h fine_two).mono ?_
  rintro e w' ⟨ao, cap, rfl, _, hb⟩
  exact ⟨ao, cap, rfl, hb.mono (Nat.le_trans h.lo (Nat.le_of_lt h.cell.2.2))⟩

end Go.Proofs.YtlefhfmckimlaabDoor
