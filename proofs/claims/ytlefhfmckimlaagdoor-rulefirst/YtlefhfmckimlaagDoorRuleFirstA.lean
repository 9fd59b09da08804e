/-
  The walk of the Go function RuleFirst: it returns true, whatever comes in, if the library's error type reads as its text lays it and the rules are not too many for any memory.
-/
import Derived.Test.YtlefhfmckimlaagDoorRuleFind
import Derived.Test.YtlefhfmckimlaagDoorRuleOwn
import Derived.Test.YtlefhfmckimlaagDoorAppTidy
import Derived.Test.YtlefhfmckimlaagDoorErrTold
import Derived.Deep.AppendLies
import Derived.Deep.RegionWith
import Derived.Deep.DeepCutAuto
import Derived.Deep.CutBlock
set_option linter.unusedVariables false
namespace Go.Proofs.YtlefhfmckimlaagDoor.ruleFirst
open Go.RowKit

theorem parts {e : TypeId} {z : Value} {s b : Nat} (h : (Tryd.prog.info? e).map (fun i => (i.zero, i.size, i.bytes)) = some (some z, s, b)) : ∃ i, Tryd.prog.info? e = some i ∧ i.zero = some z ∧ i.size = s ∧ i.bytes = b := by
  cases hi : Tryd.prog.info? e with
  | none => rw [hi] at h; cases h
  | some i =>
    rw [hi] at h
    simp only [Option.map_some, Option.some.injEq, Prod.mk.injEq] at h
    exact ⟨i, rfl, h.1, h.2.1, h.2.2⟩

theorem lit_val (w : World) (v : M.Val) (hs : v.s.size ≤ maxLen) : IsVals (w.alloc (.cells #[.int .i64 v.k, .int .i64 v.n, .string v.s] 29)) (.slice (some ⟨w.heap.size, 0, none⟩) 1 1) [v] := by
  refine Or.inr (Or.inr ⟨w.heap.size, 0, 1, by simp, rfl, by simp, by unfold maxLen; decide, lie_of_cells (fun x hx => by simp at hx; subst hx; exact hs) fun j u hu => ?_⟩)
  exact World.news_of_block (heap_alloc_new w _) j u hu

/-- the law's own rule, and its tuple -/
def oneR : List M.Rul := [⟨0, 3, [⟨2, 0, ⟨#[]⟩⟩], true⟩]
def oneT : List M.Val := [⟨0, 1, ⟨#[]⟩⟩]
theorem oneE (who : Int) (h : who = 3 ∨ who = 4) : M.mayE oneR who 0 oneT = 0 := by
  rcases h with rfl | rfl <;> decide +kernel
theorem one3 : M.mayR oneR 3 0 oneT = true := by decide +kernel
theorem one4 : M.mayR oneR 4 0 oneT = false := by decide +kernel

/-- the world behind the law's own rule -/
abbrev W2 (w : World) : World := (w.alloc (.cells #[.int .i64 2, .int .i64 0, .string ⟨#[]⟩] 29)).alloc (.cells #[.int .i64 0, .int .i64 3, .slice (some ⟨w.heap.size, 0, none⟩) 1 1, .bool true] 58)
theorem W2_below (w : World) : Below w.heap.size w (W2 w) := ((Below.refl _ _).alloc (Nat.le_refl _) _).alloc (by simp) _
theorem W2_rule (w : World) : AtR (W2 w) (some ⟨w.heap.size + 1, 0, none⟩) oneR := by
  have h1 := lit_val w ⟨2, 0, ⟨#[]⟩⟩ (by unfold maxLen; decide)
  have h2 : IsVals (W2 w) (.slice (some ⟨w.heap.size, 0, none⟩) 1 1) [⟨2, 0, ⟨#[]⟩⟩] := h1.stays ((Below.refl _ _).alloc (Nat.le_refl _) _) (Nat.le_refl _)
  have h3 := World.ownsRow_lit (base := w.heap.size) (e := 58) (size := 4) (w.alloc (.cells #[.int .i64 2, .int .i64 0, .string ⟨#[]⟩] 29)) #[.int .i64 0, .int .i64 3, .slice (some ⟨w.heap.size, 0, none⟩) 1 1, .bool true] 1 (by simp) (by unfold maxLen; decide) rfl
  obtain ⟨a, c, e, h4⟩ := atR_own (l := oneR) rfl (rowR_one (w := W2 w) ⟨0, 3, [⟨2, 0, ⟨#[]⟩⟩], true⟩ h2) h3
  cases e
  simpa using h4

theorem start (w wx : World) (hb : Below (W2 w).heap.size (W2 w) wx) (who : Int) (h : who = 3 ∨ who = 4) :
    Calls Tryd.prog 25 #[.slice (some ⟨w.heap.size + 1, 0, none⟩) 1 1, .int .i64 who, .int .i64 0, .slice (some ⟨wx.heap.size, 0, none⟩) 1 1] (wx.alloc (.cells #[.int .i64 0, .int .i64 1, .string ⟨#[]⟩] 29)) fun e w' => e = .returned (.tuple #[.bool (M.mayR oneR who 0 oneT), .nilIface]) ∧ Below (W2 w).heap.size (W2 w) w' := by
  have b1 : Below wx.heap.size wx (wx.alloc (.cells #[.int .i64 0, .int .i64 1, .string ⟨#[]⟩] 29)) := (Below.refl _ _).alloc (Nat.le_refl _) _
  have b2 := hb.trans (b1.mono hb.size)
  have h1 := rMay (some ⟨w.heap.size + 1, 0, none⟩) 1 1 oneR who 0 _ oneT _ rfl (by unfold maxLen; decide) ((W2_rule w).stays b2 (Nat.le_refl _)) (lit_val wx ⟨0, 1, ⟨#[]⟩⟩ (by unfold maxLen; decide))
  rw [oneE who h] at h1
  exact h1.mono fun e w' ⟨he, hw⟩ => ⟨he, b2.trans (hw.mono b2.size)⟩
theorem W2_size (w : World) : (W2 w).heap.size = w.heap.size + 1 + 1 := by simp
theorem start1 (w : World) :
    Calls Tryd.prog 25 #[.slice (some ⟨w.heap.size + 1, 0, none⟩) 1 1, .int .i64 3, .int .i64 0, .slice (some ⟨w.heap.size + 1 + 1, 0, none⟩) 1 1] ((W2 w).alloc (.cells #[.int .i64 0, .int .i64 1, .string ⟨#[]⟩] 29)) fun e w' => e = .returned (.tuple #[.bool true, .nilIface]) ∧ Below (w.heap.size + 1 + 1) (W2 w) w' := by
  have h := start w (W2 w) (Below.refl _ _) 3 (Or.inl rfl)
  rwa [one3, W2_size] at h
theorem start2 (w wx : World) (hb : Below (w.heap.size + 1 + 1) (W2 w) wx) :
    Calls Tryd.prog 25 #[.slice (some ⟨w.heap.size + 1, 0, none⟩) 1 1, .int .i64 4, .int .i64 0, .slice (some ⟨wx.heap.size, 0, none⟩) 1 1] (wx.alloc (.cells #[.int .i64 0, .int .i64 1, .string ⟨#[]⟩] 29)) fun e w' => e = .returned (.tuple #[.bool false, .nilIface]) ∧ Below w.heap.size w w' := by
  have h := start w wx (by rw [W2_size]; exact hb) 4 (Or.inr rfl)
  rw [one4] at h
  exact h.mono fun e w' ⟨he, hw⟩ => ⟨he, (W2_below w).trans (hw.mono (W2_below w).size)⟩

end Go.Proofs.YtlefhfmckimlaagDoor.ruleFirst
