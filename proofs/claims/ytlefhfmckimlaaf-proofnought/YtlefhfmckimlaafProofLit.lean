/-
  Commits of numbers that are written down, as one law of the call.
-/
import Derived.Test.YtlefhfmckimlaafProofCommit
set_option linter.unusedVariables false
namespace Go.Proofs.Ytlefhfmckimlaaf
open Go.RowKit

theorem atI_lit {w : World} {B : Nat} {l : List Int} (h : ∀ i (hi : i < l.length), w.cell? ⟨B, i, none⟩ = some (.int .i64 l[i])) : AtI w (some ⟨B, 0, none⟩) l := fun _ => ⟨B, 0, rfl, fun i hi => by rw [Nat.zero_add]; exact h i hi⟩

theorem com_one {z r : Int} (hz : M.comE [z] = 0) (hr : M.commits [z] = [r]) (wx : World) (B : Nat) (hc : wx.cell? ⟨B, 0, none⟩ = some (.int .i64 z)) :
    Calls Try.prog 7 #[.slice (some ⟨B, 0, none⟩) 1 1] wx fun e w' => (∃ b off c, e = .returned (.tuple #[.slice (some ⟨b, off, none⟩) 1 c, .nilIface]) ∧ w'.cell? ⟨b, off, none⟩ = some (.int .i64 r)) ∧ Below wx.heap.size wx w' := by
  have := pCommit (some ⟨B, 0, none⟩) 1 1 [z] wx rfl (by decide) (atI_lit fun i hi => by
    obtain rfl : i = 0 := by simpa using hi
    simpa using hc)
  rw [hz, M.comR_ok hz, hr] at this
  refine this.mono ?_
  rintro e w' ⟨⟨v, k, c, rfl, hk, _, _, hat⟩, hb⟩
  obtain ⟨b, off, rfl, hlie⟩ := hat (by simp)
  have h0 := hlie 0 (by simp)
  exact ⟨⟨b, off, c, by rw [hk]; rfl, by simpa using h0⟩, hb⟩

theorem com_three {z0 z1 z2 r0 r1 r2 : Int} (hz : M.comE [z0, z1, z2] = 0) (hr : M.commits [z0, z1, z2] = [r0, r1, r2]) (wx : World) (B : Nat) (h0 : wx.cell? ⟨B, 0, none⟩ = some (.int .i64 z0)) (h1 : wx.cell? ⟨B, 1, none⟩ = some (.int .i64 z1)) (h2 : wx.cell? ⟨B, 2, none⟩ = some (.int .i64 z2)) :
    Calls Try.prog 7 #[.slice (some ⟨B, 0, none⟩) 3 3] wx fun e w' => (∃ b off c, e = .returned (.tuple #[.slice (some ⟨b, off, none⟩) 3 c, .nilIface]) ∧ w'.cell? ⟨b, off, none⟩ = some (.int .i64 r0) ∧ w'.cell? ⟨b, off + 1, none⟩ = some (.int .i64 r1) ∧ w'.cell? ⟨b, off + 2, none⟩ = some (.int .i64 r2)) ∧ Below wx.heap.size wx w' := by
  have := pCommit (some ⟨B, 0, none⟩) 3 3 [z0, z1, z2] wx rfl (by decide) (atI_lit fun i hi => by
    match i, hi with
    | 0, _ => exact h0
    | 1, _ => exact h1
    | 2, _ => exact h2
    | i + 3, hi => simp at hi; omega)
  rw [hz, M.comR_ok hz, hr] at this
  refine this.mono ?_
  rintro e w' ⟨⟨v, k, c, rfl, hk, _, _, hat⟩, hb⟩
  obtain ⟨b, off, rfl, hlie⟩ := hat (by simp)
  have g0 := hlie 0 (by simp)
  have g1 := hlie 1 (by simp)
  have g2 := hlie 2 (by simp)
  exact ⟨⟨b, off, c, by rw [hk]; rfl, by simpa using g0, by simpa using g1, by simpa using g2⟩, hb⟩

end Go.Proofs.Ytlefhfmckimlaaf
