/-
  For the Go function LogKeeps: a block of its text by its number; what a Sync does; the rows' kinds.
-/
import Derived.Test.YtlefhfmckimlaakGreatDoorLogKeepsB
import Derived.Test.YtlefhfmckimlaakGreatDoorJErr
set_option linter.unusedVariables false
namespace Go.Proofs.YtlefhfmckimlaakGreatDoor.logKeeps
open Go.RowKit

/-- a block of a function's text, by its number -/
def blockAt (n : Nat) : Code → Option Code
  | .block m c => if m = n then some (.block m c) else blockAt n c
  | .seq a b => match blockAt n a with
    | some c => some c
    | none => blockAt n b
  | .loop c => blockAt n c
  | .cond _ a b => match blockAt n a with
    | some c => some c
    | none => blockAt n b
  | _ => none
/-- what is left of a text from a region on -/
def tailAt (n : Nat) : Code → Option Code
  | .seq (.region m ops d) b => if m = n then some (.seq (.region m ops d) b) else tailAt n b
  | .seq _ b => tailAt n b
  | .block _ c => tailAt n c
  | _ => none
theorem infoPC : (Tryz.prog.info? 46).map (fun i => (i.zero, i.size, i.bytes)) = some (some (.pointer none), 1, 8) := by kernel_rfl
theorem infoIn : (Tryz.prog.info? 3).map (fun i => (i.zero, i.size, i.bytes)) = some (some (.int .i64 0), 1, 8) := by kernel_rfl
theorem sync_ways (g : M.Lg) : ((M.lgSync g).1 ≠ 0 ∨ ((M.lgSync g).1 = 0 ∧ (M.lgSync g).2.safe = (M.lgSync g).2.bytes)) ∧ (M.lgSync g).2.cs = g.cs ∧ (M.lgSync g).2.ms = g.ms := by
  unfold M.lgSync
  split
  · exact ⟨Or.inl (by simp), rfl, rfl⟩
  · split
    · exact ⟨Or.inl (by simp), rfl, rfl⟩
    · exact ⟨Or.inr ⟨rfl, rfl⟩, rfl, rfl⟩
theorem Lk.same {w0 w : World} {J : Nat} {dv mv : Value} {p : Nat} {Cs : Nat → Nat} {cl : List M.Cop} {ml : List Nat} {g : M.Lg} {ra : Option Addr} {rn rc : Nat} {R : List M.Rul} (h : Lk w0 w J dv mv p Cs cl ml g ra rn rc R) (hg : Hand w0) (E d : Int) : Calls Tryz.prog 16 #[errV E, .int .i64 d] w fun e w' => e = .returned (.bool (E == d)) ∧ Lk w0 w' J dv mv p Cs cl ml g ra rn rc R :=
  (sameErr E d w (hg.stays h.bel (Nat.le_refl _))).mono fun _ _ he => ⟨he.1, h.quiet he.2⟩

section
variable {w0 w w' : World} {J : Nat} {dv mv : Value} {p : Nat} {Cs : Nat → Nat} {cl : List M.Cop} {ml : List Nat} {g : M.Lg} {ra : Option Addr} {rn rc : Nat} {R : List M.Rul}
theorem Lk.rowD (h : Lk w0 w J dv mv p Cs cl ml g ra rn rc R) : w.ownsRow w0.heap.size 46 1 dv p (ptrC p Cs) := by
  obtain ⟨FJ, Fs, h⟩ := h
  exact h.dn
theorem Lk.rowM (h : Lk w0 w J dv mv p Cs cl ml g ra rn rc R) : w.ownsRow w0.heap.size 3 1 mv ml.length (cellsN ml) := by
  obtain ⟨FJ, Fs, h⟩ := h
  exact h.mks
theorem Lk.addD {o : Obj} {dc' gd : Nat} {da : Option Addr} {dcap : Nat} (h : Lk w0 w J (.slice da p dcap) mv p Cs cl ml g ra rn rc R) (hp : p < cl.length) (hg : (w.alloc o).grownBy w' (Value.slice da p dcap).ownBlock) (ho : w'.ownsRow w0.heap.size 46 1 (.slice (some ⟨gd, 0, none⟩) (p + 1) dc') (p + 1) (ptrC p Cs ++ [.pointer (some ⟨Cs p, 0, none⟩)])) (hat : (Value.slice da p dcap).ownBlock = some gd ∨ gd = w.heap.size + 1) : Lk w0 w' J (.slice (some ⟨gd, 0, none⟩) (p + 1) dc') mv (p + 1) Cs cl ml g ra rn rc R := by
  obtain ⟨FJ, Fs, h⟩ := h
  exact ⟨FJ, Fs, LkX.addD (dn' := 0) h hp hg ho hat⟩
theorem Lk.addM {o : Obj} {mc' gm : Nat} {ma : Option Addr} {mcap mn : Nat} {z : Nat} (h : Lk w0 w J dv (.slice ma mn mcap) p Cs cl ml g ra rn rc R) (hl : ml.length = mn) (hg : (w.alloc o).grownBy w' (Value.slice ma mn mcap).ownBlock) (ho : w'.ownsRow w0.heap.size 3 1 (.slice (some ⟨gm, 0, none⟩) (mn + 1) mc') (mn + 1) (cellsN ml ++ [.int .i64 z])) (hat : (Value.slice ma mn mcap).ownBlock = some gm ∨ gm = w.heap.size + 1) : Lk w0 w' J dv (.slice (some ⟨gm, 0, none⟩) (mn + 1) mc') p Cs cl (ml ++ [z]) g ra rn rc R := by
  obtain ⟨FJ, Fs, h⟩ := h
  exact ⟨FJ, Fs, LkX.addM h hl hg ho hat⟩
end

end Go.Proofs.YtlefhfmckimlaakGreatDoor.logKeeps
