/-
  Where the Go function CopyTwice stands: its own first copy by two rules, and then two copies beside each other, with a law a call.
-/
import Derived.Test.YtlefhfmckimlaaiDoorJ30A
import Derived.Test.YtlefhfmckimlaaiDoorJ31A
import Derived.Test.YtlefhfmckimlaaiDoorJ29A
set_option linter.unusedVariables false
namespace Go.Proofs.YtlefhfmckimlaaiDoor.copyTwice
open Go.RowKit

/-- the law's own tuples and rules -/
def anyV : M.Val := ⟨2, 0, ⟨#[]⟩⟩
def fourV : M.Val := ⟨0, 4, ⟨#[]⟩⟩
def R2 : List M.Rul := [⟨0, -1, [anyV], true⟩, ⟨2, -1, [anyV], true⟩]
def x1 : M.Ask := ⟨1, 1, 0, [fourV]⟩
def x2 : M.Ask := ⟨1, 2, 2, [anyV]⟩
def c1 : M.Cop := (M.doR R2 M.Cop.new x1).2.2
def c2 : M.Cop := (M.doR R2 c1 x2).2.2
theorem fine2 : M.rulE R2 = 0 := by decide +kernel
theorem do1 : (M.doR R2 M.Cop.new x1).1 = 0 ∧ (M.doR R2 M.Cop.new x1).2.1 = ⟨#[111, 107]⟩ := ⟨by decide +kernel, by kernel_rfl⟩
theorem do2 : (M.doR R2 c1 x2).1 = 0 ∧ (M.doR R2 c1 x2).2.1 = ⟨#[52]⟩ := ⟨by decide +kernel, by kernel_rfl⟩
theorem ok1 : c1.Ok := M.Cop.new_ok.next
theorem do3 : M.doR R2 c2 x2 = (0, ⟨#[52]⟩, c2) := by
  have h := M.doR_twice (R := R2) (a := x2) ok1 do2.1
  rw [do2.2] at h
  exact h
theorem many2 : c2.n = 2 := by kernel_rfl

/-- the blocks of the law's own -/
abbrev Sv : Obj := .cells #[.int .i64 2, .int .i64 0, .string ⟨#[]⟩] 25
abbrev Fv : Obj := .cells #[.int .i64 0, .int .i64 4, .string ⟨#[]⟩] 25
abbrev Rv (b : Nat) : Obj := .cells #[.int .i64 0, .int .i64 (-1), .slice (some ⟨b, 0, none⟩) 1 1, .bool true, .int .i64 2, .int .i64 (-1), .slice (some ⟨b, 0, none⟩) 1 1, .bool true] 33
theorem own_any (w : World) : OwnT w.heap.size (w.alloc Sv) (.slice (some ⟨w.heap.size, 0, none⟩) 1 1) [anyV] :=
  ⟨World.ownsRow_lit (base := w.heap.size) (e := 25) (size := 3) w #[.int .i64 2, .int .i64 0, .string ⟨#[]⟩] 1 (Nat.le_refl _) (by unfold maxLen; decide) rfl, fun x hx => by
    rw [List.mem_singleton.1 hx]; unfold maxLen; decide⟩
theorem rules2 (w : World) : AtR ((w.alloc Sv).alloc (Rv w.heap.size)) (some ⟨w.heap.size + 1, 0, none⟩) R2 := by
  have h2 : IsVals ((w.alloc Sv).alloc (Rv w.heap.size)) (.slice (some ⟨w.heap.size, 0, none⟩) 1 1) [anyV] := (own_any w).vals.stays ((Below.refl _ _).alloc (Nat.le_refl _) _) (Nat.le_refl _)
  have h3 := World.ownsRow_lit (base := w.heap.size) (e := 33) (size := 4) (w.alloc Sv) #[.int .i64 0, .int .i64 (-1), .slice (some ⟨w.heap.size, 0, none⟩) 1 1, .bool true, .int .i64 2, .int .i64 (-1), .slice (some ⟨w.heap.size, 0, none⟩) 1 1, .bool true] 2 (by simp) (by unfold maxLen; decide) rfl
  obtain ⟨a, c, e, h4⟩ := atR_own (l := R2) rfl (show RowR ((w.alloc Sv).alloc (Rv w.heap.size)) _ R2 from ⟨_, _, rfl, h2, _, _, rfl, h2, rfl⟩) h3
  cases e
  simpa using h4

/-- the first copy -/
structure On (w0 w : World) (C : Nat) (c : M.Cop) : Prop where
  is : ∃ F, CpIs w0.heap.size w F C c R2
  star : OwnT w0.heap.size w (.slice (some ⟨w0.heap.size, 0, none⟩) 1 1) [anyV]
  bel : Below w0.heap.size w0 w
  tab : Tab w0
section
variable {w0 w w' : World} {C : Nat} {c : M.Cop}
theorem On.tabs (h : On w0 w C c) : TabFrom w0.heap.size w := fun wx hb => h.tab.stays (h.bel.trans hb) (Nat.le_refl _)
theorem On.quiet (h : On w0 w C c) (hb : Below w.heap.size w w') : On w0 w' C c := by
  obtain ⟨F, h1⟩ := h.is
  exact ⟨⟨F, h1.quiet hb⟩, h.star.solid (Solid.below hb), h.bel.trans (hb.mono h.bel.size), h.tab⟩
theorem On.new (w0 : World) (ht : Tab w0) :
    Calls Tryd.prog 7 #[.slice (some ⟨w0.heap.size + 1, 0, none⟩) 2 2] ((w0.alloc Sv).alloc (Rv w0.heap.size)) fun e w' => ∃ C, e = .returned (.tuple #[.pointer (some ⟨C, 0, none⟩), .nilIface]) ∧ On w0 w' C M.Cop.new := by
  have hb : Below w0.heap.size w0 ((w0.alloc Sv).alloc (Rv w0.heap.size)) := ((Below.refl _ _).alloc (Nat.le_refl _) _).alloc (by simp) _
  refine (mNew_ok w0.heap.size (some ⟨w0.heap.size + 1, 0, none⟩) 2 2 R2 _ hb.size rfl (by unfold maxLen; decide) (rules2 w0) fine2).mono ?_
  rintro e w' ⟨C, F, rfl, h1, _, h3⟩
  exact ⟨C, rfl, ⟨F, h1⟩, ((own_any w0).solid (Solid.below ((Below.refl _ _).alloc (Nat.le_refl _) _))).solid (Solid.below h3), hb.trans (h3.mono hb.size), ht⟩
theorem On.do {a : Option Addr} {n cp : Nat} (x : M.Ask) (h : On w0 w C c) (hv : IsVals w (.slice a n cp) x.t) (hn : c.n < 1000) :
    Calls Tryd.prog 8 #[.pointer (some ⟨C, 0, none⟩), aggA x.who x.seq x.deed a n cp] w fun e w' => e = .returned (.tuple #[.string (M.doR R2 c x).2.1, errV (M.doR R2 c x).1]) ∧ On w0 w' C (M.doR R2 c x).2.2 := by
  obtain ⟨F, h1⟩ := h.is
  refine (mDo x h1 hv hn h.tabs).mono ?_
  rintro e w' ⟨rfl, F', k1, k2, _⟩
  exact ⟨rfl, ⟨F', k1⟩, h.star.solid k2.vals, h.bel.trans (k2.below h1.lows h.bel.size), h.tab⟩
theorem On.do1 (h : On w0 w C M.Cop.new) :
    Calls Tryd.prog 8 #[.pointer (some ⟨C, 0, none⟩), aggA 1 1 0 (some ⟨w.heap.size, 0, none⟩) 1 1] (w.alloc Fv) fun e w' => e = .returned (.tuple #[.string ⟨#[111, 107]⟩, .nilIface]) ∧ On w0 w' C c1 := by
  have := (h.quiet ((Below.refl _ _).alloc (Nat.le_refl _) Fv)).do x1 (lit_vals w fourV (by unfold maxLen; decide)) (by decide)
  rw [Go.Proofs.YtlefhfmckimlaaiDoor.copyTwice.do1.1, Go.Proofs.YtlefhfmckimlaaiDoor.copyTwice.do1.2] at this
  exact this
theorem On.do2 (h : On w0 w C c1) :
    Calls Tryd.prog 8 #[.pointer (some ⟨C, 0, none⟩), aggA 1 2 2 (some ⟨w0.heap.size, 0, none⟩) 1 1] w fun e w' => e = .returned (.tuple #[.string ⟨#[52]⟩, .nilIface]) ∧ On w0 w' C c2 := by
  have := h.do x2 h.star.vals (by decide +kernel)
  rw [Go.Proofs.YtlefhfmckimlaaiDoor.copyTwice.do2.1, Go.Proofs.YtlefhfmckimlaaiDoor.copyTwice.do2.2] at this
  exact this
theorem On.do3 (h : On w0 w C c2) :
    Calls Tryd.prog 8 #[.pointer (some ⟨C, 0, none⟩), aggA 1 2 2 (some ⟨w0.heap.size, 0, none⟩) 1 1] w fun e w' => e = .returned (.tuple #[.string ⟨#[52]⟩, .nilIface]) ∧ On w0 w' C c2 := by
  have := h.do x2 h.star.vals (by rw [many2]; decide)
  rw [Go.Proofs.YtlefhfmckimlaaiDoor.copyTwice.do3] at this
  exact this
theorem On.mark (h : On w0 w C c2) : Calls Tryd.prog 9 #[.pointer (some ⟨C, 0, none⟩)] w fun e w' => e = .returned (.tuple #[.int .i64 2, .int .i64 (M.mark c2.l)]) ∧ Below w0.heap.size w0 w' := by
  obtain ⟨F, h1⟩ := h.is
  have := mMark h1 h.tabs
  rw [many2] at this
  refine this.mono ?_
  rintro e w' ⟨rfl, hb⟩
  exact ⟨rfl, h.bel.trans (hb.mono h.bel.size)⟩
end

/-- two copies beside each other -/
structure Tw (w0 w : World) (C E : Nat) (c d : M.Cop) (R : List M.Rul) : Prop where
  is : ∃ F G, CpIs w0.heap.size w F C c R ∧ CpIs w0.heap.size w G E d R ∧ Off F G
  bel : Below w0.heap.size w0 w
  tab : Tab w0
section
variable {w0 w w' : World} {C E : Nat} {c d : M.Cop} {R : List M.Rul} {a : Option Addr} {n cp : Nat}
theorem Tw.tabs (h : Tw w0 w C E c d R) : TabFrom w0.heap.size w := fun wx hb => h.tab.stays (h.bel.trans hb) (Nat.le_refl _)
theorem Tw.quiet (h : Tw w0 w C E c d R) (hb : Below w.heap.size w w') : Tw w0 w' C E c d R := by
  obtain ⟨F, G, h1, h2, h3⟩ := h.is
  exact ⟨⟨F, G, h1.quiet hb, h2.quiet hb, h3⟩, h.bel.trans (hb.mono h.bel.size), h.tab⟩
theorem Tw.symm (h : Tw w0 w C E c d R) : Tw w0 w E C d c R := by
  obtain ⟨F, G, h1, h2, h3⟩ := h.is
  exact ⟨⟨G, F, h2, h1, h3.symm⟩, h.bel, h.tab⟩
theorem Tw.do (x : M.Ask) (h : Tw w0 w C E c d R) (hv : IsVals w0 (.slice a n cp) x.t) (hn : c.n < 1000) :
    Calls Tryd.prog 8 #[.pointer (some ⟨C, 0, none⟩), aggA x.who x.seq x.deed a n cp] w fun e w' => e = .returned (.tuple #[.string (M.doR R c x).2.1, errV (M.doR R c x).1]) ∧ Tw w0 w' C E (M.doR R c x).2.2 d R := by
  obtain ⟨F, G, h1, h2, h3⟩ := h.is
  refine (mDo x h1 (hv.stays h.bel (Nat.le_refl _)) hn h.tabs).mono ?_
  rintro e w' ⟨rfl, F', k1, k2, k3⟩
  exact ⟨rfl, ⟨F', G, k1, h2.keep k2 h3.symm, h3.grows h2.highs k3⟩, h.bel.trans (k2.below h1.lows h.bel.size), h.tab⟩
theorem Tw.mark (h : Tw w0 w C E c d R) : Calls Tryd.prog 9 #[.pointer (some ⟨C, 0, none⟩)] w fun e w' => e = .returned (.tuple #[.int .i64 c.n, .int .i64 (M.mark c.l)]) ∧ Tw w0 w' C E c d R := by
  obtain ⟨F, G, h1, h2, h3⟩ := h.is
  refine (mMark h1 h.tabs).mono ?_
  rintro e w' ⟨rfl, hb⟩
  exact ⟨rfl, h.quiet hb⟩
theorem Tw.space (h : Tw w0 w C E c d R) : Calls Tryd.prog 11 #[.pointer (some ⟨C, 0, none⟩)] w fun e w' => ∃ ao cap, e = .returned (.slice ao c.l.length cap) ∧ IsTups w' (.slice ao c.l.length cap) c.l ∧ Tw w0 w' C E c d R ∧ Below w.heap.size w w' := by
  obtain ⟨F, G, h1, h2, h3⟩ := h.is
  refine (mSpace h1).mono ?_
  rintro e w' ⟨ao, cap, rfl, k1, hb⟩
  exact ⟨ao, cap, rfl, k1, h.quiet hb, hb⟩
end

end Go.Proofs.YtlefhfmckimlaaiDoor.copyTwice
