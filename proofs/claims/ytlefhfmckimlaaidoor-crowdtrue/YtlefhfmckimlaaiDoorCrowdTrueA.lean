/-
  Where the Go function CrowdTrue stands: a crowd and a copy beside each other that are told the same, with a law a call; its own first crowd.
-/
import Derived.Test.YtlefhfmckimlaaiDoorCrdCalls
import Derived.Test.YtlefhfmckimlaaiDoorJ31A
set_option linter.unusedVariables false
namespace Go.Proofs.YtlefhfmckimlaaiDoor.crowdTrue
open Go.RowKit

/-- the crowd at K is c, the copy at C is d -/
structure CT (w0 w : World) (K C n : Nat) (c d : M.Cop) (R : List M.Rul) : Prop where
  is : ∃ F G, CwIs w0.heap.size w F K n c R ∧ CpIs w0.heap.size w G C d R ∧ Off F G
  bel : Below w0.heap.size w0 w
  tab : Tab w0
/-- a row of texts of the law's own -/
def Txt (b : Nat) (w : World) (a : Option Addr) (n cap : Nat) (L : List ByteArray) : Prop := w.ownsRow b 9 1 (.slice a n cap) n (cellsS L) ∧ L.length = n ∧ ∀ x ∈ L, x.size ≤ reachBytes
section
variable {w0 w w' : World} {K C n : Nat} {c d : M.Cop} {R : List M.Rul} {a : Option Addr} {m cp : Nat} {la : Option Addr} {lc b : Nat} {L : List ByteArray}
theorem Txt.at (h : Txt b w la n lc L) : AtS w la L := by
  obtain ⟨a, cap, e, _, _, h2⟩ := atS_own h.2.1.symm h.2.2 h.1
  cases e
  exact h2
theorem Txt.quiet (h : Txt b w la n lc L) (hb : Below w.heap.size w w') : Txt b w' la n lc L :=
  ⟨ownsRow_at h.1 (fun g hg => by
    obtain ⟨_, cc, fr, hh⟩ := ownsRow_tag h.1 hg
    exact hb.block g (heap_lt hh)), h.2⟩
theorem Txt.keep {F : Nat → Prop} (h : Txt b w la n lc L) (ht : Tch F w w') (hF : ∀ g cc fr, w.heap[g]? = some (.cells cc 9 fr) → ¬ F g) : Txt b w' la n lc L :=
  ⟨ownsRow_at h.1 (fun g hg => by
    obtain ⟨_, cc, fr, hh⟩ := ownsRow_tag h.1 hg
    exact ht.block g (heap_lt hh) (hF g cc fr hh)), h.2⟩
theorem CT.quiet (h : CT w0 w K C n c d R) (hb : Below w.heap.size w w') : CT w0 w' K C n c d R := by
  obtain ⟨F, G, h1, h2, h3⟩ := h.is
  exact ⟨⟨F, G, h1.quiet hb, h2.quiet hb, h3⟩, h.bel.trans (hb.mono h.bel.size), h.tab⟩
/-- while a row of texts of the law's own is written -/
theorem CT.row (h : CT w0 w K C n c d R) {g : Nat} {cc : Array Value} {fr : Nat × Nat} (hg : w.heap[g]? = some (.cells cc 9 fr)) (hlo : w0.heap.size ≤ g) (j : Nat) (u : Value) : CT w0 (w.setCell ⟨g, j, none⟩ u) K C n c d R := by
  obtain ⟨F, G, h1, h2, h3⟩ := h.is
  have hgr := grownBy_setCell w ⟨g, j, none⟩ u
  have ht : Tch (fun k => k = g) w (w.setCell ⟨g, j, none⟩ u) := ⟨hgr.os, hgr.tape, hgr.output, hgr.size, fun i hi hn => hgr.block i hi (fun e => hn (by cases e; rfl)), fun b cur fr' hb => (heap_setCell_other w ⟨g, j, none⟩ b _ (fun e => by
    have e' : b = g := e
    rw [e', hg] at hb
    exact absurd (tag_eq hb) (by decide))).trans hb⟩
  refine ⟨⟨F, G, h1.keep ht (fun i hi e => ?_), h2.keep ht (fun i hi e => ?_), h3⟩, h.bel.setCell hlo _, h.tab⟩
  · have e' : i = g := e
    subst e'
    exact h1.other hg (by decide) (by decide) (by decide) (by decide) (by decide) (by decide) hi
  · have e' : i = g := e
    subst e'
    exact h2.other hg (by decide) (by decide) (by decide) (by decide) hi
theorem CT.tabs (h : CT w0 w K C n c d R) : TabFrom w0.heap.size w := fun wx hb => h.tab.stays (h.bel.trans hb) (Nat.le_refl _)
theorem CT.need (h : CT w0 w K C n c d R) : Calls Tryd.prog 13 #[.pointer (some ⟨K, 0, none⟩)] w fun e w' => e = .returned (.int .i64 (M.need n)) ∧ w' = w := by
  obtain ⟨F, G, h1, h2, h3⟩ := h.is
  exact crNeed h1
theorem CT.xdo (x : M.Ask) (h : CT w0 w K C n c d R) (hv : IsVals w0 (.slice a m cp) x.t) (hn : d.n < 1000) (hL : Txt b w la n lc L) :
    Calls Tryd.prog 8 #[.pointer (some ⟨C, 0, none⟩), aggA x.who x.seq x.deed a m cp] w fun e w' => e = .returned (.tuple #[.string (M.doR R d x).2.1, errV (M.doR R d x).1]) ∧ CT w0 w' K C n c (M.doR R d x).2.2 R ∧ Txt b w' la n lc L := by
  obtain ⟨F, G, h1, h2, h3⟩ := h.is
  refine (mDo x h2 (hv.stays h.bel (Nat.le_refl _)) hn h.tabs).mono ?_
  rintro e w' ⟨rfl, G', k1, k2, k3⟩
  exact ⟨rfl, ⟨⟨F, G', h1.keep k2 h3, k1, (h3.symm.grows h1.highs k3).symm⟩, h.bel.trans (k2.below h2.lows h.bel.size), h.tab⟩, hL.keep k2 (fun g cc fr hg => h2.other hg (by decide) (by decide) (by decide) (by decide))⟩
theorem CT.cdo (x : M.Ask) (h : CT w0 w K C n c d R) (hv : IsVals w0 (.slice a m cp) x.t) (hn : c.n < 1000) (hL : Txt b w la n lc L) (hl : M.lieN n L ≤ (n - 1) / 3) :
    Calls Tryd.prog 14 #[.pointer (some ⟨K, 0, none⟩), aggA x.who x.seq x.deed a m cp, .slice la n lc] w fun e w' => e = .returned (.tuple #[.string (M.doR R c x).2.1, errV (M.doR R c x).1]) ∧ CT w0 w' K C n (M.doR R c x).2.2 d R := by
  obtain ⟨F, G, h1, h2, h3⟩ := h.is
  have hc := crDo (lc := lc) x h1 (fun wx ht => hv.stays (h.bel.trans (ht.below h1.lows h.bel.size)) (Nat.le_refl _)) (fun wx ht => (hL.keep ht (fun g cc fr hg => h1.other hg (by decide) (by decide) (by decide) (by decide) (by decide) (by decide))).at) hL.2.1.symm (by have := h1.seven; unfold maxLen; omega) hn h.tabs
  rw [M.crR_few h1.one h1.seven (Nat.le_of_eq hL.2.1) hl] at hc
  refine hc.mono ?_
  rintro e w' ⟨rfl, F', k1, k2, k3⟩
  exact ⟨rfl, ⟨F', G, k1, h2.keep k2 h3.symm, h3.grows h2.highs k3⟩, h.bel.trans (k2.below h1.lows h.bel.size), h.tab⟩
end

/-- the law's own first crowd -/
def anyV : M.Val := ⟨2, 0, ⟨#[]⟩⟩
def numV : M.Val := ⟨0, 4, ⟨#[]⟩⟩
def R1 : List M.Rul := [⟨1, -1, [anyV], true⟩]
def x1 : M.Ask := ⟨1, 1, 1, [numV]⟩
def L1 : List ByteArray := [⟨#[]⟩, ⟨#[55]⟩]
theorem fine1 : M.rulE R1 = 0 := by decide +kernel
theorem lie1 : M.lieN 4 L1 ≤ (4 - 1) / 3 := by decide +kernel
theorem do1 : (M.doR R1 M.Cop.new x1).1 = 0 := by decide +kernel
theorem do2 : (M.doR R1 M.Cop.new x1).2.1 = M.sNone := by decide +kernel
theorem cr1 : M.crR R1 M.Cop.new 4 L1 x1 = M.doR R1 M.Cop.new x1 := M.crR_few (by decide) (by decide) (by decide) lie1
abbrev Sv : Obj := .cells #[.int .i64 2, .int .i64 0, .string ⟨#[]⟩] 25
abbrev Rv (b : Nat) : Obj := .cells #[.int .i64 1, .int .i64 (-1), .slice (some ⟨b, 0, none⟩) 1 1, .bool true] 33
theorem rules1 (w : World) : AtR ((w.alloc Sv).alloc (Rv w.heap.size)) (some ⟨w.heap.size + 1, 0, none⟩) R1 := by
  have ho : OwnT w.heap.size (w.alloc Sv) (.slice (some ⟨w.heap.size, 0, none⟩) 1 1) [anyV] := ⟨World.ownsRow_lit (base := w.heap.size) (e := 25) (size := 3) w #[.int .i64 2, .int .i64 0, .string ⟨#[]⟩] 1 (Nat.le_refl _) (by unfold maxLen; decide) rfl, fun x hx => by
    rw [List.mem_singleton.1 hx]; unfold maxLen; decide⟩
  have h2 : IsVals ((w.alloc Sv).alloc (Rv w.heap.size)) (.slice (some ⟨w.heap.size, 0, none⟩) 1 1) [anyV] := ho.vals.stays ((Below.refl _ _).alloc (Nat.le_refl _) _) (Nat.le_refl _)
  have h3 := World.ownsRow_lit (base := w.heap.size) (e := 33) (size := 4) (w.alloc Sv) #[.int .i64 1, .int .i64 (-1), .slice (some ⟨w.heap.size, 0, none⟩) 1 1, .bool true] 1 (by simp) (by unfold maxLen; decide) rfl
  obtain ⟨a, c, e, h4⟩ := atR_own (l := R1) rfl (show RowR ((w.alloc Sv).alloc (Rv w.heap.size)) _ R1 from ⟨_, _, rfl, h2, rfl⟩) h3
  cases e
  simpa using h4
theorem crowd4 (w : World) :
    Calls Tryd.prog 12 #[.int .i64 4, .slice (some ⟨w.heap.size + 1, 0, none⟩) 1 1] ((w.alloc Sv).alloc (Rv w.heap.size)) fun e w' => ∃ K F, e = .returned (.tuple #[.pointer (some ⟨K, 0, none⟩), .nilIface]) ∧ CwIs w.heap.size w' F K 4 M.Cop.new R1 ∧ Below w.heap.size w w' := by
  have hb : Below w.heap.size w ((w.alloc Sv).alloc (Rv w.heap.size)) := ((Below.refl _ _).alloc (Nat.le_refl _) _).alloc (by simp) _
  refine (crNew_ok w.heap.size 4 (some ⟨w.heap.size + 1, 0, none⟩) 1 1 R1 _ hb.size (by decide) (by decide) rfl (by unfold maxLen; decide) (rules1 w) fine1).mono ?_
  rintro e w' ⟨K, F, rfl, h1, _, h3⟩
  exact ⟨K, F, rfl, h1, hb.trans (h3.mono hb.size)⟩
/-- its one call: the tuple and the lies lie in blocks of the law's own -/
theorem doOne {w w2 : World} {K : Nat} {F : Nat → Prop} (h : CwIs w.heap.size w2 F K 4 M.Cop.new R1) (hb : Below w.heap.size w w2) (ht : Tab w) :
    Calls Tryd.prog 14 #[.pointer (some ⟨K, 0, none⟩), aggA 1 1 1 (some ⟨w2.heap.size, 0, none⟩) 1 1, .slice (some ⟨w2.heap.size + 1, 0, none⟩) 2 2] ((w2.alloc (.cells #[.int .i64 0, .int .i64 4, .string ⟨#[]⟩] 25)).alloc (.cells #[.string ⟨#[]⟩, .string ⟨#[55]⟩] 9)) fun e w' => e = .returned (.tuple #[.string M.sNone, .nilIface]) ∧ Below w.heap.size w w' := by
  have hb1 : Below w2.heap.size w2 ((w2.alloc (.cells #[.int .i64 0, .int .i64 4, .string ⟨#[]⟩] 25)).alloc (.cells #[.string ⟨#[]⟩, .string ⟨#[55]⟩] 9)) := ((Below.refl _ _).alloc (Nat.le_refl _) _).alloc (by simp) _
  have h2 := h.quiet hb1
  have hlb : ((w2.alloc (.cells #[.int .i64 0, .int .i64 4, .string ⟨#[]⟩] 25)).alloc (.cells #[.string ⟨#[]⟩, .string ⟨#[55]⟩] 9)).heap[w2.heap.size + 1]? = some (.cells #[.string ⟨#[]⟩, .string ⟨#[55]⟩] 9 (0, 0)) := by
    have := heap_alloc_new (w2.alloc (.cells #[.int .i64 0, .int .i64 4, .string ⟨#[]⟩] 25)) (.cells #[.string ⟨#[]⟩, .string ⟨#[55]⟩] 9)
    simpa using this
  have hown : OwnT w2.heap.size (w2.alloc (.cells #[.int .i64 0, .int .i64 4, .string ⟨#[]⟩] 25)) (.slice (some ⟨w2.heap.size, 0, none⟩) 1 1) [numV] :=
    ⟨World.ownsRow_lit (base := w2.heap.size) (e := 25) (size := 3) w2 #[.int .i64 0, .int .i64 4, .string ⟨#[]⟩] 1 (Nat.le_refl _) (by unfold maxLen; decide) rfl, fun x hx => by
      rw [List.mem_singleton.1 hx]; show (0 : Nat) ≤ _; exact Nat.zero_le _⟩
  have hbb := hb.trans (hb1.mono hb.size)
  have hc := crDo (lc := 2) x1 h2 (a := some ⟨w2.heap.size, 0, none⟩) (m := 1) (cp := 1) (fun wx hT => ((hown.solid (Solid.below ((Below.refl _ _).alloc (Nat.le_refl _) _))).solid hT.vals).vals) (la := some ⟨w2.heap.size + 1, 0, none⟩) (lie := L1) (fun wx hT => ?_) rfl (by show 2 ≤ maxLen; unfold maxLen; decide) (by decide) (fun wx hx => ht.stays (hbb.trans hx) (Nat.le_refl _))
  · rw [cr1, do1, do2] at hc
    refine hc.mono ?_
    rintro e w' ⟨rfl, F', _, k2, _⟩
    exact ⟨rfl, hbb.trans (k2.below h2.lows hbb.size)⟩
  · intro _
    have hk : wx.heap[w2.heap.size + 1]? = some (.cells #[.string ⟨#[]⟩, .string ⟨#[55]⟩] 9 (0, 0)) := (hT.block _ (heap_lt hlb) (h2.other hlb (by decide) (by decide) (by decide) (by decide) (by decide) (by decide))).trans hlb
    refine ⟨w2.heap.size + 1, 0, rfl, fun i hi => ?_⟩
    have hi' : i = 0 ∨ i = 1 := by
      have : i < 2 := hi
      omega
    rcases hi' with rfl | rfl
    · refine ⟨?_, by show (⟨#[]⟩ : ByteArray).size ≤ reachBytes; unfold reachBytes; decide⟩
      rw [cell_of_row wx _ _ _ _ (0, 0) hk]; rfl
    · refine ⟨?_, by show (⟨#[55]⟩ : ByteArray).size ≤ reachBytes; unfold reachBytes; decide⟩
      rw [cell_of_row wx _ _ _ _ (0, 0) hk]; rfl

end Go.Proofs.YtlefhfmckimlaaiDoor.crowdTrue
