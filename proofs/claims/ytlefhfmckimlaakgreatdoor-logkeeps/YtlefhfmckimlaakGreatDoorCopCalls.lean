/-
  What New, Do, Mark and Space of package mirror do, whatever comes in, each as one law of its call.
-/
import Derived.Test.YtlefhfmckimlaakGreatDoorCopNew
import Derived.Test.YtlefhfmckimlaakGreatDoorCopDo
import Derived.Test.YtlefhfmckimlaakGreatDoorCopMark
set_option linter.unusedVariables false
namespace Go.Proofs.YtlefhfmckimlaakGreatDoor
open Go.RowKit

theorem mNew_bad (av : Option Addr) (n cap : Nat) (L : List M.Rul) (w : World) (hn : n = L.length) (hm : n ≤ maxLen) (hl : AtR w av L) (hE : M.rulE L ≠ 0) :
    Calls Tryz.prog 24 #[.slice av n cap] w fun e w' => e = .returned (.tuple #[.pointer none, errV (M.rulE L)]) ∧ Below w.heap.size w w' := cNew_bad av n cap L w hn hm hl hE
theorem mNew_ok (base : Nat) (av : Option Addr) (n cap : Nat) (L : List M.Rul) (w : World) (hb : base ≤ w.heap.size) (hn : n = L.length) (hm : n ≤ maxLen) (hl : AtR w av L) (hE : M.rulE L = 0) :
    Calls Tryz.prog 24 #[.slice av n cap] w fun e w' => ∃ C F, e = .returned (.tuple #[.pointer (some ⟨C, 0, none⟩), .nilIface]) ∧ CpIs base w' F C M.Cop.new L ∧ (∀ i, F i → w.heap.size ≤ i) ∧ Below w.heap.size w w' := cNew_ok base av n cap L w hb hn hm hl hE
section
variable {base : Nat} {w : World} {F : Nat → Prop} {C : Nat} {c : M.Cop} {R : List M.Rul} {a : Option Addr} {n cp : Nat}
/-- Do, whatever comes in: the space's row alone may move -/
theorem mDoX {S B : Nat} {v rv : Value} (x : M.Ask) (hok : c.Ok) (hE : M.rulE R = 0) (hc : Cp base w C S B v rv c.l c.g c.n c.n R) (hv : IsVals w (.slice a n cp) x.t) (hn : c.n < 1000) (ht : TabFrom base w) :
    Calls Tryz.prog 28 #[.pointer (some ⟨C, 0, none⟩), aggA x.who x.seq x.deed a n cp] w fun e w' => e = .returned (.tuple #[.string (M.doR R c x).2.1, errV (M.doR R c x).1]) ∧ ∃ v', Cp base w' C S B v' rv (M.doR R c x).2.2.l (M.doR R c x).2.2.g (M.doR R c x).2.2.n (M.doR R c x).2.2.n R ∧ Tch (cpF C S B v rv) w w' ∧ Grows w (cpF C S B v rv) (cpF C S B v' rv) := by
  have HA : ∀ wx, Below w.heap.size w wx → Calls Tryz.prog 37 #[.pointer (some ⟨C, 0, none⟩), aggA x.who x.seq x.deed a n cp] wx fun e w' => e = .returned (.tuple #[.bool (M.agB c x), errV (M.doR R c x).1]) ∧ Below wx.heap.size wx w' := fun wx hw => cAgain c hok (hc.quiet hw) hE (by omega) x (hv.stays hw (Nat.le_refl _))
  have still : ∀ {s : ByteArray} {E : Value} {e : Ending} {w' : World}, e = .returned (.tuple #[.string s, E]) ∧ Below w.heap.size w w' → e = .returned (.tuple #[.string s, E]) ∧ ∃ v', Cp base w' C S B v' rv c.l c.g c.n c.n R ∧ Tch (cpF C S B v rv) w w' ∧ Grows w (cpF C S B v rv) (cpF C S B v' rv) := fun he => ⟨he.1, v, hc.quiet he.2, Tch.of_below he.2, Grows.refl _ _⟩
  obtain ⟨who, seq, deed, l⟩ := x
  simp only at hv HA ⊢
  rcases M.doR_ways R c ⟨who, seq, deed, l⟩ with h1 | ⟨h1, h2⟩ | ⟨h1, h2, h3⟩ | ⟨h1, h2, h3, h4⟩ | ⟨h1, h2, h3, h4⟩
  · rw [M.doR_bad h1] at HA ⊢
    exact (cDo_bad _ h1 _ HA).mono fun _ _ he => still he
  · rw [M.doR_again h1 h2, M.agB_ok h1, h2] at HA
    rw [M.doR_again h1 h2]
    exact (cDo_again hc (M.askF_ok h1).1 (hok.small who) HA).mono fun _ _ he => still he
  · rw [M.doR_state h1 h2 h3] at HA ⊢
    exact (cDo_bad 6 (by decide) _ HA).mono fun _ _ he => still he
  · rw [M.doR_did h1 h2 h3 h4, M.agB_ok h1, h2] at HA
    rw [M.doR_did h1 h2 h3 h4]
    have g0 := hok.lo who
    simp only at h3
    refine (cDo_did hc (M.askF_ok h1).1 l (M.deedS c.l ⟨who, seq, deed, l⟩) (M.deedL c.l ⟨who, seq, deed, l⟩) (by omega) (by omega) (by omega) (M.deedS_small hok.fine) (by omega) HA (fun wx hwx => ?_)).mono ?_
    · exact cAns (hc.quiet hwx) hok.fine hE ⟨who, seq, deed, l⟩ (hv.stays hwx (Nat.le_refl _)) h1 (ht.next (hwx.mono hc.base_le))
    · rintro e w' ⟨rfl, v', r1, r2, r3⟩
      exact ⟨rfl, v', r1, r2, r3⟩
  · rw [M.doR_denied h1 h2 h3 h4] at HA ⊢
    exact (cDo_bad 8 (by decide) _ HA).mono fun _ _ he => still he
theorem mDo (x : M.Ask) (h : CpIs base w F C c R) (hv : IsVals w (.slice a n cp) x.t) (hn : c.n < 1000) (ht : TabFrom base w) :
    Calls Tryz.prog 28 #[.pointer (some ⟨C, 0, none⟩), aggA x.who x.seq x.deed a n cp] w fun e w' => e = .returned (.tuple #[.string (M.doR R c x).2.1, errV (M.doR R c x).1]) ∧ ∃ F', CpIs base w' F' C (M.doR R c x).2.2 R ∧ Tch F w w' ∧ Grows w F F' := by
  obtain ⟨S, B, v, rv, rfl, hc⟩ := h.is
  refine (mDoX x h.ok h.fine hc hv hn ht).mono ?_
  rintro e w' ⟨rfl, v', r1, r2, r3⟩
  exact ⟨rfl, _, ⟨h.ok.next, h.fine, S, B, v', rv, rfl, r1⟩, r2, r3⟩
theorem mAgain (x : M.Ask) (h : CpIs base w F C c R) (hv : IsVals w (.slice a n cp) x.t) (hn : c.n ≤ 1000) :
    Calls Tryz.prog 37 #[.pointer (some ⟨C, 0, none⟩), aggA x.who x.seq x.deed a n cp] w fun e w' => e = .returned (.tuple #[.bool (M.agB c x), errV (M.doR R c x).1]) ∧ Below w.heap.size w w' := by
  obtain ⟨S, B, v, rv, rfl, hc⟩ := h.is
  exact cAgain c h.ok hc h.fine hn x hv
/-- a box of what is asked stays while a copy is written -/
theorem CpIs.box {w' : World} {N : Nat} {who seq deed : Int} (h : CpIs base w F C c R) (ht : Tch F w w') (hb : AskBox w N who seq deed a n cp) : AskBox w' N who seq deed a n cp := by
  obtain ⟨S, B, v, rv, rfl, hc⟩ := h.is
  exact (ht.block N (heap_lt hb) (hc.other hb (by decide) (by decide) (by decide) (by decide))).trans hb
theorem mMark (h : CpIs base w F C c R) (ht : TabFrom base w) :
    Calls Tryz.prog 30 #[.pointer (some ⟨C, 0, none⟩)] w fun e w' => e = .returned (.tuple #[.int .i64 c.n, .int .i64 (M.mark c.l)]) ∧ Below w.heap.size w w' := by
  obtain ⟨S, B, v, rv, rfl, hc⟩ := h.is
  exact cMark hc h.ok.fine ht
end

end Go.Proofs.YtlefhfmckimlaakGreatDoor
