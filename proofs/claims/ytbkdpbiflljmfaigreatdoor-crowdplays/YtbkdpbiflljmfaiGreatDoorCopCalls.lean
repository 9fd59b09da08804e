/-
  What New, Do, Mark and Space of package mirror do, whatever comes in, each as one law of its call.
-/
import Derived.Test.YtbkdpbiflljmfaiGreatDoorCopNew
import Derived.Test.YtbkdpbiflljmfaiGreatDoorCopDo
import Derived.Test.YtbkdpbiflljmfaiGreatDoorCopMark
set_option linter.unusedVariables false
namespace Go.Proofs.YtbkdpbiflljmfaiGreatDoor
open Go.RowKit

theorem mNew_bad (av : Option Addr) (n cap : Nat) (L : List M.Rul) (w : World) (hn : n = L.length) (hm : n ≤ maxLen) (hl : AtR w av L) (hE : M.rulE L ≠ 0) :
    Calls Tryz.prog 6 #[.slice av n cap] w fun e w' => e = .returned (.tuple #[.pointer none, errV (M.rulE L)]) ∧ Below w.heap.size w w' := cNew_bad av n cap L w hn hm hl hE
theorem mNew_ok (base : Nat) (av : Option Addr) (n cap : Nat) (L : List M.Rul) (w : World) (hb : base ≤ w.heap.size) (hn : n = L.length) (hm : n ≤ maxLen) (hl : AtR w av L) (hE : M.rulE L = 0) :
    Calls Tryz.prog 6 #[.slice av n cap] w fun e w' => ∃ C F, e = .returned (.tuple #[.pointer (some ⟨C, 0, none⟩), .nilIface]) ∧ CpIs base w' F C M.Cop.new L ∧ (∀ i, F i → w.heap.size ≤ i) ∧ Below w.heap.size w w' := cNew_ok base av n cap L w hb hn hm hl hE
section
variable {base : Nat} {w : World} {F : Nat → Prop} {C : Nat} {c : M.Cop} {R : List M.Rul} {a : Option Addr} {n cp : Nat}
theorem mDo (x : M.Ask) (h : CpIs base w F C c R) (hv : IsVals w (.slice a n cp) x.t) (hn : c.n < 1000) (ht : TabFrom base w) :
    Calls Tryz.prog 10 #[.pointer (some ⟨C, 0, none⟩), aggA x.who x.seq x.deed a n cp] w fun e w' => e = .returned (.tuple #[.string (M.doR R c x).2.1, errV (M.doR R c x).1]) ∧ ∃ F', CpIs base w' F' C (M.doR R c x).2.2 R ∧ Tch F w w' ∧ Grows w F F' := by
  obtain ⟨S, B, v, rv, rfl, hc⟩ := h.is
  obtain ⟨who, seq, deed, l⟩ := x
  simp only at hv ⊢
  have still : ∀ {s : ByteArray} {E : Value} {e : Ending} {w' : World}, e = .returned (.tuple #[.string s, E]) ∧ Below w.heap.size w w' → e = .returned (.tuple #[.string s, E]) ∧ ∃ F', CpIs base w' F' C c R ∧ Tch (cpF C S B v rv) w w' ∧ Grows w (cpF C S B v rv) F' := fun he => ⟨he.1, _, ⟨h.ok, h.fine, S, B, v, rv, rfl, hc.quiet he.2⟩, Tch.of_below he.2, Grows.refl _ _⟩
  have g0 := h.ok.lo who
  have g1 : (c.g who).1 ≤ 1000 := by have := h.ok.hi who; omega
  rcases M.doR_ways R c ⟨who, seq, deed, l⟩ with h1 | ⟨h1, h2⟩ | ⟨h1, h2, h3⟩ | ⟨h1, h2, h3, h4⟩ | ⟨h1, h2, h3, h4⟩
  · rw [M.doR_bad h1]
    exact (cDo_bad hc hv h1).mono fun _ _ he => still he
  · rw [M.doR_again h1 h2]
    obtain ⟨q1, q2⟩ := M.again_yes h2
    exact (cDo_again hc hv h1 q1 q2 (h.ok.small who)).mono fun _ _ he => still he
  · rw [M.doR_state h1 h2 h3]
    exact (cDo_state hc hv h1 g0 g1 (M.again_non h2) h3).mono fun _ _ he => still he
  · rw [M.doR_did h1 h2 h3 h4]
    have hw := M.allow_way h1 h4
    have hok := h.ok.did h3
    obtain ⟨a1, a2, a3⟩ := M.askF_ok h1
    have hb : M.askB who deed = true := decide_eq_true ⟨a1.1, a1.2, a2.1, a2.2⟩
    have hf0 : deed = 0 → M.tupF l = 0 := fun e => by
      have e' : (⟨who, seq, deed, l⟩ : M.Ask).deed = 0 := e
      have h1' := h1
      rw [M.askF_put (a := ⟨who, seq, deed, l⟩) (by simp only at a1 a2 ⊢; omega) e'] at h1'
      exact h1'
    refine (cDo_did hc hv h1 (M.deedS c.l ⟨who, seq, deed, l⟩) (M.deedL c.l ⟨who, seq, deed, l⟩) g0 g1 (by omega) (by omega) (by omega) (M.deedS_small h.ok.fine) h3 (fun wx hwx => ?_)).mono ?_
    · exact cans_did _ _ (hc.quiet hwx) h.ok.fine h.fine (hv.stays hwx (Nat.le_refl _)) hb hf0 (ht.next (hwx.mono hc.base_le)) hw
    · rintro e w' ⟨rfl, v', r1, r2, r3⟩
      exact ⟨rfl, _, ⟨hok, h.fine, S, B, v', rv, rfl, r1⟩, r2, r3⟩
  · rw [M.doR_denied h1 h2 h3 h4]
    obtain ⟨a1, a2, a3⟩ := M.askF_ok h1
    have hb : M.askB who deed = true := decide_eq_true ⟨a1.1, a1.2, a2.1, a2.2⟩
    refine (cDo_denied hc hv h1 g0 g1 h3 (fun wx hwx => ?_)).mono fun _ _ he => still he
    rcases M.allow_no h4 with ⟨q1, q2⟩ | ⟨q1, q2, q3⟩
    · have q1' : deed = 0 := q1
      subst q1'
      have hf0 : M.tupF l = 0 := by
        have h1' := h1
        rw [M.askF_put (a := ⟨who, seq, 0, l⟩) (by simp only at a1 a2 ⊢; omega) rfl] at h1'
        exact h1'
      exact cans_deniedPut (hc.quiet hwx) h.ok.fine h.fine (hv.stays hwx (Nat.le_refl _)) hb hf0 q2
    · exact cans_deniedGet (hc.quiet hwx) h.ok.fine h.fine (hv.stays hwx (Nat.le_refl _)) hb q1 q2 q3
/-- a box of what is asked stays while a copy is written -/
theorem CpIs.box {w' : World} {N : Nat} {who seq deed : Int} (h : CpIs base w F C c R) (ht : Tch F w w') (hb : AskBox w N who seq deed a n cp) : AskBox w' N who seq deed a n cp := by
  obtain ⟨S, B, v, rv, rfl, hc⟩ := h.is
  exact (ht.block N (heap_lt hb) (hc.other hb (by decide) (by decide) (by decide) (by decide))).trans hb
theorem mMark (h : CpIs base w F C c R) (ht : TabFrom base w) :
    Calls Tryz.prog 11 #[.pointer (some ⟨C, 0, none⟩)] w fun e w' => e = .returned (.tuple #[.int .i64 c.n, .int .i64 (M.mark c.l)]) ∧ Below w.heap.size w w' := by
  obtain ⟨S, B, v, rv, rfl, hc⟩ := h.is
  exact cMark hc h.ok.fine ht
theorem mSpace (h : CpIs base w F C c R) :
    Calls Tryz.prog 14 #[.pointer (some ⟨C, 0, none⟩)] w fun e w' => ∃ ao cap, e = .returned (.slice ao c.l.length cap) ∧ IsTups w' (.slice ao c.l.length cap) c.l ∧ Below w.heap.size w w' := by
  obtain ⟨S, B, v, rv, rfl, hc⟩ := h.is
  exact cSpace hc h.ok.fine
end

end Go.Proofs.YtbkdpbiflljmfaiGreatDoor
