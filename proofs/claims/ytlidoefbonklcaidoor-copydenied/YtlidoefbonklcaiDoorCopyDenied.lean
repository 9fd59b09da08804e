/-
  The walk of the Go function CopyDenied: it returns true, whatever comes in.
-/
import Derived.Test.YtlidoefbonklcaiDoorCopCalls
set_option linter.unusedVariables false
namespace Go.Proofs.YtlidoefbonklcaiDoor.copyDenied
open Go.RowKit
attribute [local go_sem ↓] Go.wp_at_zero Go.wp_at_succ

theorem may_none (who deed : Int) (t : List M.Val) : M.mayR [] who deed t = false := by
  by_cases h : M.mayE [] who deed t = 0
  · unfold M.mayR
    rw [if_pos h, dif_neg (by simp)]
  · exact M.mayR_bad h
/-- a new copy without a rule: it does nothing, or tells that there is none -/
theorem facts (x : M.Ask) : ((M.doR [] M.Cop.new x).1 ≠ 0 ∧ (M.doR [] M.Cop.new x).2.2 = M.Cop.new) ∨ ((M.doR [] M.Cop.new x).1 = 0 ∧ x.deed ≠ 0 ∧ (M.doR [] M.Cop.new x).2.1 = M.sNone ∧ (M.doR [] M.Cop.new x).2.2.n = 1) := by
  rcases M.doR_ways [] M.Cop.new x with h1 | ⟨h1, h2⟩ | ⟨h1, h2, h3⟩ | ⟨h1, h2, h3, h4⟩ | ⟨h1, h2, h3, h4⟩
  · rw [M.doR_bad h1]; exact Or.inl ⟨h1, rfl⟩
  · exact absurd (M.again_yes h2).2 (by show ¬ (0 : Int) < 0; decide)
  · rw [M.doR_state h1 h2 h3]; exact Or.inl ⟨(by decide : (6 : Int) ≠ 0), rfl⟩
  · rw [M.doR_did h1 h2 h3 h4]
    have hw := M.allow_way h1 h4
    rcases hw with ⟨_, q, _⟩ | ⟨_, q, _⟩ | ⟨q0, _, q2, _⟩ | ⟨_, _, q, _⟩ | ⟨_, _, q, _⟩
    · rw [may_none] at q; cases q
    · rw [may_none] at q; cases q
    · exact Or.inr ⟨rfl, q0, q2, rfl⟩
    · rw [may_none] at q; cases q
    · rw [may_none] at q; cases q
  · rw [M.doR_denied h1 h2 h3 h4]; exact Or.inl ⟨(by decide : (8 : Int) ≠ 0), rfl⟩

set_option maxHeartbeats 1000000 in
theorem walk (who seq deed : Int) (a : Option Addr) (n cp : Nat) (l : List M.Val) (w : World) (hv : IsVals w (.slice a n cp) l) (ht : Tab w) :
    Calls Tryd.prog 4 #[aggA who seq deed a n cp] w fun e w' => e = .returned (.bool true) ∧ Below w.heap.size w w' := by
  have HB : Hid (∀ o, Below w.heap.size w (w.alloc o)) := hide fun o => (Below.refl _ _).alloc (Nat.le_refl _) o
  have HX : Hid (AskBox (w.alloc (.cells #[.int .i64 who, .int .i64 seq, .int .i64 deed, .slice a n cp] 37)) w.heap.size who seq deed a n cp) := hide (AskBox.new (Below.refl _ _))
  have HT : Hid (∀ wx, Below w.heap.size w wx → TabFrom w.heap.size wx) := hide fun wx hb wy hy => ht.stays (hb.trans hy) (Nat.le_refl _)
  have HN : Hid (∀ wx, Below w.heap.size w wx → Calls Tryd.prog 7 #[.slice none 0 0] wx fun e w' => ∃ C F, e = .returned (.tuple #[.pointer (some ⟨C, 0, none⟩), .nilIface]) ∧ CpIs w.heap.size w' F C M.Cop.new [] ∧ Below wx.heap.size wx w') := hide fun wx hb => by
    refine (mNew_ok w.heap.size none 0 0 [] wx hb.size rfl (Nat.zero_le _) (fun h => absurd h (by simp)) rfl).mono ?_
    rintro e w' ⟨C, F, h1, h2, _, h3⟩
    exact ⟨C, F, h1, h2, h3⟩
  have HF := hide (facts ⟨who, seq, deed, l⟩)
  have HD : Hid (∀ wx C F, Below w.heap.size w wx → CpIs w.heap.size wx F C M.Cop.new [] → Calls Tryd.prog 8 #[.pointer (some ⟨C, 0, none⟩), aggA who seq deed a n cp] wx fun e w' => e = .returned (.tuple #[.string (M.doR [] M.Cop.new ⟨who, seq, deed, l⟩).2.1, errV (M.doR [] M.Cop.new ⟨who, seq, deed, l⟩).1]) ∧ ∃ F', CpIs w.heap.size w' F' C (M.doR [] M.Cop.new ⟨who, seq, deed, l⟩).2.2 [] ∧ Below w.heap.size wx w' ∧ (AskBox wx w.heap.size who seq deed a n cp → AskBox w' w.heap.size who seq deed a n cp)) := hide fun wx C F hb hC => by
    refine (mDo ⟨who, seq, deed, l⟩ hC (hv.stays hb (Nat.le_refl _)) (by decide) (HT.out wx hb)).mono ?_
    rintro e w' ⟨h1, F', h2, h3, _⟩
    exact ⟨h1, F', h2, h3.below hC.lows hb.size, hC.box h3⟩
  generalize M.doR [] M.Cop.new ⟨who, seq, deed, l⟩ = r at *
  obtain ⟨E, s, c⟩ := r
  simp only at HF HD
  clear hv ht
  rcases HF.out with ⟨h1, h2⟩ | ⟨h1, h2, h3, h4⟩
  · subst h2
    rw [errV_bad h1] at HD
    clear h1 HF
    go_enter Tryd.func4, Tryd.ntmps4
    go_wp2_with fail
    refine (HN.out _ (HB.out _)).mono ?_
    rintro e w1 ⟨C, F, rfl, hC1, hb1⟩
    have HB1 := hide ((HB.out (.cells #[.int .i64 who, .int .i64 seq, .int .i64 deed, .slice a n cp] 37)).trans (hb1.mono (by simp)))
    have HC1 := hide hC1
    obtain ⟨b0, b1, b2, b3, bn⟩ := (HX.out.below hb1).cells
    clear hC1 hb1
    go_wp2_with fail
    refine (HD.out _ _ _ HB1.out HC1.out).mono ?_
    rintro e w2 ⟨rfl, F2, hC2, hb2, _⟩
    have HB2 := hide (HB1.out.trans hb2)
    have HC2 := hide hC2
    clear hC2 hb2 b0 b1 b2 b3 bn
    go_wp2_with fail
    refine (mMark HC2.out (HT.out _ HB2.out)).mono ?_
    rintro e w3 ⟨rfl, hb3⟩
    have HB3 := hide (HB2.out.trans (hb3.mono HB2.out.size))
    have HC3 := hide (HC2.out.quiet hb3)
    clear hb3
    go_wp2_with fail
    refine (mSpace HC3.out).mono ?_
    rintro e w4 ⟨ao, cap, rfl, _, hb4⟩
    have HB4 := hide (HB3.out.trans (hb4.mono HB3.out.size))
    clear hb4
    go_wp2_with fail
    go_ret
    exact ⟨rfl, HB4.out⟩
  · subst h1 h3
    rw [show errV 0 = Value.nilIface from rfl, show M.sNone = ⟨#[110, 111, 110, 101]⟩ from rfl] at HD
    have HDD : Hid ((deed != 0) = true) := hide (by simpa using h2)
    have hcn : (c.n : Int) = 1 := by rw [h4]; rfl
    clear h2 h4 HF
    go_enter Tryd.func4, Tryd.ntmps4
    go_wp2_with fail
    refine (HN.out _ (HB.out _)).mono ?_
    rintro e w1 ⟨C, F, rfl, hC1, hb1⟩
    have HB1 := hide ((HB.out (.cells #[.int .i64 who, .int .i64 seq, .int .i64 deed, .slice a n cp] 37)).trans (hb1.mono (by simp)))
    have HC1 := hide hC1
    have HX1 := hide (HX.out.below hb1)
    obtain ⟨b0, b1, b2, b3, bn⟩ := HX1.out.cells
    clear hC1 hb1
    go_wp2_with fail
    refine (HD.out _ _ _ HB1.out HC1.out).mono ?_
    rintro e w2 ⟨rfl, F2, hC2, hb2, hx2⟩
    have HB2 := hide (HB1.out.trans hb2)
    have HC2 := hide hC2
    have HX2 := hide (hx2 HX1.out)
    clear hC2 hb2 b0 b1 b2 b3 bn hx2
    go_wp2_with fail
    refine (mMark HC2.out (HT.out _ HB2.out)).mono ?_
    rintro e w3 ⟨rfl, hb3⟩
    have HB3 := hide (HB2.out.trans (hb3.mono HB2.out.size))
    obtain ⟨b0, b1, b2, b3, bn⟩ := (HX2.out.below hb3).cells
    have hd := HDD.out
    clear hb3 HDD
    go_wp2_with fail
    go_ret
    exact ⟨rfl, HB3.out⟩

end Go.Proofs.YtlidoefbonklcaiDoor.copyDenied
