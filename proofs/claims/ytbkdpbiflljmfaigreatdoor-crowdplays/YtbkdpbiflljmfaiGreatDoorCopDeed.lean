/-
  What Space and allow of package mirror's copy do, and how it prints a tuple: each as one law of its call.
-/
import Derived.Test.YtbkdpbiflljmfaiGreatDoorCopOwn
import Derived.Test.YtbkdpbiflljmfaiGreatDoorJQue
import Derived.Test.YtbkdpbiflljmfaiGreatDoorJSpace
import Derived.Test.YtbkdpbiflljmfaiGreatDoorJPrint
import Derived.Test.YtbkdpbiflljmfaiGreatDoorJRule
import Derived.Deep.RegionHeld3
set_option linter.unusedVariables false
namespace Go.Proofs.YtbkdpbiflljmfaiGreatDoor
open Go.RowKit
attribute [local go_sem ↓] Go.wp_at_zero Go.wp_at_succ

/-- the library's table is as it was laid, whatever is written from a block on -/
def TabFrom (base : Nat) (w : World) : Prop := ∀ wx, Below base w wx → Tab wx
theorem TabFrom.next {base : Nat} {w w' : World} (h : TabFrom base w) (hb : Below base w w') : TabFrom base w' := fun wx hx => h wx (hb.trans hx)

section
variable {base : Nat} {w w' : World} {C S B : Nat} {v v' rv : Value} {l l' : List (List M.Val)} {g g' : Int → Int × ByteArray} {m m' : Int} {k : Nat} {R : List M.Rul}

theorem cSpace (h : Cp base w C S B v rv l g m k R) (hL : M.Fine l) :
    Calls Tryz.prog 14 #[.pointer (some ⟨C, 0, none⟩)] w fun e w' => ∃ ao cap, e = .returned (.slice ao l.length cap) ∧ IsTups w' (.slice ao l.length cap) l ∧ Below w.heap.size w w' := by
  have HA := hide (all base S v l w h.sp hL)
  obtain ⟨_, c1, _, _, cn, _⟩ := h.cells
  clear h hL
  go_enter Tryz.func14, Tryz.ntmps14
  go_wp2_with fail
  refine (unhide HA).mono ?_
  rintro e w1 ⟨ao, cap, rfl, h1, hb1⟩
  have H1 := hide h1
  clear h1
  go_wp2_with fail
  go_ret
  exact ⟨ao, cap, rfl, H1.out, hb1⟩

theorem cAllow (h : Cp base w C S B v rv l g m k R) (hE : M.rulE R = 0) (who seq deed : Int) (a : Option Addr) (n cp : Nat) (t : Value) (x : List M.Val) (ht : IsVals w t x) (hx : M.tupF x = 0) (hb : M.askB who deed = true) (b : Bool) (hm : M.mayR R who deed x = b) :
    Calls Tryz.prog 72 #[.pointer (some ⟨C, 0, none⟩), aggA who seq deed a n cp, t] w fun e w' => e = .returned (if b then .nilIface else .iface 74 (.int .i64 8)) ∧ Below w.heap.size w w' := by
  have HB : Hid (∀ o, Below w.heap.size w (w.alloc o)) := hide fun o => (Below.refl _ _).alloc (Nat.le_refl _) o
  obtain ⟨ra, rc, rfl, hR⟩ := h.rules.at
  obtain ⟨ta, tn, tc, rfl⟩ := ht.isSlice
  have HM : Hid (∀ wx, Below w.heap.size w wx → Calls Tryz.prog 85 #[.slice ra R.length rc, .int .i64 who, .int .i64 deed, .slice ta tn tc] wx fun e w' => e = .returned (.tuple #[.bool b, .nilIface]) ∧ Below wx.heap.size wx w') := hide fun wx hw => by
    have := rMay ra R.length rc R who deed (.slice ta tn tc) x wx rfl (by have := (M.rulE_ok hE).1; unfold maxLen; omega) (hR.stays hw (Nat.le_refl _)) (ht.stays hw (Nat.le_refl _))
    rwa [M.mayE_tup hE hb, hx, hm] at this
  have HC := hide h
  have HX : Hid (AskBox (w.alloc (.cells #[.int .i64 who, .int .i64 seq, .int .i64 deed, .slice a n cp] 37)) w.heap.size who seq deed a n cp) := hide (AskBox.new (Below.refl _ _))
  generalize R.length = rn at *
  clear ht hx hE hb hR h hm
  obtain ⟨b0, b1, b2, b3, bn⟩ := HX.out.cells
  obtain ⟨c0, c1, c2, c3, cn, _⟩ := (HC.out.quiet (HB.out (.cells #[.int .i64 who, .int .i64 seq, .int .i64 deed, .slice a n cp] 37))).cells
  cases b
  all_goals
    go_enter Tryz.func72, Tryz.ntmps72
    go_wp2_with fail
    go_region_held3 (fun w' => w'.cell? ⟨C, 0, none⟩ = some (.slice ra rn rc) ∧ w'.cell? ⟨w.heap.size, 0, none⟩ = some (.int .i64 who) ∧ w'.cell? ⟨w.heap.size, 2, none⟩ = some (.int .i64 deed)) (first | go_keep | assumption)
      (first
        | (go_at_call 85; refine (HM.out _ (HB.out _).drew).mono ?_; rintro e w1 ⟨rfl, hb1⟩; have HB1 := hide ((HB.out (.cells #[.int .i64 who, .int .i64 seq, .int .i64 deed, .slice a n cp] 37)).drew.trans (hb1.mono (HB.out _).drew.size)); obtain ⟨t0, t1, t2, t3, tn⟩ := (AskBox.below (w := (w.alloc (.cells #[.int .i64 who, .int .i64 seq, .int .i64 deed, .slice a n cp] 37)).drew) HX.out hb1).cells; obtain ⟨r0, r1, r2, r3, rn3, _⟩ := (HC.out.quiet HB1.out).cells; clear hb1))
    go_wp2_with fail
    go_ret
    exact ⟨rfl, HB1.out⟩
end

theorem cPrinted (u : Value) (x : List M.Val) (w : World) (hu : IsVals w u x) (hT : Tab w) (hx : M.likeF x = 0) :
    Calls Tryz.prog 36 #[u] w fun e w' => e = .returned (.string (M.line x)) ∧ Below w.heap.size w w' := by
  have HP : Hid (Calls Tryz.prog 60 #[u] w fun e w' => e = .returned (.tuple #[.string (M.line x), .nilIface]) ∧ Below w.heap.size w w') := hide (by
    have := tprint u _ w hu hT
    rwa [hx, if_pos rfl] at this)
  obtain ⟨ua, un, uc, rfl⟩ := hu.isSlice
  generalize M.line x = y at *
  clear hu hT hx
  go_enter Tryz.func36, Tryz.ntmps36
  go_wp2_with fail
  refine (unhide HP).mono ?_
  rintro e w1 ⟨rfl, hb1⟩
  have HB1 := hide hb1
  clear hb1
  go_wp2_with fail
  go_ret
  exact ⟨rfl, HB1.out⟩

end Go.Proofs.YtbkdpbiflljmfaiGreatDoor
