/-
  What stops, write, Sync, Fail, Mark, Bytes and Safe of package log do, each as one law of its call.
-/
import Derived.Test.YtlefhfmckimlaakGreatDoorLogOwn
import Derived.Test.YtlefhfmckimlaakGreatDoorShelf
import Derived.BigQuiet
import Derived.Deep.QuietTactic
import Derived.Deep.RegionWith
set_option linter.unusedVariables false
namespace Go.Proofs.YtlefhfmckimlaakGreatDoor
open Go.RowKit
attribute [local go_sem ↓] Go.wp_at_zero Go.wp_at_succ

section
variable {base : Nat} {w w' : World} {J C : Nat} {uv : Value} {K : ByteArray} {sf lf : Int} {st : Bool} {R : List M.Rul} {F : Nat → Prop} {c : M.Cop} {g : M.Lg}

theorem lStops (h : LgC base w J C uv K sf lf false R) (hl : lf ≤ 9223372036854775807) (b : Bool) (hb : b = decide (lf = 0)) :
    Calls Tryz.prog 40 #[.pointer (some ⟨J, 0, none⟩)] w fun e w' => e = .returned (.bool b) ∧ LgC base w' J C uv K sf (M.lessS lf) b R ∧ Tch (fun k => k = J) w w' := by
  obtain ⟨c0, c1, c2, c3, c4, c5, cn, cf⟩ := h.cells
  have f4 := cf 4
  have f5 := cf 5
  have HL := hide h
  clear cf h
  by_cases h1 : 0 < lf
  · have hb2 : b = false := by rw [hb]; exact decide_eq_false (by omega)
    have HS := hide (HL.out.store 4 (.int .i64 (lf - 1)) (C' := C) (K' := K) (sf' := sf) (lf' := lf - 1) (st' := false) rfl)
    have HE : Hid (M.lessS lf = lf - 1) := hide (by unfold M.lessS; rw [if_pos h1])
    clear hb
    subst hb2
    go_enter Tryz.func40, Tryz.ntmps40
    go_wp2_with fail
    go_ret
    rw [HE.out]
    exact ⟨rfl, HS.out.1, HS.out.2⟩
  · have HE : Hid (M.lessS lf = lf) := hide (by unfold M.lessS; rw [if_neg h1])
    have HS := hide (HL.out.store 5 (.bool b) (C' := C) (K' := K) (sf' := sf) (lf' := lf) (st' := b) rfl)
    have hq : (lf == 0) = b := by
      rw [hb]
      by_cases e : lf = 0
      · simp [e]
      · simp [e]
    have k5 : (w.setCell ⟨J, 5, none⟩ (.bool b)).cell? ⟨J, 5, none⟩ = some (.bool b) := HS.out.1.cells.2.2.2.2.2.1
    clear hb
    go_enter Tryz.func40, Tryz.ntmps40
    go_wp2_with fail
    go_ret
    rw [HE.out]
    exact ⟨rfl, HS.out.1, HS.out.2⟩

theorem lCount (s : ByteArray) (w : World) (k : Nat) (hk : s.data.toList.count 10 = k) : Calls Tryz.prog 80 #[.string s, .string ⟨#[10]⟩] w fun e w' => e = .returned (.int .i64 k) ∧ w' = w := by
  have := Tryz.strings_Count_one s 10 w
  unfold Lib.countByte at this
  rwa [hk] at this

theorem lWrite_full (h : LgC base w J C uv K sf lf false R) (k : Nat) (hk : K.data.toList.count 10 = k) (h30 : 30 ≤ k) (s : ByteArray) :
    Calls Tryz.prog 38 #[.pointer (some ⟨J, 0, none⟩), .string s] w fun e w' => e = .returned (.iface 87 (.int .i64 4)) ∧ w' = w := by
  obtain ⟨c0, c1, c2, c3, c4, c5, cn, cf⟩ := h.cells
  have HC := hide (lCount K w k hk)
  have i1 : (30 : Int) ≤ (k : Int) := by omega
  clear cf h hk
  go_enter Tryz.func38, Tryz.ntmps38
  go_wp2_with fail
  refine (unhide HC).mono ?_
  rintro e w1 ⟨rfl, hw⟩
  obtain rfl := hw.symm
  go_wp2_with fail
  go_ret
  exact ⟨rfl, rfl⟩

theorem lWrite_ok (h : LgC base w J C uv K sf lf false R) (hl : lf ≤ 9223372036854775807) (hK : K.size ≤ 100000000) (k : Nat) (hk : K.data.toList.count 10 = k) (h30 : k < 30) (h0 : lf ≠ 0) (s : ByteArray) (hs : s.size ≤ 1000) :
    Calls Tryz.prog 38 #[.pointer (some ⟨J, 0, none⟩), .string s] w fun e w' => e = .returned .nilIface ∧ LgC base w' J C uv (K ++ s) sf (M.lessS lf) false R ∧ Tch (fun k => k = J) w w' := by
  obtain ⟨c0, c1, c2, c3, c4, c5, cn, cf⟩ := h.cells
  have HC := hide (lCount K w k hk)
  have HS := hide (lStops h hl false (decide_eq_false h0).symm)
  have i1 : ¬ (30 : Int) ≤ (k : Int) := by omega
  clear cf h hk
  go_enter Tryz.func38, Tryz.ntmps38
  go_wp2_with fail
  refine (unhide HC).mono ?_
  rintro e w1 ⟨rfl, hw⟩
  obtain rfl := hw.symm
  go_wp2_with fail
  refine (unhide HS).mono ?_
  rintro e w2 ⟨rfl, hL2, ht2⟩
  have HT2 := hide ht2
  have HS3 := hide (hL2.store 2 (.string (K ++ s)) (C' := C) (K' := K ++ s) (sf' := sf) (lf' := M.lessS lf) (st' := false) rfl)
  clear c0 c1 c2 c3 c4 c5 cn ht2
  obtain ⟨c0, c1, c2, c3, c4, c5, cn, cf⟩ := hL2.cells
  have f2 := cf 2
  clear cf hL2
  go_wp2_with fail
  go_ret
  exact ⟨rfl, HS3.out.1, HT2.out.trans (Grows.refl _ _) HS3.out.2⟩

theorem lWrite_stop (h : LgC base w J C uv K sf 0 false R) (hK : K.size ≤ 100000000) (k : Nat) (hk : K.data.toList.count 10 = k) (h30 : k < 30) (s : ByteArray) (hs : s.size ≤ 1000) :
    Calls Tryz.prog 38 #[.pointer (some ⟨J, 0, none⟩), .string s] w fun e w' => e = .returned (.iface 87 (.int .i64 6)) ∧ LgC base w' J C uv (K ++ s.extract 0 (s.size / 2)) sf 0 true R ∧ Tch (fun k => k = J) w w' := by
  obtain ⟨c0, c1, c2, c3, c4, c5, cn, cf⟩ := h.cells
  have HC := hide (lCount K w k hk)
  have HS := hide (lStops h (by decide) true rfl)
  have i1 : ¬ (30 : Int) ≤ (k : Int) := by omega
  have i2 : (0 : Int) ≤ (s.size : Int) / 2 := by omega
  have i3 : (s.size : Int) / 2 ≤ (s.size : Int) := by omega
  obtain ⟨hf, hhf⟩ : ∃ hf : Nat, hf = s.size / 2 := ⟨_, rfl⟩
  have i4 : (s.size : Int) / 2 = (hf : Int) := by omega
  rw [← hhf]
  clear cf h hk hhf
  go_enter Tryz.func38, Tryz.ntmps38
  go_wp2_with fail
  refine (unhide HC).mono ?_
  rintro e w1 ⟨rfl, hw⟩
  obtain rfl := hw.symm
  go_wp2_with fail
  refine (unhide HS).mono ?_
  rintro e w2 ⟨rfl, hL2, ht2⟩
  have HT2 := hide ht2
  have HL2 := hide (hL2.quiet (w' := w2.drew) ((Below.refl _ _).drew))
  have HS3 := hide (HL2.out.store 2 (.string (K ++ s.extract 0 hf)) (C' := C) (K' := K ++ s.extract 0 hf) (sf' := sf) (lf' := 0) (st' := true) rfl)
  clear c0 c1 c2 c3 c4 c5 cn ht2
  obtain ⟨c0, c1, c2, c3, c4, c5, cn, cf⟩ := hL2.cells
  have f2 := cf 2
  clear cf hL2
  go_wp2_with fail
  go_region
  all_goals
    go_wp2_with fail
    go_ret
    exact ⟨rfl, HS3.out.1, (HT2.out.then ((Below.refl _ _).drew)).trans (Grows.refl _ _) HS3.out.2⟩

theorem lSync_no (h : LgC base w J C uv K sf lf true R) :
    Calls Tryz.prog 10 #[.pointer (some ⟨J, 0, none⟩)] w fun e w' => e = .returned (.iface 87 (.int .i64 6)) ∧ w' = w := by
  obtain ⟨c0, c1, c2, c3, c4, c5, cn, cf⟩ := h.cells
  clear cf h
  go_enter Tryz.func10, Tryz.ntmps10
  go_wp2_with fail
  go_ret
  exact ⟨rfl, rfl⟩
theorem lSync_last (h : LgC base w J C uv K sf 0 false R) :
    Calls Tryz.prog 10 #[.pointer (some ⟨J, 0, none⟩)] w fun e w' => e = .returned (.iface 87 (.int .i64 6)) ∧ LgC base w' J C uv K sf 0 true R ∧ Tch (fun k => k = J) w w' := by
  obtain ⟨c0, c1, c2, c3, c4, c5, cn, cf⟩ := h.cells
  have HS := hide (lStops h (by decide) true rfl)
  clear cf h
  go_enter Tryz.func10, Tryz.ntmps10
  go_wp2_with fail
  refine (unhide HS).mono ?_
  rintro e w2 ⟨rfl, hL2, ht2⟩
  have HL2 := hide hL2
  have HT2 := hide ht2
  clear hL2 ht2
  go_wp2_with fail
  go_ret
  exact ⟨rfl, HL2.out, HT2.out⟩
theorem lSync_ok (h : LgC base w J C uv K sf lf false R) (hl : lf ≤ 9223372036854775807) (h0 : lf ≠ 0) (hK : K.size ≤ 100000000) :
    Calls Tryz.prog 10 #[.pointer (some ⟨J, 0, none⟩)] w fun e w' => e = .returned .nilIface ∧ LgC base w' J C uv K K.size (M.lessS lf) false R ∧ Tch (fun k => k = J) w w' := by
  obtain ⟨c0, c1, c2, c3, c4, c5, cn, cf⟩ := h.cells
  have HS := hide (lStops h hl false (decide_eq_false h0).symm)
  clear cf h
  go_enter Tryz.func10, Tryz.ntmps10
  go_wp2_with fail
  refine (unhide HS).mono ?_
  rintro e w2 ⟨rfl, hL2, ht2⟩
  have HT2 := hide ht2
  have HS3 := hide (hL2.store 3 (.int .i64 K.size) (C' := C) (K' := K) (sf' := K.size) (lf' := M.lessS lf) (st' := false) rfl)
  clear c0 c1 c2 c3 c4 c5 cn ht2
  obtain ⟨c0, c1, c2, c3, c4, c5, cn, cf⟩ := hL2.cells
  have f3 := cf 3
  clear cf hL2
  go_wp2_with fail
  go_ret
  exact ⟨rfl, HS3.out.1, HT2.out.trans (Grows.refl _ _) HS3.out.2⟩
theorem lFailC (h : LgC base w J C uv K sf lf st R) (m : Int) :
    Calls Tryz.prog 18 #[.pointer (some ⟨J, 0, none⟩), .int .i64 m] w fun e w' => e = .returned (.tuple #[]) ∧ LgC base w' J C uv K sf m st R ∧ Tch (fun k => k = J) w w' := by
  have HS3 := hide (h.store 4 (.int .i64 m) (C' := C) (K' := K) (sf' := sf) (lf' := m) (st' := st) rfl)
  obtain ⟨c0, c1, c2, c3, c4, c5, cn, cf⟩ := h.cells
  have f4 := cf 4
  clear cf h
  go_enter Tryz.func18, Tryz.ntmps18
  go_wp2_with fail
  go_end0
  exact ⟨rfl, HS3.out.1, HS3.out.2⟩
theorem lBytesC (h : LgC base w J C uv K sf lf st R) :
    Calls Tryz.prog 13 #[.pointer (some ⟨J, 0, none⟩)] w fun e w' => e = .returned (.int .i64 K.size) ∧ Below w.heap.size w w' := by
  obtain ⟨c0, c1, c2, c3, c4, c5, cn, cf⟩ := h.cells
  clear cf h
  go_enter Tryz.func13, Tryz.ntmps13
  go_wp2_with fail
  go_ret
  exact ⟨rfl, Below.refl _ _⟩
theorem lSafeC (h : LgC base w J C uv K sf lf st R) :
    Calls Tryz.prog 14 #[.pointer (some ⟨J, 0, none⟩)] w fun e w' => e = .returned (.int .i64 sf) ∧ Below w.heap.size w w' := by
  obtain ⟨c0, c1, c2, c3, c4, c5, cn, cf⟩ := h.cells
  clear cf h
  go_enter Tryz.func14, Tryz.ntmps14
  go_wp2_with fail
  go_ret
  exact ⟨rfl, Below.refl _ _⟩
theorem lMarkC (h : LgC base w J C uv K sf lf st R) (hc : CpIs base w F C c R) (ht : TabFrom base w) :
    Calls Tryz.prog 12 #[.pointer (some ⟨J, 0, none⟩)] w fun e w' => e = .returned (.tuple #[.int .i64 c.n, .int .i64 (M.mark c.l)]) ∧ Below w.heap.size w w' := by
  obtain ⟨c0, c1, c2, c3, c4, c5, cn, cf⟩ := h.cells
  have HM := hide (mMark hc ht)
  generalize M.mark c.l = y at *
  generalize c.n = z at *
  clear cf h hc ht
  go_enter Tryz.func12, Tryz.ntmps12
  go_wp2_with fail
  refine (unhide HM).mono ?_
  rintro e w1 ⟨rfl, hb1⟩
  have HB1 := hide hb1
  clear hb1
  go_wp2_with fail
  go_ret2
  exact ⟨rfl, HB1.out⟩
end

end Go.Proofs.YtlefhfmckimlaakGreatDoor
