/-
  What package log's small functions do: number, record, stops, write, each as one law of its call; and the library's cut at one byte.
-/
import Derived.Test.YtlefhfmckimlaakGreatDoorLogOwn
import Derived.Test.YtlefhfmckimlaakGreatDoorShelf
import Derived.Test.YtlefhfmckimlaakGreatDoorJParse
import Derived.Test.YtlefhfmckimlaakGreatDoorJTupP
import Derived.Test.YtlefhfmckimlaakGreatDoorJPrint
import Derived.Deep.RegionHeld3
import Derived.Deep.RegionWith
import Derived.BigQuiet
import Derived.Deep.QuietTactic
set_option linter.unusedVariables false
namespace Go.Proofs.YtlefhfmckimlaakGreatDoor
open Go.RowKit
attribute [local go_sem ↓] Go.wp_at_zero Go.wp_at_succ

theorem num_back {n : Int} (h1 : -1000000 ≤ n) (h2 : n ≤ 1000000) (w : World) : Calls Tryz.prog 86 #[.string (bytesB (Lib.itoa n))] w fun e w' => e = .returned (.int .i64 n) ∧ Below w.heap.size w w' := by
  have HA : Hid (Calls Tryz.prog 130 #[.string (bytesB (Lib.itoa n))] w fun e w' => e = .returned (.tuple #[.int .i64 n, .nilIface]) ∧ Below w.heap.size w w') := hide (by
    obtain ⟨i1, i2⟩ := M.num_itoa n h1 h2
    have := atoiOk (bytesB (Lib.itoa n)) w (by rw [bytesB_list]; exact i1)
    rwa [bytesB_list, i2] at this)
  generalize bytesB (Lib.itoa n) = s at *
  clear h1 h2
  go_enter Tryz.func86, Tryz.ntmps86
  go_wp2_with fail
  refine (unhide HA).mono ?_
  rintro e w1 ⟨rfl, hb1⟩
  have HB1 := hide hb1
  clear hb1
  go_wp2_with fail
  go_ret
  exact ⟨rfl, HB1.out⟩

theorem itoaC (n : Int) (w : World) (h0 : -1000000 ≤ n) (h1 : n ≤ 1000000) (ht : Tab w) : Calls Tryz.prog 82 #[.int .i64 n] w fun e w' => e = .returned (.string (bytesB (Lib.itoa n))) ∧ Below w.heap.size w w' := itoaB n w h0 h1 ht

set_option maxHeartbeats 1000000 in
/-- a record -/
theorem lRecord (x : M.Ask) (hx : M.RecOk x) (a : Option Addr) (n cp : Nat) (w : World) (hv : IsVals w (.slice a n cp) x.t) (hT : Tab w) :
    Calls Tryz.prog 39 #[aggA x.who x.seq x.deed a n cp] w fun e w' => e = .returned (.string (bytesB (M.recE x))) ∧ Below w.heap.size w w' := by
  obtain ⟨n1, n2, n3, n4⟩ := hx.nums
  have HB : Hid (∀ o, Below w.heap.size w (w.alloc o)) := hide fun o => (Below.refl _ _).alloc (Nat.le_refl _) o
  have HT : Hid (∀ wx, Below w.heap.size w wx → Tab wx) := hide fun wx hb => hT.stays hb (Nat.le_refl _)
  have HP : Hid (∀ wx, Below w.heap.size w wx → Calls Tryz.prog 81 #[.slice a n cp] wx fun e w' => e = .returned (.tuple #[.string (M.line x.t), .nilIface]) ∧ Below wx.heap.size wx w') := hide fun wx hb => by
    have := tprint (.slice a n cp) _ wx (hv.stays hb (Nat.le_refl _)) (hT.stays hb (Nat.le_refl _))
    rwa [n4, if_pos rfl] at this
  have HI : Hid (∀ m wx, (m = x.who ∨ m = x.seq ∨ m = x.deed) → Below w.heap.size w wx → Calls Tryz.prog 82 #[.int .i64 m] wx fun e w' => e = .returned (.string (bytesB (Lib.itoa m))) ∧ Below wx.heap.size wx w') := hide fun m wx hm hb => by
    refine itoaC m wx ?_ ?_ (hT.stays hb (Nat.le_refl _))
    · rcases hm with rfl | rfl | rfl <;> omega
    · rcases hm with rfl | rfl | rfl <;> omega
  have HE : Hid (bytesB (M.recE x) = bytesB (Lib.itoa x.who) ++ ⟨#[32]⟩ ++ bytesB (Lib.itoa x.seq) ++ ⟨#[32]⟩ ++ bytesB (Lib.itoa x.deed) ++ ⟨#[32]⟩ ++ M.line x.t ++ ⟨#[10]⟩) := hide (by
    apply WideShapes.bytes_inj
    simp [ByteArray.data_append, M.recE, M.recL])
  have hz : (M.line x.t).size ≤ 70 := M.line_small n4
  have z1 := (M.itoa_bytes n1.1 n1.2).2.2
  have z2 := (M.itoa_bytes n2.1 n2.2).2.2
  have z3 := (M.itoa_bytes n3.1 n3.2).2.2
  rw [HE.out]
  obtain ⟨who, seq, deed, t⟩ := x
  simp only at HI HP hv z1 z2 z3 ⊢
  have y1 : (bytesB (Lib.itoa who)).size ≤ 8 := by rw [bytesB_size]; exact z1
  have y2 : (bytesB (Lib.itoa seq)).size ≤ 8 := by rw [bytesB_size]; exact z2
  have y3 : (bytesB (Lib.itoa deed)).size ≤ 8 := by rw [bytesB_size]; exact z3
  clear z1 z2 z3
  have I1 : Hid (∀ wx, Below w.heap.size w wx → Calls Tryz.prog 82 #[.int .i64 who] wx fun e w' => e = .returned (.string (bytesB (Lib.itoa who))) ∧ Below wx.heap.size wx w') := hide fun wx hb => HI.out who wx (Or.inl rfl) hb
  have I2 : Hid (∀ wx, Below w.heap.size w wx → Calls Tryz.prog 82 #[.int .i64 seq] wx fun e w' => e = .returned (.string (bytesB (Lib.itoa seq))) ∧ Below wx.heap.size wx w') := hide fun wx hb => HI.out seq wx (Or.inr (Or.inl rfl)) hb
  have I3 : Hid (∀ wx, Below w.heap.size w wx → Calls Tryz.prog 82 #[.int .i64 deed] wx fun e w' => e = .returned (.string (bytesB (Lib.itoa deed))) ∧ Below wx.heap.size wx w') := hide fun wx hb => HI.out deed wx (Or.inr (Or.inr rfl)) hb
  generalize bytesB (Lib.itoa who) = s1 at *
  generalize bytesB (Lib.itoa seq) = s2 at *
  generalize bytesB (Lib.itoa deed) = s3 at *
  generalize M.line t = s4 at *
  have q : ∀ (a b : ByteArray), a.size + b.size ≤ 1000 → ∀ w, (Op.stringOp .add a b).run Tryz.prog w = .ok (.string (a ++ b)) w := fun a b h w => run_string_add_sum w a b (by omega)
  have e32 : (⟨#[32]⟩ : ByteArray).size = 1 := rfl
  have e10 : (⟨#[10]⟩ : ByteArray).size = 1 := rfl
  obtain ⟨u1, hu1⟩ : ∃ u1, s1 ++ ⟨#[32]⟩ = u1 := ⟨_, rfl⟩
  have z1 : u1.size ≤ 9 := by rw [← hu1, ByteArray.size_append]; omega
  have k1 := q s1 ⟨#[32]⟩ (by omega)
  rw [hu1] at k1 ⊢
  obtain ⟨u2, hu2⟩ : ∃ u2, u1 ++ s2 = u2 := ⟨_, rfl⟩
  have z2 : u2.size ≤ 17 := by rw [← hu2, ByteArray.size_append]; omega
  have k2 := q u1 s2 (by omega)
  rw [hu2] at k2 ⊢
  obtain ⟨u3, hu3⟩ : ∃ u3, u2 ++ ⟨#[32]⟩ = u3 := ⟨_, rfl⟩
  have z3 : u3.size ≤ 18 := by rw [← hu3, ByteArray.size_append]; omega
  have k3 := q u2 ⟨#[32]⟩ (by omega)
  rw [hu3] at k3 ⊢
  obtain ⟨u4, hu4⟩ : ∃ u4, u3 ++ s3 = u4 := ⟨_, rfl⟩
  have z4 : u4.size ≤ 26 := by rw [← hu4, ByteArray.size_append]; omega
  have k4 := q u3 s3 (by omega)
  rw [hu4] at k4 ⊢
  obtain ⟨u5, hu5⟩ : ∃ u5, u4 ++ ⟨#[32]⟩ = u5 := ⟨_, rfl⟩
  have z5 : u5.size ≤ 27 := by rw [← hu5, ByteArray.size_append]; omega
  have k5 := q u4 ⟨#[32]⟩ (by omega)
  rw [hu5] at k5 ⊢
  obtain ⟨u6, hu6⟩ : ∃ u6, u5 ++ s4 = u6 := ⟨_, rfl⟩
  have z6 : u6.size ≤ 97 := by rw [← hu6, ByteArray.size_append]; omega
  have k6 := q u5 s4 (by omega)
  rw [hu6] at k6 ⊢
  have k7 := q u6 ⟨#[10]⟩ (by omega)
  generalize u6 ++ ⟨#[10]⟩ = u7 at *
  clear q e32 e10 hu1 hu2 hu3 hu4 hu5 hu6 z1 z2 z3 z4 z5 z6 y1 y2 y3 hz
  obtain ⟨W0, hW0⟩ : ∃ W0, W0 = w.alloc (.cells #[.int .i64 who, .int .i64 seq, .int .i64 deed, .slice a n cp] 38) := ⟨_, rfl⟩
  have HX : Hid (∀ wx, Below W0.heap.size W0 wx → AskBox wx w.heap.size who seq deed a n cp) := hide fun wx hb => by subst hW0; exact AskBox.new hb
  have HU : Hid (∀ wx, Below W0.heap.size W0 wx → Below w.heap.size w wx) := hide fun wx hb => by subst hW0; exact (HB.out _).trans (hb.mono (by simp))
  have HU0 : Hid (Below w.heap.size w W0) := hide (by subst hW0; exact HB.out _)
  clear HI HE n1 n2 n3 n4 hv hT hx
  go_enter Tryz.func39, Tryz.ntmps39
  go_wp2_with fail
  rw [← hW0]
  clear hW0
  refine (HP.out _ HU0.out).mono ?_
  rintro e w1 ⟨rfl, hb1⟩
  have HW1 := hide hb1.drew
  obtain ⟨b0, b1, b2, b3, bn⟩ := (HX.out w1 hb1).cells
  clear hb1
  go_wp2_with fail
  go_region_held3 (fun w' => w'.cell? ⟨w.heap.size, 0, none⟩ = some (.int .i64 who) ∧ w'.cell? ⟨w.heap.size, 1, none⟩ = some (.int .i64 seq) ∧ w'.cell? ⟨w.heap.size, 2, none⟩ = some (.int .i64 deed)) (first | go_keep | assumption)
    (first
      | (go_at_call_of 82 who; refine (I1.out _ (HU.out _ HW1.out)).mono ?_; rintro e w2 ⟨rfl, hb2⟩; replace HW1 := hide (HW1.out.trans (hb2.mono HW1.out.size)); obtain ⟨t0, t1, t2, t3, tn⟩ := (HX.out _ HW1.out).cells; clear hb2)
      | (go_at_call_of 82 seq; refine (I2.out _ (HU.out _ HW1.out)).mono ?_; rintro e w3 ⟨rfl, hb3⟩; replace HW1 := hide (HW1.out.trans (hb3.mono HW1.out.size)); obtain ⟨t0, t1, t2, t3, tn⟩ := (HX.out _ HW1.out).cells; clear hb3)
      | (go_at_call_of 82 deed; refine (I3.out _ (HU.out _ HW1.out)).mono ?_; rintro e w4 ⟨rfl, hb4⟩; replace HW1 := hide (HW1.out.trans (hb4.mono HW1.out.size)); obtain ⟨t0, t1, t2, t3, tn⟩ := (HX.out _ HW1.out).cells; clear hb4))
  all_goals
    go_wp2_with fail
    go_ret
    exact ⟨rfl, HU.out _ HW1.out⟩

end Go.Proofs.YtlefhfmckimlaakGreatDoor
