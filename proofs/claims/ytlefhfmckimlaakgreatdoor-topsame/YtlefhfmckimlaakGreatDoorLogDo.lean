/-
  What Do and New of package log do, each as one law of its call.
-/
import Derived.Test.YtlefhfmckimlaakGreatDoorLogStep
import Derived.Test.YtlefhfmckimlaakGreatDoorLogWalks
import Derived.Test.YtlefhfmckimlaakGreatDoorCopNew
import Derived.Deep.RegionHeld3
set_option linter.unusedVariables false
namespace Go.Proofs.YtlefhfmckimlaakGreatDoor
open Go.RowKit
attribute [local go_sem ↓] Go.wp_at_zero Go.wp_at_succ

section
variable {base : Nat} {w w' : World} {J C : Nat} {uv : Value} {K : ByteArray} {sf lf : Int} {st : Bool} {R : List M.Rul} {F : Nat → Prop} {c : M.Cop} {g : M.Lg} {who seq deed : Int} {a : Option Addr} {n cp : Nat}

/-- the box of what is asked beside a log -/
theorem LgC.box {N : Nat} (h : LgC base w J C uv K sf lf st R) (ht : Tch (fun k => k = J) w w') (hb : AskBox w N who seq deed a n cp) : AskBox w' N who seq deed a n cp :=
  (ht.block N (heap_lt hb) (fun e => by rw [AskBox, e, h.heap] at hb; exact absurd (tag_eq hb) (by decide))).trans hb

theorem lDo_stop (h : LgC base w J C uv K sf lf true R) :
    Calls Tryz.prog 9 #[.pointer (some ⟨J, 0, none⟩), aggA who seq deed a n cp] w fun e w' => e = .returned (.tuple #[.string M.sNo, .iface 87 (.int .i64 6)]) ∧ Below w.heap.size w w' := by
  have HB : Hid (∀ o, Below w.heap.size w (w.alloc o)) := hide fun o => (Below.refl _ _).alloc (Nat.le_refl _) o
  obtain ⟨c0, c1, c2, c3, c4, c5, cn, cf⟩ := (h.quiet (HB.out (.cells #[.int .i64 who, .int .i64 seq, .int .i64 deed, .slice a n cp] 38))).cells
  clear cf h
  go_enter Tryz.func9, Tryz.ntmps9
  go_wp2_with fail
  go_ret2
  exact ⟨rfl, HB.out _⟩

theorem lDo_bad (h : LgC base w J C uv K sf lf false R) (E : Int) (bb : Bool) (HA : ∀ wx, Below w.heap.size w wx → Calls Tryz.prog 37 #[.pointer (some ⟨C, 0, none⟩), aggA who seq deed a n cp] wx fun e w' => e = .returned (.tuple #[.bool bb, .iface 87 (.int .i64 E)]) ∧ Below wx.heap.size wx w') :
    Calls Tryz.prog 9 #[.pointer (some ⟨J, 0, none⟩), aggA who seq deed a n cp] w fun e w' => e = .returned (.tuple #[.string M.sNo, .iface 87 (.int .i64 E)]) ∧ Below w.heap.size w w' := by
  have HB : Hid (∀ o, Below w.heap.size w (w.alloc o)) := hide fun o => (Below.refl _ _).alloc (Nat.le_refl _) o
  have HX : Hid (AskBox (w.alloc (.cells #[.int .i64 who, .int .i64 seq, .int .i64 deed, .slice a n cp] 38)) w.heap.size who seq deed a n cp) := hide (AskBox.new (Below.refl _ _))
  have HL := hide h
  have HH := hide HA
  clear h HA
  obtain ⟨b0, b1, b2, b3, bn⟩ := HX.out.cells
  obtain ⟨c0, c1, c2, c3, c4, c5, cn, cf⟩ := (HL.out.quiet (HB.out (.cells #[.int .i64 who, .int .i64 seq, .int .i64 deed, .slice a n cp] 38))).cells
  clear cf
  go_enter Tryz.func9, Tryz.ntmps9
  go_wp2_with fail
  go_region_held3 (fun w' => w'.cell? ⟨J, 1, none⟩ = some (.pointer (some ⟨C, 0, none⟩)) ∧ w'.cell? ⟨w.heap.size, 0, none⟩ = some (.int .i64 who) ∧ w'.cell? ⟨w.heap.size, 1, none⟩ = some (.int .i64 seq) ∧ w'.cell? ⟨w.heap.size, 2, none⟩ = some (.int .i64 deed) ∧ w'.cell? ⟨w.heap.size, 3, none⟩ = some (.slice a n cp)) (first | go_keep | assumption)
    (first
      | (go_at_call 37; refine (HH.out _ (HB.out _).drew).mono ?_; rintro e w1 ⟨rfl, hb1⟩; have HB1 := hide ((HB.out (.cells #[.int .i64 who, .int .i64 seq, .int .i64 deed, .slice a n cp] 38)).drew.trans (hb1.mono (HB.out _).drew.size)); obtain ⟨t0, t1, t2, t3, tn⟩ := (AskBox.below (w := (w.alloc (.cells #[.int .i64 who, .int .i64 seq, .int .i64 deed, .slice a n cp] 38)).drew) HX.out hb1).cells; obtain ⟨r0, r1, _, _, _, _, rn, _⟩ := (HL.out.quiet HB1.out).cells; clear hb1))
  go_wp2_with fail
  go_ret2
  exact ⟨rfl, HB1.out⟩

/-- it is the last one again: the copy is asked -/
theorem lDo_again (h : LgC base w J C uv K sf lf false R) (s : ByteArray) (HA : ∀ wx, Below w.heap.size w wx → Calls Tryz.prog 37 #[.pointer (some ⟨C, 0, none⟩), aggA who seq deed a n cp] wx fun e w' => e = .returned (.tuple #[.bool true, .nilIface]) ∧ Below wx.heap.size wx w')
    (HD : ∀ wx, Below w.heap.size w wx → Calls Tryz.prog 28 #[.pointer (some ⟨C, 0, none⟩), aggA who seq deed a n cp] wx fun e w' => e = .returned (.tuple #[.string s, .nilIface]) ∧ ∃ F', CpIs base w' F' C c R ∧ Tch F wx w' ∧ Grows wx F F') (hc : CpIs base w F C c R) (hu : ∀ k, uv.ownBlock = some k → ¬ F k) :
    Calls Tryz.prog 9 #[.pointer (some ⟨J, 0, none⟩), aggA who seq deed a n cp] w fun e w' => e = .returned (.tuple #[.string s, .nilIface]) ∧ LgC base w' J C uv K sf lf false R ∧ ∃ F', CpIs base w' F' C c R ∧ (∀ k, uv.ownBlock = some k → ¬ F' k) ∧ Tch (lgF J uv F) w w' ∧ Grows w (lgF J uv F) (lgF J uv F') := by
  have HB : Hid (∀ o, Below w.heap.size w (w.alloc o)) := hide fun o => (Below.refl _ _).alloc (Nat.le_refl _) o
  have HX : Hid (AskBox (w.alloc (.cells #[.int .i64 who, .int .i64 seq, .int .i64 deed, .slice a n cp] 38)) w.heap.size who seq deed a n cp) := hide (AskBox.new (Below.refl _ _))
  have HL := hide h
  have HH := hide HA
  have HDD := hide HD
  have HCC := hide hc
  have HUU := hide hu
  clear h HA HD hc hu
  obtain ⟨b0, b1, b2, b3, bn⟩ := HX.out.cells
  obtain ⟨c0, c1, c2, c3, c4, c5, cn, cf⟩ := (HL.out.quiet (HB.out (.cells #[.int .i64 who, .int .i64 seq, .int .i64 deed, .slice a n cp] 38))).cells
  clear cf
  go_enter Tryz.func9, Tryz.ntmps9
  go_wp2_with fail
  go_region_held3 (fun w' => w'.cell? ⟨J, 1, none⟩ = some (.pointer (some ⟨C, 0, none⟩)) ∧ w'.cell? ⟨w.heap.size, 0, none⟩ = some (.int .i64 who) ∧ w'.cell? ⟨w.heap.size, 1, none⟩ = some (.int .i64 seq) ∧ w'.cell? ⟨w.heap.size, 2, none⟩ = some (.int .i64 deed) ∧ w'.cell? ⟨w.heap.size, 3, none⟩ = some (.slice a n cp)) (first | go_keep | assumption)
    (first
      | (go_at_call 37; refine (HH.out _ (HB.out _).drew).mono ?_; rintro e w1 ⟨rfl, hb1⟩; have HB1 := hide ((HB.out (.cells #[.int .i64 who, .int .i64 seq, .int .i64 deed, .slice a n cp] 38)).drew.trans (hb1.mono (HB.out _).drew.size)); have HX1 := hide (AskBox.below (w := (w.alloc (.cells #[.int .i64 who, .int .i64 seq, .int .i64 deed, .slice a n cp] 38)).drew) HX.out hb1); obtain ⟨t0, t1, t2, t3, tn⟩ := HX1.out.cells; obtain ⟨r0, r1, _, _, _, _, rn, _⟩ := (HL.out.quiet HB1.out).cells; clear hb1))
  clear b0 b1 b2 b3 bn c0 c1 c2 c3 c4 c5 cn
  go_wp2_with fail
  go_region_held3 (fun w' => w'.cell? ⟨J, 1, none⟩ = some (.pointer (some ⟨C, 0, none⟩)) ∧ w'.cell? ⟨w.heap.size, 0, none⟩ = some (.int .i64 who) ∧ w'.cell? ⟨w.heap.size, 1, none⟩ = some (.int .i64 seq) ∧ w'.cell? ⟨w.heap.size, 2, none⟩ = some (.int .i64 deed) ∧ w'.cell? ⟨w.heap.size, 3, none⟩ = some (.slice a n cp)) (first | go_keep | assumption)
    (first
      | (go_at_call 28; refine (HDD.out _ HB1.out.drew).mono ?_; rintro e w2 ⟨rfl, F2, hc2, ht2, hg2⟩; have HC2 := hide hc2; have HR2 := hide ((HL.out.quiet HB1.out.drew).copied (HCC.out.quiet HB1.out.drew) HUU.out ht2 hg2); obtain ⟨y0, y1, y2, y3, yn⟩ := ((HCC.out.quiet HB1.out.drew).box ht2 (show AskBox w1.drew w.heap.size who seq deed a n cp from HX1.out)).cells; obtain ⟨z0, z1, _, _, _, _, zn, _⟩ := HR2.out.1.cells; clear hc2 ht2 hg2))
  go_wp2_with fail
  go_ret2
  exact ⟨rfl, HR2.out.1, F2, HC2.out, HR2.out.2.2.2, HR2.out.2.1.after HB1.out.drew, fun i hi => (HR2.out.2.2.1 i hi).imp id (fun q => Nat.le_trans HB1.out.drew.size q)⟩

/-- a record is written, or not: the step says an error -/
theorem lDo_wrote (h : LgC base w J C uv K sf lf false R) (E : Int) (s : ByteArray) (P : World → World → Prop) (HA : ∀ wx, Below w.heap.size w wx → Calls Tryz.prog 37 #[.pointer (some ⟨C, 0, none⟩), aggA who seq deed a n cp] wx fun e w' => e = .returned (.tuple #[.bool false, .nilIface]) ∧ Below wx.heap.size wx w')
    (HR : ∀ wx, Below w.heap.size w wx → Calls Tryz.prog 39 #[aggA who seq deed a n cp] wx fun e w' => e = .returned (.string s) ∧ Below wx.heap.size wx w')
    (HW : ∀ wx, Below w.heap.size w wx → Calls Tryz.prog 38 #[.pointer (some ⟨J, 0, none⟩), .string s] wx fun e w' => e = .returned (.iface 87 (.int .i64 E)) ∧ P wx w') :
    Calls Tryz.prog 9 #[.pointer (some ⟨J, 0, none⟩), aggA who seq deed a n cp] w fun e w' => e = .returned (.tuple #[.string M.sNo, .iface 87 (.int .i64 E)]) ∧ ∃ wx, Below w.heap.size w wx ∧ P wx w' := by
  have HB : Hid (∀ o, Below w.heap.size w (w.alloc o)) := hide fun o => (Below.refl _ _).alloc (Nat.le_refl _) o
  have HX : Hid (AskBox (w.alloc (.cells #[.int .i64 who, .int .i64 seq, .int .i64 deed, .slice a n cp] 38)) w.heap.size who seq deed a n cp) := hide (AskBox.new (Below.refl _ _))
  have HL := hide h
  have HH := hide HA
  have HRR := hide HR
  have HWW := hide HW
  clear h HA HR HW
  obtain ⟨b0, b1, b2, b3, bn⟩ := HX.out.cells
  obtain ⟨c0, c1, c2, c3, c4, c5, cn, cf⟩ := (HL.out.quiet (HB.out (.cells #[.int .i64 who, .int .i64 seq, .int .i64 deed, .slice a n cp] 38))).cells
  clear cf
  go_enter Tryz.func9, Tryz.ntmps9
  go_wp2_with fail
  go_region_held3 (fun w' => w'.cell? ⟨J, 1, none⟩ = some (.pointer (some ⟨C, 0, none⟩)) ∧ w'.cell? ⟨w.heap.size, 0, none⟩ = some (.int .i64 who) ∧ w'.cell? ⟨w.heap.size, 1, none⟩ = some (.int .i64 seq) ∧ w'.cell? ⟨w.heap.size, 2, none⟩ = some (.int .i64 deed) ∧ w'.cell? ⟨w.heap.size, 3, none⟩ = some (.slice a n cp)) (first | go_keep | assumption)
    (first
      | (go_at_call 37; refine (HH.out _ (HB.out _).drew).mono ?_; rintro e w1 ⟨rfl, hb1⟩; have HB1 := hide ((HB.out (.cells #[.int .i64 who, .int .i64 seq, .int .i64 deed, .slice a n cp] 38)).drew.trans (hb1.mono (HB.out _).drew.size)); have HX1 := hide (AskBox.below (w := (w.alloc (.cells #[.int .i64 who, .int .i64 seq, .int .i64 deed, .slice a n cp] 38)).drew) HX.out hb1); obtain ⟨t0, t1, t2, t3, tn⟩ := HX1.out.cells; obtain ⟨r0, r1, _, _, _, _, rn, _⟩ := (HL.out.quiet HB1.out).cells; clear hb1))
  clear b0 b1 b2 b3 bn c0 c1 c2 c3 c4 c5 cn
  go_wp2_with fail
  refine (HRR.out _ HB1.out).mono ?_
  rintro e w2 ⟨rfl, hb2⟩
  have HB2 := hide (HB1.out.trans (hb2.mono HB1.out.size))
  clear hb2
  go_wp2_with fail
  refine (HWW.out _ HB2.out).mono ?_
  rintro e w3 ⟨rfl, hp⟩
  have HPP := hide hp
  clear hp
  go_wp2_with fail
  go_ret2
  exact ⟨rfl, w2, HB2.out, HPP.out⟩

/-- it is done -/
theorem lDo_did {K' : ByteArray} {lf' : Int} {c' : M.Cop} (h : LgC base w J C uv K sf lf false R) (s t : ByteArray) (HA : ∀ wx, Below w.heap.size w wx → Calls Tryz.prog 37 #[.pointer (some ⟨C, 0, none⟩), aggA who seq deed a n cp] wx fun e w' => e = .returned (.tuple #[.bool false, .nilIface]) ∧ Below wx.heap.size wx w')
    (HR : ∀ wx, Below w.heap.size w wx → Calls Tryz.prog 39 #[aggA who seq deed a n cp] wx fun e w' => e = .returned (.string s) ∧ Below wx.heap.size wx w')
    (HW : ∀ wx, Below w.heap.size w wx → Calls Tryz.prog 38 #[.pointer (some ⟨J, 0, none⟩), .string s] wx fun e w' => e = .returned .nilIface ∧ LgC base w' J C uv K' sf lf' false R ∧ Tch (fun k => k = J) wx w')
    (HD : ∀ wx, Tch (fun k => k = J) w wx → CpIs base wx F C c R → Calls Tryz.prog 28 #[.pointer (some ⟨C, 0, none⟩), aggA who seq deed a n cp] wx fun e w' => e = .returned (.tuple #[.string t, .nilIface]) ∧ ∃ F', CpIs base w' F' C c' R ∧ Tch F wx w' ∧ Grows wx F F') (hc : CpIs base w F C c R) (hu : ∀ k, uv.ownBlock = some k → ¬ F k) :
    Calls Tryz.prog 9 #[.pointer (some ⟨J, 0, none⟩), aggA who seq deed a n cp] w fun e w' => e = .returned (.tuple #[.string t, .nilIface]) ∧ LgC base w' J C uv K' sf lf' false R ∧ ∃ F', CpIs base w' F' C c' R ∧ (∀ k, uv.ownBlock = some k → ¬ F' k) ∧ Tch (lgF J uv F) w w' ∧ Grows w (lgF J uv F) (lgF J uv F') := by
  have HB : Hid (∀ o, Below w.heap.size w (w.alloc o)) := hide fun o => (Below.refl _ _).alloc (Nat.le_refl _) o
  have HX : Hid (AskBox (w.alloc (.cells #[.int .i64 who, .int .i64 seq, .int .i64 deed, .slice a n cp] 38)) w.heap.size who seq deed a n cp) := hide (AskBox.new (Below.refl _ _))
  have HL := hide h
  have HH := hide HA
  have HRR := hide HR
  have HWW := hide HW
  have HDD := hide HD
  have HCC := hide hc
  have HUU := hide hu
  clear h HA HR HW HD hc hu
  obtain ⟨b0, b1, b2, b3, bn⟩ := HX.out.cells
  obtain ⟨c0, c1, c2, c3, c4, c5, cn, cf⟩ := (HL.out.quiet (HB.out (.cells #[.int .i64 who, .int .i64 seq, .int .i64 deed, .slice a n cp] 38))).cells
  clear cf
  go_enter Tryz.func9, Tryz.ntmps9
  go_wp2_with fail
  go_region_held3 (fun w' => w'.cell? ⟨J, 1, none⟩ = some (.pointer (some ⟨C, 0, none⟩)) ∧ w'.cell? ⟨w.heap.size, 0, none⟩ = some (.int .i64 who) ∧ w'.cell? ⟨w.heap.size, 1, none⟩ = some (.int .i64 seq) ∧ w'.cell? ⟨w.heap.size, 2, none⟩ = some (.int .i64 deed) ∧ w'.cell? ⟨w.heap.size, 3, none⟩ = some (.slice a n cp)) (first | go_keep | assumption)
    (first
      | (go_at_call 37; refine (HH.out _ (HB.out _).drew).mono ?_; rintro e w1 ⟨rfl, hb1⟩; have HB1 := hide ((HB.out (.cells #[.int .i64 who, .int .i64 seq, .int .i64 deed, .slice a n cp] 38)).drew.trans (hb1.mono (HB.out _).drew.size)); have HX1 := hide (AskBox.below (w := (w.alloc (.cells #[.int .i64 who, .int .i64 seq, .int .i64 deed, .slice a n cp] 38)).drew) HX.out hb1); obtain ⟨t0, t1, t2, t3, tn⟩ := HX1.out.cells; obtain ⟨r0, r1, _, _, _, _, rn, _⟩ := (HL.out.quiet HB1.out).cells; clear hb1))
  clear b0 b1 b2 b3 bn c0 c1 c2 c3 c4 c5 cn
  go_wp2_with fail
  refine (HRR.out _ HB1.out).mono ?_
  rintro e w2 ⟨rfl, hb2⟩
  have HB2 := hide (HB1.out.trans (hb2.mono HB1.out.size))
  have HX2 := hide (HX1.out.below hb2)
  clear hb2 t0 t1 t2 t3 tn r0 r1 rn
  go_wp2_with fail
  refine (HWW.out _ HB2.out).mono ?_
  rintro e w3 ⟨rfl, hL3, ht3⟩
  have HL3 := hide hL3
  have HT3 := hide ht3
  have HX3 := hide ((HL.out.quiet HB2.out).box ht3 HX2.out)
  have HC3 := hide ((HCC.out.quiet HB2.out).logged (HL.out.quiet HB2.out) ht3)
  clear hL3 ht3
  obtain ⟨b0, b1, b2, b3, bn⟩ := HX3.out.cells
  obtain ⟨c0, c1, c2, c3, c4, c5, cn, cf⟩ := HL3.out.cells
  clear cf
  go_wp2_with fail
  go_region_held3 (fun w' => w'.cell? ⟨J, 1, none⟩ = some (.pointer (some ⟨C, 0, none⟩)) ∧ w'.cell? ⟨w.heap.size, 0, none⟩ = some (.int .i64 who) ∧ w'.cell? ⟨w.heap.size, 1, none⟩ = some (.int .i64 seq) ∧ w'.cell? ⟨w.heap.size, 2, none⟩ = some (.int .i64 deed) ∧ w'.cell? ⟨w.heap.size, 3, none⟩ = some (.slice a n cp)) (first | go_keep | assumption)
    (first
      | (go_at_call 28; refine (HDD.out _ ((HT3.out.after HB2.out).then ((Below.refl _ _).drew)) (HC3.out.quiet ((Below.refl _ _).drew))).mono ?_; rintro e w4 ⟨rfl, F4, hc4, ht4, hg4⟩; have HC4 := hide hc4; have HR4 := hide ((HL3.out.quiet (w' := w3.drew) ((Below.refl _ _).drew)).copied (HC3.out.quiet ((Below.refl _ _).drew)) HUU.out ht4 hg4); obtain ⟨y0, y1, y2, y3, yn⟩ := ((HC3.out.quiet (w' := w3.drew) ((Below.refl _ _).drew)).box ht4 (show AskBox w3.drew w.heap.size who seq deed a n cp from HX3.out)).cells; obtain ⟨z0, z1, _, _, _, _, zn, _⟩ := HR4.out.1.cells; clear hc4 ht4 hg4))
  go_wp2_with fail
  go_ret2
  exact ⟨rfl, HR4.out.1, F4, HC4.out, HR4.out.2.2.2, ((LgC.tch HT3.out).after HB2.out).trans (Grows.refl _ _) (HR4.out.2.1.after ((Below.refl _ _).drew)), fun i hi => (HR4.out.2.2.1 i hi).imp id (fun q => Nat.le_trans (Nat.le_trans HB2.out.size HT3.out.size) q)⟩
end

/-- New -/
theorem lNew_bad (av : Option Addr) (n cap : Nat) (L : List M.Rul) (w : World) (hn : n = L.length) (hm : n ≤ maxLen) (hl : AtR w av L) (hE : M.rulE L ≠ 0) :
    Calls Tryz.prog 8 #[.slice av n cap] w fun e w' => e = .returned (.tuple #[.pointer none, errV (M.rulE L)]) ∧ Below w.heap.size w w' := by
  have HC : Hid (Calls Tryz.prog 24 #[.slice av n cap] w fun e w' => e = .returned (.tuple #[.pointer none, .iface 87 (.int .i64 (M.rulE L))]) ∧ Below w.heap.size w w') := hide (by have := mNew_bad av n cap L w hn hm hl hE; rwa [errV_bad hE] at this)
  rw [errV_bad hE]
  generalize M.rulE L = E at *
  clear hn hm hl hE
  go_enter Tryz.func8, Tryz.ntmps8
  go_wp2_with fail
  refine (unhide HC).mono ?_
  rintro e w1 ⟨rfl, hb1⟩
  go_wp2_with fail
  go_ret2
  exact ⟨rfl, hb1⟩

theorem lNew_ok (base : Nat) (av : Option Addr) (n cap : Nat) (L : List M.Rul) (w : World) (hb : base ≤ w.heap.size) (hn : n = L.length) (hm : n ≤ maxLen) (hl : AtR w av L) (hE : M.rulE L = 0) :
    Calls Tryz.prog 8 #[.slice av n cap] w fun e w' => ∃ J F, e = .returned (.tuple #[.pointer (some ⟨J, 0, none⟩), .nilIface]) ∧ LgIs base w' F J M.Lg.new L ∧ (∀ i, F i → w.heap.size ≤ i) ∧ Below w.heap.size w w' := by
  have HM := hide (mNew_ok base av n cap L w hb hn hm hl hE)
  have HF : Hid (∀ wx, Below w.heap.size w wx → Calls Tryz.prog 36 #[.slice av n cap] wx fun e w' => ∃ va vn vc, e = .returned (.slice va vn vc) ∧ OwnR wx.heap.size w' (.slice va vn vc) L ∧ Below wx.heap.size wx w') := hide fun wx hw => rFresh av n cap L wx hn (hl.stays hw (Nat.le_refl _)) hE
  have HBB := hide hb
  have HEE := hide hE
  clear hb hn hm hl hE
  go_enter Tryz.func8, Tryz.ntmps8
  go_wp2_with fail
  refine (unhide HM).mono ?_
  rintro e w1 ⟨C, F, rfl, hc1, hn1, hb1⟩
  have HC1 := hide hc1
  have HN1 := hide hn1
  have HB1 := hide hb1
  clear hc1 hn1 hb1
  go_wp2_with fail
  refine (HF.out _ HB1.out).mono ?_
  rintro e w2 ⟨va, vn, vc, rfl, hO2, hb2⟩
  have HO2 := hide hO2
  have HB2 := hide hb2
  clear hO2 hb2
  go_wp2_with fail
  go_ret2
  have B3 : Below w2.heap.size w2 (w2.alloc (.cells #[.slice va vn vc, .pointer (some ⟨C, 0, none⟩), .string ⟨#[]⟩, .int .i64 0, .int .i64 (-1), .bool false] 86)) := (Below.refl _ _).alloc (Nat.le_refl _) _
  have hs1 := HB1.out.size
  have hs2 := HB2.out.size
  have hown : ∀ k, (Value.slice va vn vc).ownBlock = some k → w1.heap.size ≤ k := fun k hk => by
    obtain ⟨xs, q1, _⟩ := HO2.out
    exact (ownsRow_tag q1 hk).1
  refine ⟨w2.heap.size, lgF w2.heap.size (.slice va vn vc) F, rfl, ⟨M.Lg.new_ok L, HEE.out, by decide, C, .slice va vn vc, F, [], [], rfl, ⟨?_, ?_, ?_⟩, ?_, ?_, M.Recs.new L⟩, ?_, ?_⟩
  · have := HBB.out; omega
  · exact heap_alloc_new w2 _
  · have q := (HO2.out.mono (b2 := base) (by have := HBB.out; omega))
    obtain ⟨xs, q1, q2⟩ := q
    exact ⟨xs, ownsRow_at q1 (fun k hk => by obtain ⟨_, cc, fr, hh⟩ := ownsRow_tag q1 hk; exact B3.block k (heap_lt hh)), q2.solid (Solid.below B3)⟩
  · exact (HC1.out.quiet HB2.out).quiet B3
  · intro k hk hF
    have := hown k hk
    have := HC1.out.highs k hF
    omega
  · intro i hi
    rcases hi with rfl | hi | hi
    · omega
    · have := hown i hi; omega
    · exact HN1.out i hi
  · exact (HB1.out.trans (HB2.out.mono hs1)).trans (B3.mono (by omega))

end Go.Proofs.YtlefhfmckimlaakGreatDoor
