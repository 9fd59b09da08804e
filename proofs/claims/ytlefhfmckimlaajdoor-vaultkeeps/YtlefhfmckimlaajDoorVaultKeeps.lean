/-
  The walk of the Go function VaultKeeps: it returns true, whatever comes in.
-/
import Derived.Test.YtlefhfmckimlaajDoorJ29A
import Derived.Deep.AppendLies
import Derived.Deep.RegionWith
import Derived.Deep.DeepCutAuto
import Derived.Deep.CutBlock
import Derived.Laws.OwnMore
set_option linter.unusedVariables false
namespace Go.Proofs.YtlefhfmckimlaajDoor.vaultKeeps
open Go.RowKit

theorem infoB : (Tryd.prog.info? 4).map (fun i => (i.zero, i.size, i.bytes)) = some (some (.bool false), 1, 1) := by kernel_rfl
abbrev Sh (x y : Int) : Obj := .cells #[.int .i64 x, .int .i64 y] 31

/-- the law's own first calls, one after the other: a vault that was made, and put into -/
theorem first_put (w w1 : World) (F : Nat → Prop) (V : Nat) (h : VtIs w.heap.size w1 F V (M.Vlt.new 3 2)) :
    Calls Tryd.prog 8 #[.pointer (some ⟨V, 0, none⟩), .string ⟨#[107]⟩, .int .i64 9, .slice (some ⟨w1.heap.size, 0, none⟩) 1 1] (w1.alloc (.cells #[.int .i64 4] 3)) fun e w' => e = .returned .nilIface ∧ ∃ F', VtIs w.heap.size w' F' V v0 ∧ Below w.heap.size w1 w' := by
  have hb : Below w1.heap.size w1 (w1.alloc (.cells #[.int .i64 4] 3)) := (Below.refl _ _).alloc (Nat.le_refl _) _
  have h3 := World.ownsRow_lit (base := w1.heap.size) (e := 3) (size := 1) w1 #[.int .i64 4] 1 (Nat.le_refl _) (by unfold maxLen; decide) rfl
  obtain ⟨a9, c9, e9, _, _, h9⟩ := atI_own (l := [4]) rfl h3
  cases e9
  refine (vPut (a := kS) (s := 9) (r := [4]) (rc := 1) (h.quiet hb) (by unfold maxLen; decide) rfl (by unfold maxLen; decide) h9 (fun e => by cases e)).mono ?_
  rintro e w' ⟨rfl, F', k1, k2, _⟩
  exact ⟨by rw [put0]; rfl, F', k1, (hb.mono h.base_le).trans (k2.below (h.quiet hb).lows (h.quiet hb).base_le)⟩
theorem first_get (w w1 : World) (F : Nat → Prop) (V : Nat) (h : VtIs w.heap.size w1 F V v0) :
    Calls Tryd.prog 10 #[.pointer (some ⟨V, 0, none⟩), .string ⟨#[107]⟩, .slice (some ⟨w1.heap.size, 0, none⟩) 3 3] (w1.alloc (.cells #[.int .i64 1, .int .i64 13, .int .i64 2, .int .i64 1, .int .i64 3, .int .i64 21] 31)) fun e w' => e = .returned (.tuple #[.int .i64 9, .nilIface]) ∧ Below w1.heap.size w1 w' := by
  have hb : Below w1.heap.size w1 (w1.alloc (.cells #[.int .i64 1, .int .i64 13, .int .i64 2, .int .i64 1, .int .i64 3, .int .i64 21] 31)) := (Below.refl _ _).alloc (Nat.le_refl _) _
  have h3 := World.ownsRow_lit (base := w1.heap.size) (e := 31) (size := 2) w1 #[.int .i64 1, .int .i64 13, .int .i64 2, .int .i64 1, .int .i64 3, .int .i64 21] 3 (Nat.le_refl _) (by unfold maxLen; decide) rfl
  obtain ⟨a9, c9, e9, _, _, h9⟩ := atP_own (l := [(1, 13), (2, 1), (3, 21)]) rfl h3
  cases e9
  have hg := vGet (a := kS) (l := [(1, 13), (2, 1), (3, 21)]) (lc := 3) (h.quiet hb) (by unfold maxLen; decide) rfl (by unfold maxLen; decide) h9
  rw [get0.1, get0.2] at hg
  refine hg.mono ?_
  rintro e w' ⟨rfl, hb2⟩
  exact ⟨rfl, hb.trans (hb2.mono (by simp))⟩

set_option maxRecDepth 100000 in
set_option maxHeartbeats 1000000 in
/-- up to the vault that comes in -/
theorem walk_from (many need secret : Int) (v3 v4 v5 : Value) (w : World)
    (hN : ∀ wx, Below w.heap.size w wx → Calls Tryd.prog 7 #[.int .i64 many, .int .i64 need] wx fun e w' => e = .returned (.tuple #[.pointer none, .iface 66 (.int .i64 1)]) ∧ w' = wx) :
    Calls Tryd.prog 3 #[.int .i64 many, .int .i64 need, .int .i64 secret, v3, v4, v5] w fun e w' => e = .returned (.bool true) ∧ Below w.heap.size w w' := by
  have HN0 := hide (vNew_ok w.heap.size 3 2 w (Nat.le_refl _) (by decide) (by decide) (by decide))
  have HP0 : Hid (∀ w1 F V, VtIs w.heap.size w1 F V (M.Vlt.new 3 2) → Calls Tryd.prog 8 #[.pointer (some ⟨V, 0, none⟩), .string ⟨#[107]⟩, .int .i64 9, .slice (some ⟨w1.heap.size, 0, none⟩) 1 1] (w1.alloc (.cells #[.int .i64 4] 3)) fun e w' => e = .returned .nilIface ∧ ∃ F', VtIs w.heap.size w' F' V v0 ∧ Below w.heap.size w1 w') := hide fun w1 F V h => first_put w w1 F V h
  have HA0 : Hid (∀ wx F V, VtIs w.heap.size wx F V v0 → Calls Tryd.prog 9 #[.pointer (some ⟨V, 0, none⟩), .string ⟨#[107]⟩, .int .i64 1] wx fun e w' => e = .returned (.tuple #[.agg #[.int .i64 1, .int .i64 13], .nilIface]) ∧ Below wx.heap.size wx w') := hide fun wx F V h => by
    have := vPart kS 1 h (by unfold maxLen; decide)
    rwa [part0.1, part0.2.1] at this
  have HA3 : Hid (∀ wx F V, VtIs w.heap.size wx F V v0 → Calls Tryd.prog 9 #[.pointer (some ⟨V, 0, none⟩), .string ⟨#[107]⟩, .int .i64 3] wx fun e w' => e = .returned (.tuple #[.agg #[.int .i64 3, .int .i64 21], .nilIface]) ∧ Below wx.heap.size wx w') := hide fun wx F V h => by
    have := vPart kS 3 h (by unfold maxLen; decide)
    rwa [part0.2.2.1, part0.2.2.2] at this
  have HG0 : Hid (∀ w1 F V, VtIs w.heap.size w1 F V v0 → Calls Tryd.prog 10 #[.pointer (some ⟨V, 0, none⟩), .string ⟨#[107]⟩, .slice (some ⟨w1.heap.size, 0, none⟩) 3 3] (w1.alloc (.cells #[.int .i64 1, .int .i64 13, .int .i64 2, .int .i64 1, .int .i64 3, .int .i64 21] 31)) fun e w' => e = .returned (.tuple #[.int .i64 9, .nilIface]) ∧ Below w1.heap.size w1 w') := hide fun w1 F V h => first_get w w1 F V h
  have HNN := hide hN
  clear hN
  go_enter Tryd.func3, Tryd.ntmps3
  go_wp2_with fail
  refine (unhide HN0).mono ?_
  rintro e w1 ⟨V, F, rfl, hV, _, hb1⟩
  have HV1 := hide hV
  have HB1 := hide hb1
  clear hV hb1 HN0
  go_wp2_with fail
  refine (HP0.out w1 F V HV1.out).mono ?_
  rintro e w2 ⟨rfl, F2, hV2, hb2⟩
  have HV2 := hide hV2
  have HB2 := hide (HB1.out.trans hb2)
  clear hV2 hb2
  go_wp2_with fail
  refine (HA0.out w2 F2 V HV2.out).mono ?_
  rintro e w3 ⟨rfl, hb3⟩
  have HB3 := hide (HB2.out.trans (hb3.mono HB2.out.size))
  have HV3 := hide ((HV2.out.quiet hb3).quiet ((Below.refl _ _).alloc (Nat.le_refl _) (Sh 1 13)))
  clear hb3
  go_wp2_with fail
  refine (HA3.out _ F2 V HV3.out).mono ?_
  rintro e w4 ⟨rfl, hb4⟩
  have HB4 := hide ((HB3.out.alloc HB3.out.size (Sh 1 13)).trans (hb4.mono (Nat.le_trans HB3.out.size (by simp))))
  have HV4 := hide ((HV3.out.quiet hb4).quiet ((Below.refl _ _).alloc (Nat.le_refl _) (Sh 3 21)))
  have d0 : w4.cell? ⟨w3.heap.size, 0, none⟩ = some (.int .i64 1) := (hb4.cell (p := ⟨w3.heap.size, 0, none⟩) (by simp)).trans (by simp [go_sem, Sh])
  have d1 : w4.cell? ⟨w3.heap.size, 1, none⟩ = some (.int .i64 13) := (hb4.cell (p := ⟨w3.heap.size, 1, none⟩) (by simp)).trans (by simp [go_sem, Sh])
  have dn := World.block_lt_of_cell? w4 _ d0
  have HG1 : Hid (Calls Tryd.prog 10 #[.pointer (some ⟨V, 0, none⟩), .string ⟨#[107]⟩, .slice (some ⟨w4.heap.size + 1, 0, none⟩) 3 3] ((w4.alloc (.cells #[.int .i64 3, .int .i64 21] 31)).alloc (.cells #[.int .i64 1, .int .i64 13, .int .i64 2, .int .i64 1, .int .i64 3, .int .i64 21] 31)) fun e w' => e = .returned (.tuple #[.int .i64 9, .nilIface]) ∧ Below (w4.heap.size + 1) (w4.alloc (Sh 3 21)) w') := hide (by
    have hh := HG0.out (w4.alloc (Sh 3 21)) F2 V HV4.out
    rw [show (w4.alloc (Sh 3 21)).heap.size = w4.heap.size + 1 by simp] at hh
    exact hh)
  clear hb4
  go_wp2_with fail
  refine (unhide HG1).mono ?_
  rintro e w5 ⟨rfl, hb5⟩
  have e1 : w5.cell? ⟨w3.heap.size, 1, none⟩ = some (.int .i64 13) := (hb5.cell (p := ⟨w3.heap.size, 1, none⟩) (by show w3.heap.size < w4.heap.size + 1; omega)).trans (((Below.refl w4.heap.size w4).alloc (Nat.le_refl _) (Sh 3 21)).cell (p := ⟨w3.heap.size, 1, none⟩) dn |>.trans d1)
  have en := World.block_lt_of_cell? w5 _ e1
  have HB5 := hide ((HB4.out.alloc HB4.out.size (Sh 3 21)).trans (hb5.mono (Nat.le_succ_of_le HB4.out.size)))
  clear hb5 d0 d1 dn
  go_wp2_with fail
  refine (HNN.out _ HB5.out).mono ?_
  rintro e w6 ⟨rfl, hw6⟩
  obtain rfl := hw6.symm
  go_wp2_with fail
  go_ret
  exact ⟨rfl, HB5.out⟩

set_option maxRecDepth 100000 in
set_option maxHeartbeats 4000000 in
theorem walk_ok (many need : Nat) (secret : Int) (ra : Option Addr) (rn rc : Nat) (r : List Int) (la : Option Addr) (ln lc : Nat) (l : List (Int × Int)) (ha : Option Addr) (hn hc : Nat) (hon : List Int) (w : World) (q1 : 1 ≤ need) (q2 : need ≤ many) (q7 : many ≤ 7) (hrn : rn = r.length) (hrm : rn ≤ maxLen) (hr : AtI w ra r) (hrt : Tidy ra rn rc)
    (hln : ln = l.length) (hlm : ln ≤ maxLen) (hl : AtP w la l) (hhn : hn = hon.length) (hhm : hn ≤ maxLen) (hh : AtI w ha hon) (hg : Hand w) :
    Calls Tryd.prog 3 #[.int .i64 many, .int .i64 need, .int .i64 secret, .slice ra rn rc, .slice la ln lc, .slice ha hn hc] w fun e w' => e = .returned (.bool true) ∧ Below w.heap.size w w' := by
  obtain ⟨i0, hi, hz0, hz1, hz2⟩ := info_parts infoP
  have HI := hide (And.intro hi (And.intro hz0 (And.intro hz1 hz2)))
  obtain ⟨ib, bi, bz0, bz1, bz2⟩ := info_parts infoB
  have HIB := hide (And.intro bi (And.intro bz0 (And.intro bz1 bz2)))
  have HN0 := hide (vNew_ok w.heap.size 3 2 w (Nat.le_refl _) (by decide) (by decide) (by decide))
  have HP0 : Hid (∀ w1 F V, VtIs w.heap.size w1 F V (M.Vlt.new 3 2) → Calls Tryd.prog 8 #[.pointer (some ⟨V, 0, none⟩), .string ⟨#[107]⟩, .int .i64 9, .slice (some ⟨w1.heap.size, 0, none⟩) 1 1] (w1.alloc (.cells #[.int .i64 4] 3)) fun e w' => e = .returned .nilIface ∧ ∃ F', VtIs w.heap.size w' F' V v0 ∧ Below w.heap.size w1 w') := hide fun w1 F V h => first_put w w1 F V h
  have HA0 : Hid (∀ wx F V, VtIs w.heap.size wx F V v0 → Calls Tryd.prog 9 #[.pointer (some ⟨V, 0, none⟩), .string ⟨#[107]⟩, .int .i64 1] wx fun e w' => e = .returned (.tuple #[.agg #[.int .i64 1, .int .i64 13], .nilIface]) ∧ Below wx.heap.size wx w') := hide fun wx F V h => by
    have := vPart kS 1 h (by unfold maxLen; decide)
    rwa [part0.1, part0.2.1] at this
  have HA3 : Hid (∀ wx F V, VtIs w.heap.size wx F V v0 → Calls Tryd.prog 9 #[.pointer (some ⟨V, 0, none⟩), .string ⟨#[107]⟩, .int .i64 3] wx fun e w' => e = .returned (.tuple #[.agg #[.int .i64 3, .int .i64 21], .nilIface]) ∧ Below wx.heap.size wx w') := hide fun wx F V h => by
    have := vPart kS 3 h (by unfold maxLen; decide)
    rwa [part0.2.2.1, part0.2.2.2] at this
  have HG0 : Hid (∀ w1 F V, VtIs w.heap.size w1 F V v0 → Calls Tryd.prog 10 #[.pointer (some ⟨V, 0, none⟩), .string ⟨#[107]⟩, .slice (some ⟨w1.heap.size, 0, none⟩) 3 3] (w1.alloc (.cells #[.int .i64 1, .int .i64 13, .int .i64 2, .int .i64 1, .int .i64 3, .int .i64 21] 31)) fun e w' => e = .returned (.tuple #[.int .i64 9, .nilIface]) ∧ Below w1.heap.size w1 w') := hide fun w1 F V h => first_get w w1 F V h
  have HNN : Hid (∀ wx, Below w.heap.size w wx → Calls Tryd.prog 7 #[.int .i64 many, .int .i64 need] wx fun e w' => ∃ V F, e = .returned (.tuple #[.pointer (some ⟨V, 0, none⟩), .nilIface]) ∧ VtIs w.heap.size w' F V (M.Vlt.new many need) ∧ Below wx.heap.size wx w') := hide fun wx hb => by
    refine (vNew_ok w.heap.size many need wx hb.size q1 q2 q7).mono ?_
    rintro e w' ⟨V, F, rfl, h1, _, h3⟩
    exact ⟨V, F, rfl, h1, h3⟩
  have HPX : Hid (∀ wx F V, Below w.heap.size w wx → VtIs w.heap.size wx F V (M.Vlt.new many need) → Calls Tryd.prog 8 #[.pointer (some ⟨V, 0, none⟩), .string ⟨#[120]⟩, .int .i64 secret, .slice ra rn rc] wx fun e w' => e = .returned (errV (M.vputE (M.Vlt.new many need) xS secret r)) ∧ ∃ F', VtIs w.heap.size w' F' V (M.vputV (M.Vlt.new many need) xS secret r) ∧ Below w.heap.size wx w') := hide fun wx F V hb h => by
    refine (vPut (a := xS) (s := secret) (r := r) (rc := rc) h (by unfold maxLen; decide) hrn hrm (hr.stays hb (Nat.le_refl _)) hrt).mono ?_
    rintro e w' ⟨rfl, F', k1, k2, _⟩
    exact ⟨rfl, F', k1, k2.below h.lows h.base_le⟩
  have HSE : Hid (∀ wx, Below w.heap.size w wx → Calls Tryd.prog 12 #[.iface 66 (.int .i64 5), .int .i64 5] wx fun e w' => e = .returned (.bool true) ∧ Below wx.heap.size wx w') := hide fun wx hb => by
    have := sameErr 5 5 wx (hg.stays hb (Nat.le_refl _))
    rwa [show ((5 : Int) == 5) = true by simp, errV_bad (by decide)] at this
  have HL := hide hl
  have HLN := hide hln
  have HH := hide hh
  have HHN := hide hhn
  unfold maxLen at hlm hhm hrm
  clear hi hz0 hz1 hz2 bi bz0 bz1 bz2 hr hrt hl hln hh hhn hg hrn
  go_enter Tryd.func3, Tryd.ntmps3
  go_wp2_with fail
  refine (unhide HN0).mono ?_
  rintro e w1 ⟨V, F, rfl, hV, _, hb1⟩
  have HV1 := hide hV
  have HB1 := hide hb1
  clear hV hb1 HN0
  go_wp2_with fail
  refine (HP0.out w1 F V HV1.out).mono ?_
  rintro e w2 ⟨rfl, F2, hV2, hb2⟩
  have HV2 := hide hV2
  have HB2 := hide (HB1.out.trans hb2)
  clear hV2 hb2
  go_wp2_with fail
  refine (HA0.out w2 F2 V HV2.out).mono ?_
  rintro e w3 ⟨rfl, hb3⟩
  have HB3 := hide (HB2.out.trans (hb3.mono HB2.out.size))
  have HV3 := hide ((HV2.out.quiet hb3).quiet ((Below.refl _ _).alloc (Nat.le_refl _) (Sh 1 13)))
  clear hb3
  go_wp2_with fail
  refine (HA3.out _ F2 V HV3.out).mono ?_
  rintro e w4 ⟨rfl, hb4⟩
  have HB4 := hide ((HB3.out.alloc HB3.out.size (Sh 1 13)).trans (hb4.mono (Nat.le_trans HB3.out.size (by simp))))
  have HV4 := hide ((HV3.out.quiet hb4).quiet ((Below.refl _ _).alloc (Nat.le_refl _) (Sh 3 21)))
  have d0 : w4.cell? ⟨w3.heap.size, 0, none⟩ = some (.int .i64 1) := (hb4.cell (p := ⟨w3.heap.size, 0, none⟩) (by simp)).trans (by simp [go_sem, Sh])
  have d1 : w4.cell? ⟨w3.heap.size, 1, none⟩ = some (.int .i64 13) := (hb4.cell (p := ⟨w3.heap.size, 1, none⟩) (by simp)).trans (by simp [go_sem, Sh])
  have dn := World.block_lt_of_cell? w4 _ d0
  have HG1 : Hid (Calls Tryd.prog 10 #[.pointer (some ⟨V, 0, none⟩), .string ⟨#[107]⟩, .slice (some ⟨w4.heap.size + 1, 0, none⟩) 3 3] ((w4.alloc (.cells #[.int .i64 3, .int .i64 21] 31)).alloc (.cells #[.int .i64 1, .int .i64 13, .int .i64 2, .int .i64 1, .int .i64 3, .int .i64 21] 31)) fun e w' => e = .returned (.tuple #[.int .i64 9, .nilIface]) ∧ Below (w4.heap.size + 1) (w4.alloc (Sh 3 21)) w') := hide (by
    have hh := HG0.out (w4.alloc (Sh 3 21)) F2 V HV4.out
    rw [show (w4.alloc (Sh 3 21)).heap.size = w4.heap.size + 1 by simp] at hh
    exact hh)
  clear hb4
  go_wp2_with fail
  refine (unhide HG1).mono ?_
  rintro e w5 ⟨rfl, hb5⟩
  have e1 : w5.cell? ⟨w3.heap.size, 1, none⟩ = some (.int .i64 13) := (hb5.cell (p := ⟨w3.heap.size, 1, none⟩) (by show w3.heap.size < w4.heap.size + 1; omega)).trans (((Below.refl w4.heap.size w4).alloc (Nat.le_refl _) (Sh 3 21)).cell (p := ⟨w3.heap.size, 1, none⟩) dn |>.trans d1)
  have en := World.block_lt_of_cell? w5 _ e1
  have HB5 := hide ((HB4.out.alloc HB4.out.size (Sh 3 21)).trans (hb5.mono (Nat.le_succ_of_le HB4.out.size)))
  clear hb5 d0 d1 dn
  go_wp2_with fail
  refine (HNN.out _ HB5.out).mono ?_
  rintro e w6 ⟨VX, F6, rfl, hV6, hb6⟩
  have HB6 := hide (HB5.out.trans (hb6.mono HB5.out.size))
  have HV6 := hide hV6
  clear hV6 hb6 HV1 HV2 HV3 HV4 HG1 HP0 HA0 HA3 HG0 HNN e1 en
  have HPZ := hide (HPX.out w6 F6 VX HB6.out HV6.out)
  clear HPX
  go_wp2_with fail
  by_cases hE : M.vputE (M.Vlt.new many need) xS secret r = 0
  · rw [hE, show errV 0 = Value.nilIface from rfl] at HPZ
    have HGX : Hid ((M.vputV (M.Vlt.new many need) xS secret r).g xS = some (secret :: r)) := hide (M.vputV_same hE)
    have HMN : Hid ((M.vputV (M.Vlt.new many need) xS secret r).many = many ∧ (M.vputV (M.Vlt.new many need) xS secret r).need = need) := hide M.vputV_many
    obtain ⟨vx, hvx⟩ : ∃ vx, vx = M.vputV (M.Vlt.new many need) xS secret r := ⟨_, rfl⟩
    rw [← hvx] at HPZ HGX HMN
    clear hvx hE
    refine (unhide HPZ).mono ?_
    rintro e W ⟨rfl, FX, hVX, hbX⟩
    have HVW : Hid (∀ wx, Below W.heap.size W wx → VtIs w.heap.size wx FX VX vx) := hide fun wx hb => hVX.quiet hb
    have HOK := hide hVX.ok
    have HBW := hide (HB6.out.trans hbX)
    clear hVX hbX HPZ HV6 HB6 HB5 HB4 HB3 HB2 HB1
    have HPART : Hid (∀ wx, Below W.heap.size W wx → ∀ x : Int, Calls Tryd.prog 9 #[.pointer (some ⟨VX, 0, none⟩), .string ⟨#[120]⟩, .int .i64 x] wx fun e w' => ((e = .returned (.tuple #[.agg #[.int .i64 x, .int .i64 (M.ev (secret :: r) x)], .nilIface]) ∧ 1 ≤ x ∧ x ≤ many) ∨ e = .returned (.tuple #[.agg #[.int .i64 0, .int .i64 0], .iface 66 (.int .i64 1)])) ∧ Below wx.heap.size wx w') := hide fun wx hb x => by
      have hp := vPart xS x (HVW.out wx hb) (by unfold maxLen; decide)
      by_cases hx : 1 ≤ x ∧ x ≤ (many : Int)
      · have e1 : M.partR vx xS x = (x, M.ev (secret :: r) x) := by unfold M.partR; rw [HGX.out, HMN.out.1]; exact if_pos hx
        have e2 : M.partE vx xS x = 0 := by unfold M.partE; rw [HGX.out, HMN.out.1]; exact if_pos hx
        rw [e1, e2] at hp
        refine hp.mono ?_
        rintro e w' ⟨rfl, h2⟩
        exact ⟨Or.inl ⟨rfl, hx⟩, h2⟩
      · have e1 : M.partR vx xS x = (0, 0) := by unfold M.partR; rw [HGX.out, HMN.out.1]; exact if_neg hx
        have e2 : M.partE vx xS x = 1 := by unfold M.partE; rw [HGX.out, HMN.out.1]; exact if_neg hx
        rw [e1, e2, errV_bad (by decide)] at hp
        refine hp.mono ?_
        rintro e w' ⟨rfl, h2⟩
        exact ⟨Or.inr rfl, h2⟩
    go_wp2_with fail
    go_loopw [24, 25] (fun sg sk wr => ∃ (k : Nat) (ga : Option Addr) (gc : Nat) (L : List (Int × Int)), sg = .slice ga L.length gc ∧ sk = .int .i64 k ∧ k ≤ 12 ∧ L.length ≤ k ∧ Hid (wr.ownsRow W.heap.size 31 2 (.slice ga L.length gc) L.length (flatP L)) ∧ Hid (∀ q ∈ L, M.outB many q = false) ∧ Hid (Below W.heap.size W wr)) (fun _ sk _ => 12 - (intOf sk).toNat)
    case atStart => exact ⟨0, none, 0, [], rfl, rfl, by omega, Nat.zero_le _, hide (World.ownsRow_nil _ _ _ _), hide (fun q h => by simp at h), hide (Below.refl _ _)⟩
    case round =>
      obtain ⟨k, ga, gc, L, rfl, rfl, hk, hLk, hrow, hin, hbel⟩ := hrel
      obtain ⟨gn, hgn⟩ : ∃ gn, gn = L.length := ⟨_, rfl⟩
      rw [← hgn] at hrow hLk ⊢
      have HGN := hide hgn
      clear hgn
      have HBL : Hid (Below w.heap.size w wr) := hide (HBW.out.trans (hbel.out.mono HBW.out.size))
      go_upto_region 17 with fail
      go_cut [106] from 99 to 146 (fun s wx => ∃ Bd : Bool, s = .bool Bd ∧ Hid (Bd = true → k < ln ∧ k < 12) ∧ wx = wr)
      case first =>
        by_cases c1 : (k : Int) < ln
        · by_cases c2 : (k : Int) < 12
          · go_wp2_with fail
            go_meet
            case rel => exact ⟨true, rfl, hide (fun _ => ⟨by omega, by omega⟩), rfl⟩
          · go_wp2_with fail
            go_meet
            case rel => exact ⟨false, by first | rfl | (simp; omega), hide (fun h => by cases h), rfl⟩
        · go_wp2_with fail
          go_meet
          case rel => exact ⟨false, rfl, hide (fun h => by cases h), rfl⟩
      case rest =>
        obtain ⟨Bd, rfl, hBd, rfl⟩ := hcut
        cases Bd
        · clear hBd
          have HGP2 : Hid (L.length ≤ 12) := hide (by have := HGN.out; omega)
          go_wp2_with fail
          go_loopw [24, 26] (fun sg sk wr => ∃ (k : Nat) (ga : Option Addr) (gc : Nat) (L : List (Int × Int)), sg = .slice ga L.length gc ∧ sk = .int .i64 k ∧ k ≤ 12 ∧ L.length ≤ 12 + k ∧ Hid (wr.ownsRow W.heap.size 31 2 (.slice ga L.length gc) L.length (flatP L)) ∧ Hid (∀ q ∈ L, M.outB many q = false) ∧ Hid (Below W.heap.size W wr)) (fun _ sk _ => 12 - (intOf sk).toNat)
          case atStart => exact ⟨0, ga, gc, L, by rw [← HGN.out], rfl, by omega, by have := HGN.out; omega, by rw [← HGN.out]; exact hrow, hin, hbel⟩
          case round =>
            clear hrow hin hbel HBL HGN HGP2 hLk
            obtain ⟨k2, ga2, gc2, L2, rfl, rfl, hk2, hLk2, hrow2, hin2, hbel2⟩ := hrel
            obtain ⟨gn2, hgn2⟩ : ∃ gn2, gn2 = L2.length := ⟨_, rfl⟩
            rw [← hgn2] at hrow2 hLk2 ⊢
            have HGN2 := hide hgn2
            clear hgn2
            have HBL2 : Hid (Below w.heap.size w wr) := hide (HBW.out.trans (hbel2.out.mono HBW.out.size))
            go_upto_region 22 with fail
            go_cut [154] from 147 to 171 (fun s wx => ∃ Bd : Bool, s = .bool Bd ∧ Hid (Bd = true → k2 < hn ∧ k2 < 12) ∧ wx = wr)
            case first =>
              by_cases c1 : (k2 : Int) < hn
              · by_cases c2 : (k2 : Int) < 12
                · go_wp2_with fail
                  go_meet
                  case rel => exact ⟨true, rfl, hide (fun _ => ⟨by omega, by omega⟩), rfl⟩
                · go_wp2_with fail
                  go_meet
                  case rel => exact ⟨false, by first | rfl | (simp; omega), hide (fun h => by cases h), rfl⟩
              · go_wp2_with fail
                go_meet
                case rel => exact ⟨false, rfl, hide (fun h => by cases h), rfl⟩
            case rest =>
              obtain ⟨Bd, rfl, hBd, rfl⟩ := hcut
              cases Bd
              · clear hBd
                have HL24 : Hid (L2.length ≤ 24) := hide (by have := HGN2.out; omega)
                obtain ⟨B0, hB0⟩ : ∃ B0, B0 = wc.heap.size := ⟨_, rfl⟩
                go_wp2_with (at_make; refine wpList_make_full _ rfl (.const (.int .i64 8)) (.const (.int .i64 8)) 36 rfl wc.heap.size 4 ib (.bool false) 1 Tryd.underlying36 HIB.out.1 HIB.out.2.1 HIB.out.2.2.1 .i64 .i64 _ _ 8 rfl rfl rfl rfl (by rw [HIB.out.2.2.2]; omega) (by unfold maxLen; omega) (Nat.le_refl _) ?_)
                intro w9 hown hgrow
                have HT9 : Hid (w9.ownsRow B0 4 1 (.slice (some ⟨B0, 0, none⟩) 8 8) 8 (seenC (M.goodL (secret :: r) (L2.take 0)))) := hide (by
                  rw [toList_madeCells_one, ← hB0] at hown
                  exact hown)
                have HB9 : Hid (Below B0 wc w9) := hide (by rw [hB0]; exact (Below.refl wc.heap.size wc).grown hgrow (Nat.le_refl _) (fun k hk => by cases hk))
                have HQ : Hid (∀ wx, Below B0 wc wx → AtP wx ga2 L2 ∧ VtIs w.heap.size wx FX VX vx ∧ Below w.heap.size w wx) := hide fun wx hb => by
                  rw [hB0] at hb
                  obtain ⟨a9, c9, e9, _, _, h9⟩ := atP_own HGN2.out hrow2.out
                  cases e9
                  have hbW := hbel2.out.trans (hb.mono hbel2.out.size)
                  exact ⟨h9.stays hb (Nat.le_refl _), HVW.out wx hbW, HBW.out.trans (hbW.mono HBW.out.size)⟩
                have HTR : Hid (∀ wx, Below B0 wc wx → ∀ x y : Int, M.outB many (x, y) = false → Calls Tryd.prog 11 #[.pointer (some ⟨VX, 0, none⟩), .string ⟨#[120]⟩, .agg #[.int .i64 x, .int .i64 y]] wx fun e w' => e = .returned (.tuple #[.bool (M.trueB (M.commits (secret :: r)) x y), .nilIface]) ∧ Below wx.heap.size wx w') := hide fun wx hb x y ho => by
                  have ht := vTrue xS x y (HQ.out wx hb).2.1 (by unfold maxLen; decide)
                  obtain ⟨⟨o1, o2⟩, o3, o4⟩ := M.outB_no ho
                  simp only at o1 o2 o3 o4
                  have e0 : M.chkE (M.commits (secret :: r)) x y = 0 := M.chkE_0 (HOK.out.nums HGX.out).2.2 (M.inR_mk (by omega) (by omega)) (M.inR_mk o3 o4)
                  have e1 : M.truE vx xS x y = 0 := by unfold M.truE; rw [HGX.out]; exact e0
                  have e2 : M.truR vx xS x y = M.trueB (M.commits (secret :: r)) x y := by unfold M.truR; rw [HGX.out]; exact M.chkR_ok e0
                  rw [e1, e2] at ht
                  exact ht
                have HGT : Hid (∀ wx, Below B0 wc wx → Calls Tryd.prog 10 #[.pointer (some ⟨VX, 0, none⟩), .string ⟨#[120]⟩, .slice ga2 gn2 gc2] wx fun e w' => e = .returned (.tuple #[.int .i64 (M.getR' vx xS L2), errV (M.getE' vx xS L2)]) ∧ Below wx.heap.size wx w') := hide fun wx hb => vGet (a := xS) (HQ.out wx hb).2.1 (by unfold maxLen; decide) HGN2.out (by have h1 := HL24.out; have h2 := HGN2.out; unfold maxLen; omega) (HQ.out wx hb).1
                have HSZ : Hid (B0 ≤ wc.heap.size) := hide (Nat.le_of_eq hB0)
                rw [← hB0]
                clear hown hgrow hB0 hrow2 hbel2 HBL2
                go_wp2_with fail
                go_loopw [30, 31] (fun sn si wx => ∃ i : Nat, sn = .int .i64 ((M.goodL (secret :: r) (L2.take i)).length : Nat) ∧ si = .int .i64 i ∧ i ≤ gn2 ∧ Hid (wx.ownsRow B0 4 1 (.slice (some ⟨B0, 0, none⟩) 8 8) 8 (seenC (M.goodL (secret :: r) (L2.take i)))) ∧ Hid (Below B0 wc wx)) (fun _ si _ => gn2 - (intOf si).toNat)
                case atStart => exact ⟨0, rfl, rfl, Nat.zero_le _, HT9, HB9⟩
                case round =>
                  clear HT9 HB9
                  obtain ⟨i, rfl, rfl, hi, hseen, hbb⟩ := hrel
                  have hNi : (M.goodL (secret :: r) (L2.take i)).length ≤ 24 := by
                    have h1 := M.goodL_len (secret :: r) L2 i (by have := HGN2.out; omega)
                    have h2 := HL24.out
                    have h3 := HGN2.out
                    omega
                  by_cases c : (i : Int) < gn2
                  · have hil : i < L2.length := by have := HGN2.out; omega
                    have hpt := (HQ.out _ hbb.out).1
                    obtain ⟨b, off, rfl, hlie⟩ := hpt (by omega)
                    obtain ⟨z1, z2⟩ := hlie i hil
                    have HIN := hide (hin2.out L2[i] (List.getElem_mem hil))
                    have HS := hide (M.goodL_take (p := secret :: r) hil)
                    generalize L2[i] = q at z1 z2 HIN HS
                    obtain ⟨x, y⟩ := q
                    simp only at z1 z2
                    obtain ⟨⟨o1, o2⟩, _, _⟩ := M.outB_no HIN.out
                    simp only at o1 o2
                    obtain ⟨X, rfl⟩ : ∃ X : Nat, x = X := ⟨x.toNat, by omega⟩
                    have hX : X < 8 := by omega
                    have HT := hide (HTR.out _ hbb.out X y HIN.out)
                    generalize hacc : M.goodL (secret :: r) (L2.take i) = acc at *
                    have gb := World.block_lt_of_cell? _ _ z1
                    clear hpt hacc
                    go_wp2_with fail
                    refine (unhide HT).mono ?_
                    rintro e wt ⟨rfl, hbt⟩
                    have HBT : Hid (Below B0 wc wt) := hide (hbb.out.trans (hbt.mono (Nat.le_trans HSZ.out hbb.out.size)))
                    have HSN := hide (row_stays hseen.out hbt)
                    have y1 := (hbt.cell (p := _) gb).trans z1
                    have gy := World.block_lt_of_cell? _ _ y1
                    clear z1 z2 gb hlie hseen hbb hbt
                    generalize htb : M.trueB (M.commits (secret :: r)) X y = tb
                    have HTB := hide htb
                    clear htb
                    cases tb
                    · have HS1 : Hid (M.goodL (secret :: r) (L2.take (i + 1)) = acc) := hide (by rw [HS.out]; exact M.goodS_no (by unfold M.takeB; rw [HTB.out]; rfl))
                      go_wp2_with fail
                      go_roundw
                      case rel => exact ⟨i + 1, by rw [HS1.out], by go_num, by omega, by rw [HS1.out]; exact HSN, HBT⟩
                      case measure => simp [intOf]; omega
                    · have c3 : wt.cell? ⟨B0, X, none⟩ = some (.bool (M.hasB acc X)) := by rw [HSN.out.cellAt X (by omega), seenC_at _ hX]
                      have f3 : wt.frozen? ⟨B0, X, none⟩ = false := HSN.out.frozenAt _
                      have gs := World.block_lt_of_cell? _ _ c3
                      have i8 : (X : Int) < 8 := by omega
                      have i9 : (0 : Int) ≤ (X : Int) := by omega
                      have ii : (0 : Int) ≤ (i : Int) := by omega
                      generalize hhb : M.hasB acc X = hb at c3
                      have HHB := hide hhb
                      clear hhb
                      cases hb
                      · have HS1 : Hid (M.goodL (secret :: r) (L2.take (i + 1)) = acc ++ [((X : Int), y)]) := hide (by rw [HS.out]; exact M.goodS_yes (by unfold M.takeB; rw [HTB.out, HHB.out]; rfl))
                        have HR1 := hide (HSN.out.stored X (.bool true)).1
                        rw [seenC_snoc acc X y hX] at HR1
                        have HB4 := hide (HBT.out.setCell (p := ⟨B0, X, none⟩) (Nat.le_refl _) (.bool true))
                        go_wp2_with fail
                        go_roundw
                        case rel => exact ⟨i + 1, by rw [HS1.out, List.length_append]; go_num, by go_num, by omega, by rw [HS1.out]; exact HR1, HB4⟩
                        case measure => simp [intOf]; omega
                      · have HS1 : Hid (M.goodL (secret :: r) (L2.take (i + 1)) = acc) := hide (by rw [HS.out]; exact M.goodS_no (by unfold M.takeB; rw [HTB.out, HHB.out]; rfl))
                        go_wp2_with fail
                        go_roundw
                        case rel => exact ⟨i + 1, by rw [HS1.out], by go_num, by omega, by rw [HS1.out]; exact HSN, HBT⟩
                        case measure => simp [intOf]; omega
                  · have hall : L2.take i = L2 := List.take_of_length_le (by have := HGN2.out; omega)
                    rw [hall] at hNi ⊢
                    have HG := hide (HGT.out _ hbb.out)
                    have HOUT : Hid (L2.any (M.outB vx.many) = false) := hide (by
                      rw [HMN.out.1, List.any_eq_false]
                      intro q hq
                      rw [hin2.out q hq]
                      decide)
                    clear hseen
                    by_cases cN : ((M.goodL (secret :: r) L2).length : Int) < need
                    · have e5 := M.getE_few HGX.out (by have := HL24.out; omega) HOUT.out (by rw [HMN.out.2]; omega)
                      have e6 := M.getR_bad (v := vx) (a := xS) (l := L2) (by rw [e5]; decide)
                      rw [e5, e6, errV_bad (by decide)] at HG
                      clear e5 e6
                      generalize (M.goodL (secret :: r) L2).length = N at *
                      go_wp2_with fail
                      refine (unhide HG).mono ?_
                      rintro e wz ⟨rfl, hbz⟩
                      have HBZ := hide ((HQ.out _ hbb.out).2.2.trans (hbz.mono (HQ.out _ hbb.out).2.2.size))
                      have HE := hide (HSE.out _ HBZ.out)
                      clear hbz
                      go_wp2_with fail
                      refine (unhide HE).mono ?_
                      rintro e wy ⟨rfl, hby⟩
                      have HBY := hide (HBZ.out.trans (hby.mono HBZ.out.size))
                      clear hby
                      go_wp2_with fail
                      go_ret
                      exact ⟨rfl, HBY.out⟩
                    · obtain ⟨e5, e6⟩ := M.get_tells HOK.out HGX.out (by have := HL24.out; omega) HOUT.out (by rw [HMN.out.2]; omega)
                      rw [e5, e6, show errV 0 = Value.nilIface from rfl] at HG
                      clear e5 e6
                      generalize (M.goodL (secret :: r) L2).length = N at *
                      go_wp2_with fail
                      refine (unhide HG).mono ?_
                      rintro e wz ⟨rfl, hbz⟩
                      have HBZ := hide ((HQ.out _ hbb.out).2.2.trans (hbz.mono (HQ.out _ hbb.out).2.2.size))
                      clear hbz
                      go_wp2_with fail
                      go_ret
                      exact ⟨rfl, HBZ.out⟩
              · obtain ⟨c1, c2⟩ := hBd.out rfl
                have hkl2 : k2 < hon.length := HHN.out ▸ c1
                obtain ⟨b2, off2, rfl, hlie2⟩ := HH.out (by omega)
                have z1 : _ = some (Value.int .i64 hon[k2]) := (hlie2.stays HBL2.out (Nat.le_refl _)) k2 hkl2
                have gb := World.block_lt_of_cell? _ _ z1
                generalize hon[k2] = x at z1
                have i4 : (k2 : Int) < hn := by omega
                have i5 : (0 : Int) ≤ (k2 : Int) := by omega
                have HPA := hide (HPART.out _ hbel2.out x)
                clear hBd hlie2
                go_wp2_with fail
                refine (unhide HPA).mono ?_
                rintro e w8 ⟨hcase, hb8⟩
                have HB8 := hide hb8
                clear hb8
                rcases hcase with ⟨rfl, r1, r2⟩ | rfl
                · have HR12 := hide (And.intro r1 r2)
                  have HEV := hide (M.ev_range (secret :: r) x)
                  generalize M.ev (secret :: r) x = y at *
                  have HRW : Hid ((w8.alloc (.cells #[.int .i64 x, .int .i64 y] 31)).ownsRow W.heap.size 31 2 (.slice ga2 gn2 gc2) gn2 (flatP L2)) := hide (row_stays (row_stays hrow2.out HB8.out) ((Below.refl _ _).alloc (Nat.le_refl _) _))
                  have HBR : Hid (Below W.heap.size W (w8.alloc (.cells #[.int .i64 x, .int .i64 y] 31))) := hide ((hbel2.out.trans (HB8.out.mono hbel2.out.size)).alloc (Nat.le_trans hbel2.out.size HB8.out.size) _)
                  clear r1 r2 z1 gb
                  obtain ⟨W8, hW8⟩ : ∃ W8, W8 = w8.alloc (.cells #[.int .i64 x, .int .i64 y] 31) := ⟨_, rfl⟩
                  have y0 : W8.cell? ⟨w8.heap.size, 0, none⟩ = some (.int .i64 x) := by rw [hW8]; simp [go_sem]
                  have y1 : W8.cell? ⟨w8.heap.size, 1, none⟩ = some (.int .i64 y) := by rw [hW8]; simp [go_sem]
                  have yn := World.block_lt_of_cell? W8 _ y0
                  rw [← hW8] at HRW HBR
                  go_upto_region 25 with fail
                  rw [← hW8]
                  clear hW8
                  have HRA : Hid ((W8.alloc (.cells #[.int .i64 x, .int .i64 y] 31)).ownsRow W.heap.size 31 2 (.slice ga2 gn2 gc2) gn2 (flatP L2)) := hide (row_stays HRW.out ((Below.refl _ _).alloc (Nat.le_refl _) _))
                  have HNW : Hid (∀ j u, [Value.int .i64 x, Value.int .i64 y][j]? = some u → (W8.alloc (.cells #[.int .i64 x, .int .i64 y] 31)).cell? ((⟨W8.heap.size, 0, none⟩ : Addr).add j) = some u) := hide (World.news_of_block (heap_alloc_new W8 _))
                  go_wp2_with (at_builtin; refine wpList_append_lies _ rfl (.tmp 168) (.tmp 170) 23 rfl W.heap.size 31 i0 (.agg #[.int .i64 0, .int .i64 0]) 2 16 Tryd.underlying23 HI.out.1 HI.out.2.1 HI.out.2.2.1 HI.out.2.2.2 rfl (by decide) (.slice ga2 gn2 gc2) gn2 (flatP L2) rfl HRA.out ⟨W8.heap.size, 0, none⟩ 1 1 [.int .i64 x, .int .i64 y] rfl rfl HNW.out (by intro u hu; simp at hu; rcases hu with rfl | rfl <;> rfl) (by decide) (by unfold maxLen; omega) (by omega) (Nat.le_trans HBR.out.size (by simp)) (W8.heap.size + 1) (by simp) ?_)
                  intro g5 k5 w5 hown5 hgrow5 hat5 hlt5
                  have HO5 := hide hown5
                  have HB5 : Hid (Below W.heap.size W w5) := hide ((HBR.out.alloc HBR.out.size _).grown hgrow5 (by have := HBR.out.size; simp; omega) (fun j hj => (rowV_tag HRA.out hj).1))
                  clear hown5 hgrow5 hat5 hlt5
                  go_wp2_with fail
                  go_roundw
                  case rel =>
                    refine ⟨k2 + 1, some ⟨g5, 0, none⟩, k5, L2 ++ [(x, y)], by rw [List.length_append, ← HGN2.out]; rfl, by go_num, by omega, by rw [List.length_append]; simp; have := HGN2.out; omega, hide ?_, hide ?_, HB5⟩
                    · rw [List.length_append, ← HGN2.out, flatP_append]
                      exact HO5.out
                    · intro q hq
                      rcases List.mem_append.1 hq with h | h
                      · exact hin2.out q h
                      · rw [List.mem_singleton.1 h]
                        exact (by have h9 := HR12.out; unfold M.outB; rw [M.inR_mk HEV.out.1 HEV.out.2]; simp; omega)
                  case measure => simp [intOf]; omega
                · go_wp2_with fail
                  go_roundw
                  case rel => exact ⟨k2 + 1, ga2, gc2, L2, by rw [← HGN2.out], by go_num, by omega, by have := HGN2.out; omega, by rw [← HGN2.out]; exact hide (row_stays (row_stays hrow2.out HB8.out) ((Below.refl _ _).alloc (Nat.le_refl _) _)), hin2, hide ((hbel2.out.trans (HB8.out.mono hbel2.out.size)).alloc (Nat.le_trans hbel2.out.size HB8.out.size) _)⟩
                  case measure => simp [intOf]; omega
        · obtain ⟨c1, c2⟩ := hBd.out rfl
          have hkl : k < l.length := HLN.out ▸ c1
          obtain ⟨b, off, rfl, hlie⟩ := HL.out (by omega)
          obtain ⟨z1, z2⟩ := (hlie.stays HBL.out (Nat.le_refl _)) k hkl
          have gb := World.block_lt_of_cell? _ _ z1
          generalize l[k].1 = x at z1
          generalize l[k].2 = y at z2
          have i4 : (k : Int) < ln := by omega
          have i5 : (0 : Int) ≤ (k : Int) := by omega
          clear hBd hlie
          go_upto_region 19 with fail
          go_cut [139] from 107 to 146 (fun s wx => ∃ Cd : Bool, s = .bool Cd ∧ Hid (Cd = true → (1 ≤ x ∧ x ≤ (many : Int)) ∧ 0 ≤ y ∧ y < 257) ∧ wx = wc)
          case first =>
            by_cases r1 : 1 ≤ x
            · by_cases r2 : x ≤ (many : Int)
              · by_cases r3 : 0 ≤ y
                · by_cases r4 : y ≤ 256
                  · go_wp2_with fail
                    go_meet
                    case rel => exact ⟨true, by first | rfl | (simp; omega), hide (fun _ => ⟨⟨r1, r2⟩, r3, by omega⟩), rfl⟩
                  · go_wp2_with fail
                    go_meet
                    case rel => exact ⟨false, by first | rfl | (simp; omega), hide (fun h => by cases h), rfl⟩
                · go_wp2_with fail
                  go_meet
                  case rel => exact ⟨false, by first | rfl | (simp; omega), hide (fun h => by cases h), rfl⟩
              · go_wp2_with fail
                go_meet
                case rel => exact ⟨false, by first | rfl | (simp; omega), hide (fun h => by cases h), rfl⟩
            · go_wp2_with fail
              go_meet
              case rel => exact ⟨false, by first | rfl | (simp; omega), hide (fun h => by cases h), rfl⟩
          case rest =>
            obtain ⟨Cd, rfl, hCd, rfl⟩ := hcut
            cases Cd
            · clear hCd
              go_wp2_with fail
              go_roundw
              case rel => exact ⟨k + 1, ga, gc, L, by rw [← HGN.out], by go_num, by omega, by have := HGN.out; omega, by rw [← HGN.out]; exact hrow, hin, hbel⟩
              case measure => simp [intOf]; omega
            · have HXY := hide (hCd.out rfl)
              have HRW := hrow
              have HBR := hbel
              clear hCd
              have HRA : Hid ((wc.alloc (.cells #[.int .i64 x, .int .i64 y] 31)).ownsRow W.heap.size 31 2 (.slice ga gn gc) gn (flatP L)) := hide (row_stays HRW.out ((Below.refl _ _).alloc (Nat.le_refl _) _))
              have HNW : Hid (∀ j u, [Value.int .i64 x, Value.int .i64 y][j]? = some u → (wc.alloc (.cells #[.int .i64 x, .int .i64 y] 31)).cell? ((⟨wc.heap.size, 0, none⟩ : Addr).add j) = some u) := hide (World.news_of_block (heap_alloc_new wc _))
              go_wp2_with (at_builtin; refine wpList_append_lies _ rfl (.tmp 140) (.tmp 145) 23 rfl W.heap.size 31 i0 (.agg #[.int .i64 0, .int .i64 0]) 2 16 Tryd.underlying23 HI.out.1 HI.out.2.1 HI.out.2.2.1 HI.out.2.2.2 rfl (by decide) (.slice ga gn gc) gn (flatP L) rfl HRA.out ⟨wc.heap.size, 0, none⟩ 1 1 [.int .i64 x, .int .i64 y] rfl rfl HNW.out (by intro u hu; simp at hu; rcases hu with rfl | rfl <;> rfl) (by decide) (by unfold maxLen; omega) (by omega) (Nat.le_trans HBR.out.size (by simp)) (wc.heap.size + 1) (by simp) ?_)
              intro g5 k5 w5 hown5 hgrow5 hat5 hlt5
              have HO5 := hide hown5
              have HB5 : Hid (Below W.heap.size W w5) := hide ((HBR.out.alloc HBR.out.size _).grown hgrow5 (by have := HBR.out.size; simp; omega) (fun j hj => (rowV_tag HRA.out hj).1))
              clear hown5 hgrow5 hat5 hlt5
              go_wp2_with fail
              go_roundw
              case rel =>
                refine ⟨k + 1, some ⟨g5, 0, none⟩, k5, L ++ [(x, y)], by rw [List.length_append, ← HGN.out]; rfl, by go_num, by omega, by rw [List.length_append]; simp; have := HGN.out; omega, hide ?_, hide ?_, HB5⟩
                · rw [List.length_append, ← HGN.out, flatP_append]
                  exact HO5.out
                · intro q hq
                  rcases List.mem_append.1 hq with h | h
                  · exact hin.out q h
                  · rw [List.mem_singleton.1 h]
                    exact (by have h9 := HXY.out.1; unfold M.outB; rw [M.inR_mk HXY.out.2.1 HXY.out.2.2]; simp; omega)
              case measure => simp [intOf]; omega
  · rw [errV_bad hE] at HPZ
    generalize M.vputE (M.Vlt.new many need) xS secret r = E at HPZ
    clear hE
    refine (unhide HPZ).mono ?_
    rintro e w7 ⟨rfl, F7, _, hb7⟩
    have HB7 := hide (HB6.out.trans hb7)
    clear hb7
    go_wp2_with fail
    go_ret
    exact ⟨rfl, HB7.out⟩

end Go.Proofs.YtlefhfmckimlaajDoor.vaultKeeps
