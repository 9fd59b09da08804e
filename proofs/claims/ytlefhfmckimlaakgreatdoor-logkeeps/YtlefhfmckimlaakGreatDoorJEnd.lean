/-
  For the Go function LogKeeps: how its own first log goes; and what stands side by side ahead of its rounds.
  The walk of the Go function LogKeeps: it returns true, whatever comes in.
  Proved: the Go function LogKeeps returns true for every rules, every list of what is asked, and every three lists of numbers, and leaves them as they were: a log answers as the document's copy does, stops where it is told, and keeps what is safe through every crash. The library's tables, errors and error type that the program's text lays are as that text lays them (the card ties this).
-/
import Derived.Test.YtlefhfmckimlaakGreatDoorLogKeepsB
import Derived.Test.YtlefhfmckimlaakGreatDoorLkCode
import Derived.BigQuiet
import Derived.Deep.QuietTactic
import Derived.Deep.CutRange
import Derived.Deep.CutBlock
import Derived.Test.YtlefhfmckimlaakGreatDoorLkBlk1
import Derived.Test.YtlefhfmckimlaakGreatDoorAsks
import Derived.Test.YtlefhfmckimlaakGreatDoorRuleRef
import Derived.Test.YtlefhfmckimlaakGreatDoorTie
import Derived.Test.YtlefhfmckimlaakGreatDoorCards
import Derived.ProofKit
import Derived.OpenShut
import Derived.LaidMore
import Derived.Stop.Joined
import Derived.Stop.LaidErr
import Derived.Stop.Asserts
import Derived.Lib.SmallJoins
import Derived.Carry
import Derived.SevenTiedAt
set_option linter.unusedVariables false
namespace Go.Proofs.YtlefhfmckimlaakGreatDoor.logKeeps
open Go.RowKit logStops

def C1 : M.Cop := M.Cop.new.did (xP 1 1 4) M.sOk (M.Cop.new.l ++ [[numV 4]])
def C2 : M.Cop := C1.did (xP 1 2 5) M.sOk (C1.l ++ [[numV 5]])
def G1 (k : Nat) : M.Lg := ⟨[M.Cop.new, C1], [0, k], 0, 0, -1, false⟩
def G2 (k : Nat) : M.Lg := ⟨[M.Cop.new, C1], [0, k], 0, k, -1, false⟩
def G3 (k j : Nat) : M.Lg := ⟨[M.Cop.new, C1, C2], [0, k, k + j], 0, k, -1, false⟩
theorem first1 (k : Nat) : M.lgDo R1 M.Lg.new (xP 1 1 4) k = (0, M.sOk, G1 k) := by
  have hd := do_put (c := M.Lg.new.cop) (who := 1) (seq := 1) (n := 4) (by decide) (by decide) (by decide) rfl
  have d1 : (M.doR R1 M.Lg.new.cop (xP 1 1 4)).1 = 0 := by rw [hd]
  have d2 : (M.doR R1 M.Lg.new.cop (xP 1 1 4)).2.2.n ≠ M.Lg.new.cop.n := by rw [hd]; show M.Lg.new.cop.n + 1 ≠ M.Lg.new.cop.n; omega
  rw [M.lgDo_did rfl d1 d2 (by decide) (by decide), hd]
  have e : M.Lg.new.bytes + k = k := by show 0 + 0 + k = k; omega
  rw [e]
  rfl
theorem first2 (k : Nat) : M.lgSync (G1 k) = (0, G2 k) := rfl
theorem first3 (k j : Nat) : M.lgDo R1 (G2 k) (xP 1 2 5) j = (0, M.sOk, G3 k j) := by
  have hg1 : (C1.g 1).1 = 1 := by
    show (M.upG M.Cop.new.g (xP 1 1 4) M.sOk (xP 1 1 4).who).1 = _
    rw [M.upG_same]; rfl
  have hd := do_put (c := C1) (who := 1) (seq := 2) (n := 5) (by decide) (by decide) (by decide) (by rw [hg1]; rfl)
  have ec : (G2 k).cop = C1 := rfl
  have d1 : (M.doR R1 (G2 k).cop (xP 1 2 5)).1 = 0 := by rw [ec, hd]
  have d2 : (M.doR R1 (G2 k).cop (xP 1 2 5)).2.2.n ≠ (G2 k).cop.n := by rw [ec, hd]; show C1.n + 1 ≠ C1.n; omega
  rw [M.lgDo_did rfl d1 d2 (by show ¬ 31 ≤ 2; decide) (by show (-1 : Int) ≠ 0; decide), ec, hd]
  have e : (G2 k).bytes + j = k + j := rfl
  rw [e]
  rfl
theorem first4 (k j : Nat) (hj : 2 ≤ j) : (M.lgCrash (G3 k j) 0).cop.n = 1 ∧ (M.lgCrash (G3 k j) 0).bytes = k ∧ (M.lgCrash (G3 k j) 0).safe = k := by
  have e : M.upTo (G3 k j).ms (M.lgHigh (G3 k j) 0) = 2 := by
    have e2 : M.lgHigh (G3 k j) 0 = k := by show k + min 0 _ = k; omega
    rw [e2]
    show (([0, k, k + j] : List Nat).takeWhile (· ≤ k)).length = 2
    have h3 : ¬ (k + j ≤ k) := by omega
    simp [List.takeWhile, h3]
  have e3 : M.lgCrash (G3 k j) 0 = ⟨[M.Cop.new, C1], [0, k], 0, k, -1, false⟩ := by
    unfold M.lgCrash
    rw [e]
    rfl
  rw [e3]
  exact ⟨rfl, rfl, rfl⟩

theorem own_one {w : World} {base : Nat} {T : TypeId} {v : Value} (hb : base ≤ w.heap.size) : (w.alloc (.cells #[v] T)).ownsRow base T 1 (.slice (some ⟨w.heap.size, 0, none⟩) 1 1) 1 [v] :=
  ⟨rfl, Or.inr ⟨w.heap.size, 1, #[v], rfl, hb, heap_alloc_new w _, Nat.le_refl _, by unfold maxLen; decide, rfl, rfl⟩⟩
/-- a log and the document's copy that are new, each in its row -/
theorem Lk.start {w wx : World} {J : Nat} {F : Nat → Prop} {rav : Option Addr} {rn rcap : Nat} {R : List M.Rul} (hb : Below w.heap.size w wx) (hJ : LgIs w.heap.size wx F J M.Lg.new R) (hR : AtR w rav R) (hrn : rn = R.length) (hE : M.rulE R = 0) :
    Lk w ((((wx.alloc (.cells #[.slice none 0 0] 78)).alloc (.cells #[.slice rav rn rcap, .pointer (some ⟨wx.heap.size, 0, none⟩), .slice none 0 0, .int .i64 0] 55)).alloc (.cells #[.pointer (some ⟨wx.heap.size + 1, 0, none⟩)] 46)).alloc (.cells #[.int .i64 0] 3)) J (.slice (some ⟨wx.heap.size + 2, 0, none⟩) 1 1) (.slice (some ⟨wx.heap.size + 3, 0, none⟩) 1 1) 1 (fun _ => wx.heap.size + 1) M.Lg.new.cs M.Lg.new.ms M.Lg.new rav rn rcap R := by
  have hr := Rc.new hb (.slice rav rn rcap)
  generalize h1 : (wx.alloc (.cells #[.slice none 0 0] 78)).alloc (.cells #[.slice rav rn rcap, .pointer (some ⟨wx.heap.size, 0, none⟩), .slice none 0 0, .int .i64 0] 55) = w1 at hr ⊢
  have s1 : w1.heap.size = wx.heap.size + 2 := by rw [← h1]; simp
  have b1 : Below wx.heap.size wx w1 := by rw [← h1]; exact ((Below.refl _ _).alloc (Nat.le_refl _) _).alloc (by simp) _
  have r2 := own_one (w := w1) (base := w.heap.size) (T := 46) (v := .pointer (some ⟨wx.heap.size + 1, 0, none⟩)) (by have := hb.size; omega)
  rw [s1] at r2
  have b2 : Below w1.heap.size w1 (w1.alloc (.cells #[.pointer (some ⟨wx.heap.size + 1, 0, none⟩)] 46)) := (Below.refl _ _).alloc (Nat.le_refl _) _
  generalize h2 : w1.alloc (.cells #[.pointer (some ⟨wx.heap.size + 1, 0, none⟩)] 46) = w2 at r2 b2 ⊢
  have s2 : w2.heap.size = wx.heap.size + 3 := by rw [← h2]; simp [s1]
  have r3 := own_one (w := w2) (base := w.heap.size) (T := 3) (v := .int .i64 0) (by have := hb.size; omega)
  rw [s2] at r3
  have b3 : Below w2.heap.size w2 (w2.alloc (.cells #[.int .i64 0] 3)) := (Below.refl _ _).alloc (Nat.le_refl _) _
  generalize w2.alloc (.cells #[.int .i64 0] 3) = w3 at r3 b3 ⊢
  have b13 : Below w1.heap.size w1 w3 := b2.trans (b3.mono (by omega))
  have bx3 : Below wx.heap.size wx w3 := b1.trans (b13.mono (by omega))
  have hi := hJ.highs
  refine ⟨F, fun _ => rcF (wx.heap.size + 1) wx.heap.size (.slice none 0 0) (.slice none 0 0), hJ.quiet bx3, Nat.le_refl _, ownsRow_at r2 (fun k hk => ?_), r3, fun i hl => ?_, fun i j h1 h2 h3 => ?_, fun i hl => Off.new (w := wx) hi (fun k hk => ?_), fun k hk => ?_, fun k hk => ?_, hb.trans (bx3.mono hb.size)⟩
  · obtain ⟨_, c, fr, hh⟩ := ownsRow_tag r2 hk
    exact b3.block k (heap_lt hh)
  · have e : i = 0 := by have : i < 1 := hl; omega
    subst e
    exact (RcAt.quiet ⟨wx.heap.size, .slice none 0 0, .slice none 0 0, [], rfl, hr, rfl, rfl, M.Cop.new_ok, hR, hrn, hE⟩ b13)
  · have : i < 1 := h1
    have : j < 1 := h2
    omega
  · rcases hk with rfl | rfl | hk | hk
    · exact Nat.le_succ _
    · exact Nat.le_refl _
    · cases hk
    · cases hk
  · have e : wx.heap.size + 2 = k := by simpa [Value.ownBlock] using hk
    exact fun hF => by have := hi k hF; omega
  · have e : wx.heap.size + 3 = k := by simpa [Value.ownBlock] using hk
    exact fun hF => by have := hi k hF; omega

end Go.Proofs.YtlefhfmckimlaakGreatDoor.logKeeps

set_option linter.unusedVariables false
set_option linter.unusedSimpArgs false
namespace Go.Proofs.YtlefhfmckimlaakGreatDoor.logKeeps
open Go.RowKit logStops
attribute [local go_sem ↓] Go.wp_at_zero Go.wp_at_succ

set_option maxRecDepth 100000 in
set_option maxHeartbeats 4000000 in
theorem walk (rav : Option Addr) (rn rcap : Nat) (R : List M.Rul) (aa : Option Addr) (an ac : Nat) (l : List M.Ask) (sa : Option Addr) (sn sc : Nat) (fa : Option Addr) (fn fc : Nat) (ka : Option Addr) (kn kc : Nat) (w : World)
    (hrn : rn = R.length) (hrm : rn ≤ maxLen) (hR : AtR w rav R) (han : an = l.length) (ham : an ≤ maxLen) (hA : AtA w aa l) (hsm : sn ≤ maxLen) (hfm : fn ≤ maxLen) (hkm : kn ≤ maxLen)
    (hSY : ∀ i : Nat, (i : Int) < sn → ∃ b2 o2 z, sa = some ⟨b2, o2, none⟩ ∧ ∀ wy, Below w.heap.size w wy → wy.cell? ⟨b2, o2 + i, none⟩ = some (.int .i64 z))
    (hFA : ∀ i : Nat, (i : Int) < fn → ∃ b2 o2 z, fa = some ⟨b2, o2, none⟩ ∧ z ≤ 9223372036854775807 ∧ ∀ wy, Below w.heap.size w wy → wy.cell? ⟨b2, o2 + i, none⟩ = some (.int .i64 z))
    (hKP : ∀ i : Nat, (i : Int) < kn → ∃ b2 o2 z, ka = some ⟨b2, o2, none⟩ ∧ ∀ wy, Below w.heap.size w wy → wy.cell? ⟨b2, o2 + i, none⟩ = some (.int .i64 z)) (hg : Hand w) (ht : Tab w) :
    Calls Tryz.prog 3 #[.slice rav rn rcap, .slice aa an ac, .slice sa sn sc, .slice fa fn fc, .slice ka kn kc] w fun e w' => e = .returned (.bool true) ∧ Below w.heap.size w w' := by
  have HN := hide (log1 w)
  have HH := hide hg
  have HT := hide ht
  have HSY := hide hSY
  have HFA := hide hFA
  have HKP := hide hKP
  have HAT : Hid (∀ i, i < an → ∃ b off x a n cp, aa = some ⟨b, off, none⟩ ∧ IsVals w (.slice a n cp) (M.Ask.t x) ∧ ∀ wy, Below w.heap.size w wy → wy.cell? ⟨b, off + i * 4, none⟩ = some (.int .i64 x.who) ∧ wy.cell? ⟨b, off + i * 4 + 1, none⟩ = some (.int .i64 x.seq) ∧ wy.cell? ⟨b, off + i * 4 + 2, none⟩ = some (.int .i64 x.deed) ∧ wy.cell? ⟨b, off + i * 4 + 3, none⟩ = some (.slice a n cp)) := hide fun k hk => by
    obtain ⟨b, off, e, hlie⟩ := hA (by omega)
    obtain ⟨a, n, c, h1, h2, h3, h4, h5⟩ := hlie.get (k := k) (by omega)
    have hlt := World.block_lt_of_cell? w _ h1
    exact ⟨b, off, l[k], a, n, c, e, h5, fun wy hy => ⟨(hy.cell (p := ⟨b, off + k * 4, none⟩) hlt).trans h1, (hy.cell (p := ⟨b, off + k * 4 + 1, none⟩) hlt).trans h2, (hy.cell (p := ⟨b, off + k * 4 + 2, none⟩) hlt).trans h3, (hy.cell (p := ⟨b, off + k * 4 + 3, none⟩) hlt).trans h4⟩⟩
  have HRU : Hid (∀ wx, Below w.heap.size w wx → Calls Tryz.prog 15 #[.slice rav rn rcap] wx fun e w' => e = .returned (.int .i64 (M.rulE R)) ∧ Below wx.heap.size wx w') := hide fun wx hb => refRules rav rn rcap R wx hrn hrm (hR.stays hb (Nat.le_refl _))
  have HRR := hide (And.intro hrn (And.intro hrm hR))
  unfold maxLen at ham hsm hfm hkm
  clear hg ht hSY hFA hKP hA hrn hrm hR han
  go_enter Tryz.func3, Tryz.ntmps3
  go_wp2_with fail
  refine (unhide HN).mono ?_
  rintro e w2 ⟨J0, F0, rfl, hJ0, hb2⟩
  dsimp only
  have HP1 := hide (At.put (w := w) ⟨⟨F0, hJ0⟩, hb2⟩ 1 1 4 HT.out)
  clear hJ0 hb2 HN
  go_wp2_with fail
  refine (unhide HP1).mono ?_
  rintro e w3 ⟨k, _, rfl, hA3⟩
  dsimp only
  rw [first1] at hA3 ⊢
  have HS3 := hide hA3.sync
  rw [first2] at HS3
  clear hA3 HP1
  rw [show errV (0, M.sOk, G1 k).1 = Value.nilIface from rfl]
  go_wp2_with fail
  refine (unhide HS3).mono ?_
  rintro e w4 ⟨rfl, hA4⟩
  dsimp only
  rw [show errV 0 = Value.nilIface from rfl]
  have HP4 := hide (hA4.put 1 2 5 HT.out)
  clear hA4 HS3
  go_wp2_with fail
  refine (unhide HP4).mono ?_
  rintro e w5 ⟨j, hj, rfl, hA5⟩
  dsimp only
  rw [show M.lgDo R1 (G2 k) (xP 1 2 5) j = (0, M.sOk, G3 k j) from first3 k j] at hA5 ⊢
  rw [show errV (0, M.sOk, G3 k j).1 = Value.nilIface from rfl]
  have HC5 := hide (hA5.crash 0 HT.out)
  have HG := hide (first4 k j hj)
  generalize M.lgCrash (G3 k j) 0 = g5 at *
  clear hA5 HP4
  go_wp2_with fail
  refine (unhide HC5).mono ?_
  rintro e w6 ⟨rfl, hA6⟩
  dsimp only
  have HM6 := hide (hA6.mark HT.out)
  rw [HG.out.1] at HM6
  have HB6 : Hid (∀ wx, At w wx J0 g5 → Calls Tryz.prog 13 #[.pointer (some ⟨J0, 0, none⟩)] wx fun e w' => e = .returned (.int .i64 k) ∧ At w w' J0 g5) := hide fun wx h => by
    have := h.bytes
    rwa [HG.out.2.1] at this
  have HF6 : Hid (∀ wx, At w wx J0 g5 → Calls Tryz.prog 14 #[.pointer (some ⟨J0, 0, none⟩)] wx fun e w' => e = .returned (.int .i64 k) ∧ At w w' J0 g5) := hide fun wx h => by
    have := h.safe
    rwa [HG.out.2.2] at this
  clear hA6 HC5 hj
  generalize M.mark g5.cop.l = y5 at *
  go_wp2_with fail
  refine (unhide HM6).mono ?_
  rintro e w7 ⟨rfl, hA7⟩
  dsimp only
  have HB7 := hide (HB6.out _ hA7)
  clear hA7 HM6 HB6
  go_wp2_with fail
  refine (unhide HB7).mono ?_
  rintro e w8 ⟨rfl, hA8⟩
  dsimp only
  have HF8 := hide (HF6.out _ hA8)
  clear hA8 HB7 HF6
  go_wp2_with fail
  refine (unhide HF8).mono ?_
  rintro e w9 ⟨rfl, hA9⟩
  dsimp only
  have HB9 := hide hA9.2
  clear hA9 HF8
  go_wp2_with fail
  refine (HRU.out _ HB9.out).mono ?_
  rintro e w10 ⟨rfl, hb10⟩
  dsimp only
  have HB10 := hide (HB9.out.trans (hb10.mono HB9.out.size))
  clear hb10 HB9 HRU
  by_cases hE : M.rulE R = 0
  · have HJ : Hid (Calls Tryz.prog 8 #[.slice rav rn rcap] w10 fun e w' => ∃ J F, e = .returned (.tuple #[.pointer (some ⟨J, 0, none⟩), .nilIface]) ∧ LgIs w.heap.size w' F J M.Lg.new R ∧ (∀ i, F i → w10.heap.size ≤ i) ∧ Below w10.heap.size w10 w') := hide (lNew_ok w.heap.size rav rn rcap R w10 HB10.out.size HRR.out.1 HRR.out.2.1 (HRR.out.2.2.stays HB10.out (Nat.le_refl _)) hE)
    have HEE := hide hE
    rw [hE]
    clear hE
    go_wp2_with fail
    refine (unhide HJ).mono ?_
    rintro e w11 ⟨J, F, rfl, hJ, _, hb11⟩
    dsimp only
    have HB11 := hide (HB10.out.trans (hb11.mono HB10.out.size))
    have HSM : Hid (Calls Tryz.prog 16 #[.nilIface, .int .i64 0] w11 fun e w' => e = .returned (.bool true) ∧ Below w11.heap.size w11 w') := hide (sameErr 0 0 w11 (HH.out.stays HB11.out (Nat.le_refl _)))
    have HJ1 := hide hJ
    clear hb11 HJ hJ HB10
    go_wp2_with fail
    refine (unhide HSM).mono ?_
    rintro e w12 ⟨rfl, hb12⟩
    dsimp only
    have HB12 := hide (HB11.out.trans (hb12.mono HB11.out.size))
    have HL0 := hide (Lk.start (rcap := rcap) HB12.out (HJ1.out.quiet hb12) HRR.out.2.2 HRR.out.1 HEE.out)
    have HNC := hide (rNewCopy rav rn rcap w12)
    clear hb12 HSM HB11 HJ1 HRR HEE HB12
    go_wp2_with fail
    refine (unhide HNC).mono ?_
    rintro e w13 ⟨rfl, rfl⟩
    dsimp only
    clear HNC
    go_wp2_with fail
    go_loopw [24, 25, 26, 27] (fun sd sm sq st wx => ∃ (t q : Nat) (g1 : M.Lg) (Cs1 : Nat → Nat) (gd1 dc1 gm1 mc1 p1 : Nat), sd = .slice (some ⟨gd1, 0, none⟩) p1 dc1 ∧ sm = .slice (some ⟨gm1, 0, none⟩) p1 mc1 ∧ sq = .int .i64 q ∧ st = .int .i64 t ∧ t ≤ 4 ∧ q ≤ an ∧ Hid (p1 = g1.cs.length) ∧ Hid (Lk w wx J (.slice (some ⟨gd1, 0, none⟩) p1 dc1) (.slice (some ⟨gm1, 0, none⟩) p1 mc1) p1 Cs1 g1.cs g1.ms g1 rav rn rcap R)) (fun _ _ _ st _ => 4 - (intOf st).toNat)
    case atStart => exact ⟨0, 0, M.Lg.new, _, _, 1, _, 1, 1, rfl, rfl, rfl, rfl, by omega, by omega, hide rfl, HL0⟩
    case round =>
      clear HL0
      obtain ⟨t, q, g1, Cs1, gd1, dc1, gm1, mc1, p1, rfl, rfl, rfl, rfl, ht4, hq, HP, HK⟩ := hrel
      by_cases h1 : t ≤ fn
      · have i1 : (t : Int) ≤ (fn : Int) := by omega
        by_cases h2 : t < 4
        · have i2 : (t : Int) < 4 := by omega
          go_upto_block 1 with fail
          refine blk1 _ _ _ _ _ _ _ _ _ _ _ _ _ _ _ _ _ _ _ _ _ _ _ _ _ _ _ _ _ _ _ _ _ _ _ _ _ _ _ _ _ _ _ _ _ _ _ _ _ _ _ _ _ _ _ _ _ _ _ _ _ _ _ _ _ _ _ _ _ _ _ _ _ _ _ _ _ _ _ _ _ _ _ _ _ _ _ _ _ _ _ _ _ _ _ _ _ _ _ _ _ _ _ _ _ _ _ _ _ _ _ _ _ _ _ _ _ _ _ _ _ _ _ _ _ _ _ _ _ _ _ _ _ _ _ _ _ _ _ _ _ _ _ _ _ _ _ _ _ _ _ _ _ _ _ _ _ _ _ _ _ _ _ _ _ _ _ _ _ _ _ _ _ _ _ _ _ _ _ _ _ _ _ _ _ _ _ _ _ _ _ _ _ _ _ _ _ _ _ _ _ _ _ _ _ _ _ _ _ _ _ _ _ _ _ _ _ _ _ _ _ _ _ _ _ _ _ _ _ _ _ _ _ _ _ _ _ _ _ _ _ _ _ _ _ _ _ _ _ _ _ _ _ _ _ _ _ _ _ _ _ _ _ _ _ _ _ _ _ _ _ _ _ _ _ _ _ _ _ _ _ _ _ _ _ _ _ _ _ _ _ _ _ _ _ _ _ _ _ _ _ _ _ _ _ _ _ _ _ _ _ _ _ _ _ _ _ _ _ _ _ _ _ _ _ _ _ _ _ _ _ _ _ _ _ _ _ _ _ _ _ _ _ _ _ _ _ _ _ _ _ _ _ _ _ _ _ _ _ _ _ _ _ _ _ _ _ _ _ _ _ _ _ _ _ _ _ _ _ _ _ _ _ _ _ _ _ _ _ _ _ _ hq ham hsm hfm hkm HP.out HAT.out HSY.out HFA.out HKP.out HH.out HT.out HK.out ?_
          intro v0 v1 v2 v3 v4 v5 v6 v7 v8 v9 v10 v11 v12 v13 v14 v15 v16 v17 v18 v19 v20 v21 v22 v23 v24 v25 v26 v27 v28 v29 v30 v31 v32 v33 v34 v35 v36 v37 v38 v39 v40 v41 v42 v43 v44 v45 v46 v47 v48 v49 v50 v51 v52 v53 v54 v55 v56 v57 v58 v59 v60 v61 v62 v63 v64 v65 v66 v67 v68 v69 v70 v71 v72 v73 v74 v75 v76 v77 v78 v79 v80 v81 v82 v83 v84 v85 v86 v87 v88 v89 v90 v91 v92 v93 v94 v95 v96 v97 v98 v99 v100 v101 v102 v103 v104 v105 v106 v107 v108 v109 v110 v111 v112 v113 v114 v115 v116 v117 v118 v119 v120 v121 v122 v123 v124 v125 v126 v127 v128 v129 v130 v131 v132 v133 v134 v135 v136 v137 v138 v139 v140 v141 v142 v143 v144 v145 v146 v147 v148 v149 v150 v151 v152 v153 v154 v155 v156 v157 v158 v159 v160 v161 v162 v163 v164 v165 v166 v167 v168 v169 v170 v171 v172 v173 v174 v175 v176 v177 v178 v179 v180 v181 v182 v183 v184 v185 v186 v187 v188 v189 v190 v191 v192 v193 v194 v195 v196 v197 v198 v199 v200 v201 v202 v203 v204 v205 v206 v207 v208 v209 v210 v211 v212 v213 v214 v215 v216 v217 v218 v219 v220 v221 v222 v223 v224 v225 v226 v227 v228 v229 v230 v231 v232 v233 v234 v235 v236 v237 v238 v239 v240 v241 v242 v243 v244 v245 v246 v247 v248 v249 v250 v251 v252 v253 v254 v255 v256 v257 v258 v259 v260 v261 v262 v263 v264 v265 v266 v267 v268 v269 v270 v271 v272 v273 v274 v275 v276 v277 v278 v279 v280 v281 v282 v283 v284 v285 v286 v287 w9 g9 Cs9 gd9 dc9 gm9 mc9 p9 q9 hq9 hp9 hL9
          have HP9 := hide hp9
          have HL9 := hide hL9
          clear hp9 hL9 HP HK
          go_wp2_with fail
          go_roundw
          case rel => exact ⟨t + 1, q9, g9, Cs9, gd9, dc9, gm9, mc9, p9, rfl, rfl, rfl, by go_num, by omega, hq9, HP9, HL9⟩
          case measure => simp [intOf]; omega
        · have i2 : ¬ (t : Int) < 4 := by omega
          go_wp2_with fail
          go_ret
          exact ⟨rfl, HK.out.bel⟩
      · have i1 : ¬ (t : Int) ≤ (fn : Int) := by omega
        go_wp2_with fail
        go_ret
        exact ⟨rfl, HK.out.bel⟩
  · have HJ : Hid (Calls Tryz.prog 8 #[.slice rav rn rcap] w10 fun e w' => e = .returned (.tuple #[.pointer none, errV (M.rulE R)]) ∧ Below w10.heap.size w10 w') := hide (lNew_bad rav rn rcap R w10 HRR.out.1 HRR.out.2.1 (HRR.out.2.2.stays HB10.out (Nat.le_refl _)) hE)
    have HSM : Hid (∀ wx, Below w.heap.size w wx → Calls Tryz.prog 16 #[errV (M.rulE R), .int .i64 (M.rulE R)] wx fun e w' => e = .returned (.bool true) ∧ Below wx.heap.size wx w') := hide fun wx hb => by
      have := sameErr (M.rulE R) (M.rulE R) wx (HH.out.stays hb (Nat.le_refl _))
      rwa [show (M.rulE R == M.rulE R) = true by simp] at this
    rw [errV_bad hE] at HJ HSM
    generalize M.rulE R = E at *
    have hz : (E == 0) = false := by simpa using hE
    clear hE
    go_wp2_with fail
    refine (unhide HJ).mono ?_
    rintro e w11 ⟨rfl, hb11⟩
    dsimp only
    have HB11 := hide (HB10.out.trans (hb11.mono HB10.out.size))
    have HS1 := hide (HSM.out _ HB11.out)
    clear hb11 HJ HB10 HSM
    go_wp2_with fail
    refine (unhide HS1).mono ?_
    rintro e w12 ⟨rfl, hb12⟩
    dsimp only
    have HB12 := hide (HB11.out.trans (hb12.mono HB11.out.size))
    clear hb12 HS1 HB11
    go_wp2_with fail
    go_ret
    exact ⟨rfl, HB12.out⟩

end Go.Proofs.YtlefhfmckimlaakGreatDoor.logKeeps

set_option linter.unusedVariables false
set_option linter.unusedSimpArgs false
namespace Go.Proofs.YtlefhfmckimlaakGreatDoor.logKeeps
open Go.ChangeShapes Go.WideShapes Go.ChangeAt Go.RowKit Go.Joins

theorem own : ownKnob Tryz.prog.godebug = none := by kernel_rfl
theorem laidOut : laidOutB Tryz.prog = true := by kernel_rfl
theorem cellsR : Tryz.prog.cellsOf 34 = 4 := by kernel_rfl
theorem cellsV : Tryz.prog.cellsOf 31 = 3 := by kernel_rfl
theorem cellsA : Tryz.prog.cellsOf 38 = 4 := by kernel_rfl
theorem pow_data : (Rows.laid_internal_strconv_uint64pow10 : DataW Unit) = Lib.tabData .u64 Lib.pow10Tab := by kernel_rfl

theorem et : Tryz.prog.globalNamed "errors.errorType" = some 0 := by kernel_rfl
theorem rt : (Tryz.prog.cutTypes.find? (·.1 == "internal/reflectlite.rtype")).map (·.2) = some 225 := by kernel_rfl
theorem oneRow : ((List.range 324).filter fun t => Tryz.prog.rowNamed t [101, 114, 114, 111, 114]) = [27] := by kernel_rfl
theorem types : Tryz.prog.types.size = 324 := by kernel_rfl

/-- five parameters -/
theorem five {H : Type} {enc : TypeId × Value → H} {P : Program} {w : World} {base : Nat} {sp : Nat → Bool} {held : Bool} {t0 t1 t2 t3 t4 : TypeId} {args : Array Value} {ds : List (DataW H)} {ps : List MemPlace}
    (h : DataW.TrodAll enc P w base sp held [t0, t1, t2, t3, t4] args.toList ds ps) :
    ∃ v0 v1 v2 v3 v4 d0 d1 d2 d3 d4 p0 p1 p2 p3 p4, args = #[v0, v1, v2, v3, v4] ∧ ds = [d0, d1, d2, d3, d4] ∧ ps = p0 ++ (p1 ++ (p2 ++ (p3 ++ p4)))
      ∧ DataW.Trod enc P w base sp held t0 v0 d0 p0 ∧ DataW.Trod enc P w base sp held t1 v1 d1 p1 ∧ DataW.Trod enc P w base sp held t2 v2 d2 p2 ∧ DataW.Trod enc P w base sp held t3 v3 d3 p3 ∧ DataW.Trod enc P w base sp held t4 v4 d4 p4 := by
  obtain ⟨v0, r0, d0, e0, p0, q0, ha, rfl, rfl, h0, g0⟩ := trodAll_cons h
  obtain ⟨v1, r1, d1, e1, p1, q1, rfl, rfl, rfl, h1, g1⟩ := trodAll_cons g0
  obtain ⟨v2, r2, d2, e2, p2, q2, rfl, rfl, rfl, h2, g2⟩ := trodAll_cons g1
  obtain ⟨v3, r3, d3, e3, p3, q3, rfl, rfl, rfl, h3, g3⟩ := trodAll_cons g2
  obtain ⟨v4, r4, d4, e4, p4, q4, rfl, rfl, rfl, h4, g4⟩ := trodAll_cons g3
  obtain ⟨rfl, rfl, rfl⟩ := trodAll_nil g4
  exact ⟨v0, v1, v2, v3, v4, d0, d1, d2, d3, d4, p0, p1, p2, p3, p4, by cases args; simp_all, rfl, by simp, h0, h1, h2, h3, h4⟩
theorem five_mk {H : Type} {enc : TypeId × Value → H} {P : Program} {w : World} {base : Nat} {sp : Nat → Bool} {held : Bool} {t0 t1 t2 t3 t4 : TypeId} {v0 v1 v2 v3 v4 : Value} {d0 d1 d2 d3 d4 : DataW H} {p0 p1 p2 p3 p4 : List MemPlace}
    (h0 : DataW.Trod enc P w base sp held t0 v0 d0 p0) (h1 : DataW.Trod enc P w base sp held t1 v1 d1 p1) (h2 : DataW.Trod enc P w base sp held t2 v2 d2 p2) (h3 : DataW.Trod enc P w base sp held t3 v3 d3 p3) (h4 : DataW.Trod enc P w base sp held t4 v4 d4 p4) :
    DataW.TrodAll enc P w base sp held [t0, t1, t2, t3, t4] [v0, v1, v2, v3, v4] [d0, d1, d2, d3, d4] (p0 ++ (p1 ++ (p2 ++ (p3 ++ p4)))) := trodAll_cons_mk h0 (trodAll_cons_mk h1 (trodAll_cons_mk h2 (trodAll_cons_mk h3 (trodAll_mk1 h4))))

open Go.Deep in
/-- an argument of type []int -/
theorem open_nums {H : Type} {enc : TypeId × Value → H} {P : Program} {w : World} {tt t : TypeId} {a : Option Addr} {len cap : Nat} {d : DataW H} {p : List MemPlace}
    (htt : P.underlying tt = some (.slice t)) (ct : P.cellsOf t = 1) (ht : P.underlying t = some (.int .i64)) (h : DataW.Trod enc P w 0 (fun _ => true) true tt (.slice a len cap) d p) :
    len ≤ maxLen ∧ ∀ i : Nat, (i : Int) < len → ∃ b2 o2 z, a = some ⟨b2, o2, none⟩ ∧ z ≤ 9223372036854775807 ∧ ∀ wy, Below w.heap.size w wy → wy.cell? ⟨b2, o2 + i, none⟩ = some (.int .i64 z) := by
  obtain ⟨fuel, hf⟩ := h
  rcases open_slice1 htt ct hf with ⟨hcs, hd⟩ | ⟨x, len', cap', m, n, V, D, Pl, hcs, _, hl, hm, hmm, hd, hx⟩
  · simp [Value.cells] at hcs
    obtain ⟨rfl, rfl, rfl⟩ := hcs
    exact ⟨Nat.zero_le _, fun i h => by omega⟩
  · simp [Value.cells] at hcs
    obtain ⟨rfl, rfl, rfl⟩ := hcs
    have hmc : m = cap := by rw [hmm]; simp
    refine ⟨Nat.le_trans hl hm, fun i hi => ?_⟩
    obtain ⟨h1, h2⟩ := hx i (by omega)
    obtain ⟨z, q, _, hw⟩ := DataW.trod_int ht h2
    simp at q
    have hz : w.cell? (x.add i) = some (.int .i64 z) := by rw [h1, q]
    obtain ⟨g1, g2⟩ := hx 0 (by omega)
    obtain ⟨z0, q0, _, _⟩ := DataW.trod_int ht g2
    simp at q0
    have hz0 : w.cell? (x.add 0) = some (.int .i64 z0) := by rw [g1, q0]
    obtain ⟨b, off, spot⟩ := x
    have hspot : spot = none := by simpa [Addr.add] using World.cell?_spot hz0
    subst hspot
    rw [WideShapes.add_plain] at hz
    have hw2 : z ≤ IntKind.i64.max := of_decide_eq_true (Bool.and_eq_true_iff.1 hw).2
    exact ⟨b, off, z, rfl, hw2, fun wy hy => (hy.cell (p := ⟨b, off + i, none⟩) (World.block_lt_of_cell? w _ hz)).trans hz⟩

/-- what the row's condition gives the walk: the table, and the error type's variable -/
theorem laid_of {W : World} (h : laidMetH Tryz.prog Rows.logKeepsRow.laid W) : Tab W ∧ Hand W := by
  have h' : laidMet Tryz.prog [("math/bits.deBruijn32tab", Rows.laid_math_bits_deBruijn32tab), ("math/bits.deBruijn64tab", Rows.laid_math_bits_deBruijn64tab), ("internal/strconv.uint64pow10", Rows.laid_internal_strconv_uint64pow10), ("strconv.ErrRange", Rows.laid_strconv_ErrRange), ("strconv.ErrSyntax", Rows.laid_strconv_ErrSyntax)] W ∧ handlesMet Tryz.prog [("errors.errorType", Rows.laid_errors_errorType)] W := h
  constructor
  · obtain ⟨r, h2⟩ : ∃ r, laidMet Tryz.prog (("internal/strconv.uint64pow10", Lib.tabData .u64 Lib.pow10Tab) :: r) W := by
      rw [← pow_data]; exact ⟨_, h'.1.tail.tail⟩
    exact Lib.tabIs_of_head (g := 2) (by kernel_rfl) (by kernel_rfl) Tryz.underlying271 Tryz.underlying247 (by kernel_rfl) (by kernel_rfl) h2
  · obtain ⟨name, u, ty, e1, e2, e3, e4, e5⟩ := h'.2 _ (List.mem_singleton.2 rfl)
    have en : name = [101, 114, 114, 111, 114] := (Option.some.inj e1).symm
    subst en
    obtain rfl := Option.some.inj (rt.symm.trans e2)
    have hm : ty ∈ (List.range 324).filter fun t => Tryz.prog.rowNamed t [101, 114, 114, 111, 114] := List.mem_filter.2 ⟨List.mem_range.2 (by rw [← types]; exact e3), e4⟩
    rw [oneRow] at hm
    obtain rfl := List.mem_singleton.1 hm
    have hh : typeHandle Tryz.prog 27 = .pointer (some ⟨9, 27, none⟩) := by kernel_rfl
    rw [hh] at e5
    unfold Hand
    simpa using World.var?_cell et e5 0

theorem door_met (os : Os) (args : Array Value) : laidMetH Tryz.prog Rows.logKeepsRow.laid ((World.doorLaid Tryz.prog 79 os).forCall (fun _ _ => 0) ⟨#[], args, []⟩).memory :=
  laidMetH_of_parts3 (fuel := 8) (laidMet_of_run' 8 (by kernel_rfl) (by kernel_rfl)) (by kernel_rfl) (by kernel_rfl)

set_option maxRecDepth 100000 in
theorem lifted (os : Os) (started : os.Started) (H : Type) (enc : TypeId × Value → H) :
    ReturnsInHanded {} Tryz.checked os 3 .any (fun w args => (Rows.logKeepsSpec.pre enc Tryz.prog Tryz.f3 [] false w args ∧ laidMetH Tryz.prog Rows.logKeepsRow.laid w) ∧ sizedMet enc Tryz.prog Tryz.f3 (OpenSpec.ofChange Rows.logKeepsSpec) false w args)
      (Rows.logKeepsSpec.post enc Tryz.prog Tryz.f3 false true false false) := by
  refine returnsInHanded_of_change_and (C := Tryz.checked) (X := fun w _ => laidMetH Tryz.prog Rows.logKeepsRow.laid w) (fun _ _ _ hh h => h.of_heap hh) own started (by kernel_rfl) Tryz.func3
    (ChangeSpec.witness_shaped (enc := enc) (C := Tryz.checked) (os := os) (X := fun w _ => laidMetH Tryz.prog Rows.logKeepsRow.laid w) false (World.doorLaid Tryz.prog 79 os) #[.slice none 0 0, .slice none 0 0, .slice none 0 0, .slice none 0 0, .slice none 0 0] 8 rfl (World.shaped_of_RefB (by kernel_rfl) (by kernel_rfl)) (by kernel_rfl) (by kernel_rfl) (by kernel_rfl) (door_met os _)) ?_
  intro W base args ds gs before hval0 hW _ hsz0 hL _
  have hval : ∀ (j : Nat) t v, Tryz.f3.params[j]? = some t → args[j]? = some v → Value.okWide Tryz.prog W .any base t v := hval0
  have hW' := hW
  obtain ⟨p, q, hA0, hV, rfl, hfz, hnd⟩ := hW
  have hA : DataW.TrodAll enc Tryz.prog W 0 (fun _ => true) true Tryz.f3.params.toList args.toList ds p := hA0
  rw [Tryz.params3] at hA hval
  have hsz : (DataW.weightsEach Tryz.prog (Tryz.f3.params.toList ++ Rows.logKeepsSpec.plain.varTypes Tryz.prog) (ds ++ gs)).all (· ≤ reachBytes) = true := hsz0
  rw [Tryz.params3] at hsz
  obtain ⟨v0, v1, v2, v3, v4, d0, d1, d2, d3, d4, p0, p1, p2, p3, p4, rfl, rfl, rfl, h0, h1, h2, h3, h4⟩ := five hA
  obtain ⟨rfl, rfl⟩ := trodVars_none hV
  have k0 := h0
  have k1 := h1
  have k2 := h2
  have k3 := h3
  have k4 := h4
  have lt0 : ∀ x ∈ p0, x.block < W.heap.size := by obtain ⟨m, hm⟩ := k0; exact DataW.trod_lt m _ _ _ hm
  have lt1 : ∀ x ∈ p1, x.block < W.heap.size := by obtain ⟨m, hm⟩ := k1; exact DataW.trod_lt m _ _ _ hm
  have lt2 : ∀ x ∈ p2, x.block < W.heap.size := by obtain ⟨m, hm⟩ := k2; exact DataW.trod_lt m _ _ _ hm
  have lt3 : ∀ x ∈ p3, x.block < W.heap.size := by obtain ⟨m, hm⟩ := k3; exact DataW.trod_lt m _ _ _ hm
  have lt4 : ∀ x ∈ p4, x.block < W.heap.size := by obtain ⟨m, hm⟩ := k4; exact DataW.trod_lt m _ _ _ hm
  obtain ⟨x0, len0, cap0, rfl⟩ := okWide_slice Tryz.underlying22 (hval 0 22 v0 rfl rfl)
  obtain ⟨l0, e0, n0, m0, hl0, _, _⟩ := open_rules Tryz.underlying22 Tryz.underlying34 cellsR rfl rfl rfl rfl Tryz.underlying3 Tryz.underlying3 Tryz.underlying32 Tryz.underlying4 (by kernel_rfl) (by kernel_rfl) (by kernel_rfl) (by kernel_rfl) Tryz.underlying31 cellsV rfl rfl rfl Tryz.underlying3 Tryz.underlying3 Tryz.underlying9 (by kernel_rfl) (by kernel_rfl) (by kernel_rfl) h0
  obtain ⟨x1, len1, cap1, rfl⟩ := okWide_slice Tryz.underlying23 (hval 1 23 v1 rfl rfl)
  obtain ⟨l1, e1, n1, m1, hl1, _, _⟩ := open_asks Tryz.underlying23 Tryz.underlying38 cellsA rfl rfl rfl rfl Tryz.underlying3 Tryz.underlying3 Tryz.underlying3 Tryz.underlying32 (by kernel_rfl) (by kernel_rfl) (by kernel_rfl) (by kernel_rfl) Tryz.underlying31 cellsV rfl rfl rfl Tryz.underlying3 Tryz.underlying3 Tryz.underlying9 (by kernel_rfl) (by kernel_rfl) (by kernel_rfl) h1
  obtain ⟨x2, len2, cap2, rfl⟩ := okWide_slice Tryz.underlying24 (hval 2 24 v2 rfl rfl)
  obtain ⟨m2, hl2⟩ := open_nums Tryz.underlying24 (by kernel_rfl) Tryz.underlying3 h2
  obtain ⟨x3, len3, cap3, rfl⟩ := okWide_slice Tryz.underlying24 (hval 3 24 v3 rfl rfl)
  obtain ⟨m3, hl3⟩ := open_nums Tryz.underlying24 (by kernel_rfl) Tryz.underlying3 h3
  obtain ⟨x4, len4, cap4, rfl⟩ := okWide_slice Tryz.underlying24 (hval 4 24 v4 rfl rfl)
  obtain ⟨m4, hl4⟩ := open_nums Tryz.underlying24 (by kernel_rfl) Tryz.underlying3 h4
  obtain ⟨hT, hH⟩ := laid_of hL
  clear hA0 hval0 hL hsz hsz0
  simp only [List.append_nil] at hW'
  refine (walk x0 len0 cap0 l0 x1 len1 cap1 l1 x2 len2 cap2 x3 len3 cap3 x4 len4 cap4 W e0 (Nat.le_trans n0 m0) hl0 e1 (Nat.le_trans n1 m1) hl1 m2 m3 m4 (fun i hi => (hl2 i hi).imp fun _ h => h.imp fun _ h => h.imp fun _ h => ⟨h.1, h.2.2⟩) hl3 (fun i hi => (hl4 i hi).imp fun _ h => h.imp fun _ h => h.imp fun _ h => ⟨h.1, h.2.2⟩) hH hT).mono fun e W' ⟨he, bel⟩ => ?_
  subst he
  exact ⟨_, rfl, _, _, _, [], _, [], hW', trodAll_mk1 (shut_bool Tryz.underlying4 _), five_mk (Below.trod laidOut (by kernel_rfl) (of_decide_eq_true (by kernel_rfl)) k0 bel lt0) (Below.trod laidOut (by kernel_rfl) (of_decide_eq_true (by kernel_rfl)) k1 bel lt1) (Below.trod laidOut (by kernel_rfl) (of_decide_eq_true (by kernel_rfl)) k2 bel lt2) (Below.trod laidOut (by kernel_rfl) (of_decide_eq_true (by kernel_rfl)) k3 bel lt3) (Below.trod laidOut (by kernel_rfl) (of_decide_eq_true (by kernel_rfl)) k4 bel lt4), rfl, bel.frame _, fun h => by cases h⟩

theorem over : Rows.LogKeepsSaid :=
  OpenClaim.holds_of_wide 3 Tryz.f3 rfl rfl rfl rfl rfl rfl rfl ⟨rfl, rfl, rfl, rfl, rfl⟩ rfl rfl rfl rfl rfl (by kernel_rfl) Tryz.func3 (by kernel_rfl)
    (of_decide_eq_true (by kernel_rfl)) (by unfold Func.isWrapper; first | (rw [if_pos (by decide +kernel)]; kernel_rfl) | (rw [if_neg (by decide +kernel)]; exact ⟨rfl, rfl⟩))
    (fun os started H enc _ => lifted os started H enc)

end Go.Proofs.YtlefhfmckimlaakGreatDoor.logKeeps

namespace Go.Proofs.YtlefhfmckimlaakGreatDoor
theorem logKeeps_holds : Rows.LogKeepsCardSaid :=
  Claim7.holds_tied_plain_at .later [] [.data, .data, .data, .handle, .sentinel, .sentinel] true (true, "561334207de6c37c0ecf0f81ae7b521efbda2900dc8be53939330fc5f9515f21") true
    logKeeps.over (fun _ h => by cases h) (by kernel_rfl) (fun _ h => by cases h) logKeeps_row_tie rfl ⟨rfl, rfl⟩ (by kernel_rfl) rfl
    (fun f fn hf hfn => by
      obtain rfl : f = 3 := Option.some.inj ((show Tryz.prog.funcNamed "tuplestead/tuplelaw3.LogKeeps" = some 3 by kernel_rfl).symm.trans hf) |>.symm
      obtain rfl : fn = Tryz.f3 := (Option.some.inj (Tryz.func3.symm.trans hfn)).symm
      exact ⟨by kernel_rfl, fun j t ht => by
        rw [Tryz.params3] at ht
        have hm : t ∈ [22, 23, 24, 24, 24] := by simpa using Array.mem_of_getElem? ht
        have hall : ([22, 23, 24, 24, 24].all fun u => !Tryz.prog.wantsStandIn u) = true := by kernel_rfl
        exact (show Tryz.prog.wantsStandIn t = false by simpa using List.all_eq_true.1 hall t hm)⟩)
    (by kernel_rfl)
#print axioms logKeeps_holds
end Go.Proofs.YtlefhfmckimlaakGreatDoor
