/-
  The walk of the Go function CoverTells: it returns true, whatever comes in, if the library's variables read as its text lays them.
-/
import Derived.Test.YtlefhfmckimlaafDoorCoverRef
import Derived.Test.YtlefhfmckimlaafDoorRefTup
import Derived.Test.YtlefhfmckimlaafDoorErrTold
import Derived.Deep.RegionWith
import Derived.Deep.DeepCutAuto
import Derived.Deep.CutBlock
set_option linter.unusedVariables false
namespace Go.Proofs.YtlefhfmckimlaafDoor.coverTells
open Go.RowKit

theorem same (n : Int) (w : World) (hg : Hand w) : Calls Tryd.prog 8 #[errV n, .int .i64 n] w fun e w' => e = .returned (.bool true) ∧ Below w.heap.size w w' := by
  have h := sameErr n n w hg
  have e : (n == n) = true := by simp
  rwa [e] at h

/-- what a call answers in every world that has what w had -/
def Ask (w : World) (f : Nat) (args : Array Value) (v : Value) : Prop := ∀ wx, Below w.heap.size w wx → Calls Tryd.prog f args wx fun e w' => e = .returned v ∧ Below wx.heap.size wx w'
/-- a call that hands out some values -/
def AskV (w : World) (f : Nat) (args : Array Value) (R : List M.Val) (out : Value → Value) : Prop := ∀ wx, Below w.heap.size w wx → Calls Tryd.prog f args wx fun e w' => (∃ v, e = .returned (out v) ∧ IsVals w' v R) ∧ Below wx.heap.size wx w'

set_option maxRecDepth 100000 in
set_option maxHeartbeats 8000000 in
theorem ways (a1 a2 a : Option Addr) (n1 c1 n2 c2 n cap : Nat) (T1 T2 E1 E2 : Int) (R1 R2 : List M.Val) (w : World) (hn1 : n1 ≤ maxLen) (hn2 : n2 ≤ maxLen)
    (hT1 : Ask w 12 #[.slice a1 n1 c1] (.int .i64 T1)) (hT2 : Ask w 17 #[.slice a2 n2 c2] (.int .i64 T2))
    (hE1 : (T1 ≠ 0 ∧ E1 = T1) ∨ (T1 = 0 ∧ Ask w 13 #[.int .i64 n1, .slice a n cap] (.int .i64 E1)))
    (hE2 : (T2 ≠ 0 ∧ E2 = T2) ∨ (T2 = 0 ∧ Ask w 13 #[.int .i64 n2, .slice a n cap] (.int .i64 E2)))
    (hR1 : (E1 ≠ 0 ∧ R1 = []) ∨ (E1 = 0 ∧ AskV w 14 #[.slice a1 n1 c1, .slice a n cap, .agg #[.int .i64 0, .int .i64 0, .string ⟨#[]⟩]] R1 (fun v => v)))
    (hR2 : (E2 ≠ 0 ∧ R2 = []) ∨ (E2 = 0 ∧ AskV w 14 #[.slice a2 n2 c2, .slice a n cap, .agg #[.int .i64 2, .int .i64 0, .string ⟨#[]⟩]] R2 (fun v => v)))
    (hP1 : AskV w 15 #[.slice a1 n1 c1, .slice a n cap] R1 (fun v => .tuple #[v, errV E1])) (hP2 : AskV w 18 #[.slice a2 n2 c2, .slice a n cap] R2 (fun v => .tuple #[v, errV E2]))
    (hS : ∀ k, Ask w 8 #[errV k, .int .i64 k] (.bool true)) :
    Calls Tryd.prog 4 #[.slice a1 n1 c1, .slice a2 n2 c2, .slice a n cap] w fun e w' => e = .returned (.bool true) ∧ Below w.heap.size w w' := by
  have HT1 := hide hT1
  have HT2 := hide hT2
  have HE1 := hide hE1
  have HE2 := hide hE2
  have HR1 := hide hR1
  have HR2 := hide hR2
  have HP1 := hide hP1
  have HP2 := hide hP2
  have HS := hide hS
  have HV : Hid (∀ (R : List M.Val) (v1 v2 : Value) (wx : World), IsVals wx v1 R → IsVals wx v2 R → Calls Tryd.prog 16 #[v1, v2] wx fun e w' => e = .returned (.bool true) ∧ Below wx.heap.size wx w') := hide fun R v1 v2 wx h1 h2 => by
    have := tsame v1 v2 R R wx h1 h2
    rwa [sameAll_self] at this
  unfold maxLen at hn1 hn2
  clear hT1 hT2 hE1 hE2 hR1 hR2 hP1 hP2 hS
  go_enter Tryd.func4, Tryd.ntmps4
  go_wp2_with fail
  refine (HT1.out _ (Below.refl _ _)).mono ?_
  rintro e w1 ⟨rfl, hb1⟩
  have HB1 := hide hb1
  clear hb1
  go_upto_if 16 with fail
  go_cut [7] from 16 to 20 (fun s wx => s = .int .i64 E1 ∧ Hid (Below w.heap.size w wx))
  case first =>
    rcases HE1.out with ⟨h1, h2⟩ | ⟨h1, h2⟩
    · have hz : (T1 == 0) = false := by simpa using h1
      have H2 := hide h2
      clear h1 h2
      go_wp2_with fail
      go_meet
      case rel => exact ⟨by rw [H2.out], HB1⟩
    · have hz : (T1 == 0) = true := by simpa using h1
      have H2 := hide h2
      clear h1 h2
      go_wp2_with fail
      refine (H2.out _ HB1.out).mono ?_
      rintro e w2 ⟨rfl, hb2⟩
      have HB2 := hide (HB1.out.trans (hb2.mono HB1.out.size))
      clear hb2
      go_wp2_with fail
      go_meet
      case rel => exact ⟨rfl, HB2⟩
  case rest =>
    clear HB1 HE1 HT1
    obtain ⟨rfl, hb⟩ := hcut
    go_upto_if 22 with fail
    go_cut [8] from 22 to 26 (fun s wx => ∃ v : Value, v = s ∧ Hid (IsVals wx v R1) ∧ Hid (Below w.heap.size w wx))
    case first =>
      rcases HR1.out with ⟨h1, h2⟩ | ⟨h1, h2⟩
      · have hz : (E1 == 0) = false := by simpa using h1
        have H2 := hide h2
        clear h1 h2
        go_wp2_with fail
        go_meet
        case rel => exact ⟨_, rfl, hide (by rw [H2.out]; exact Or.inl ⟨rfl, rfl⟩), hb⟩
      · have hz : (E1 == 0) = true := by simpa using h1
        have H2 := hide h2
        clear h1 h2
        go_wp2_with fail
        refine (H2.out _ hb.out).mono ?_
        rintro e w2 ⟨⟨v, rfl, hv⟩, hb2⟩
        have HB2 := hide (hb.out.trans (hb2.mono hb.out.size))
        have HV2 := hide hv
        clear hb2 hv
        dsimp only
        go_wp2_with fail
        go_meet
        case rel => exact ⟨v, rfl, HV2, HB2⟩
    case rest =>
      clear hb HR1
      obtain ⟨vw, rfl, hvw, hb⟩ := hcut
      go_wp2_with fail
      refine (HP1.out _ hb.out).mono ?_
      rintro e w2 ⟨⟨vx, rfl, hx⟩, hb2⟩
      have HB2 := hide (hb.out.trans (hb2.mono hb.out.size))
      have HW2 := hide (hvw.out.stays hb2 (Nat.le_refl _))
      have HX2 := hide hx
      clear hb2 hvw hx hb HP1
      dsimp only
      go_wp2_with fail
      refine (HS.out E1 _ HB2.out).mono ?_
      rintro e w3 ⟨rfl, hb3⟩
      have HB3 := hide (HB2.out.trans (hb3.mono HB2.out.size))
      have HW3 := hide (HW2.out.stays hb3 (Nat.le_refl _))
      have HX3 := hide (HX2.out.stays hb3 (Nat.le_refl _))
      clear hb3 HB2 HW2 HX2
      go_wp2_with fail
      refine (HV.out R1 _ _ _ HX3.out HW3.out).mono ?_
      rintro e w4 ⟨rfl, hb4⟩
      have HB4 := hide (HB3.out.trans (hb4.mono HB3.out.size))
      clear hb4 HB3 HW3 HX3
      go_wp2_with fail
      refine (HT2.out _ HB4.out).mono ?_
      rintro e w5 ⟨rfl, hb5⟩
      have HB5 := hide (HB4.out.trans (hb5.mono HB4.out.size))
      clear hb5 HB4
      go_upto_if 44 with fail
      go_cut [7] from 44 to 48 (fun s wx => s = .int .i64 E2 ∧ Hid (Below w.heap.size w wx))
      case first =>
        rcases HE2.out with ⟨h1, h2⟩ | ⟨h1, h2⟩
        · have hz : (T2 == 0) = false := by simpa using h1
          have H2 := hide h2
          clear h1 h2
          go_wp2_with fail
          go_meet
          case rel => exact ⟨by rw [H2.out], HB5⟩
        · have hz : (T2 == 0) = true := by simpa using h1
          have H2 := hide h2
          clear h1 h2
          go_wp2_with fail
          refine (H2.out _ HB5.out).mono ?_
          rintro e w6 ⟨rfl, hb6⟩
          have HB6 := hide (HB5.out.trans (hb6.mono HB5.out.size))
          clear hb6
          go_wp2_with fail
          go_meet
          case rel => exact ⟨rfl, HB6⟩
      case rest =>
        clear HB5 HE2 HT2
        obtain ⟨rfl, hb⟩ := hcut
        go_upto_if 50 with fail
        go_cut [8] from 50 to 54 (fun s wx => ∃ v : Value, v = s ∧ Hid (IsVals wx v R2) ∧ Hid (Below w.heap.size w wx))
        case first =>
          rcases HR2.out with ⟨h1, h2⟩ | ⟨h1, h2⟩
          · have hz : (E2 == 0) = false := by simpa using h1
            have H2 := hide h2
            clear h1 h2
            go_wp2_with fail
            go_meet
            case rel => exact ⟨_, rfl, hide (by rw [H2.out]; exact Or.inl ⟨rfl, rfl⟩), hb⟩
          · have hz : (E2 == 0) = true := by simpa using h1
            have H2 := hide h2
            clear h1 h2
            go_wp2_with fail
            refine (H2.out _ hb.out).mono ?_
            rintro e w6 ⟨⟨v, rfl, hv⟩, hb6⟩
            have HB6 := hide (hb.out.trans (hb6.mono hb.out.size))
            have HV6 := hide hv
            clear hb6 hv
            dsimp only
            go_wp2_with fail
            go_meet
            case rel => exact ⟨v, rfl, HV6, HB6⟩
        case rest =>
          clear hb HR2
          obtain ⟨vz, rfl, hvw, hb⟩ := hcut
          go_wp2_with fail
          refine (HP2.out _ hb.out).mono ?_
          rintro e w6 ⟨⟨vy, rfl, hx⟩, hb6⟩
          have HB6 := hide (hb.out.trans (hb6.mono hb.out.size))
          have HW6 := hide (hvw.out.stays hb6 (Nat.le_refl _))
          have HX6 := hide hx
          clear hb6 hvw hx hb HP2
          dsimp only
          go_wp2_with fail
          refine (HS.out E2 _ HB6.out).mono ?_
          rintro e w7 ⟨rfl, hb7⟩
          have HB7 := hide (HB6.out.trans (hb7.mono HB6.out.size))
          have HW7 := hide (HW6.out.stays hb7 (Nat.le_refl _))
          have HX7 := hide (HX6.out.stays hb7 (Nat.le_refl _))
          clear hb7 HB6 HW6 HX6
          go_wp2_with fail
          refine (HV.out R2 _ _ _ HX7.out HW7.out).mono ?_
          rintro e w8 ⟨rfl, hb8⟩
          have HB8 := hide (HB7.out.trans (hb8.mono HB7.out.size))
          clear hb8 HB7 HW7 HX7
          go_wp2_with fail
          go_ret
          exact ⟨rfl, HB8.out⟩

theorem walk (vt vl : Value) (lt ll : List M.Val) (a : Option Addr) (n cap : Nat) (s : List Int) (w : World) (h1 : IsVals w vt lt) (h2 : IsVals w vl ll) (hn : n = s.length) (hm : n ≤ maxLen) (hs : AtI w a s) (ht : Tab w) (hg : Hand w) :
    Calls Tryd.prog 4 #[vt, vl, .slice a n cap] w fun e w' => e = .returned (.bool true) ∧ Below w.heap.size w w' := by
  have hA : ∀ wx, Below w.heap.size w wx → AtI wx a s := fun wx hb => hs.stays hb (Nat.le_refl _)
  have hV1 : ∀ wx, Below w.heap.size w wx → IsVals wx vt lt := fun wx hb => h1.stays hb (Nat.le_refl _)
  have hV2 : ∀ wx, Below w.heap.size w wx → IsVals wx vl ll := fun wx hb => h2.stays hb (Nat.le_refl _)
  have hT : ∀ wx, Below w.heap.size w wx → Tab wx := fun wx hb => ht.stays hb (Nat.le_refl _)
  have still : ∀ {f : Nat} {args : Array Value} {v : Value}, (∀ wx, Below w.heap.size w wx → Calls Tryd.prog f args wx fun e w' => e = .returned v ∧ w' = wx) → Ask w f args v := fun h wx hb => (h wx hb).mono fun _ _ ⟨h1, h2⟩ => ⟨h1, by rw [h2]; exact Below.refl _ _⟩
  obtain ⟨a1, c1, rfl, m1⟩ := h1.shape
  obtain ⟨a2, c2, rfl, m2⟩ := h2.shape
  refine ways a1 a2 a lt.length c1 ll.length c2 n cap (M.tupF lt) (M.likeF ll) (M.covE lt s) (M.askE ll s) (M.covR lt s) (M.askR ll s) w m1 m2
    (fun wx hb => rtuple _ lt wx (hV1 wx hb)) (fun wx hb => rlike _ ll wx (hV2 wx hb)) ?_ ?_ ?_ ?_
    (fun wx hb => (cTuple _ lt a n cap s wx (hV1 wx hb) hn hm (hA wx hb) (hT wx hb)).mono fun _ _ ⟨v', e, h, b⟩ => ⟨⟨v', e, h.vals⟩, b⟩)
    (fun wx hb => (cLike _ ll a n cap s wx (hV2 wx hb) hn hm (hA wx hb) (hT wx hb)).mono fun _ _ ⟨v', e, h, b⟩ => ⟨⟨v', e, h.vals⟩, b⟩)
    (fun k wx hb => same k wx (hg.stays hb (Nat.le_refl _)))
  · by_cases hf : M.tupF lt = 0
    · refine Or.inr ⟨hf, ?_⟩
      rw [M.covE_shw hf]
      exact still fun wx hb => rShows a n cap lt.length s wx hn hm (likeF_len (tupF_ok hf).1).2 (hA wx hb)
    · exact Or.inl ⟨hf, M.covE_tup hf⟩
  · by_cases hf : M.likeF ll = 0
    · refine Or.inr ⟨hf, ?_⟩
      rw [M.askE_shw hf]
      exact still fun wx hb => rShows a n cap ll.length s wx hn hm (likeF_len hf).2 (hA wx hb)
    · exact Or.inl ⟨hf, M.askE_like hf⟩
  · by_cases he : M.covE lt s = 0
    · refine Or.inr ⟨he, ?_⟩
      obtain ⟨hf, hsh⟩ := M.covE_ok he
      rw [M.covR_ok he]
      exact fun wx hb => (rCover _ (M.numV 0) lt a n cap s wx (hV1 wx hb) (tupF_ok hf).1 hn (hA wx hb) hsh (Nat.zero_le _)).mono fun _ _ ⟨v', e, h, b⟩ => ⟨⟨v', e, h.vals⟩, b⟩
    · exact Or.inl ⟨he, M.covR_bad he⟩
  · by_cases he : M.askE ll s = 0
    · refine Or.inr ⟨he, ?_⟩
      obtain ⟨hf, hsh⟩ := M.askE_ok he
      rw [M.askR_ok he]
      exact fun wx hb => (rCover _ M.anyV ll a n cap s wx (hV2 wx hb) hf hn (hA wx hb) hsh (Nat.zero_le _)).mono fun _ _ ⟨v', e, h, b⟩ => ⟨⟨v', e, h.vals⟩, b⟩
    · exact Or.inl ⟨he, M.askR_bad he⟩

end Go.Proofs.YtlefhfmckimlaafDoor.coverTells
