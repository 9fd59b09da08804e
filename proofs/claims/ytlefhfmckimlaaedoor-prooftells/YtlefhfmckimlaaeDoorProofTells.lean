/-
  The walk of the Go function ProofTells: it returns true, whatever comes in, if the library's variable reads as its text lays it.
-/
import Derived.Test.YtlefhfmckimlaaeDoorProofRef
import Derived.Test.YtlefhfmckimlaaeDoorErrTold
import Derived.Deep.RegionWith
import Derived.Deep.DeepCutAuto
import Derived.Deep.CutBlock
set_option linter.unusedVariables false
namespace Go.Proofs.YtlefhfmckimlaaeDoor.proofTells
open Go.RowKit

theorem same (n : Int) (w : World) (hg : Hand w) : Calls Tryd.prog 8 #[errV n, .int .i64 n] w fun e w' => e = .returned (.bool true) ∧ Below w.heap.size w w' := by
  have h := sameErr n n w hg
  have e : (n == n) = true := by simp
  rwa [e] at h

/-- what a call answers in every world that has what w had -/
def Ask (w : World) (f : Nat) (args : Array Value) (v : Value) : Prop := ∀ wx, Below w.heap.size w wx → Calls Tryd.prog f args wx fun e w' => e = .returned v ∧ Below wx.heap.size wx w'
/-- .. with numbers in memory -/
def AskI (w : World) (f : Nat) (args : Array Value) (L : List Int) (K : Nat) (v : Value → Value) : Prop := ∀ wx, Below w.heap.size w wx → Calls Tryd.prog f args wx fun e w' => (∃ a c, e = .returned (v (.slice a K c)) ∧ AtI w' a L) ∧ Below wx.heap.size wx w'

/-- where the law's own search of the commits stands -/
def Found (c : List Int) (k : Nat) (ev : Int) : Prop := (ev = 0 ∧ 0 < c.length ∧ c.length ≤ 7 ∧ M.first (M.cmtF c) k = 0) ∨ (ev ≠ 0 ∧ ev = M.cmtE c)
theorem found_start {c : List Int} : (c.length = 0 → Found c 0 5) ∧ (7 < c.length → Found c 0 4) ∧ (0 < c.length → c.length ≤ 7 → Found c 0 0) :=
  ⟨fun h => Or.inr ⟨by decide, (M.cmtE_none h).symm⟩, fun h => Or.inr ⟨by decide, (M.cmtE_many h).symm⟩, fun h1 h2 => Or.inl ⟨rfl, h1, h2, rfl⟩⟩
theorem found_ok {c : List Int} {k : Nat} (h : Found c k 0) (hk : k < c.length) (hg : M.inG c[k] = true) : Found c (k + 1) 0 := by
  rcases h with ⟨_, h1, h2, h3⟩ | ⟨h, _⟩
  · exact Or.inl ⟨rfl, h1, h2, by rw [M.first_next h3, M.cmtF_at hk, if_pos hg]⟩
  · exact absurd rfl h
theorem found_bad {c : List Int} {k : Nat} (h : Found c k 0) (hk : k < c.length) (hg : M.inG c[k] = false) : Found c (k + 1) 1 := by
  rcases h with ⟨_, h1, h2, h3⟩ | ⟨h, _⟩
  · have hf : M.cmtF c k = 1 := by rw [M.cmtF_at hk, hg]; rfl
    exact Or.inr ⟨by decide, by rw [M.cmtE_some h1 h2, M.first_bad hk h3 (by rw [hf]; decide), hf]⟩
  · exact absurd rfl h
theorem found_end {c : List Int} {k : Nat} (h : Found c k 0) (hk : k = c.length) : M.cmtE c = 0 := by
  rcases h with ⟨_, h1, h2, h3⟩ | ⟨h, _⟩
  · rw [M.cmtE_some h1 h2, ← hk]; exact h3
  · exact absurd rfl h
theorem found_ne {c : List Int} {k : Nat} {ev : Int} (h : Found c k ev) (h0 : ev ≠ 0) : ev = M.cmtE c := by
  rcases h with ⟨h, _⟩ | ⟨_, h⟩
  · exact absurd h h0
  · exact h

set_option maxRecDepth 100000 in
set_option maxHeartbeats 8000000 in
theorem ways (a al : Option Addr) (n cap nl cl K : Nat) (c L : List Int) (x y E J : Int) (R T bx bz : Bool) (w : World) (hn : n ≤ maxLen) (hK : K = L.length) (hK7 : K ≤ 7) (hnl : nl = c.length) (hml : nl ≤ maxLen) (hc : AtI w al c)
    (hE : (n = 0 ∧ E = 5) ∨ (0 < n ∧ Ask w 12 #[.slice a n cap] (.int .i64 E)))
    (hW : (E ≠ 0 ∧ L = []) ∨ (E = 0 ∧ AskI w 13 #[.slice a n cap] L K (fun v => v)))
    (hP : AskI w 14 #[.slice a n cap] L K (fun v => .tuple #[v, errV E]))
    (hS : ∀ k, Ask w 8 #[errV k, .int .i64 k] (.bool true))
    (hX : Ask w 16 #[.int .i64 x] (.bool bx))
    (hY : Ask w 16 #[.int .i64 y] (.bool bz))
    (hC : Ask w 18 #[.slice al nl cl, .agg #[.int .i64 x, .int .i64 y]] (.tuple #[.bool R, errV J]))
    (hJ : (M.cmtE c ≠ 0 ∧ J = M.cmtE c ∧ R = false) ∨ (M.cmtE c = 0 ∧ (bx && bz) = false ∧ J = 1 ∧ R = false) ∨ (M.cmtE c = 0 ∧ bx = true ∧ bz = true ∧ J = 0 ∧ R = T ∧ Ask w 17 #[.slice al nl cl, .agg #[.int .i64 x, .int .i64 y]] (.bool T))) :
    Calls Tryd.prog 4 #[.slice a n cap, .slice al nl cl, .agg #[.int .i64 x, .int .i64 y]] w fun e w' => e = .returned (.bool true) ∧ Below w.heap.size w w' := by
  have HE := hide hE
  have HW := hide hW
  have HP := hide hP
  have HS := hide hS
  have HX := hide hX
  have HY := hide hY
  have HC := hide hC
  have HJ := hide hJ
  have HLC := hide hc
  have HNL := hide hnl
  have HI : Hid (∀ (a1 a2 : Option Addr) (c1 c2 : Nat) (wx : World), AtI wx a1 L → AtI wx a2 L → Calls Tryd.prog 15 #[.slice a1 K c1, .slice a2 K c2] wx fun e w' => e = .returned (.bool true) ∧ Below wx.heap.size wx w') := hide fun a1 a2 c1 c2 wx h1 h2 => sameInts a1 a2 K c1 c2 L wx hK (by unfold maxLen; omega) h1 h2
  have HK := hide hK
  obtain ⟨W1, hW1⟩ : ∃ W1, W1 = w.alloc (.cells #[.int .i64 x, .int .i64 y] 38) := ⟨_, rfl⟩
  have HB1 : Hid (Below w.heap.size w W1) := hide (by rw [hW1]; exact (Below.refl _ w).alloc (Nat.le_refl _) _)
  have HBOX : Hid (∀ wx, Below W1.heap.size W1 wx → wx.cell? ⟨w.heap.size, 0, none⟩ = some (.int .i64 x) ∧ wx.cell? ⟨w.heap.size, 1, none⟩ = some (.int .i64 y)) := hide fun wx hb => by
    have h0 : W1.cell? ⟨w.heap.size, 0, none⟩ = some (.int .i64 x) := by rw [hW1]; simp [go_sem]
    have h1 : W1.cell? ⟨w.heap.size, 1, none⟩ = some (.int .i64 y) := by rw [hW1]; simp [go_sem]
    exact ⟨(hb.cell (p := ⟨w.heap.size, 0, none⟩) (World.block_lt_of_cell? W1 _ h0)).trans h0, (hb.cell (p := ⟨w.heap.size, 1, none⟩) (World.block_lt_of_cell? W1 _ h1)).trans h1⟩
  unfold maxLen at hn hml
  clear hE hW hP hS hX hY hC hJ hc hnl hK
  go_enter Tryd.func4, Tryd.ntmps4
  go_upto_if 20 with fail
  rw [← hW1]
  clear hW1
  go_cut [7] (fun s wx => s = .int .i64 E ∧ Hid (Below W1.heap.size W1 wx))
  case first =>
    rcases HE.out with ⟨h1, h2⟩ | ⟨h1, h2⟩
    · have hz : ¬ (0 : Int) < (n : Int) := by omega
      have H2 := hide h2
      clear h1 h2
      go_wp2_with fail
      go_meet
      case rel => exact ⟨by rw [H2.out], hide (Below.refl _ _)⟩
    · have HF := hide h2
      have hz : (0 : Int) < (n : Int) := by omega
      clear h1 h2
      go_wp2_with fail
      refine (HF.out _ HB1.out).mono ?_
      rintro e w2 ⟨rfl, hb2⟩
      have HB2 := hide hb2
      clear hb2
      go_wp2_with fail
      go_meet
      case rel => exact ⟨rfl, HB2⟩
  case rest =>
    obtain ⟨rfl, hb⟩ := hcut
    clear HE
    go_upto_if 24 with fail
    go_cut [8] (fun s wx => ∃ aw cw, s = .slice aw K cw ∧ Hid (AtI wx aw L) ∧ Hid (Below W1.heap.size W1 wx))
    case first =>
      rcases HW.out with ⟨h1, h2⟩ | ⟨h1, h2⟩
      · have hz : (E == 0) = false := by simpa using h1
        have H2 := hide h2
        have H0 : Hid (K = 0) := hide (by rw [HK.out, h2]; rfl)
        clear h1 h2
        go_wp2_with fail
        go_meet
        case rel => exact ⟨none, 0, by rw [H0.out], hide (by rw [H2.out]; exact fun h => absurd h (by decide)), hb⟩
      · have HR := hide h2
        have hz : (E == 0) = true := by simpa using h1
        have H1 := hide h1
        clear h1 h2
        go_wp2_with fail
        refine (HR.out _ (HB1.out.trans (hb.out.mono HB1.out.size))).mono ?_
        rintro e w2 ⟨⟨aw, cw, rfl, haw⟩, hb2⟩
        have HB2 := hide (hb.out.trans (hb2.mono hb.out.size))
        have HAW := hide haw
        clear hb2 haw
        dsimp only
        go_wp2_with fail
        go_meet
        case rel => exact ⟨aw, cw, rfl, HAW, HB2⟩
    case rest =>
      clear HW hb
      obtain ⟨aw, cw, rfl, haw, hb⟩ := hcut
      go_wp2_with fail
      refine (HP.out _ (HB1.out.trans (hb.out.mono HB1.out.size))).mono ?_
      rintro e w2 ⟨⟨ax, cx, rfl, hax⟩, hb2⟩
      have HB2 := hide (hb.out.trans (hb2.mono hb.out.size))
      have HAW := hide (haw.out.stays hb2 (Nat.le_refl _))
      have HAX := hide hax
      clear hb2 haw hax hb HP
      dsimp only
      go_wp2_with fail
      refine (HS.out E _ (HB1.out.trans (HB2.out.mono HB1.out.size))).mono ?_
      rintro e w3 ⟨rfl, hb3⟩
      have HB3 := hide (HB2.out.trans (hb3.mono HB2.out.size))
      have HAW3 := hide (HAW.out.stays hb3 (Nat.le_refl _))
      have HAX3 := hide (HAX.out.stays hb3 (Nat.le_refl _))
      clear hb3 HAW HAX HB2
      go_wp2_with fail
      refine (HI.out _ _ _ _ _ HAX3.out HAW3.out).mono ?_
      rintro e w4 ⟨rfl, hb4⟩
      have HB4 := hide (HB3.out.trans (hb4.mono HB3.out.size))
      clear hb4 HAW3 HAX3 HB3
      go_upto_if 42 with fail
      go_cut [7] (fun s wx => ∃ ev, s = .int .i64 ev ∧ Hid (Found c 0 ev) ∧ Hid (Below W1.heap.size W1 wx))
      case first =>
        have HST := hide (found_start (c := c))
        rcases (by omega : nl = 0 ∨ 7 < nl ∨ (0 < nl ∧ nl ≤ 7)) with h1 | h1 | ⟨h1, h2⟩
        · have H1 : Hid (c.length = 0) := hide (by rw [← HNL.out]; exact h1)
          have hz : ((nl : Int) == 0) = true := by simpa using h1
          clear h1
          go_wp2_with fail
          go_meet
          case rel => exact ⟨5, rfl, hide (HST.out.1 H1.out), HB4⟩
        · have H1 : Hid (7 < c.length) := hide (by rw [← HNL.out]; exact h1)
          have hz : ((nl : Int) == 0) = false := by simp; omega
          have hz7 : (7 : Int) < (nl : Int) := by omega
          clear h1
          go_wp2_with fail
          go_meet
          case rel => exact ⟨4, rfl, hide (HST.out.2.1 H1.out), HB4⟩
        · have H1 : Hid (0 < c.length) := hide (by rw [← HNL.out]; exact h1)
          have H2 : Hid (c.length ≤ 7) := hide (by rw [← HNL.out]; exact h2)
          have hz : ((nl : Int) == 0) = false := by simp; omega
          have hz7 : ¬ (7 : Int) < (nl : Int) := by omega
          clear h1 h2
          go_wp2_with fail
          go_meet
          case rel => exact ⟨0, rfl, hide (HST.out.2.2 H1.out H2.out), HB4⟩
      case rest =>
        clear HI HB4
        obtain ⟨ev, rfl, hst, hb⟩ := hcut
        go_upto_block 0 with fail
        go_cut [7, 12] (fun s si wx => ∃ iv : Value, s = .int .i64 (M.cmtE c) ∧ iv = si ∧ Hid (Below W1.heap.size W1 wx))
        case first =>
          go_wp2_with fail
          go_loop [7, 12] (fun s si => ∃ (ev : Int) (k : Nat), s = .int .i64 ev ∧ si = .int .i64 k ∧ k ≤ nl ∧ Hid (Found c k ev)) (fun _ si => nl - (intOf si).toNat)
          case atStart => exact ⟨ev, 0, rfl, rfl, Nat.zero_le _, hst⟩
          case round =>
            clear hst
            obtain ⟨ev, k, rfl, rfl, hk, hF⟩ := hrel
            by_cases h0 : ev = 0
            · subst h0
              by_cases hlt : k < nl
              · have hkl : k < c.length := by have := HNL.out; omega
                have ikn : (k : Int) < (nl : Int) := by omega
                obtain ⟨b, off, rfl, hlie⟩ := HLC.out (by omega)
                have d1 := (hlie.stays (HB1.out.trans (hb.out.mono HB1.out.size)) (Nat.le_refl _)) k hkl
                have HOK := hide (found_ok hF.out hkl)
                have HBAD := hide (found_bad hF.out hkl)
                clear hlie
                generalize c[k] = z at d1 HOK HBAD
                cases hg : M.inG z
                · have H1 := hide (HBAD.out hg)
                  rcases (by have := M.inG_no hg; omega : z < 1 ∨ (¬ z < 1 ∧ 1542 < z)) with e1 | ⟨e1, e2⟩
                  all_goals
                    clear hg
                    go_wp2_with fail
                    go_round
                    case rel => exact ⟨1, k + 1, rfl, by go_num, by omega, H1⟩
                    case measure => simp [intOf]; omega
                · have H1 := hide (HOK.out hg)
                  obtain ⟨e0, e2⟩ := M.inG_yes hg
                  have e1 : ¬ z < 1 := by omega
                  have e3 : ¬ 1542 < z := by omega
                  clear hg e0 e2
                  go_wp2_with fail
                  go_round
                  case rel => exact ⟨0, k + 1, rfl, by go_num, by omega, H1⟩
                  case measure => simp [intOf]; omega
              · have ikn : ¬ (k : Int) < (nl : Int) := by omega
                have HEND := hide (found_end hF.out (by have := HNL.out; omega))
                go_wp2_with fail
                go_meet
                case rel => exact ⟨_, by rw [HEND.out], rfl, hb⟩
            · have HNE := hide (found_ne hF.out h0)
              have hz : (ev == 0) = false := by simpa using h0
              clear h0
              rcases (by omega : (k : Int) < (nl : Int) ∨ ¬ (k : Int) < (nl : Int)) with ikn | ikn
              all_goals
                go_wp2_with fail
                go_meet
                case rel => exact ⟨_, by rw [HNE.out], rfl, hb⟩
        case rest =>
          clear hst hb HLC
          obtain ⟨iv, rfl, rfl, hb⟩ := hcut
          obtain ⟨x1, y1⟩ := HBOX.out _ hb.out
          go_wp2_with fail
          refine (HX.out _ (HB1.out.trans (hb.out.mono HB1.out.size))).mono ?_
          rintro e w5 ⟨rfl, hb5⟩
          have HB5 := hide (hb.out.trans (hb5.mono hb.out.size))
          clear hb5 x1 y1 hb
          obtain ⟨x1, y1⟩ := HBOX.out _ HB5.out
          go_wp2_with fail
          refine (HY.out _ (HB1.out.trans (HB5.out.mono HB1.out.size))).mono ?_
          rintro e w6 ⟨rfl, hb6⟩
          have HB6 := hide (HB5.out.trans (hb6.mono HB5.out.size))
          clear hb6 x1 y1 HB5
          obtain ⟨x1, y1⟩ := HBOX.out _ HB6.out
          generalize M.cmtE c = CE at HJ ⊢
          rcases HJ.out with ⟨h1, h2, h3⟩ | ⟨h1, h2, h3, h4⟩ | ⟨h1, h2, h3, h4, h5, h6⟩
          · have hz : (CE == 0) = false := by simpa using h1
            have H2 := hide h2
            subst h3
            clear h1 h2 HJ
            rw [H2.out] at HC
            go_wp2_with fail
            refine (HC.out _ (HB1.out.trans (HB6.out.mono HB1.out.size))).mono ?_
            rintro e w7 ⟨rfl, hb7⟩
            have HB7 := hide (HB6.out.trans (hb7.mono HB6.out.size))
            clear hb7 HB6
            go_wp2_with fail
            refine (HS.out CE _ (HB1.out.trans (HB7.out.mono HB1.out.size))).mono ?_
            rintro e w8 ⟨rfl, hb8⟩
            have HB8 := hide (HB7.out.trans (hb8.mono HB7.out.size))
            clear hb8 HB7
            go_wp2_with fail
            go_ret
            exact ⟨by simp, HB1.out.trans (HB8.out.mono HB1.out.size)⟩
          · subst h1 h3 h4
            clear HJ
            rcases (by cases bx <;> cases bz <;> simp_all : bx = false ∨ (bx = true ∧ bz = false)) with e1 | ⟨e1, e2⟩
            all_goals
              first | subst e1 e2 | subst e1
              clear h2
              go_wp2_with fail
              refine (HC.out _ (HB1.out.trans (HB6.out.mono HB1.out.size))).mono ?_
              rintro e w7 ⟨rfl, hb7⟩
              have HB7 := hide (HB6.out.trans (hb7.mono HB6.out.size))
              clear hb7 HB6
              go_wp2_with fail
              refine (HS.out 1 _ (HB1.out.trans (HB7.out.mono HB1.out.size))).mono ?_
              rintro e w8 ⟨rfl, hb8⟩
              have HB8 := hide (HB7.out.trans (hb8.mono HB7.out.size))
              clear hb8 HB7
              go_wp2_with fail
              go_ret
              exact ⟨by simp, HB1.out.trans (HB8.out.mono HB1.out.size)⟩
          · subst h1 h2 h3 h4 h5
            have HT := hide h6
            clear HJ h6
            go_wp2_with fail
            refine (HT.out _ (HB1.out.trans (HB6.out.mono HB1.out.size))).mono ?_
            rintro e w9 ⟨rfl, hb9⟩
            have HB9 := hide (HB6.out.trans (hb9.mono HB6.out.size))
            clear hb9 HB6 x1 y1
            obtain ⟨x1, y1⟩ := HBOX.out _ HB9.out
            go_wp2_with fail
            refine (HC.out _ (HB1.out.trans (HB9.out.mono HB1.out.size))).mono ?_
            rintro e w7 ⟨rfl, hb7⟩
            have HB7 := hide (HB9.out.trans (hb7.mono HB9.out.size))
            clear hb7 HB9
            go_wp2_with fail
            refine (HS.out 0 _ (HB1.out.trans (HB7.out.mono HB1.out.size))).mono ?_
            rintro e w8 ⟨rfl, hb8⟩
            have HB8 := hide (HB7.out.trans (hb8.mono HB7.out.size))
            clear hb8 HB7
            go_wp2_with fail
            go_ret
            exact ⟨by simp, HB1.out.trans (HB8.out.mono HB1.out.size)⟩

theorem walk (a : Option Addr) (n cap : Nat) (p : List Int) (al : Option Addr) (nl cl : Nat) (c : List Int) (x y : Int) (w : World) (hg : Hand w) (hn : n = p.length) (hm : n ≤ maxLen) (ha : AtI w a p) (hnl : nl = c.length) (hml : nl ≤ maxLen) (hl : AtI w al c) :
    Calls Tryd.prog 4 #[.slice a n cap, .slice al nl cl, .agg #[.int .i64 x, .int .i64 y]] w fun e w' => e = .returned (.bool true) ∧ Below w.heap.size w w' := by
  have hA : ∀ wx, Below w.heap.size w wx → AtI wx a p := fun wx hb => ha.stays hb (Nat.le_refl _)
  have hL : ∀ wx, Below w.heap.size w wx → AtI wx al c := fun wx hb => hl.stays hb (Nat.le_refl _)
  refine ways a al n cap nl cl (M.comR p).length c (M.comR p) x y (M.comE p) (M.chkE c x y) (M.chkR c x y) (M.trueB c x y) (M.inR x) (M.inR y) w hm rfl (M.comR_len p) hnl hml hl ?_ ?_ ?_ ?_ ?_ ?_ ?_ ?_
  · by_cases h0 : n = 0
    · exact Or.inl ⟨h0, M.comE_none (by omega)⟩
    · refine Or.inr ⟨by omega, fun wx hb => ?_⟩
      rw [M.comE_some (by omega)]
      exact (rFac a n cap p wx hn hm (hA wx hb)).mono fun _ _ ⟨h1, h2⟩ => ⟨h1, by rw [h2]; exact Below.refl _ _⟩
  · by_cases h : M.comE p = 0
    · refine Or.inr ⟨h, fun wx hb => ?_⟩
      rw [M.comR_ok h, M.commits_len, ← hn]
      refine (rCommit a n cap p wx hn (hA wx hb) (M.comE_ok h).2).mono ?_
      rintro e w' ⟨⟨v, c', rfl, _, _, hat⟩, hb'⟩
      exact ⟨⟨v, c', rfl, hat⟩, hb'⟩
    · exact Or.inl ⟨h, M.comR_bad h⟩
  · intro wx hb
    refine (pCommit a n cap p wx hn hm (hA wx hb)).mono ?_
    rintro e w' ⟨⟨v, k, c', rfl, rfl, _, _, hat⟩, hb'⟩
    exact ⟨⟨v, c', rfl, hat⟩, hb'⟩
  · exact fun k wx hb => same k wx (hg.stays hb (Nat.le_refl _))
  · exact fun wx hb => (rIn x wx).mono fun _ _ ⟨h1, h2⟩ => ⟨h1, by rw [h2]; exact Below.refl _ _⟩
  · exact fun wx hb => (rIn y wx).mono fun _ _ ⟨h1, h2⟩ => ⟨h1, by rw [h2]; exact Below.refl _ _⟩
  · exact fun wx hb => pCheck al nl cl c x y wx hnl hml (hL wx hb)
  · by_cases hc : M.cmtE c = 0
    · cases hx : M.inR x
      · have h := M.chkE_xy hc (Or.inl hx) (y := y)
        exact Or.inr (Or.inl ⟨hc, rfl, h, M.chkR_bad (by rw [h]; decide)⟩)
      · cases hy : M.inR y
        · have h := M.chkE_xy hc (Or.inr hy) (x := x)
          exact Or.inr (Or.inl ⟨hc, rfl, h, M.chkR_bad (by rw [h]; decide)⟩)
        · have h := M.chkE_0 hc hx hy
          obtain ⟨x0, x1⟩ := M.inR_yes hx
          obtain ⟨y0, y1⟩ := M.inR_yes hy
          exact Or.inr (Or.inr ⟨hc, rfl, rfl, h, M.chkR_ok h, fun wx hb => rTrue al nl cl c x y wx hnl (hL wx hb) hc x0 x1 y0 y1⟩)
    · have h := M.chkE_cmt (x := x) (y := y) hc
      exact Or.inl ⟨hc, h, M.chkR_bad (by rw [h]; exact hc)⟩

end Go.Proofs.YtlefhfmckimlaaeDoor.proofTells
