/-
  The walk of the Go function PolyTells: it returns true, whatever comes in, if the library's variable reads as its text lays it.
-/
import Derived.Test.YtlefhfmckimlaadDoorPolyAt3
import Derived.Test.YtlefhfmckimlaadDoorPolyNext
import Derived.Test.YtlefhfmckimlaadDoorPolyRef2
import Derived.Test.YtlefhfmckimlaadDoorErrTold
import Derived.Deep.RegionWith
set_option linter.unusedVariables false
namespace Go.Proofs.YtlefhfmckimlaadDoor.polyTells
open Go.RowKit

theorem same (n : Int) (w : World) (hg : Hand w) : Calls Tryd.prog 12 #[errV n, .int .i64 n] w fun e w' => e = .returned (.bool true) ∧ Below w.heap.size w w' := by
  have h := sameErr n n w hg
  have e : (n == n) = true := by simp
  rwa [e] at h

/-- what a call answers in every world that has what w had -/
def Ask (w : World) (f : Nat) (args : Array Value) (v : Value) : Prop := ∀ wx, Below w.heap.size w wx → Calls Tryd.prog f args wx fun e w' => e = .returned v ∧ Below wx.heap.size wx w'

set_option maxRecDepth 100000 in
set_option maxHeartbeats 8000000 in
theorem ways (ap al : Option Addr) (np cp nl cl : Nat) (x f g E1 R1 E2 R2 R3 : Int) (b : Bool) (w : World)
    (hF : Ask w 17 #[.slice ap np cp] (.int .i64 f)) (hI : Ask w 10 #[.int .i64 x] (.bool b)) (hP : Ask w 20 #[.slice al nl cl] (.int .i64 g))
    (hA : Ask w 19 #[.slice ap np cp, .int .i64 x] (.tuple #[.int .i64 R1, errV E1])) (hN : Ask w 22 #[.slice al nl cl, .int .i64 x] (.tuple #[.int .i64 R2, errV E2])) (hZ : Ask w 23 #[.slice al nl cl] (.tuple #[.int .i64 R3, errV g]))
    (hS : ∀ n, Ask w 12 #[errV n, .int .i64 n] (.bool true))
    (h1 : (f ≠ 0 ∧ E1 = f ∧ R1 = 0) ∨ (f = 0 ∧ b = false ∧ E1 = 1 ∧ R1 = 0) ∨ (f = 0 ∧ b = true ∧ E1 = 0 ∧ Ask w 18 #[.slice ap np cp, .int .i64 x] (.int .i64 R1)))
    (h2 : (g ≠ 0 ∧ E2 = g ∧ R2 = 0 ∧ R3 = 0) ∨ (g = 0 ∧ b = false ∧ E2 = 1 ∧ R2 = 0 ∧ Ask w 21 #[.slice al nl cl, .int .i64 0] (.int .i64 R3)) ∨ (g = 0 ∧ b = true ∧ E2 = 0 ∧ Ask w 21 #[.slice al nl cl, .int .i64 x] (.int .i64 R2) ∧ Ask w 21 #[.slice al nl cl, .int .i64 0] (.int .i64 R3))) :
    Calls Tryd.prog 6 #[.slice ap np cp, .int .i64 x, .slice al nl cl] w fun e w' => e = .returned (.bool true) ∧ Below w.heap.size w w' := by
  have HF := hide hF
  have HI := hide hI
  have HP := hide hP
  have HA := hide hA
  have HN := hide hN
  have HZ := hide hZ
  have HS := hide hS
  have HB := hide (Below.refl w.heap.size w)
  clear hF hI hP hA hN hZ hS
  have HRA : Hid (b = true → f = 0 → Ask w 18 #[.slice ap np cp, .int .i64 x] (.int .i64 R1)) := hide fun e1 e2 => by
    rcases h1 with h | h | h
    · exact absurd e2 h.1
    · rw [h.2.1] at e1; exact Bool.noConfusion e1
    · exact h.2.2.2
  have HRN : Hid (b = true → g = 0 → Ask w 21 #[.slice al nl cl, .int .i64 x] (.int .i64 R2)) := hide fun e1 e2 => by
    rcases h2 with h | h | h
    · exact absurd e2 h.1
    · rw [h.2.1] at e1; exact Bool.noConfusion e1
    · exact h.2.2.2.1
  have HR0 : Hid (g = 0 → Ask w 21 #[.slice al nl cl, .int .i64 0] (.int .i64 R3)) := hide fun e2 => by
    rcases h2 with h | h | h
    · exact absurd e2 h.1
    · exact h.2.2.2.2
    · exact h.2.2.2.2
  rcases h1 with ⟨hf, rfl, rfl⟩ | ⟨rfl, rfl, rfl, rfl⟩ | ⟨rfl, rfl, rfl, _⟩ <;> rcases h2 with ⟨hg, rfl, rfl, rfl⟩ | ⟨rfl, hb2, rfl, rfl, _⟩ | ⟨rfl, hb2, rfl, _, _⟩
  all_goals (try (cases hb2))
  all_goals (try (cases b))
  all_goals
    try (
      have hf' : (f == 0) = false := by simpa using hf
      clear hf)
    try (
      have hg' : (g == 0) = false := by simpa using hg
      clear hg)
    try (replace HRA := hide (HRA.out rfl rfl))
    try (replace HRN := hide (HRN.out rfl rfl))
    try (replace HR0 := hide (HR0.out rfl))
    go_enter Tryd.func6, Tryd.ntmps6
    go_wp2_with (first
      | (go_at_call 17; refine (HF.out _ HB.out).mono ?_; rintro e w1 ⟨rfl, hb1⟩; replace HB := hide (HB.out.trans (hb1.mono HB.out.size)); clear hb1)
      | (go_at_call 10; refine (HI.out _ HB.out).mono ?_; rintro e w1 ⟨rfl, hb1⟩; replace HB := hide (HB.out.trans (hb1.mono HB.out.size)); clear hb1)
      | (go_at_call 20; refine (HP.out _ HB.out).mono ?_; rintro e w1 ⟨rfl, hb1⟩; replace HB := hide (HB.out.trans (hb1.mono HB.out.size)); clear hb1)
      | (go_at_call 19; refine (HA.out _ HB.out).mono ?_; rintro e w1 ⟨rfl, hb1⟩; replace HB := hide (HB.out.trans (hb1.mono HB.out.size)); clear hb1)
      | (go_at_call 22; refine (HN.out _ HB.out).mono ?_; rintro e w1 ⟨rfl, hb1⟩; replace HB := hide (HB.out.trans (hb1.mono HB.out.size)); clear hb1)
      | (go_at_call 23; refine (HZ.out _ HB.out).mono ?_; rintro e w1 ⟨rfl, hb1⟩; replace HB := hide (HB.out.trans (hb1.mono HB.out.size)); clear hb1)
      | (go_at_call 12; refine (HS.out _ _ HB.out).mono ?_; rintro e w1 ⟨rfl, hb1⟩; replace HB := hide (HB.out.trans (hb1.mono HB.out.size)); clear hb1)
      | (go_at_call 18; refine (HRA.out _ HB.out).mono ?_; rintro e w1 ⟨rfl, hb1⟩; replace HB := hide (HB.out.trans (hb1.mono HB.out.size)); clear hb1)
      | (go_at_call_of 21 x; refine (HRN.out _ HB.out).mono ?_; rintro e w1 ⟨rfl, hb1⟩; replace HB := hide (HB.out.trans (hb1.mono HB.out.size)); clear hb1)
      | (go_at_call 21; refine (HR0.out _ HB.out).mono ?_; rintro e w1 ⟨rfl, hb1⟩; replace HB := hide (HB.out.trans (hb1.mono HB.out.size)); clear hb1))
    go_ret
    exact ⟨by simp, HB.out⟩

theorem walk (ap al : Option Addr) (np cp nl cl : Nat) (p : List Int) (x : Int) (l : List (Int × Int)) (w : World) (hg : Hand w) (hnp : np = p.length) (hmp : np ≤ maxLen) (hp : AtI w ap p) (hnl : nl = l.length) (hnc : nl ≤ cl) (hml : cl ≤ maxLen) (hl : AtP w al l) :
    Calls Tryd.prog 6 #[.slice ap np cp, .int .i64 x, .slice al nl cl] w fun e w' => e = .returned (.bool true) ∧ Below w.heap.size w w' := by
  have hP : ∀ wx, Below w.heap.size w wx → AtI wx ap p := fun wx hb => hp.stays hb (Nat.le_refl _)
  have hL : ∀ wx, Below w.heap.size w wx → AtP wx al l := fun wx hb => hl.stays hb (Nat.le_refl _)
  have still : ∀ {f : Nat} {args : Array Value} {v : Value}, (∀ wx, Below w.heap.size w wx → Calls Tryd.prog f args wx fun e w' => e = .returned v ∧ w' = wx) → Ask w f args v := fun h wx hb => (h wx hb).mono fun _ _ ⟨h1, h2⟩ => ⟨h1, by rw [h2]; exact Below.refl _ _⟩
  have hnext : ∀ z, M.ptsE l = 0 → M.inR z = true → Ask w 21 #[.slice al nl cl, .int .i64 z] (.int .i64 (M.nxR l z)) := fun z h1 h2 wx hb => by
    obtain ⟨g0, g7, gR⟩ := M.ptsE_ok h1
    obtain ⟨b, off, rfl, g⟩ := hL wx hb g0
    rw [M.nxR_ok (M.nxE_0 h1 h2)]
    exact rNext b off nl cl l z wx hnl (by omega) (by omega) gR (M.inR_yes h2).1 (M.inR_yes h2).2 g
  refine ways ap al np cp nl cl x (M.facE p) (M.ptsE l) (M.atE p x) (M.atR p x) (M.nxE l x) (M.nxR l x) (M.nxR l 0) (M.inR x) w
    (still fun wx hb => rFac ap np cp p wx hnp hmp (hP wx hb)) (still fun wx hb => rIn x wx) (fun wx hb => rPts al nl cl l wx hnl (by omega) (hL wx hb))
    (fun wx hb => pAt ap np cp p x wx hnp hmp (hP wx hb)) (fun wx hb => pNext al nl cl l x wx hnl hnc hml (hL wx hb)) (fun wx hb => pZero al nl cl l wx hnl hnc hml (hL wx hb))
    (fun n wx hb => same n wx (hg.stays hb (Nat.le_refl _))) ?_ ?_
  · by_cases hf : M.facE p = 0
    · cases hx : M.inR x
      · have e := M.atE_x hf hx
        exact Or.inr (Or.inl ⟨hf, rfl, e, M.atR_bad (by rw [e]; decide)⟩)
      · have e := M.atE_0 hf hx
        refine Or.inr (Or.inr ⟨hf, rfl, e, ?_⟩)
        rw [M.atR_ok e]
        exact still fun wx hb => rAt ap np cp p x wx hnp (hP wx hb) hf (M.inR_yes hx).1 (M.inR_yes hx).2
    · have e := M.atE_fac (x := x) hf
      exact Or.inl ⟨hf, e, M.atR_bad (by rw [e]; exact hf)⟩
  · by_cases hf : M.ptsE l = 0
    · cases hx : M.inR x
      · have e := M.nxE_x hf hx
        exact Or.inr (Or.inl ⟨hf, rfl, e, M.nxR_bad (by rw [e]; decide), hnext 0 hf (by decide)⟩)
      · exact Or.inr (Or.inr ⟨hf, rfl, M.nxE_0 hf hx, hnext x hf hx, hnext 0 hf (by decide)⟩)
    · have e := M.nxE_pts (x := x) hf
      have e0 := M.nxE_pts (x := 0) hf
      exact Or.inl ⟨hf, e, M.nxR_bad (by rw [e]; exact hf), M.nxR_bad (by rw [e0]; exact hf)⟩

end Go.Proofs.YtlefhfmckimlaadDoor.polyTells
