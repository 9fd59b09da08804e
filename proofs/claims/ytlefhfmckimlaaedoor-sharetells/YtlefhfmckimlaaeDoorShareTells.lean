/-
  The walk of the Go function ShareTells: it returns true, whatever comes in, if the library's variable reads as its text lays it.
-/
import Derived.Test.YtlefhfmckimlaaeDoorShareRef2
import Derived.Test.YtlefhfmckimlaaeDoorErrTold
import Derived.Deep.RegionWith
set_option linter.unusedVariables false
namespace Go.Proofs.YtlefhfmckimlaaeDoor.shareTells
open Go.RowKit

theorem same (n : Int) (w : World) (hg : Hand w) : Calls Tryd.prog 8 #[errV n, .int .i64 n] w fun e w' => e = .returned (.bool true) ∧ Below w.heap.size w w' := by
  have h := sameErr n n w hg
  have e : (n == n) = true := by simp
  rwa [e] at h

/-- what a call answers in every world that has what w had -/
def Ask (w : World) (f : Nat) (args : Array Value) (v : Value) : Prop := ∀ wx, Below w.heap.size w wx → Calls Tryd.prog f args wx fun e w' => e = .returned v ∧ Below wx.heap.size wx w'
/-- .. with points in memory -/
def AskP (w : World) (f : Nat) (args : Array Value) (L : List (Int × Int)) (v : Value → Value) : Prop := ∀ wx, Below w.heap.size w wx → Calls Tryd.prog f args wx fun e w' => (∃ a k c, e = .returned (v (.slice a k c)) ∧ k = L.length ∧ AtP w' a L) ∧ Below wx.heap.size wx w'

set_option maxRecDepth 100000 in
set_option maxHeartbeats 8000000 in
theorem ways (a al : Option Addr) (n cap nl cl : Nat) (s m need E J R : Int) (L : List (Int × Int)) (w : World) (hlen : L.length ≤ 7)
    (hD : Ask w 5 #[.int .i64 s, .slice a n cap, .int .i64 m] (.int .i64 E))
    (hR : (E ≠ 0 ∧ L = []) ∨ (E = 0 ∧ AskP w 6 #[.int .i64 s, .slice a n cap, .int .i64 m] L (fun v => v)))
    (hP : AskP w 7 #[.int .i64 s, .slice a n cap, .int .i64 m] L (fun v => .tuple #[v, errV E]))
    (hS : ∀ k, Ask w 8 #[errV k, .int .i64 k] (.bool true))
    (hJ : Ask w 10 #[.slice al nl cl, .int .i64 need] (.tuple #[.int .i64 R, .int .i64 J]))
    (hK : Ask w 11 #[.slice al nl cl, .int .i64 need] (.tuple #[.int .i64 R, errV J])) :
    Calls Tryd.prog 3 #[.int .i64 s, .slice a n cap, .int .i64 m, .slice al nl cl, .int .i64 need] w fun e w' => e = .returned (.bool true) ∧ Below w.heap.size w w' := by
  have HD := hide hD
  have HP := hide hP
  have HS := hide hS
  have HJ := hide hJ
  have HK := hide hK
  clear hD hP hS hJ hK
  rcases hR with ⟨hE, hL⟩ | ⟨rfl, hR⟩
  · have hE' : (E == 0) = false := by simpa using hE
    have HL := hide hL
    clear hE hL
    go_enter Tryd.func3, Tryd.ntmps3
    go_wp2_with fail
    refine (HD.out _ (Below.refl _ _)).mono ?_
    rintro e w1 ⟨rfl, hb1⟩
    have HB1 := hide hb1
    clear hb1
    go_wp2_with fail
    refine (HP.out _ HB1.out).mono ?_
    rintro e w2 ⟨⟨ax, k, c, rfl, hk, hat⟩, hb2⟩
    have HB2 := hide (HB1.out.trans (hb2.mono HB1.out.size))
    have hk0 : k = 0 := by rw [hk, HL.out]; rfl
    subst hk0
    clear hb2 HB1 hat hk
    have HSH : Hid (∀ wx : World, Calls Tryd.prog 9 #[.slice ax 0 c, .slice none 0 0] wx fun e w' => e = .returned (.bool true) ∧ Below wx.heap.size wx w') := hide fun wx => sameShares ax none 0 c 0 [] wx rfl (Nat.zero_le _) (fun h => absurd h (by decide)) (fun h => absurd h (by decide))
    dsimp only
    go_wp2_with (first
      | (go_at_call 8; refine (HS.out _ _ HB2.out).mono ?_; rintro e w3 ⟨rfl, hb3⟩; replace HB2 := hide (HB2.out.trans (hb3.mono HB2.out.size)); clear hb3)
      | (go_at_call 9; refine (HSH.out _).mono ?_; rintro e w3 ⟨rfl, hb3⟩; replace HB2 := hide (HB2.out.trans (hb3.mono HB2.out.size)); clear hb3)
      | (go_at_call 10; refine (HJ.out _ HB2.out).mono ?_; rintro e w3 ⟨rfl, hb3⟩; replace HB2 := hide (HB2.out.trans (hb3.mono HB2.out.size)); clear hb3)
      | (go_at_call 11; refine (HK.out _ HB2.out).mono ?_; rintro e w3 ⟨rfl, hb3⟩; replace HB2 := hide (HB2.out.trans (hb3.mono HB2.out.size)); clear hb3))
    go_ret
    exact ⟨by simp, HB2.out⟩
  · have HR := hide hR
    clear hR
    go_enter Tryd.func3, Tryd.ntmps3
    go_wp2_with fail
    refine (HD.out _ (Below.refl _ _)).mono ?_
    rintro e w1 ⟨rfl, hb1⟩
    have HB1 := hide hb1
    clear hb1
    go_wp2_with fail
    refine (HR.out _ HB1.out).mono ?_
    rintro e w2 ⟨⟨aw, kw, cw, rfl, hkw, haw⟩, hb2⟩
    have HB2 := hide (HB1.out.trans (hb2.mono HB1.out.size))
    have HAW := hide haw
    clear hb2 HB1 haw
    dsimp only
    go_wp2_with fail
    refine (HP.out _ HB2.out).mono ?_
    rintro e w3 ⟨⟨ax, k, c, rfl, hk, hat⟩, hb3⟩
    have HB3 := hide (HB2.out.trans (hb3.mono HB2.out.size))
    have hkk : kw = k := hkw.trans hk.symm
    subst hkk
    have HSH : Hid (∀ wx : World, Below w3.heap.size w3 wx → Calls Tryd.prog 9 #[.slice ax kw c, .slice aw kw cw] wx fun e w' => e = .returned (.bool true) ∧ Below wx.heap.size wx w') := hide fun wx hb => sameShares ax aw kw c cw L wx hk (by unfold maxLen; omega) (hat.stays hb (Nat.le_refl _)) ((HAW.out.stays hb3 (Nat.le_refl _)).stays hb (Nat.le_refl _))
    have HB4 := hide (Below.refl w3.heap.size w3)
    have hk7 : kw ≤ 7 := by omega
    clear hb3 hat hkw hk HB2 HAW
    dsimp only
    go_wp2_with (first
      | (go_at_call 8; refine (HS.out _ _ (HB3.out.trans (HB4.out.mono HB3.out.size))).mono ?_; rintro e w4 ⟨rfl, hb4⟩; replace HB4 := hide (HB4.out.trans (hb4.mono HB4.out.size)); clear hb4)
      | (go_at_call 9; refine (HSH.out _ HB4.out).mono ?_; rintro e w4 ⟨rfl, hb4⟩; replace HB4 := hide (HB4.out.trans (hb4.mono HB4.out.size)); clear hb4)
      | (go_at_call 10; refine (HJ.out _ (HB3.out.trans (HB4.out.mono HB3.out.size))).mono ?_; rintro e w4 ⟨rfl, hb4⟩; replace HB4 := hide (HB4.out.trans (hb4.mono HB4.out.size)); clear hb4)
      | (go_at_call 11; refine (HK.out _ (HB3.out.trans (HB4.out.mono HB3.out.size))).mono ?_; rintro e w4 ⟨rfl, hb4⟩; replace HB4 := hide (HB4.out.trans (hb4.mono HB4.out.size)); clear hb4))
    go_ret
    exact ⟨by simp, HB3.out.trans (HB4.out.mono HB3.out.size)⟩

theorem walk (s : Int) (a : Option Addr) (n cap : Nat) (r : List Int) (m : Int) (al : Option Addr) (nl cl : Nat) (l : List (Int × Int)) (need : Int) (w : World) (hg : Hand w) (hn : n = r.length) (hm : n ≤ maxLen) (ha : AtI w a r) (ht : Tidy a n cap) (hnl : nl = l.length) (hnc : nl ≤ cl) (hml : cl ≤ maxLen) (hl : AtP w al l) :
    Calls Tryd.prog 3 #[.int .i64 s, .slice a n cap, .int .i64 m, .slice al nl cl, .int .i64 need] w fun e w' => e = .returned (.bool true) ∧ Below w.heap.size w w' := by
  have hA : ∀ wx, Below w.heap.size w wx → AtI wx a r := fun wx hb => ha.stays hb (Nat.le_refl _)
  have hL : ∀ wx, Below w.heap.size w wx → AtP wx al l := fun wx hb => hl.stays hb (Nat.le_refl _)
  refine ways a al n cap nl cl s m need (M.dealE s r m) (M.joinE l need) (M.joinR l need) (M.dealR s r m) w ?_ ?_ ?_ ?_ ?_ ?_ ?_
  · by_cases h : M.dealE s r m = 0
    · obtain ⟨_, _, _, ⟨m1, m7⟩, _⟩ := M.dealE_ok h
      rw [M.dealR_ok h, M.deal_len]; omega
    · rw [M.dealR_bad h]; decide
  · exact fun wx hb => (rDealt s a n cap r m wx hn hm (hA wx hb)).mono fun _ _ ⟨h1, h2⟩ => ⟨h1, by rw [h2]; exact Below.refl _ _⟩
  · by_cases h : M.dealE s r m = 0
    · obtain ⟨_, _, _, ⟨m1, m7⟩, _⟩ := M.dealE_ok h
      have hsec : M.secE s r = 0 := by
        by_cases g : M.secE s r = 0
        · exact g
        · rw [M.dealE_sec g] at h; exact absurd h g
      obtain ⟨k, rfl⟩ : ∃ k : Nat, m = k := ⟨m.toNat, by omega⟩
      refine Or.inr ⟨h, fun wx hb => ?_⟩
      rw [M.dealR_ok h, Int.toNat_natCast]
      refine (rDeal s a n cap r k wx hn (hA wx hb) ht hsec (by omega)).mono ?_
      rintro e w' ⟨⟨v, c, rfl, _, _, hat⟩, hb'⟩
      exact ⟨⟨v, k, c, rfl, (M.deal_len _ _).symm, hat⟩, hb'⟩
    · exact Or.inl ⟨h, M.dealR_bad h⟩
  · intro wx hb
    refine (sDeal s a n cap r m wx hn hm (hA wx hb) ht).mono ?_
    rintro e w' ⟨⟨v, k, c, rfl, hk, _, _, hat⟩, hb'⟩
    exact ⟨⟨v, k, c, rfl, hk, hat⟩, hb'⟩
  · exact fun k wx hb => same k wx (hg.stays hb (Nat.le_refl _))
  · exact fun wx hb => rJoin al nl cl l need wx hnl hnc hml (hL wx hb)
  · exact fun wx hb => sJoin al nl cl l need wx hnl hnc hml (hL wx hb)

end Go.Proofs.YtlefhfmckimlaaeDoor.shareTells
