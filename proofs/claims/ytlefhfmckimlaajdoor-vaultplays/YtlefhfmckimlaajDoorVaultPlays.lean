/-
  The walk of the Go function VaultPlays: it returns true, whatever comes in.
-/
import Derived.Test.YtlefhfmckimlaajDoorVpBlk1
import Derived.BigQuiet
import Derived.Deep.QuietTactic
import Derived.Deep.RegionHeld3
import Derived.Deep.DeepCutAuto
import Derived.Deep.CutBlock
set_option linter.unusedVariables false
namespace Go.Proofs.YtlefhfmckimlaajDoor.vaultPlays
open Go.RowKit
attribute [local go_sem ↓] Go.wp_at_zero Go.wp_at_succ

set_option maxRecDepth 100000 in
theorem walk_bad (many need : Int) (v2 v3 v4 v5 : Value) (w : World) (h : many < 1 ∨ 7 < many ∨ need < 1 ∨ many < need) (hg : Hand w) :
    Calls Tryd.prog 5 #[.int .i64 many, .int .i64 need, v2, v3, v4, v5] w fun e w' => e = .returned (.bool true) ∧ Below w.heap.size w w' := by
  have HN := hide (vNew_bad many need w h)
  have HS : Hid (Calls Tryd.prog 12 #[.iface 66 (.int .i64 1), .int .i64 1] w fun e w' => e = .returned (.bool true) ∧ Below w.heap.size w w') := hide (by
    have := sameErr 1 1 w hg
    rwa [show ((1 : Int) == 1) = true by decide, errV_bad (by decide)] at this)
  have hx : many < 1 ∨ (¬ many < 1 ∧ 7 < many) ∨ (¬ many < 1 ∧ ¬ 7 < many ∧ need < 1) ∨ (¬ many < 1 ∧ ¬ 7 < many ∧ ¬ need < 1 ∧ many < need) := by omega
  clear h hg
  rcases hx with h1 | ⟨h1, h2⟩ | ⟨h1, h2, h3⟩ | ⟨h1, h2, h3, h4⟩
  all_goals
    go_enter Tryd.func5, Tryd.ntmps5
    go_wp2_with fail
    refine (unhide HN).mono ?_
    rintro e w1 ⟨rfl, hw⟩
    obtain rfl := hw.symm
    go_wp2_with fail
    refine (unhide HS).mono ?_
    rintro e w2 ⟨rfl, hb⟩
    have HB := hide hb
    clear hb
    go_wp2_with fail
    go_ret
    exact ⟨rfl, HB.out⟩

set_option maxRecDepth 100000 in
set_option maxHeartbeats 4000000 in
theorem walk_ok (m n : Nat) (na : Option Addr) (nn nc : Nat) (N : List ByteArray) (sa : Option Addr) (sn sc : Nat) (S : List Int) (ra : Option Addr) (rn rc : Nat) (Rs : List (List Int)) (la : Option Addr) (ln lc : Nat) (L : List (List (Int × Int))) (w : World)
    (h1 : 1 ≤ n) (h2 : n ≤ m) (h7 : m ≤ 7) (hnn : nn = N.length) (hnm : nn ≤ maxLen) (hN : AtS w na N) (hsn : sn = S.length) (hsm : sn ≤ maxLen) (hS : AtI w sa S) (hrn : rn = Rs.length) (hrm : rn ≤ maxLen) (hR : AtQ IsI w ra Rs) (hln : ln = L.length) (hlm : ln ≤ maxLen) (hL : AtQ IsP w la L) (hg : Hand w) :
    Calls Tryd.prog 5 #[.int .i64 m, .int .i64 n, .slice na nn nc, .slice sa sn sc, .slice ra rn rc, .slice la ln lc] w fun e w' => e = .returned (.bool true) ∧ Below w.heap.size w w' := by
  have HNEW := hide (vNew_ok w.heap.size m n w (Nat.le_refl _) h1 h2 h7)
  have HSM : Hid (∀ wx (E : Int), Below w.heap.size w wx → Calls Tryd.prog 12 #[errV E, .int .i64 E] wx fun e w' => e = .returned (.bool true) ∧ Below wx.heap.size wx w') := hide fun wx E hb => by
    have := sameErr E E wx (hg.stays hb (Nat.le_refl _))
    rwa [show (E == E) = true by simp] at this
  have HNM : Hid (∀ k (hk : k < N.length), ∃ b off, na = some ⟨b, off, none⟩ ∧ N[k].size ≤ reachBytes ∧ ∀ wy, Below w.heap.size w wy → wy.cell? ⟨b, off + k, none⟩ = some (.string N[k])) := hide fun k hk => by
    obtain ⟨b, off, e, hlie⟩ := hN (by omega)
    obtain ⟨g1, g2⟩ := hlie k hk
    exact ⟨b, off, e, g2, fun wy hy => (hy.cell (p := ⟨b, off + k, none⟩) (World.block_lt_of_cell? w _ g1)).trans g1⟩
  have HSE : Hid (∀ k (hk : k < S.length), ∃ b off, sa = some ⟨b, off, none⟩ ∧ ∀ wy, Below w.heap.size w wy → wy.cell? ⟨b, off + k, none⟩ = some (.int .i64 S[k])) := hide fun k hk => by
    obtain ⟨b, off, e, hlie⟩ := hS (by omega)
    have g1 := hlie k hk
    exact ⟨b, off, e, fun wy hy => (hy.cell (p := ⟨b, off + k, none⟩) (World.block_lt_of_cell? w _ g1)).trans g1⟩
  have HRE : Hid (∀ k (hk : k < Rs.length), ∃ b off x xn xc, ra = some ⟨b, off, none⟩ ∧ xn = Rs[k].length ∧ xn ≤ maxLen ∧ AtI w x Rs[k] ∧ Tidy x xn xc ∧ ∀ wy, Below w.heap.size w wy → wy.cell? ⟨b, off + k, none⟩ = some (.slice x xn xc)) := hide fun k hk => by
    obtain ⟨b, off, e, hlie⟩ := hR (by omega)
    obtain ⟨v, g1, x, xn, xc, rfl, g2, g3, g4, g5⟩ := hlie k hk
    exact ⟨b, off, x, xn, xc, e, g2, g3, g4, g5, fun wy hy => (hy.cell (p := ⟨b, off + k, none⟩) (World.block_lt_of_cell? w _ g1)).trans g1⟩
  have HLE : Hid (∀ k (hk : k < L.length), ∃ b off x xn xc, la = some ⟨b, off, none⟩ ∧ xn = L[k].length ∧ xn ≤ maxLen ∧ AtP w x L[k] ∧ ∀ wy, Below w.heap.size w wy → wy.cell? ⟨b, off + k, none⟩ = some (.slice x xn xc)) := hide fun k hk => by
    obtain ⟨b, off, e, hlie⟩ := hL (by omega)
    obtain ⟨v, g1, x, xn, xc, rfl, g2, g3, g4, g5⟩ := hlie k hk
    exact ⟨b, off, x, xn, xc, e, g2, Nat.le_trans g3 g4, g5, fun wy hy => (hy.cell (p := ⟨b, off + k, none⟩) (World.block_lt_of_cell? w _ g1)).trans g1⟩
  have HNN := hide hnn
  have HSN := hide hsn
  have HRN := hide hrn
  have HLN := hide hln
  have n1 : ¬ (m : Int) < 1 := by omega
  have n2 : ¬ (7 : Int) < (m : Int) := by omega
  have n3 : ¬ (n : Int) < 1 := by omega
  have n4 : ¬ (m : Int) < (n : Int) := by omega
  unfold maxLen at hnm hsm hrm hlm
  clear hN hS hR hL hnn hsn hrn hln hg
  go_enter Tryd.func5, Tryd.ntmps5
  go_wp2_with fail
  refine (unhide HNEW).mono ?_
  rintro e w1 ⟨V, F0, rfl, hV, hF0, hb1⟩
  have HV1 := hide hV
  have HB1 := hide hb1
  have HS1 := hide (HSM.out w1 0 hb1)
  clear hV hF0 hb1 HNEW
  go_wp2_with fail
  refine (unhide HS1).mono ?_
  rintro e w2 ⟨rfl, hb2⟩
  have HK0 : Hid (Vp w w2 F0 V (M.Vlt.new m n) (.slice none 0 0) [] (.slice none 0 0) [] [] (.slice none 0 0) [] []) := hide ⟨HV1.out.quiet hb2, Ls.new _ _, fun b _ e => by
    rcases e with e | e | e | ⟨z, hz, _⟩ | ⟨z, hz, _⟩
    · cases e
    · cases e
    · cases e
    · simp at hz
    · simp at hz, HB1.out.trans (hb2.mono HB1.out.size)⟩
  clear hb2 HV1 HB1 HS1
  go_wp2_with fail
  go_loopw [17, 18, 19, 20] (fun s17 s18 s19 si wr => ∃ (k : Nat) (v : M.Vlt) (F : Nat → Prop) (ha : Option Addr) (hc : Nat) (ba : Option Addr) (bc : Nat) (ca : Option Addr) (cc hn : Nat) (H : List ByteArray) (P : List (List Int)) (xs ys : List Value), s17 = .slice ha hn hc ∧ s18 = .slice ba hn bc ∧ s19 = .slice ca hn cc ∧ si = .int .i64 k ∧ k ≤ nn ∧ k ≤ 30 ∧ hn ≤ 20 ∧ Hid (v.many = m ∧ v.need = n ∧ Named v H P ∧ H.length = hn ∧ P.length = hn) ∧ Hid (Vp w wr F V v (.slice ha hn hc) H (.slice ba hn bc) xs (P.map fun p => M.deal p m) (.slice ca hn cc) ys (P.map M.commits))) (fun _ _ _ si _ => 30 - (intOf si).toNat)
  case atStart => exact ⟨0, M.Vlt.new m n, F0, none, 0, none, 0, none, 0, 0, [], [], [], [], rfl, rfl, rfl, rfl, Nat.zero_le _, by omega, by omega, hide ⟨rfl, rfl, Named.new m n, rfl, rfl⟩, HK0⟩
  case round =>
    clear HK0
    obtain ⟨k, v, F, ha, hc, ba, bc, ca, cc, hn, H, P, xs, ys, rfl, rfl, rfl, rfl, hk1, hk2, hn20, hST, hK⟩ := hrel
    by_cases hlt : k < nn ∧ k < 30
    · obtain ⟨hlm2, hl3⟩ := hlt
      have hkl : k < N.length := HNN.out ▸ hlm2
      have i1 : (k : Int) < (nn : Int) := by omega
      have i2 : (k : Int) < 30 := by omega
      have i3 : (0 : Int) ≤ (k : Int) := by omega
      obtain ⟨b, off, rfl, hsz, hat⟩ := HNM.out k hkl
      have HSZ := hide hsz
      have HAT := hide hat
      generalize N[k] = a at *
      clear hsz hat
      have HSK : Hid ((k : Int) < sn → ∃ b2 o2 z, sa = some ⟨b2, o2, none⟩ ∧ ∀ wy, Below w.heap.size w wy → wy.cell? ⟨b2, o2 + k, none⟩ = some (.int .i64 z)) := hide fun h => by
        obtain ⟨b2, o2, e, g⟩ := HSE.out k (by have := HSN.out; omega)
        exact ⟨b2, o2, _, e, g⟩
      have HRK : Hid ((k : Int) < rn → ∃ b2 o2 x xn xc r, ra = some ⟨b2, o2, none⟩ ∧ xn = r.length ∧ xn ≤ maxLen ∧ AtI w x r ∧ Tidy x xn xc ∧ ∀ wy, Below w.heap.size w wy → wy.cell? ⟨b2, o2 + k, none⟩ = some (.slice x xn xc)) := hide fun h => by
        obtain ⟨b2, o2, x, xn, xc, e, g1, g2, g3, g4, g5⟩ := HRE.out k (by have := HRN.out; omega)
        exact ⟨b2, o2, x, xn, xc, _, e, g1, g2, g3, g4, g5⟩
      have HLK : Hid ((k : Int) < ln → ∃ b2 o2 x xn xc l, la = some ⟨b2, o2, none⟩ ∧ xn = l.length ∧ xn ≤ maxLen ∧ AtP w x l ∧ ∀ wy, Below w.heap.size w wy → wy.cell? ⟨b2, o2 + k, none⟩ = some (.slice x xn xc)) := hide fun h => by
        obtain ⟨b2, o2, x, xn, xc, e, g1, g2, g3, g4⟩ := HLE.out k (by have := HLN.out; omega)
        exact ⟨b2, o2, x, xn, xc, _, e, g1, g2, g3, g4⟩
      go_upto_block 1 with fail
      refine blk1 _ _ _ _ _ _ _ _ _ _ _ _ _ _ _ _ _ _ _ _ _ _ _ _ _ _ _ _ _ _ _ _ _ _ _ _ _ _ _ _ _ _ _ _ _ _ _ _ _ _ _ _ _ _ _ _ _ _ _ _ _ _ _ _ _ _ _ _ _ _ _ _ _ _ _ _ _ _ _ _ _ _ _ _ _ _ _ _ _ _ _ _ _ _ _ _ _ _ _ _ _ _ _ _ _ _ _ _ _ _ _ _ _ _ _ _ _ _ _ _ _ _ _ _ _ _ _ _ _ _ _ _ _ _ _ _ _ _ _ _ _ _ _ _ _ _ _ _ _ _ _ _ _ _ _ _ _ _ _ _ _ _ _ _ _ _ _ _ _ _ _ _ _ _ _ _ _ _ _ _ _ _ _ _ _ _ _ _ _ _ _ _ _ _ _ _ _ _ _ _ _ _ _ _ _ _ _ _ _ _ _ _ _ _ _ _ _ _ _ _ _ _ _ _ _ _ _ _ _ _ _ _ _ _ _ _ _ _ _ _ _ _ _ _ _ _ _ _ _ _ _ _ _ _ _ _ _ _ _ _ _ _ _ _ _ _ _ _ _ _ _ _ _ _ _ _ _ _ _ _ _ _ _ _ _ _ _ _ _ _ _ _ _ _ _ _ _ _ _ _ _ _ _ _ _ _ _ _ _ _ _ _ _ _ _ _ _ _ _ _ _ _ _ _ _ _ _ _ _ _ _ _ _ _ _ _ _ _ _ _ _ _ _ _ _ _ _ _ _ _ _ _ _ _ _ _ _ _ _ _ _ _ _ _ _ _ _ _ _ _ _ _ _ _ h1 h2 h7 hlm2 hl3 hnm hsm hrm hlm hn20 HSZ.out HAT.out HSK.out HRK.out HLK.out HSM.out hST.out hK.out (fun _ _ _ _ _ _ _ _ _ _ _ _ _ _ _ _ _ _ _ _ _ _ _ _ _ _ _ _ _ _ _ _ _ _ _ _ _ _ _ _ _ _ _ _ _ _ _ _ _ _ _ _ _ _ _ _ _ _ _ _ _ _ _ _ _ _ _ _ _ _ _ _ _ _ _ _ _ _ _ _ _ _ _ _ _ _ _ _ _ _ _ _ _ _ _ _ _ _ _ _ _ _ _ _ _ _ _ _ _ _ _ _ _ _ _ _ _ _ _ _ _ _ _ _ _ _ _ _ _ _ _ _ _ _ _ _ _ _ _ _ _ _ _ _ _ _ _ _ _ _ _ _ _ _ _ _ _ _ _ _ _ _ _ _ _ _ _ _ _ _ _ _ _ _ _ _ _ _ _ _ _ _ _ _ _ _ _ _ _ _ _ _ _ _ _ _ _ _ _ _ _ _ _ _ _ _ _ _ _ _ _ _ _ _ _ _ _ _ _ _ _ _ _ _ _ _ _ _ _ _ _ _ _ _ _ _ _ _ _ _ _ _ _ _ _ _ _ _ _ _ _ _ _ _ _ _ _ _ _ _ _ _ _ _ _ _ _ _ _ _ _ _ _ _ _ _ _ _ _ _ _ _ _ _ _ _ _ _ _ _ _ _ _ _ _ _ _ _ _ _ _ _ _ _ _ _ _ _ _ _ _ _ _ _ _ _ _ _ _ _ _ _ _ _ _ _ w3 v' F' ha' hc' ba' bc' ca' cc' hn' H' P' xs' ys' g1 g2 g3 => ?_)
      have HG2 := hide g2
      have HG3 := hide g3
      clear g2 g3
      go_wp2_with fail
      go_roundw
      case rel => exact ⟨k + 1, v', F', ha', hc', ba', bc', ca', cc', hn', H', P', xs', ys', rfl, rfl, rfl, by go_num, by omega, by omega, g1, HG2, HG3⟩
      case measure => simp [intOf]; omega
    · have hx : ¬ (k : Int) < (nn : Int) ∨ ((k : Int) < (nn : Int) ∧ ¬ (k : Int) < 30) := by omega
      clear hlt
      rcases hx with h1 | ⟨h1, h2⟩
      all_goals
        go_wp2_with fail
        go_ret
        exact ⟨rfl, hK.out.bel⟩

/-- whatever comes in -/
theorem walk (many need : Int) (na : Option Addr) (nn nc : Nat) (N : List ByteArray) (sa : Option Addr) (sn sc : Nat) (S : List Int) (ra : Option Addr) (rn rc : Nat) (Rs : List (List Int)) (la : Option Addr) (ln lc : Nat) (L : List (List (Int × Int))) (w : World)
    (hnn : nn = N.length) (hnm : nn ≤ maxLen) (hN : AtS w na N) (hsn : sn = S.length) (hsm : sn ≤ maxLen) (hS : AtI w sa S) (hrn : rn = Rs.length) (hrm : rn ≤ maxLen) (hR : AtQ IsI w ra Rs) (hln : ln = L.length) (hlm : ln ≤ maxLen) (hL : AtQ IsP w la L) (hg : Hand w) :
    Calls Tryd.prog 5 #[.int .i64 many, .int .i64 need, .slice na nn nc, .slice sa sn sc, .slice ra rn rc, .slice la ln lc] w fun e w' => e = .returned (.bool true) ∧ Below w.heap.size w w' := by
  by_cases h : many < 1 ∨ 7 < many ∨ need < 1 ∨ many < need
  · exact walk_bad many need _ _ _ _ w h hg
  · obtain ⟨m, rfl⟩ : ∃ m : Nat, many = m := ⟨many.toNat, by omega⟩
    obtain ⟨n, rfl⟩ : ∃ n : Nat, need = n := ⟨need.toNat, by omega⟩
    exact walk_ok m n na nn nc N sa sn sc S ra rn rc Rs la ln lc L w (by omega) (by omega) (by omega) hnn hnm hN hsn hsm hS hrn hrm hR hln hlm hL hg

end Go.Proofs.YtlefhfmckimlaajDoor.vaultPlays
