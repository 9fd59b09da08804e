/-
  What Seal of package seal does, as one law of its call.
-/
import Derived.Test.YtlefhfmckimlaagDoorSealMem
import Derived.Test.YtlefhfmckimlaagDoorShareDeal2
set_option linter.unusedVariables false
namespace Go.Proofs.YtlefhfmckimlaagDoor
open Go.RowKit

theorem sealMany (s : ByteArray) (a : Option Addr) (n cap : Nat) (m : Int) (w : World) (hs : s.size ≤ maxLen) (h : 12 < s.size) :
    Calls Tryd.prog 18 #[.string s, .slice a n cap, .int .i64 m] w fun e w' => e = .returned (.tuple #[.slice none 0 0, .iface 64 (.int .i64 4)]) ∧ Below w.heap.size w w' := by
  unfold maxLen at hs
  have h' : (12 : Int) < (s.size : Int) := by omega
  clear h
  go_enter Tryd.func18, Tryd.ntmps18
  go_wp2
  go_ret2
  exact ⟨rfl, Below.refl _ _⟩

theorem sealShape (s : ByteArray) (a : Option Addr) (n cap : Nat) (m : Int) (w : World) (hm : n ≤ maxLen) (h : ¬ 12 < s.size) (hn : n ≠ s.size) :
    Calls Tryd.prog 18 #[.string s, .slice a n cap, .int .i64 m] w fun e w' => e = .returned (.tuple #[.slice none 0 0, .iface 64 (.int .i64 3)]) ∧ Below w.heap.size w w' := by
  unfold maxLen at hm
  have h' : ¬ (12 : Int) < (s.size : Int) := by omega
  have hn' : ¬ (n : Int) = (s.size : Int) := by omega
  clear h hn
  go_enter Tryd.func18, Tryd.ntmps18
  go_wp2
  go_ret2
  exact ⟨rfl, Below.refl _ _⟩

set_option maxRecDepth 100000 in
set_option maxHeartbeats 2000000 in
theorem sealEach (s : ByteArray) (a : Option Addr) (n cap : Nat) (R : List (List Int)) (m : Int) (w : World) (h12 : ¬ 12 < s.size) (hn : n = s.size) (hR : n = R.length) (hl : AtQ IsI w a R) :
    Calls Tryd.prog 18 #[.string s, .slice a n cap, .int .i64 m] w fun e w' => (∃ v k c, e = .returned (.tuple #[.slice v k c, errV (M.selE (bytesI s) R m)]) ∧ k = (M.selR (bytesI s) R m).length ∧ k ≤ c ∧ c ≤ maxLen ∧ AtQ IsP w' v (M.selR (bytesI s) R m)) ∧ Below w.heap.size w w' := by
  obtain ⟨i0, hi, hz0, hz1, hz2⟩ := info_parts infoS
  have HI := hide (And.intro hi (And.intro hz0 (And.intro hz1 hz2)))
  have hbl := bytesI_len s
  have hE : M.selE (bytesI s) R m = M.first (M.selF (bytesI s) R m) n := by rw [M.selE_some (by omega) (by omega), hbl, hn]
  have HE := hide hE
  have hL : (M.selL (bytesI s) R m.toNat).length = n := by rw [M.selL_len _ (by omega), hbl, hn]
  obtain ⟨LL, hLL⟩ : ∃ L, M.selL (bytesI s) R m.toNat = L := ⟨_, rfl⟩
  rw [hLL] at hL
  have HLE := hide hLL
  have HLL := hide hL
  have HL := hide hl
  have HR := hide hR
  have HBL := hide hbl
  have h12' : ¬ (12 : Int) < (s.size : Int) := by omega
  subst hn
  clear hi hz0 hz1 hz2 hl hR hE hL hbl hLL
  go_enter Tryd.func18, Tryd.ntmps18
  go_wp2_with (at_make; refine wpList_make_full _ rfl (.tmp 23) (.tmp 23) 40 rfl w.heap.size 45 i0 (.slice none 0 0) 1 Tryd.underlying40 HI.out.1 HI.out.2.1 HI.out.2.2.1 .i64 .i64 _ _ s.size rfl rfl rfl rfl (by rw [HI.out.2.2.2]; omega) (by unfold maxLen; omega) (Nat.le_refl _) ?_)
  intro w1 hown hgrow
  have HO : Hid (HalfS w1 w.heap.size w.heap.size s.size 0 LL (List.replicate s.size (.slice none 0 0))) := hide (by
    rw [toList_madeCells_one] at hown
    exact ⟨hown, fun x hx => ⟨none, 0, 0, (List.mem_replicate.1 hx).2⟩, fun i h1 => absurd h1 (by omega)⟩)
  have HB := hide ((Below.refl w.heap.size w).grown hgrow (Nat.le_refl _) (fun k hk => by cases hk))
  clear hown hgrow
  go_wp2
  go_loopw [27] (fun si wr => ∃ (k : Nat) (xs : List Value), si = .int .i64 k ∧ k ≤ s.size ∧ Hid (M.first (M.selF (bytesI s) R m) k = 0) ∧ Hid (HalfS wr w.heap.size w.heap.size s.size k LL xs) ∧ Hid (Below w.heap.size w wr)) (fun si _ => s.size - (intOf si).toNat)
  case atStart => exact ⟨0, _, rfl, Nat.zero_le _, hide rfl, HO, HB⟩
  case round =>
    obtain ⟨k, xs, rfl, hk, hno, hrow, hbel⟩ := hrel
    by_cases hlt : k < s.size
    · have hkR : k < R.length := by have := HR.out; omega
      have hkb : k < (bytesI s).length := by rw [HBL.out]; exact hlt
      have hkL : k < LL.length := by rw [HLL.out]; exact hlt
      obtain ⟨b, off, rfl, hlie⟩ := HL.out (by omega)
      obtain ⟨v, c0, a', n', cap', rfl, hn', hm', hat', ht'⟩ := hlie k hkR
      have c1 : wr.cell? ⟨b, off + k, none⟩ = some (.slice a' n' cap') := (hbel.out.cell (p := ⟨b, off + k, none⟩) (World.block_lt_of_cell? w _ c0)).trans c0
      have hF : M.selF (bytesI s) R m k = M.dealE (s[k].toNat : Int) R[k] m := by rw [M.selF_at hkb hkR, bytesI_at hlt]
      have HD : Hid (Calls Tryd.prog 36 #[.int .i64 (IntKind.i64.wrap (s[k].toNat : Int)), .slice a' n' cap', .int .i64 m] wr.drew fun e w' => (∃ v j c, e = .returned (.tuple #[.slice v j c, errV (M.selF (bytesI s) R m k)]) ∧ IsP w' (.slice v j c) (M.dealR (s[k].toNat : Int) R[k] m)) ∧ Below wr.heap.size wr w') := hide (by
        have hb := (Below.refl wr.heap.size wr).drew
        rw [IntWalk.i64_in (s[k].toNat : Int) ⟨by have := s[k].toNat_lt; omega, by have := s[k].toNat_lt; omega⟩]
        refine (sDeal (s[k].toNat : Int) a' n' cap' R[k] m wr.drew hn' hm' ((hat'.stays hbel.out (Nat.le_refl _)).stays hb (Nat.le_refl _)) ht').mono ?_
        rintro e w' ⟨⟨v, j, c, rfl, h1, h2, h3, h4⟩, h5⟩
        exact ⟨⟨v, j, c, by rw [hF], v, j, c, rfl, h1, h2, h3, h4⟩, hb.trans (h5.mono hb.size)⟩)
      by_cases hz : M.selF (bytesI s) R m k = 0
      · have HDR : Hid (M.dealR (s[k].toNat : Int) R[k] m = LL[k]) := hide (by
          have e : LL[k] = (M.selL (bytesI s) R m.toNat)[k]'(by rw [HLE.out]; exact hkL) := by simp only [HLE.out]
          rw [e, M.selL_at hkb hkR, bytesI_at hlt, M.dealR_ok (hF ▸ hz)])
        rw [hz, HDR.out] at HD
        have HS := hide (M.first_next hno.out |>.trans hz)
        have HD2 : Hid (Calls Tryd.prog 36 #[.int .i64 (IntKind.i64.wrap (s[k].toNat : Int)), .slice a' n' cap', .int .i64 m] wr.drew fun e w' => (∃ v j c, e = .returned (.tuple #[.slice v j c, .nilIface]) ∧ IsP w' (.slice v j c) LL[k]) ∧ Below wr.heap.size wr w') := HD
        clear HD HDR hF hz c0 hlie hat' ht' hn' hm'
        have hb := s[k].toNat_lt
        have HKX : Hid (k < xs.length) := hide (by have := hrow.out.row.1; omega)
        clear hkR hkb
        go_wp2_with fail
        go_region_with ((go_at_call 36; refine (unhide HD2).mono ?_; rintro e w2 ⟨⟨v2, j2, k2, rfl, hp2⟩, hb2⟩))
        all_goals
          have HP2 := hide (HalfS.stays hrow.out hb2)
          have HQ2 := hide hp2
          have HB2 := hide (hbel.out.trans (hb2.mono hbel.out.size))
          obtain ⟨a0, m0, k0, hx0⟩ := HP2.out.sl _ (List.getElem_mem HKX.out)
          have c2 : w2.cell? ⟨w.heap.size, k, none⟩ = some (.slice a0 m0 k0) := by rw [HP2.out.row.cellAt k (by omega), List.getElem?_eq_getElem HKX.out, hx0]
          have f2 : w2.frozen? ⟨w.heap.size, k, none⟩ = false := HP2.out.row.frozenAt _
          have hg : w.heap.size < w2.heap.size := World.block_lt_of_cell? w2 _ c2
          clear hb2 hp2 hx0
          go_wp2_with fail
          go_roundw
          case rel => exact ⟨k + 1, _, by go_num, by omega, HS, hide (HP2.out.next hkL HKX.out HQ2.out), hide (HB2.out.setCell (p := ⟨w.heap.size, k, none⟩) (Nat.le_refl _) _)⟩
          case measure => simp [intOf]; omega
      · rw [errV_bad hz] at HD
        have HS : Hid (M.selE (bytesI s) R m = M.selF (bytesI s) R m k) := hide (HE.out.trans (M.first_bad hlt hno.out hz))
        have HZ : Hid (M.selF (bytesI s) R m k ≠ 0) := hide hz
        generalize M.selF (bytesI s) R m k = E at HD HS HZ
        generalize M.dealR (s[k].toNat : Int) R[k] m = D at HD
        clear hF hz c0 hlie hat' ht' hn' hm' hkL hkR hkb
        have hb := s[k].toNat_lt
        go_wp2_with fail
        go_region_with ((go_at_call 36; refine (unhide HD).mono ?_; rintro e w2 ⟨⟨v2, j2, k2, rfl, hp2⟩, hb2⟩))
        all_goals
          have HB2 := hide (hbel.out.trans (hb2.mono hbel.out.size))
          clear hb2 hp2
          go_wp2_with fail
          go_ret2
          exact ⟨⟨none, 0, 0, by rw [HS.out, errV_bad HZ.out]; rfl, by rw [M.selR_bad (by rw [HS.out]; exact HZ.out)]; rfl, Nat.le_refl _, Nat.zero_le _, by rw [M.selR_bad (by rw [HS.out]; exact HZ.out)]; exact fun h => absurd h (by decide)⟩, HB2.out⟩
    · have hkm : k = s.size := by omega
      rw [hkm] at hno hrow
      have HS : Hid (M.selE (bytesI s) R m = 0) := hide (HE.out.trans hno.out)
      clear hkm
      go_wp2_with fail
      go_ret2
      refine ⟨⟨some ⟨w.heap.size, 0, none⟩, s.size, s.size, by rw [HS.out]; rfl, by rw [M.selR_ok HS.out, HLE.out, HLL.out], Nat.le_refl _, by unfold maxLen; omega, ?_⟩, hbel.out⟩
      rw [M.selR_ok HS.out, HLE.out]
      exact hrow.out.done HLL.out

/-- Seal, whatever comes in -/
theorem sSeal (s : ByteArray) (a : Option Addr) (n cap : Nat) (R : List (List Int)) (m : Int) (w : World) (hs : s.size ≤ maxLen) (hn : n = R.length) (hm : n ≤ maxLen) (hl : AtQ IsI w a R) :
    Calls Tryd.prog 18 #[.string s, .slice a n cap, .int .i64 m] w fun e w' => (∃ v k c, e = .returned (.tuple #[.slice v k c, errV (M.selE (bytesI s) R m)]) ∧ k = (M.selR (bytesI s) R m).length ∧ k ≤ c ∧ c ≤ maxLen ∧ AtQ IsP w' v (M.selR (bytesI s) R m)) ∧ Below w.heap.size w w' := by
  have bad : ∀ {E : Int} {w' : World}, E ≠ 0 → M.selE (bytesI s) R m = E → ∃ v k c, Ending.returned (.tuple #[.slice none 0 0, .iface 64 (.int .i64 E)]) = .returned (.tuple #[.slice v k c, errV (M.selE (bytesI s) R m)]) ∧ k = (M.selR (bytesI s) R m).length ∧ k ≤ c ∧ c ≤ maxLen ∧ AtQ IsP w' v (M.selR (bytesI s) R m) := fun {E w'} hE h => by
    rw [M.selR_bad (by rw [h]; exact hE), h, errV_bad hE]
    exact ⟨none, 0, 0, rfl, rfl, Nat.le_refl _, Nat.zero_le _, fun h0 => absurd h0 (by decide)⟩
  have hbl := bytesI_len s
  by_cases h12 : 12 < s.size
  · refine (sealMany s a n cap m w hs h12).mono ?_
    rintro e w' ⟨rfl, hb⟩
    exact ⟨bad (by decide) (M.selE_many (by omega)), hb⟩
  · by_cases hns : n = s.size
    · exact sealEach s a n cap R m w h12 hns hn hl
    · refine (sealShape s a n cap m w hm h12 hns).mono ?_
      rintro e w' ⟨rfl, hb⟩
      exact ⟨bad (by decide) (M.selE_shape (by omega) (by omega)), hb⟩

end Go.Proofs.YtlefhfmckimlaagDoor
