/-
  The walk of the Go function SealBack: it returns true, whatever comes in.
-/
import Derived.Test.YtlefhfmckimlaafSealSeal
import Derived.Test.YtlefhfmckimlaafSealOpen
import Derived.Deep.AppendLies
import Derived.Deep.DeepCutAuto
import Derived.Deep.CutBlock
set_option linter.unusedVariables false
namespace Go.Proofs.Ytlefhfmckimlaaf.sealBack
open Go.RowKit

/- plain facts -/
theorem selE_toNat {b : List Int} {R : List (List Int)} {m : Int} (h : M.selE b R m = 0) : M.selE b R (m.toNat : Int) = 0 := by
  obtain ⟨h12, hR, he⟩ := M.selE_ok h
  by_cases h0 : 0 < b.length
  · have := (M.dealE_ok (he 0 h0 (by omega))).2.2.2.1
    rwa [Int.toNat_of_nonneg (by omega)]
  · rw [M.selE_some (by omega) hR, show b.length = 0 by omega]; rfl
theorem back {b : List Int} {R : List (List Int)} {m f : Int} {k : Nat} (hb : ∀ i (hi : i < b.length), 0 ≤ b[i] ∧ b[i] ≤ 255) (hs : M.selE b R m = 0) (hk0 : 1 ≤ k) (hr : ∀ i (hi : i < R.length), R[i].length + 1 ≤ k) (hf : 0 < R.length → 0 ≤ f ∧ f + (k : Int) ≤ m) :
    M.opnE (M.partL (M.selL b R m.toNat) f.toNat k) (k : Int) = 0 ∧ M.opnR (M.partL (M.selL b R m.toNat) f.toNat k) (k : Int) = b := by
  obtain ⟨h12, hR, he⟩ := M.selE_ok hs
  obtain ⟨e1, e2⟩ := M.seal_back (m := m.toNat) (f := f.toNat) (k := k) hb (selE_toNat hs) (fun h0 => by
    have := (M.dealE_ok (he 0 h0 (by omega))).2.2.2.1
    omega) (by omega) hr (fun h0 => by have := hf (by omega); omega)
  exact ⟨e1, by rw [M.opnR_ok e1, e2]⟩
theorem lie_drop {w : World} {b off : Nat} {l : List (Int × Int)} (h : LieP w b off l) (k : Nat) : LieP w b (off + k * 2) (l.drop k) := fun i hi => by
  have hi' : k + i < l.length := by rw [List.length_drop] at hi; omega
  have e : off + k * 2 + i * 2 = off + (k + i) * 2 := by omega
  rw [List.getElem_drop, e]
  exact h (k + i) hi'
/-- a part of a slice of shares -/
theorem isP_part {w : World} {b off n cap : Nat} {l : List (Int × Int)} (h : LieP w b off l) (hn : n = l.length) (hc : n ≤ cap) (hm : cap ≤ maxLen) {f k : Nat} (hk : f + k ≤ n) : IsP w (.slice (some ⟨b, off + f * 2, none⟩) k (cap - f)) ((l.drop f).take k) :=
  ⟨_, _, _, rfl, by rw [List.length_take, List.length_drop]; omega, by omega, by omega, fun _ => ⟨b, off + f * 2, rfl, (lie_drop h f).take k⟩⟩

theorem lit_one (wx : World) (B C : Nat) (h1 : wx.cell? ⟨B, 0, none⟩ = some (.slice (some ⟨C, 0, none⟩) 1 1)) (h2 : wx.cell? ⟨C, 0, none⟩ = some (.int .i64 1)) :
    Calls Try.prog 10 #[.string ⟨#[65]⟩, .slice (some ⟨B, 0, none⟩) 1 1, .int .i64 2] wx fun e w' => (∃ b off c b' off' c', e = .returned (.tuple #[.slice (some ⟨b, off, none⟩) 1 c, .nilIface]) ∧ c ≤ maxLen ∧ w'.cell? ⟨b, off, none⟩ = some (.slice (some ⟨b', off', none⟩) 2 c') ∧ 2 ≤ c' ∧ c' ≤ maxLen ∧ w'.cell? ⟨b', off' + 1, none⟩ = some (.int .i64 66) ∧ w'.cell? ⟨b', off' + 2 + 1, none⟩ = some (.int .i64 67)) ∧ Below wx.heap.size wx w' := by
  have e0 : M.selE (bytesI ⟨#[65]⟩) [[1]] 2 = 0 := by decide +kernel
  have e1 : M.selR (bytesI ⟨#[65]⟩) [[1]] 2 = [[(1, 66), (2, 67)]] := by decide +kernel
  have := sSeal ⟨#[65]⟩ (some ⟨B, 0, none⟩) 1 1 [[1]] 2 wx (by decide) rfl (by decide) (fun _ => ⟨B, 0, rfl, fun i hi => by
    obtain rfl : i = 0 := by simpa using hi
    exact ⟨_, h1, some ⟨C, 0, none⟩, 1, 1, rfl, rfl, by decide, fun _ => ⟨C, 0, rfl, fun i hi => by
      obtain rfl : i = 0 := by simpa using hi
      exact h2⟩, fun h => by cases h⟩⟩)
  rw [e0, e1] at this
  refine this.mono ?_
  rintro e w' ⟨⟨v, k, c, rfl, hk, hkc, hcm, hat⟩, hb⟩
  obtain ⟨b, off, rfl, hlie⟩ := hat (by decide)
  obtain ⟨u, c1, a', n', c', rfl, hn', hc', hm', hat'⟩ := hlie 0 (by decide)
  obtain ⟨b', off', rfl, hl'⟩ := hat' (by decide)
  obtain ⟨_, g1⟩ := hl' 0 (by decide)
  obtain ⟨_, g2⟩ := hl' 1 (by decide)
  subst hk hn'
  exact ⟨⟨b, off, c, b', off', c', rfl, hcm, c1, hc', hm', g1, g2⟩, hb⟩

theorem lit_start (w : World) :
    Calls Try.prog 10 #[.string ⟨#[65]⟩, .slice (some ⟨w.heap.size + 1, 0, none⟩) 1 1, .int .i64 2] ((w.alloc (.cells #[.int .i64 1] 3)).alloc (.cells #[.slice (some ⟨w.heap.size, 0, none⟩) 1 1] 22)) fun e w' => (∃ b off c b' off' c', e = .returned (.tuple #[.slice (some ⟨b, off, none⟩) 1 c, .nilIface]) ∧ c ≤ maxLen ∧ w'.cell? ⟨b, off, none⟩ = some (.slice (some ⟨b', off', none⟩) 2 c') ∧ 2 ≤ c' ∧ c' ≤ maxLen ∧ w'.cell? ⟨b', off' + 1, none⟩ = some (.int .i64 66) ∧ w'.cell? ⟨b', off' + 2 + 1, none⟩ = some (.int .i64 67)) ∧ Below w.heap.size w w' := by
  refine (lit_one _ (w.heap.size + 1) w.heap.size (by simp [go_sem]) (by simp [go_sem])).mono fun e w' h => ⟨h.1, ?_⟩
  exact Below.trans (((Below.refl w.heap.size w).alloc (Nat.le_refl _) _).alloc (by simp) _) (h.2.mono (by simp; omega))

theorem walkBad (s : ByteArray) (a : Option Addr) (n cap : Nat) (R : List (List Int)) (m f : Int) (w : World) (hs : s.size ≤ maxLen) (hn : n = R.length) (hm : n ≤ maxLen) (hl : AtQ IsI w a R) (hE : M.selE (bytesI s) R m ≠ 0) :
    Calls Try.prog 5 #[.string s, .slice a n cap, .int .i64 m, .int .i64 f] w fun e w' => e = .returned (.bool true) ∧ Below w.heap.size w w' := by
  have HA := hide (lit_start w)
  have HS : Hid (∀ wx, Below w.heap.size w wx → Calls Try.prog 10 #[.string s, .slice a n cap, .int .i64 m] wx fun e w' => (∃ v k c E, e = .returned (.tuple #[.slice v k c, .iface 43 (.int .i64 E)])) ∧ Below wx.heap.size wx w') := hide fun wx hb => by
    refine (sSeal s a n cap R m wx hs hn hm (hl.stays firmI hb (Nat.le_refl _))).mono ?_
    rintro e w' ⟨⟨v, k, c, rfl, _⟩, h⟩
    exact ⟨⟨v, k, c, _, by rw [errV_bad hE]⟩, h⟩
  clear hs hn hm hl hE
  go_enter Try.func5, Try.ntmps5
  go_wp2_with fail
  refine (unhide HA).mono ?_
  rintro e w1 ⟨⟨b, off, c, b', off', c', rfl, hcm, c1, hc2, hcm2, c2, c3⟩, hb1⟩
  have HB1 := hide hb1
  unfold maxLen at hcm hcm2
  clear hb1
  go_wp2_with fail
  refine (HS.out _ HB1.out).mono ?_
  rintro e w2 ⟨⟨v, k, d, E, rfl⟩, hb2⟩
  have HB2 := hide (HB1.out.trans (hb2.mono HB1.out.size))
  clear hb2
  go_wp2_with fail
  go_ret
  exact ⟨rfl, HB2.out⟩

set_option maxRecDepth 100000 in
set_option maxHeartbeats 2000000 in
theorem walkOk (s : ByteArray) (a : Option Addr) (n cap : Nat) (R : List (List Int)) (m f : Int) (w : World) (hs : s.size ≤ maxLen) (hn : n = R.length) (hm : n ≤ maxLen) (hl : AtQ IsI w a R) (hE : M.selE (bytesI s) R m = 0) :
    Calls Try.prog 5 #[.string s, .slice a n cap, .int .i64 m, .int .i64 f] w fun e w' => e = .returned (.bool true) ∧ Below w.heap.size w w' := by
  obtain ⟨i0, hi, hz0, hz1, hz2⟩ := info_parts infoS
  have HI := hide (And.intro hi (And.intro hz0 (And.intro hz1 hz2)))
  obtain ⟨h12, hRl, he⟩ := M.selE_ok hE
  have hbl := bytesI_len s
  have hn12 : n ≤ 12 := by omega
  have HD : Hid (∀ i (hi : i < R.length), R[i].length ≤ 6 ∧ (R[i].length : Int) < m) := hide fun i hi => by
    have := M.dealE_ok (he i (by omega) hi)
    exact ⟨this.2.1, this.2.2.2.2⟩
  have HM : Hid (0 < n → 1 ≤ m ∧ m ≤ 7) := hide fun h0 => (M.dealE_ok (he 0 (by omega) (by omega))).2.2.2.1
  have hLl : (M.selL (bytesI s) R m.toNat).length = n := by rw [M.selL_len _ hRl]; omega
  have HLA : Hid (∀ i (hi : i < (M.selL (bytesI s) R m.toNat).length), (M.selL (bytesI s) R m.toNat)[i].length = m.toNat) := hide fun i hi => by
    rw [M.selL_at (by omega) (by omega), M.deal_len]
  have HBK : Hid (∀ (g : Int) (k : Nat), 1 ≤ k → (∀ i (hi : i < R.length), R[i].length + 1 ≤ k) → (0 < R.length → 0 ≤ g ∧ g + (k : Int) ≤ m) → M.opnE (M.partL (M.selL (bytesI s) R m.toNat) g.toNat k) (k : Int) = 0 ∧ M.opnR (M.partL (M.selL (bytesI s) R m.toNat) g.toNat k) (k : Int) = bytesI s) := hide fun g k h1 h2 h3 => back (bytesI_range s) hE h1 h2 h3
  have HS : Hid (∀ wx, Below w.heap.size w wx → Calls Try.prog 10 #[.string s, .slice a n cap, .int .i64 m] wx fun e w' => (∃ v c, e = .returned (.tuple #[.slice v n c, .nilIface]) ∧ n ≤ c ∧ c ≤ maxLen ∧ AtQ IsP w' v (M.selL (bytesI s) R m.toNat)) ∧ Below wx.heap.size wx w') := hide fun wx hb => by
    have := sSeal s a n cap R m wx hs hn hm (hl.stays firmI hb (Nat.le_refl _))
    rw [hE, M.selR_ok hE] at this
    refine this.mono ?_
    rintro e w' ⟨⟨v, k, c, rfl, h1, h2, h3, h4⟩, h⟩
    rw [hLl] at h1
    subst h1
    exact ⟨⟨v, c, rfl, h2, h3, h4⟩, h⟩
  have HL := hide hl
  have HN := hide hn
  generalize M.selL (bytesI s) R m.toNat = LL at hLl HLA HBK HS
  have HLL := hide hLl
  have HA := hide (lit_start w)
  clear hi hz0 hz1 hz2 hs hn hm hl hE h12 hRl he hbl hLl
  go_enter Try.func5, Try.ntmps5
  go_wp2_with fail
  refine (unhide HA).mono ?_
  rintro e w1 ⟨⟨b, off, c, b', off', c', rfl, hcm, c1, hc2, hcm2, c2, c3⟩, hb1⟩
  have HB1 := hide hb1
  unfold maxLen at hcm hcm2
  clear hb1 HA
  go_wp2_with fail
  refine (HS.out _ HB1.out).mono ?_
  rintro e w2 ⟨⟨v, c4, rfl, hc5, hc6, hat⟩, hb2⟩
  have HB2 := hide (HB1.out.trans (hb2.mono HB1.out.size))
  have HAT := hide hat
  unfold maxLen at hc6
  clear hb2 hat HS HB1 c1 c2 c3 hc2 hcm2 hcm
  go_wp2_with fail
  go_loop [13, 14] (fun sn si => ∃ (k nd : Nat), si = .int .i64 k ∧ sn = .int .i64 nd ∧ k ≤ n ∧ 1 ≤ nd ∧ nd ≤ 7 ∧ Hid (∀ i (hi : i < R.length), i < k → R[i].length + 1 ≤ nd) ∧ Hid (0 < n → (nd : Int) ≤ m)) (fun _ si => n - (intOf si).toNat)
  case atStart => exact ⟨0, 1, rfl, rfl, Nat.zero_le _, by decide, by decide, hide (fun i hi h => absurd h (by omega)), hide (fun h => (HM.out h).1)⟩
  case round =>
    obtain ⟨k, nd, rfl, rfl, hk, hd1, hd7, hall, hmd⟩ := hrel
    by_cases hlt : k < n
    · have hkR : k < R.length := by have := HN.out; omega
      obtain ⟨bR, oR, rfl, hlie⟩ := HL.out (by omega)
      obtain ⟨u, d0, a', n', cap', rfl, hn', hm', _, _⟩ := hlie k hkR
      have d1 : w2.cell? ⟨bR, oR + k, none⟩ = some (.slice a' n' cap') := (HB2.out.cell (p := ⟨bR, oR + k, none⟩) (World.block_lt_of_cell? w _ d0)).trans d0
      have hdn := HD.out k hkR
      rw [← hn'] at hdn
      obtain ⟨hd6, hdm⟩ := hdn
      have HN' := hide hn'
      clear hlie d0 hn' hm'
      by_cases hgt : nd < n' + 1
      · have hgi : (nd : Int) < (n' : Int) + 1 := by omega
        go_wp2_with fail
        go_round
        case rel => exact ⟨k + 1, n' + 1, by go_num, by go_num, by omega, by omega, by omega, hide (fun i hi h => by
          by_cases hik : i = k
          · subst hik; rw [← HN'.out]; exact Nat.le_refl _
          · have := hall.out i hi (by omega); omega), hide (fun h => by omega)⟩
        case measure => simp [intOf]; omega
      · have hgi : ¬ (nd : Int) < (n' : Int) + 1 := by omega
        go_wp2_with fail
        go_round
        case rel => exact ⟨k + 1, nd, by go_num, rfl, by omega, hd1, hd7, hide (fun i hi h => by
          by_cases hik : i = k
          · subst hik; rw [← HN'.out]; omega
          · exact hall.out i hi (by omega)), hmd⟩
        case measure => simp [intOf]; omega
    · have hkm : k = n := by omega
      subst hkm
      have HALL : Hid (∀ i (hi : i < R.length), R[i].length + 1 ≤ nd) := hide fun i hi => hall.out i hi (by have := HN.out; omega)
      clear hall hlt
      obtain ⟨Z, hZ⟩ : ∃ Z, IntKind.i64.wrap (m - (nd : Int)) = Z := ⟨_, rfl⟩
      have HZ : Hid (0 < k → Z = m - (nd : Int)) := hide fun h => by
        have := HM.out h
        rw [← hZ]
        exact IntWalk.i64_in _ ⟨by omega, by omega⟩
      obtain ⟨B, hB⟩ : ∃ B : Bool, decide (f < 0 ∨ Z < f) = B := ⟨_, rfl⟩
      have HBD := hide hB
      clear hB
      go_upto_region 13 with fail
      go_cut [94] (fun t wx => t = .bool B ∧ wx = w2)
      case first =>
        by_cases h1 : f < 0
        · go_wp2_with fail
          go_meet
          case rel => exact ⟨by rw [← HBD.out, decide_eq_true (Or.inl h1)], rfl⟩
        · by_cases h2 : Z < f
          · go_wp2_with fail
            go_meet
            case rel => exact ⟨by rw [← HBD.out, decide_eq_true (Or.inr h2)], rfl⟩
          · go_wp2_with fail
            go_meet
            case rel => exact ⟨by rw [← HBD.out, decide_eq_false (by omega)], rfl⟩
      case rest =>
        obtain ⟨rfl, hw⟩ := hcut
        obtain rfl := hw.symm
        go_upto_if 94 with fail
        go_cut [3] (fun t wx => ∃ g : Int, t = .int .i64 g ∧ Hid (0 < k → 0 ≤ g ∧ g + (nd : Int) ≤ m) ∧ wx = w2)
        case first =>
          cases B
          · have H1 : Hid (¬ (f < 0 ∨ Z < f)) := hide (of_decide_eq_false HBD.out)
            go_wp2_with fail
            go_meet
            case rel => exact ⟨f, rfl, hide (fun h => by have := HZ.out h; have := H1.out; omega), rfl⟩
          · go_wp2_with fail
            go_meet
            case rel => exact ⟨0, rfl, hide (fun h => ⟨Int.le_refl _, by have := hmd.out h; omega⟩), rfl⟩
        case rest =>
          obtain ⟨g, rfl, HG, hw⟩ := hcut
          obtain rfl := hw.symm
          clear HZ hZ hmd
          have HP : Hid (∀ i (hi : i < LL.length) (b1 off1 n1 cap1 : Nat), LieP w2 b1 off1 LL[i] → n1 = LL[i].length → n1 ≤ cap1 → cap1 ≤ maxLen → g.toNat + nd ≤ n1 → IsP w2 (.slice (some ⟨b1, off1 + g.toNat * 2, none⟩) nd (cap1 - g.toNat)) ((M.partL LL g.toNat nd)[i]'(by rw [M.partL_len]; exact hi))) := hide fun i hi b1 off1 n1 cap1 h1 h2 h3 h4 h5 => by
            rw [M.partL_at _ _ hi]
            exact isP_part h1 h2 h3 h4 h5
          go_wp2_with fail
          go_loopw [15, 16] (fun sv si wr => ∃ (v1 : Value) (i : Nat) (xs : List Value), v1 = sv ∧ si = .int .i64 i ∧ i ≤ k ∧ Hid (wr.ownsRow w2.heap.size 39 1 v1 i xs) ∧ Hid (∀ j (h1 : j < xs.length) (h2 : j < (M.partL LL g.toNat nd).length), IsP w2 xs[j] (M.partL LL g.toNat nd)[j]) ∧ Hid (Below w2.heap.size w2 wr)) (fun _ si _ => k - (intOf si).toNat)
          case atStart => exact ⟨_, 0, [], rfl, rfl, Nat.zero_le _, hide (World.ownsRow_nil _ _ _ _), hide (fun j h1 => absurd h1 (by simp)), hide (Below.refl _ _)⟩
          case round =>
            obtain ⟨v1, i, xs, rfl, rfl, hi, hown, hxs, hbel⟩ := hrel
            by_cases hlt : i < k
            · have hiL : i < LL.length := by have := HLL.out; omega
              obtain ⟨bv, ov, rfl, hlie⟩ := HAT.out (by omega)
              obtain ⟨u, d0, a', n', cap', rfl, hn', hcc', hcm', hat'⟩ := hlie i hiL
              have hlen := HLA.out i hiL
              obtain ⟨g0, g1⟩ := HG.out (by omega)
              obtain ⟨m1, m7⟩ := HM.out (by omega)
              obtain ⟨G, rfl⟩ : ∃ G : Nat, g = (G : Int) := ⟨g.toNat, by omega⟩
              have hnm : (n' : Int) = m := by rw [hn', hlen]; omega
              obtain ⟨b1, o1, rfl, hl1⟩ := hat' (by omega)
              have HPI := hide (HP.out i hiL b1 o1 n' cap' hl1 hn' hcc' hcm' (by rw [Int.toNat_natCast]; omega))
              rw [Int.toNat_natCast] at HPI hxs
              have d1 : wr.cell? ⟨bv, ov + i, none⟩ = some (.slice (some ⟨b1, o1, none⟩) n' cap') := (hbel.out.cell (p := ⟨bv, ov + i, none⟩) (World.block_lt_of_cell? w2 _ d0)).trans d0
              have hxl := hown.out.1
              have HROW : Hid ((wr.alloc (.cells #[.slice (some ⟨b1, o1 + G * 2, none⟩) nd (cap' - G)] 39)).ownsRow w2.heap.size 39 1 v1 i xs) := hide (hown.out.alloc _)
              have HNEW : Hid (∀ j u, [Value.slice (some ⟨b1, o1 + G * 2, none⟩) nd (cap' - G)][j]? = some u → (wr.alloc (.cells #[.slice (some ⟨b1, o1 + G * 2, none⟩) nd (cap' - G)] 39)).cell? ((⟨wr.heap.size, 0, none⟩ : Addr).add j) = some u) := hide (World.news_of_block (World.alloc_heap_new wr _))
              have hz2 : w2.heap.size ≤ wr.heap.size := hbel.out.size
              unfold maxLen at hcm'
              clear hlie d0 hl1 hat' hn'
              go_wp2_with (at_builtin; (refine wpList_append_own _ rfl (.tmp 110) (.tmp 120) 36 rfl w2.heap.size 39 i0 (.slice none 0 0) 1 24 Try.underlying36 HI.out.1 HI.out.2.1 HI.out.2.2.1 HI.out.2.2.2 rfl (by decide) v1 i xs rfl HROW.out ⟨wr.heap.size, 0, none⟩ 1 1 [.slice (some ⟨b1, o1 + G * 2, none⟩) nd (cap' - G)] rfl rfl HNEW.out (by simp [Value.oneCell']) (by unfold maxLen; omega) (by omega) (Nat.le_trans hz2 (by simp)) ?_))
              intro v' w3 hown' hgrow _
              have HO := hide hown'
              have HB3 := hide ((hbel.out.alloc hz2 _).grown hgrow (Nat.le_trans hz2 (by simp)) (fun j hj => (HROW.out.lt j hj).1))
              clear hown' hgrow
              go_wp2
              go_roundw
              case rel => exact ⟨_, i + 1, _, rfl, by go_num, by omega, HO, hide (by
                intro j h1 h2
                simp only [Int.toNat_natCast] at h2 ⊢
                by_cases hj : j < xs.length
                · rw [List.getElem_append_left hj]; exact hxs.out j hj h2
                · have hji : j = xs.length := by rw [List.length_append] at h1; simp at h1; omega
                  subst hji
                  rw [List.getElem_append_right (Nat.le_refl _)]
                  have e : xs.length = i := by omega
                  simp only [e, Nat.sub_self, List.getElem_cons_zero]
                  exact HPI.out), HB3⟩
              case measure => simp [intOf]; omega
            · have him : i = k := by omega
              subst him
              have hpl : (M.partL LL g.toNat nd).length = i := by rw [M.partL_len]; exact HLL.out
              have hrow' : wr.ownsRow w2.heap.size 39 1 v1 (M.partL LL g.toNat nd).length xs := by rw [hpl]; exact hown.out
              obtain ⟨av, cv, hv, hv1, hv2, hav⟩ := atQ_own (Q := IsP) (L := M.partL LL g.toNat nd) hrow' (fun j h1 h2 => firmP _ _ _ _ _ (hxs.out j h1 h2) hbel.out (Nat.le_refl _))
              rw [hpl] at hv hv1
              subst hv
              obtain ⟨e1, e2⟩ := HBK.out g nd hd1 HALL.out (fun h => HG.out (by have := HN.out; omega))
              have HOP : Hid (Calls Try.prog 11 #[.slice av i cv, .int .i64 (nd : Int)] wr fun e w' => e = .returned (.tuple #[.string s, .nilIface]) ∧ Below wr.heap.size wr w') := hide (by
                have := sOpen av i cv (M.partL LL g.toNat nd) (nd : Int) wr hpl.symm (by unfold maxLen; omega) hav
                rw [e1, e2, strOf_bytesI] at this
                exact this)
              clear hrow' hav hown hxs e1 e2 hpl
              go_wp2_with fail
              refine (unhide HOP).mono ?_
              rintro e w3 ⟨rfl, hb3⟩
              have HB3 := hide (HB2.out.trans ((hbel.out.trans (hb3.mono hbel.out.size)).mono HB2.out.size))
              clear hb3
              go_wp2_with fail
              go_ret
              exact ⟨by simp, HB3.out⟩

theorem walk (s : ByteArray) (a : Option Addr) (n cap : Nat) (R : List (List Int)) (m f : Int) (w : World) (hs : s.size ≤ maxLen) (hn : n = R.length) (hm : n ≤ maxLen) (hl : AtQ IsI w a R) :
    Calls Try.prog 5 #[.string s, .slice a n cap, .int .i64 m, .int .i64 f] w fun e w' => e = .returned (.bool true) ∧ Below w.heap.size w w' := by
  by_cases h : M.selE (bytesI s) R m = 0
  · exact walkOk s a n cap R m f w hs hn hm hl h
  · exact walkBad s a n cap R m f w hs hn hm hl h

end Go.Proofs.Ytlefhfmckimlaaf.sealBack
