/-
  The walk of the Go function TopHidden: it returns true for every tuple, whatever is asked for and whatever shows, every text of no more than 1048576 letters and all numbers beside it, if the library's table reads as its text lays it.
-/
import Derived.Test.YtlefhfmckimlaagDoorTopSole
import Derived.Test.YtlefhfmckimlaagDoorCoverSeen
import Derived.Test.YtlefhfmckimlaagDoorTupSame
import Derived.Test.YtlefhfmckimlaagDoorSealSeal
import Derived.Test.YtlefhfmckimlaagDoorSealOpen
import Derived.Deep.RegionWith
import Derived.Deep.DeepCutAuto
import Derived.Deep.CutBlock
set_option linter.unusedVariables false
/- plain facts on a text that is sealed with one rest for each byte -/
namespace Go.Proofs.YtlefhfmckimlaagDoor.M

theorem part_all {L : List (List (Int × Int))} {k : Nat} (h : ∀ l ∈ L, l.length = k) : partL L 0 k = L := by
  unfold partL
  have e : ∀ l ∈ L, (fun l : List (Int × Int) => (l.drop 0).take k) l = id l := fun l hl => by
    show (l.drop 0).take k = l
    rw [List.drop_zero, ← h l hl, List.take_length]
  rw [List.map_congr_left e, List.map_id]
theorem selL_each {b : List Int} {R : List (List Int)} {m : Nat} : ∀ l ∈ selL b R m, l.length = m := fun l hl => by
  obtain ⟨i, hi, rfl⟩ := List.getElem_of_mem hl
  have hi' : i < (List.zipWith (fun s r => deal (s :: r) m) b R).length := hi
  show ((List.zipWith (fun s r => deal (s :: r) m) b R)[i]'hi').length = m
  rw [List.getElem_zipWith, deal_len]
/-- all of them open it -/
theorem hidden_opens {b : List Int} {r : List Int} (hb : ∀ i (hi : i < b.length), 0 ≤ b[i] ∧ b[i] ≤ 255) (h : selE b (List.replicate b.length r) ((r.length : Int) + 1) = 0) (h0 : 0 < b.length) :
    opnE (selL b (List.replicate b.length r) (r.length + 1)) ((r.length : Int) + 1) = 0 ∧ opnR (selL b (List.replicate b.length r) (r.length + 1)) ((r.length : Int) + 1) = b := by
  obtain ⟨_, hR, he⟩ := selE_ok h
  have hd := (dealE_ok (he 0 h0 (by omega))).2.2.2.1
  have hs : selE b (List.replicate b.length r) (((r.length + 1 : Nat)) : Int) = 0 := by rw [Int.natCast_add]; exact h
  obtain ⟨e1, e2⟩ := seal_back (m := r.length + 1) (f := 0) (k := r.length + 1) hb hs (fun _ => by omega) (by omega) (fun i hi => by rw [List.getElem_replicate]; exact Nat.le_refl _) (fun _ => by omega)
  rw [part_all selL_each, Int.natCast_add] at e1 e2
  have e1' : opnE (selL b (List.replicate b.length r) (r.length + 1)) ((r.length : Int) + 1) = 0 := e1
  exact ⟨e1', by rw [opnR_ok e1']; exact e2⟩
/-- one fewer do not -/
theorem joinE_less {l : List (Int × Int)} {n : Int} (h : (l.length : Int) < n) : joinE l n ≠ 0 := by
  unfold joinE
  by_cases hc : cntB n = true
  · rw [if_pos hc]
    by_cases hp : ptsE l ≠ 0
    · rw [if_pos hp]; exact hp
    · rw [if_neg hp, if_pos h]; decide
  · rw [if_neg hc]; decide
theorem hidden_few {l : List (Int × Int)} {n : Int} (h : (l.length : Int) < n) : opnE [l] n ≠ 0 := by
  have he : eachE [l] n ≠ 0 := by
    have h0 : first (opnF [l] n) 0 = 0 := rfl
    show first (opnF [l] n) (0 + 1) ≠ 0
    rw [first_next h0, opnF_at (by simp)]
    exact joinE_less h
  rw [opnE_each (by simp) he]
  exact he

end Go.Proofs.YtlefhfmckimlaagDoor.M
namespace Go.Proofs.YtlefhfmckimlaagDoor.topHidden
open Go.RowKit

theorem errEq (e : Int) (w : World) : (binOp .eql 25 (errV e) .nilIface).run Tryd.prog w = .ok (.bool (e == 0)) w := by
  unfold errV
  by_cases h : e = 0
  · subst h; rw [if_pos rfl]; exact run_eql_nil_nil _ _ (by kernel_rfl)
  · rw [if_neg h, run_eql_held_nil _ _ _ _ (by kernel_rfl)]; simp [h]
theorem errNe (e : Int) (w : World) : (binOp .neq 25 (errV e) .nilIface).run Tryd.prog w = .ok (.bool (e != 0)) w := by
  unfold errV
  by_cases h : e = 0
  · subst h; rw [if_pos rfl]; exact run_neq_nil_nil _ _ (by kernel_rfl)
  · rw [if_neg h, run_neq_held_nil _ _ _ _ (by kernel_rfl)]; simp [h]
theorem errGuard (op : BinOp) (x : Operand) (c : Value) (e : Int) (w : World) : (eqGuard op 25 x (.const c) (errV e) .nilIface).run Tryd.prog w = .ok () w := by
  unfold errV
  by_cases h : e = 0
  · rw [if_pos h]; cases op <;> simp [eqGuard]
  · rw [if_neg h]; cases op <;> simp [eqGuard]
attribute [local go_sem] errEq errNe errGuard

theorem infoL : (Tryd.prog.info? 23).map (fun i => (i.zero, i.size, i.bytes)) = some (some (.slice none 0 0), 1, 24) := by kernel_rfl
theorem news1 (w : World) (x : Value) : ∀ j u, [x][j]? = some u → (w.alloc (.cells #[x] 23)).cell? ((⟨w.heap.size, 0, none⟩ : Addr).add j) = some u := World.news_of_block (heap_alloc_new w _)

/-- a text sealed with the same rest for each byte -/
theorem hSeal (tx : ByteArray) (av : Option Addr) (cv : Nat) (lr : List Int) (w : World) (htx : tx.size ≤ maxLen) (hat : AtQ IsI w av (List.replicate tx.size lr)) (h0 : 0 < tx.size) (hE : M.selE (bytesI tx) (List.replicate tx.size lr) ((lr.length : Int) + 1) = 0) :
    Calls Tryd.prog 18 #[.string tx, .slice av tx.size cv, .int .i64 ((lr.length : Int) + 1)] w fun e w' => (∃ b off c b' off' c' l0, e = .returned (.tuple #[.slice (some ⟨b, off, none⟩) tx.size c, .nilIface]) ∧ tx.size ≤ c ∧ c ≤ maxLen ∧ w'.cell? ⟨b, off, none⟩ = some (.slice (some ⟨b', off', none⟩) (lr.length + 1) c') ∧ lr.length + 1 ≤ c' ∧ c' ≤ maxLen ∧ LieP w' b' off' l0 ∧ l0.length = lr.length + 1 ∧ AtQ IsP w' (some ⟨b, off, none⟩) (M.selL (bytesI tx) (List.replicate tx.size lr) (lr.length + 1))) ∧ Below w.heap.size w w' := by
  have hbl := bytesI_len tx
  have hRl : (List.replicate tx.size lr).length = (bytesI tx).length := by rw [List.length_replicate, hbl]
  have := sSeal tx av tx.size cv (List.replicate tx.size lr) ((lr.length : Int) + 1) w htx (by simp) htx hat
  rw [hE, M.selR_ok hE] at this
  refine this.mono ?_
  rintro e w' ⟨⟨v, k, c, rfl, h1, h2, h3, h4⟩, hb⟩
  have hm : (((lr.length : Int) + 1)).toNat = lr.length + 1 := by omega
  rw [hm] at h1 h4
  rw [M.selL_len _ hRl, hbl] at h1
  subst h1
  have hl0 : 0 < (M.selL (bytesI tx) (List.replicate tx.size lr) (lr.length + 1)).length := by rw [M.selL_len _ hRl, hbl]; exact h0
  obtain ⟨b, off, rfl, hlie⟩ := h4 hl0
  obtain ⟨u, c1, a', n', c', rfl, hn', hc', hm', hat'⟩ := hlie 0 hl0
  have hlen : (M.selL (bytesI tx) (List.replicate tx.size lr) (lr.length + 1))[0].length = lr.length + 1 := M.selL_each _ (List.getElem_mem hl0)
  rw [hlen] at hn'
  subst hn'
  obtain ⟨b', off', rfl, hl'⟩ := hat' (by rw [hlen]; exact Nat.succ_pos _)
  exact ⟨⟨b, off, c, b', off', c', _, rfl, h2, h3, c1, hc', hm', hl', hlen, fun _ => ⟨b, off, rfl, hlie⟩⟩, hb⟩
theorem hSealBad (tx : ByteArray) (av : Option Addr) (cv : Nat) (lr : List Int) (w : World) (htx : tx.size ≤ maxLen) (hat : AtQ IsI w av (List.replicate tx.size lr)) :
    Calls Tryd.prog 18 #[.string tx, .slice av tx.size cv, .int .i64 ((lr.length : Int) + 1)] w fun e w' => (∃ v k c, e = .returned (.tuple #[.slice v k c, errV (M.selE (bytesI tx) (List.replicate tx.size lr) ((lr.length : Int) + 1))])) ∧ Below w.heap.size w w' := by
  refine (sSeal tx av tx.size cv (List.replicate tx.size lr) ((lr.length : Int) + 1) w htx (by simp) htx hat).mono ?_
  rintro e w' ⟨⟨v, k, c, rfl, _⟩, hb⟩
  exact ⟨⟨v, k, c, rfl⟩, hb⟩
/-- all its shares open it -/
theorem hOpen (tx : ByteArray) (b off c : Nat) (lr : List Int) (w : World) (htx : tx.size ≤ maxLen) (h0 : 0 < tx.size) (hE : M.selE (bytesI tx) (List.replicate tx.size lr) ((lr.length : Int) + 1) = 0) (hat : AtQ IsP w (some ⟨b, off, none⟩) (M.selL (bytesI tx) (List.replicate tx.size lr) (lr.length + 1))) :
    Calls Tryd.prog 19 #[.slice (some ⟨b, off, none⟩) tx.size c, .int .i64 ((lr.length : Int) + 1)] w fun e w' => e = .returned (.tuple #[.string tx, .nilIface]) ∧ Below w.heap.size w w' := by
  have hbl := bytesI_len tx
  rw [← hbl] at hE hat
  obtain ⟨e1, e2⟩ := M.hidden_opens (bytesI_range tx) hE (by rw [hbl]; exact h0)
  have := sOpen (some ⟨b, off, none⟩) tx.size c _ ((lr.length : Int) + 1) w (by rw [M.selL_len _ (by simp), hbl]) htx hat
  rw [e1, e2, strOf_bytesI] at this
  exact this
/-- one fewer do not -/
theorem hFew (B : Nat) (a' : Option Addr) (n' c' : Nat) (l : List (Int × Int)) (m : Int) (w : World) (hc : w.cell? ⟨B, 0, none⟩ = some (.slice a' n' c')) (hn : n' = l.length) (hcc : n' ≤ c') (hm : c' ≤ maxLen) (hat : AtP w a' l) (hl : (l.length : Int) < m) :
    Calls Tryd.prog 19 #[.slice (some ⟨B, 0, none⟩) 1 1, .int .i64 m] w fun e w' => (∃ u E, e = .returned (.tuple #[.string u, .iface 64 (.int .i64 E)])) ∧ Below w.heap.size w w' := by
  refine (sOpen (some ⟨B, 0, none⟩) 1 1 [l] m w rfl (by unfold maxLen; decide) (fun _ => ⟨B, 0, rfl, fun i hi => by
    obtain rfl : i = 0 := by simpa using hi
    exact ⟨_, hc, a', n', c', rfl, hn, hcc, hm, hat⟩⟩)).mono ?_
  rintro e w' ⟨rfl, hb⟩
  exact ⟨⟨_, _, by rw [errV_bad (M.hidden_few hl)]⟩, hb⟩

/-- all but the first -/
theorem lie_one {w : World} {b off : Nat} {l : List (Int × Int)} (h : LieP w b off l) : LieP w b (off + 2) (l.drop 1) := fun i hi => by
  have hi' : 1 + i < l.length := by rw [List.length_drop] at hi; omega
  have e : off + 2 + i * 2 = off + (1 + i) * 2 := by omega
  rw [List.getElem_drop, e]
  exact h (1 + i) hi'

/-- the covered tuple is no tuple: nothing is asked -/
theorem walkBad (vt vl : Value) (lt : List M.Val) (a : Option Addr) (n cap : Nat) (s : List Int) (tx : ByteArray) (ar : Option Addr) (nr cr : Nat) (w : World) (h1 : IsVals w vt lt) (hn : n = s.length) (hm : n ≤ maxLen) (hs : AtI w a s) (ht : Tab w) (he : M.covE lt s ≠ 0) :
    Calls Tryd.prog 5 #[vt, vl, .slice a n cap, .string tx, .slice ar nr cr] w fun e w' => e = .returned (.bool true) ∧ Below w.heap.size w w' := by
  have H1 := hide (tOne w)
  have HX : Hid (∀ wx, Below w.heap.size w wx → Calls Tryd.prog 9 #[vt, .slice a n cap] wx fun e w' => (∃ v' E, e = .returned (.tuple #[v', .iface 64 (.int .i64 E)])) ∧ Below wx.heap.size wx w') := hide fun wx hb => by
    refine (cTuple vt lt a n cap s wx (h1.stays hb (Nat.le_refl _)) hn hm (hs.stays hb (Nat.le_refl _)) (ht.stays hb (Nat.le_refl _))).mono ?_
    rintro e w' ⟨v', rfl, _, h⟩
    exact ⟨⟨v', _, by rw [errV_bad he]⟩, h⟩
  clear h1 hn hm hs ht he
  go_enter Tryd.func5, Tryd.ntmps5
  go_wp2_with fail
  refine (unhide H1).mono ?_
  rintro e w1 ⟨rfl, hb1⟩
  have HB1 := hide hb1
  clear hb1
  go_wp2_with fail
  refine (HX.out _ HB1.out).mono ?_
  rintro e w2 ⟨⟨v', E, rfl⟩, hb2⟩
  have HB2 := hide (HB1.out.trans (hb2.mono HB1.out.size))
  clear hb2
  go_wp2_with fail
  go_ret
  exact ⟨rfl, HB2.out⟩

set_option maxRecDepth 100000 in
set_option maxHeartbeats 8000000 in
theorem walkOk (vt vl : Value) (lt ll : List M.Val) (a : Option Addr) (n cap : Nat) (s : List Int) (tx : ByteArray) (ar : Option Addr) (nr cr : Nat) (lr : List Int) (w : World) (h1 : IsVals w vt lt) (h2 : IsVals w vl ll) (hn : n = s.length) (hm : n ≤ maxLen) (hs : AtI w a s) (ht : Tab w) (he : M.covE lt s = 0)
    (htx : tx.size ≤ 1048576) (hnr : nr = lr.length) (hmr : nr ≤ 140737488351232) (hr : AtI w ar lr) (tr : Tidy ar nr cr) :
    Calls Tryd.prog 5 #[vt, vl, .slice a n cap, .string tx, .slice ar nr cr] w fun e w' => e = .returned (.bool true) ∧ Below w.heap.size w w' := by
  obtain ⟨i0, hi, hz0, hz1, hz2⟩ := info_parts infoL
  have HI := hide (And.intro hi (And.intro hz0 (And.intro hz1 hz2)))
  have H1 := hide (tOne w)
  obtain ⟨hf, hsh⟩ := M.covE_ok he
  obtain ⟨hsl, hsr⟩ := M.shwE_ok hsh
  have HX : Hid (∀ wx, Below w.heap.size w wx → Calls Tryd.prog 9 #[vt, .slice a n cap] wx fun e w' => ∃ v', e = .returned (.tuple #[v', .nilIface]) ∧ OwnT wx.heap.size w' v' (M.covL (M.numV 0) lt s) ∧ Below wx.heap.size wx w') := hide fun wx hb => by
    have := cTuple vt lt a n cap s wx (h1.stays hb (Nat.le_refl _)) hn hm (hs.stays hb (Nat.le_refl _)) (ht.stays hb (Nat.le_refl _))
    rwa [he, M.covR_ok he] at this
  have HP : Hid (∀ (wr : World) (S : Nat) (v x : Value), Sole w wr S v [] → IsVals wr x (M.covL (M.numV 0) lt s) → Calls Tryd.prog 16 #[.pointer (some ⟨S, 0, none⟩), x] wr fun e w' => e = .returned .nilIface ∧ ∃ v', Sole w w' S v' [M.covL (M.numV 0) lt s] ∧ Solid wr w') := hide fun wr S v x hS hx => by
    have := hS.put hx
    have e : M.putF [] (M.covL (M.numV 0) lt s) = 0 := putF_ok (M.cover_tup he) (by simp)
    rwa [e, putL_yes e] at this
  have HFT : Hid (∀ wx, Below w.heap.size w wx → Calls Tryd.prog 13 #[vl, vt] wx fun e w' => e = .returned (.tuple #[.bool (M.fitsB ll lt), errV (M.both (M.likeF ll) (M.tupF lt))]) ∧ Below wx.heap.size wx w') := hide fun wx hb => tfits vl vt ll lt wx (h2.stays hb (Nat.le_refl _)) (h1.stays hb (Nat.le_refl _))
  have HY : Hid (∀ wx, Below w.heap.size w wx → Calls Tryd.prog 12 #[vl, .slice a n cap] wx fun e w' => ∃ v', e = .returned (.tuple #[v', errV (M.askE ll s)]) ∧ OwnT wx.heap.size w' v' (M.askR ll s) ∧ Below wx.heap.size wx w') := hide fun wx hb => cLike vl ll a n cap s wx (h2.stays hb (Nat.le_refl _)) hn hm (hs.stays hb (Nat.le_refl _)) (ht.stays hb (Nat.le_refl _))
  have HGET : Hid (M.askE ll s = 0 → M.fitsB ll lt = true → M.getF (M.askR ll s) [M.covL (M.numV 0) lt s] = 0 ∧ M.getV (M.askR ll s) [M.covL (M.numV 0) lt s] = M.covL (M.numV 0) lt s) := hide fun hy hb => by
    rw [M.askR_ok hy]
    have hfa : M.fitAll ll lt = true := by
      unfold M.fitsB at hb
      rw [Bool.and_eq_true] at hb
      exact hb.2
    obtain ⟨e1, e2, _⟩ := get_alone (M.ask_like hy) (M.fit_cover hfa (M.tupF_parts hf).2 hsl hsr)
    exact ⟨e1, e2⟩
  have HSAME : Hid (∀ x y wx, IsVals wx x (M.covL (M.numV 0) lt s) → IsVals wx y (M.covL (M.numV 0) lt s) → Calls Tryd.prog 10 #[x, y] wx fun e w' => e = .returned (.bool true) ∧ Below wx.heap.size wx w') := hide fun x y wx hx hy => by
    have := tsame x y _ _ wx hx hy
    rwa [sameAll_self] at this
  have HISI : Hid (∀ wx, Below w.heap.size w wx → IsI wx (.slice ar nr cr) lr) := hide fun wx hb => ⟨ar, nr, cr, rfl, hnr, by unfold maxLen; omega, hr.stays hb (Nat.le_refl _), tr⟩
  have HNR := hide hnr
  generalize M.covL (M.numV 0) lt s = LX at HX HP HGET HSAME
  generalize M.askR ll s = LY at HY HGET
  generalize M.askE ll s = EA at HY HGET
  generalize M.fitsB ll lt = b1 at HFT HGET
  generalize M.both (M.likeF ll) (M.tupF lt) = EL at HFT
  clear h1 h2 hn hm hs ht he hf hsh hsl hsr hnr hr tr hi hz0 hz1 hz2
  go_enter Tryd.func5, Tryd.ntmps5
  go_wp2_with fail
  refine (unhide H1).mono ?_
  rintro e w1 ⟨rfl, hb1⟩
  have HB1 := hide hb1
  clear hb1 H1
  go_wp2_with fail
  refine (HX.out _ HB1.out).mono ?_
  rintro e w2 ⟨vx, rfl, hx, hb2⟩
  have HVX := hide (hx.mono HB1.out.size)
  have HB2 := hide (HB1.out.trans (hb2.mono HB1.out.size))
  clear hb2 hx HX HB1
  go_wp2_with fail
  refine (new _).mono ?_
  rintro e w3 ⟨rfl, hw3⟩
  have HS3 : Hid (Sole w w3 w2.heap.size (.slice none 0 0) []) := hide (by rw [hw3]; exact Sole.start HB2.out)
  have HVX3 : Hid (OwnT w.heap.size w3 vx LX) := hide (by rw [hw3]; exact HVX.out.solid (Solid.below ((Below.refl _ _).alloc (Nat.le_refl _) _)))
  obtain ⟨S, hS⟩ : ∃ S, S = w2.heap.size := ⟨_, rfl⟩
  rw [← hS] at HS3 ⊢
  clear hw3 HVX HB2 hS
  go_wp2_with fail
  refine (HP.out _ _ _ _ HS3.out HVX3.out.vals).mono ?_
  rintro e w4 ⟨rfl, v4, hs4, hsol4⟩
  have HS4 := hide hs4
  have HVX4 := hide (HVX3.out.solid hsol4)
  clear hs4 hsol4 HS3 HVX3 HP
  go_wp2_with fail
  refine (HFT.out _ HS4.out.bel).mono ?_
  rintro e w5 ⟨rfl, hb5⟩
  have HS5 := hide (HS4.out.quiet hb5)
  have HVX5 := hide (HVX4.out.solid (Solid.below hb5))
  clear hb5 HS4 HVX4 HFT
  go_wp2_with fail
  refine (HY.out _ HS5.out.bel).mono ?_
  rintro e w6 ⟨vy, rfl, hy, hb6⟩
  have HS6 := hide (HS5.out.quiet hb6)
  have HVX6 := hide (HVX5.out.solid (Solid.below hb6))
  have HVY := hide hy
  clear hb6 hy HS5 HVX5 HY
  go_upto_region 12 with fail
  go_cut [59] from 54 to 58 (fun c wx => c = .bool ((EL == 0) && (EA == 0)) ∧ wx = w6)
  case first =>
    cases hq : (EL == 0)
    · go_wp2_with fail
      go_meet
      case rel => exact ⟨by simp [hq], rfl⟩
    · go_wp2_with fail
      go_meet
      case rel => exact ⟨by simp [hq], rfl⟩
  case rest =>
    obtain ⟨rfl, hw⟩ := hcut
    obtain rfl := hw.symm
    go_upto_if 59 with fail
    go_cut [15, 18, 19] from 42 to 76 (fun si sg sf wx => ∃ (iv gv fv : Value) (W : World), iv = si ∧ gv = sg ∧ fv = sf ∧ W = wx ∧ Hid (Below w.heap.size w W))
    case first =>
      cases hc : ((EL == 0) && (EA == 0))
      · go_wp2_with fail
        go_meet
        case rel => exact ⟨_, _, _, _, rfl, rfl, rfl, rfl, hide HS6.out.bel⟩
      · have HEA : Hid (EA = 0) := hide (by rw [Bool.and_eq_true] at hc; simpa using hc.2)
        go_wp2_with fail
        refine (HS6.out.read HVY.out.vals).mono ?_
        rintro e w7 ⟨r, rfl, hr, hb7⟩
        have HR := hide hr
        have HB7 := hide (HS6.out.bel.trans (hb7.mono HS6.out.bel.size))
        have HVX7 := hide (HVX6.out.solid (Solid.below hb7))
        clear hr hb7
        cases b1
        · go_wp2_with fail
          go_meet
          case rel => exact ⟨_, _, _, _, rfl, rfl, rfl, rfl, HB7⟩
        · obtain ⟨g1, g2⟩ := HGET.out HEA.out rfl
          rw [g2] at HR
          have hg1 : (M.getF LY [LX] != 0) = false := by rw [g1]; rfl
          clear g1 g2
          generalize M.getF LY [LX] = G at hg1 ⊢
          go_wp2_with fail
          refine (HSAME.out _ _ _ HR.out.vals HVX7.out.vals).mono ?_
          rintro e w8 ⟨rfl, hb8⟩
          have HB8 := hide (HB7.out.trans (hb8.mono HB7.out.size))
          clear hb8
          go_wp2_with fail
          go_meet
          case rel => exact ⟨_, _, _, _, rfl, rfl, rfl, rfl, HB8⟩
    case rest =>
      obtain ⟨iv, gv, fv, W, rfl, rfl, rfl, rfl, hbW⟩ := hcut
      clear HS6 HVX6 HVY HGET HSAME
      go_wp2_with fail
      go_loopw [20, 21] (fun sx si wr => ∃ (v : Value) (k : Nat), v = sx ∧ si = .int .i64 k ∧ k ≤ tx.size ∧ Hid (wr.ownsRow W.heap.size 23 1 v k (List.replicate k (.slice ar nr cr))) ∧ Hid (Below W.heap.size W wr)) (fun _ si _ => tx.size - (intOf si).toNat)
      case atStart => exact ⟨_, 0, rfl, rfl, Nat.zero_le _, hide (World.ownsRow_nil _ _ _ _), hide (Below.refl _ _)⟩
      case round =>
        obtain ⟨v, k, rfl, rfl, hk, hrow, hbel⟩ := hrel
        by_cases hlt : k < tx.size
        · have HR := hide (hrow.out.alloc (.cells #[.slice ar nr cr] 23))
          have HNW := hide (news1 wr (.slice ar nr cr))
          have hz := hbel.out.size
          go_wp2_with (at_builtin; refine wpList_append_own _ rfl (.tmp 83) (.tmp 85) 39 rfl W.heap.size 23 i0 (.slice none 0 0) 1 24 Tryd.underlying39 HI.out.1 HI.out.2.1 HI.out.2.2.1 HI.out.2.2.2 rfl (by decide) v k (List.replicate k (.slice ar nr cr)) rfl HR.out ⟨wr.heap.size, 0, none⟩ 1 1 [.slice ar nr cr] rfl rfl HNW.out (fun u hu => by rw [List.mem_singleton.1 hu]; rfl) (by unfold maxLen; omega) (by omega) (Nat.le_trans hz (by simp)) ?_)
          intro v' w3 hown hgrow _
          rw [← List.replicate_succ'] at hown
          have HO := hide hown
          have HB3 := hide ((hbel.out.alloc hz _).grown hgrow (Nat.le_trans hz (by simp)) (fun j hj => (HR.out.lt j hj).1))
          clear hown hgrow
          go_wp2
          go_roundw
          case rel => exact ⟨v', k + 1, rfl, by go_num, by omega, HO, HB3⟩
          case measure => simp [intOf]; omega
        · have hkn : k = tx.size := by omega
          have HBR := hide (hbW.out.trans (hbel.out.mono hbW.out.size))
          obtain ⟨av, cv, hv, _, _, hatq⟩ := atQ_own (Q := IsI) (L := List.replicate k lr) (by rw [List.length_replicate]; exact hrow.out) (fun i h1 h2 => by rw [List.getElem_replicate, List.getElem_replicate]; exact HISI.out wr HBR.out)
          rw [List.length_replicate] at hv
          subst hv
          rw [hkn] at hatq ⊢
          have HAT := hide hatq
          have htm : tx.size ≤ maxLen := by unfold maxLen; omega
          have HTM := hide htm
          clear hrow hatq hkn hlt hk hbel hbW htm
          by_cases hE : M.selE (bytesI tx) (List.replicate tx.size lr) ((lr.length : Int) + 1) = 0
          · rcases Nat.eq_zero_or_pos tx.size with h0 | h0
            · have H0 := hide h0
              clear h0
              have HSL : Hid (Calls Tryd.prog 18 #[.string tx, .slice av tx.size cv, .int .i64 ((nr : Int) + 1)] wr fun e w' => (∃ v k c, e = .returned (.tuple #[.slice v k c, .nilIface])) ∧ Below wr.heap.size wr w') := hide (by
                have := hSealBad tx av cv lr wr HTM.out HAT.out
                rw [hE] at this
                rw [HNR.out]; exact this)
              clear hE
              go_wp2_with fail
              refine (unhide HSL).mono ?_
              rintro e w9 ⟨⟨v9, k9, c9, rfl⟩, hb9⟩
              have HB9 := hide (HBR.out.trans (hb9.mono HBR.out.size))
              have hz0 : ((tx.size : Int) == 0) = true := by have := H0.out; simp [this]
              clear hb9
              go_wp2_with fail
              go_ret
              exact ⟨rfl, HB9.out⟩
            · have HOP : Hid (∀ (b off c : Nat) wx, AtQ IsP wx (some ⟨b, off, none⟩) (M.selL (bytesI tx) (List.replicate tx.size lr) (lr.length + 1)) → Calls Tryd.prog 19 #[.slice (some ⟨b, off, none⟩) tx.size c, .int .i64 ((nr : Int) + 1)] wx fun e w' => e = .returned (.tuple #[.string tx, .nilIface]) ∧ Below wx.heap.size wx w') := hide fun b off c wx hq => by
                have := hOpen tx b off c lr wx HTM.out h0 hE hq
                rw [HNR.out]; exact this
              obtain ⟨K, hK⟩ : ∃ K, K = nr + 1 := ⟨_, rfl⟩
              have HSL : Hid (Calls Tryd.prog 18 #[.string tx, .slice av tx.size cv, .int .i64 ((nr : Int) + 1)] wr fun e w' => (∃ b off c b' off' c' l0, e = .returned (.tuple #[.slice (some ⟨b, off, none⟩) tx.size c, .nilIface]) ∧ tx.size ≤ c ∧ c ≤ maxLen ∧ w'.cell? ⟨b, off, none⟩ = some (.slice (some ⟨b', off', none⟩) K c') ∧ K ≤ c' ∧ c' ≤ maxLen ∧ LieP w' b' off' l0 ∧ l0.length = K ∧ AtQ IsP w' (some ⟨b, off, none⟩) (M.selL (bytesI tx) (List.replicate tx.size lr) (lr.length + 1))) ∧ Below wr.heap.size wr w') := hide (by
                have := hSeal tx av cv lr wr HTM.out HAT.out h0 hE
                rw [hK, HNR.out]; exact this)
              have hz0 : ((tx.size : Int) == 0) = false := by rw [beq_eq_false_iff_ne]; omega
              have ht0 : (0 : Int) < (tx.size : Int) := by omega
              have HK := hide hK
              have hK1 : 1 ≤ K := by omega
              generalize M.selL (bytesI tx) (List.replicate tx.size lr) (lr.length + 1) = LL at HOP HSL
              clear hE h0 hK
              go_wp2_with fail
              refine (unhide HSL).mono ?_
              rintro e w9 ⟨⟨b, off, c, b', off', c', l0, rfl, hc1, hc2, d1, hc3, hc4, hl0, hlen, hatq⟩, hb9⟩
              have HATQ := hide hatq
              have HL0 := hide hl0
              have HLEN := hide hlen
              have HB9 := hide (HBR.out.trans (hb9.mono HBR.out.size))
              unfold maxLen at hc2 hc4
              clear hb9 hatq hl0 hlen
              go_wp2_with fail
              refine (HOP.out _ _ _ _ HATQ.out).mono ?_
              rintro e w10 ⟨rfl, hb10⟩
              have d2 : w10.cell? ⟨b, off, none⟩ = some (.slice (some ⟨b', off', none⟩) K c') := (hb10.cell (p := ⟨b, off, none⟩) (World.block_lt_of_cell? w9 _ d1)).trans d1
              have HL10 := hide (HL0.out.stays hb10 (Nat.le_refl _))
              have HB10 := hide (HB9.out.trans (hb10.mono HB9.out.size))
              have kc : (K : Int) ≤ (c' : Int) := by omega
              have k1 : (1 : Int) ≤ (K : Int) := by omega
              have hlt : Hid ((((l0.drop 1).length : Nat) : Int) < (nr : Int) + 1) := hide (by
                have h1 := HLEN.out
                have h2 := HK.out
                rw [List.length_drop]; omega)
              clear hb10 d1 HL0 HATQ HOP
              by_cases hq : c' = 1
              · have hK2 : K = 1 := by omega
                subst hq
                subst hK2
                have HF := hide (hFew w10.heap.size (some ⟨b', off', none⟩) 0 0 (l0.drop 1) ((nr : Int) + 1) (w10.alloc (.cells #[.slice (some ⟨b', off', none⟩) 0 0] 45)) (by simp [go_sem]) (by rw [List.length_drop, HLEN.out]) (Nat.le_refl _) (Nat.zero_le _) (fun h => absurd h (by rw [List.length_drop, HLEN.out]; decide)) hlt.out)
                go_wp2_with fail
                refine (unhide HF).mono ?_
                rintro e w11 ⟨⟨u11, E11, rfl⟩, hb11⟩
                have HB11 := hide ((HB10.out.alloc HB10.out.size _).trans (hb11.mono (Nat.le_trans HB10.out.size (by simp))))
                clear hb11
                go_wp2_with fail
                go_ret
                exact ⟨by simp, HB11.out⟩
              · have hq1 : ¬ c' - 1 = 0 := by omega
                have HF := hide (hFew w10.heap.size (some ⟨b', off' + 2, none⟩) (K - 1) (c' - 1) (l0.drop 1) ((nr : Int) + 1) (w10.alloc (.cells #[.slice (some ⟨b', off' + 2, none⟩) (K - 1) (c' - 1)] 45)) (by simp [go_sem]) (by rw [List.length_drop, HLEN.out]) (by omega) (by unfold maxLen; omega) (fun _ => ⟨b', off' + 2, rfl, lie_one (HL10.out.stays ((Below.refl _ _).alloc (Nat.le_refl _) _) (Nat.le_refl _))⟩) hlt.out)
                go_wp2_with fail
                refine (unhide HF).mono ?_
                rintro e w11 ⟨⟨u11, E11, rfl⟩, hb11⟩
                have HB11 := hide ((HB10.out.alloc HB10.out.size _).trans (hb11.mono (Nat.le_trans HB10.out.size (by simp))))
                clear hb11
                go_wp2_with fail
                go_ret
                exact ⟨by simp, HB11.out⟩
          · have HSL : Hid (Calls Tryd.prog 18 #[.string tx, .slice av tx.size cv, .int .i64 ((nr : Int) + 1)] wr fun e w' => (∃ v k c E, e = .returned (.tuple #[.slice v k c, .iface 64 (.int .i64 E)])) ∧ Below wr.heap.size wr w') := hide (by
              have := hSealBad tx av cv lr wr HTM.out HAT.out
              rw [errV_bad hE] at this
              rw [HNR.out]
              refine this.mono ?_
              rintro e w' ⟨⟨v, k, c, rfl⟩, hb⟩
              exact ⟨⟨v, k, c, _, rfl⟩, hb⟩)
            clear hE
            go_wp2_with fail
            refine (unhide HSL).mono ?_
            rintro e w9 ⟨⟨v9, k9, c9, E9, rfl⟩, hb9⟩
            have HB9 := hide (HBR.out.trans (hb9.mono HBR.out.size))
            clear hb9
            go_wp2_with fail
            go_ret
            exact ⟨rfl, HB9.out⟩

theorem walk (vt vl : Value) (lt ll : List M.Val) (a : Option Addr) (n cap : Nat) (s : List Int) (tx : ByteArray) (ar : Option Addr) (nr cr : Nat) (lr : List Int) (w : World) (h1 : IsVals w vt lt) (h2 : IsVals w vl ll) (hn : n = s.length) (hm : n ≤ maxLen) (hs : AtI w a s) (ht : Tab w)
    (htx : tx.size ≤ 1048576) (hnr : nr = lr.length) (hmr : nr ≤ 140737488351232) (hr : AtI w ar lr) (tr : Tidy ar nr cr) :
    Calls Tryd.prog 5 #[vt, vl, .slice a n cap, .string tx, .slice ar nr cr] w fun e w' => e = .returned (.bool true) ∧ Below w.heap.size w w' := by
  by_cases he : M.covE lt s = 0
  · exact walkOk vt vl lt ll a n cap s tx ar nr cr lr w h1 h2 hn hm hs ht he htx hnr hmr hr tr
  · exact walkBad vt vl lt a n cap s tx ar nr cr w h1 hn hm hs ht he

end Go.Proofs.YtlefhfmckimlaagDoor.topHidden
