/-
  The words of a line as they lie in memory, and what tuples and numbers of package run make of them: a line's error if one cannot be read, or all of them.
-/
import Derived.Test.YtlefhfmckimlaakGreatDoorRunWords
import Derived.Test.YtlefhfmckimlaakGreatDoorRunErr
import Derived.Test.YtlefhfmckimlaakGreatDoorJTupP
import Derived.Test.YtlefhfmckimlaakGreatDoorJSpace
import Derived.Test.YtlefhfmckimlaakGreatDoorJSp
import Derived.Test.YtlefhfmckimlaakGreatDoorJPrint
import Derived.Test.YtlefhfmckimlaakGreatDoorJOwn
set_option linter.unusedVariables false
namespace Go.Proofs.YtlefhfmckimlaakGreatDoor
open Go.RowKit

/-- words in memory, one behind the other -/
def Wds (w : World) (b off : Nat) (ws : List ByteArray) : Prop := ∀ i (h : i < ws.length), w.cell? ⟨b, off + i, none⟩ = some (.string ws[i])
theorem Wds.stays {w w' : World} {b off B : Nat} {ws : List ByteArray} (h : Wds w b off ws) (hb : Below B w w') (hB : w.heap.size ≤ B) : Wds w' b off ws := fun i hi => by
  have g := h i hi
  exact (hb.cell (p := ⟨b, off + i, none⟩) (Nat.lt_of_lt_of_le (World.block_lt_of_cell? w _ g) hB)).trans g
/-- a line's error -/
abbrev lineV (n : Int) : Value := .iface 219 (.agg #[.iface 87 (.int .i64 n)])
/-- what the words are read as -/
def readAll (ws : List ByteArray) : List (List M.Val) := ws.map fun s => M.readV s.data.toList
theorem readAll_take {ws : List ByteArray} {k : Nat} (h : k < ws.length) : readAll (ws.take (k + 1)) = readAll (ws.take k) ++ [M.readV ws[k].data.toList] := by
  unfold readAll
  rw [List.take_succ_eq_append_getElem h, List.map_append]; rfl
theorem readAll_len (ws : List ByteArray) : (readAll ws).length = ws.length := by simp [readAll]
theorem OwnT.shape {B : Nat} {w : World} {v : Value} {l : List M.Val} (h : OwnT B w v l) : ∃ ao cap, v = .slice ao l.length cap :=
  h.1.2.elim (fun ⟨hv, hn⟩ => ⟨none, 0, by rw [hv, hn]⟩) (fun ⟨_, cap, _, hv, _⟩ => ⟨_, cap, hv⟩)
theorem RowOf.solidT {base B : Nat} {w w' : World} {v : Value} {L : List (List M.Val)} (h : RowOf (OwnT B w) base w v L) (hb : Below w.heap.size w w') : RowOf (OwnT B w') base w' v L :=
  (h.below hb).mono fun _ _ ho => ho.solid (Solid.below hb)

set_option maxRecDepth 100000 in
set_option maxHeartbeats 1000000 in
theorem rTuples (b off cap n : Nat) (ws : List ByteArray) (w : World) (hn : n = ws.length) (h3 : n ≤ 3) (hl : Wds w b off ws) (hz : ∀ s ∈ ws, s.size ≤ 3000) :
    Calls Tryz.prog 141 #[.slice (some ⟨b, off, none⟩) n cap] w fun e w' =>
      ((∃ x, e = .returned (.tuple #[.slice none 0 0, lineV x]) ∧ ∃ s ∈ ws, M.readE s.data.toList ≠ 0) ∨
       (∃ ao c, e = .returned (.tuple #[.slice ao n c, .nilIface]) ∧ (∀ s ∈ ws, M.readE s.data.toList = 0) ∧ RowOf (OwnT w.heap.size w') w.heap.size w' (.slice ao n c) (readAll ws))) ∧ Below w.heap.size w w' := by
  obtain ⟨i0, hi, hz0, hz1, hz2⟩ := info_parts infoT
  have HI := hide (And.intro hi (And.intro hz0 (And.intro hz1 hz2)))
  have HL := hide hl
  have HZ := hide hz
  have HN := hide hn
  clear hi hz0 hz1 hz2 hl hz hn
  go_enter Tryz.func141, Tryz.ntmps141
  go_wp2_with fail
  go_loopw [4, 11] (fun sv si wr => ∃ (ao : Option Addr) (c k : Nat), sv = .slice ao k c ∧ si = .int .i64 k ∧ k ≤ n ∧ Hid (∀ s ∈ ws.take k, M.readE s.data.toList = 0) ∧ Hid (RowOf (OwnT w.heap.size wr) w.heap.size wr (.slice ao k c) (readAll (ws.take k))) ∧ Hid (Below w.heap.size w wr)) (fun _ si _ => n - (intOf si).toNat)
  case atStart => exact ⟨none, 0, 0, rfl, rfl, Nat.zero_le _, hide (by simp), hide (RowOf.nil _ _ _), hide (Below.refl _ _)⟩
  case round =>
    obtain ⟨ao, c, k, rfl, rfl, hk, HE, HR, HB⟩ := hrel
    have hsz := HB.out.size
    have k0 : (0 : Int) ≤ (k : Int) := by omega
    by_cases hlt : k < n
    · have k1 : (k : Int) < (n : Int) := by omega
      have hk2 : k < ws.length := by rw [← HN.out]; exact hlt
      obtain ⟨s, HS, hc⟩ : ∃ s, Hid (s = ws[k]'hk2) ∧ wr.cell? ⟨b, off + k, none⟩ = some (.string s) := ⟨_, hide rfl, (HL.out.stays HB.out (Nat.le_refl _)) k hk2⟩
      have HP := hide (tparseO s wr (by rw [HS.out]; have := HZ.out _ (List.getElem_mem hk2); unfold maxLen; omega))
      by_cases he : M.readE s.data.toList = 0
      · rw [he, show errV 0 = .nilIface from rfl] at HP
        have HK := hide he
        have HK2 := hide hk2
        clear he
        go_wp2_with fail
        refine (unhide HP).mono ?_
        rintro e w1 ⟨⟨v1, rfl, ho1, hz1⟩, hb1⟩
        have HO1 : Hid (OwnT wr.heap.size w1 v1 (M.readV s.data.toList)) := hide ⟨ho1, hz1⟩
        obtain ⟨a1, c1, rfl⟩ := HO1.out.shape
        have HB1 := hide hb1
        have hsz1 := hb1.size
        have HBA : Hid (Below w1.heap.size w1 (w1.alloc (.cells #[.slice a1 (M.readV s.data.toList).length c1] 32))) := hide ((Below.refl _ _).alloc (Nat.le_refl _) _)
        have HRA := hide ((HR.out.solidT HB1.out).solidT HBA.out)
        have HOA := hide (HO1.out.solid (Solid.below HBA.out))
        obtain ⟨xs, hx1, hx2⟩ := HRA.out
        have hrl : (readAll (ws.take k)).length = k := by rw [readAll_len, List.length_take]; have := HK2.out; omega
        rw [hrl] at hx1
        have HX := hide hx1
        have HX2 := hide hx2
        have HNEW : Hid (∀ j u, [Value.slice a1 (M.readV s.data.toList).length c1][j]? = some u → (w1.alloc (.cells #[.slice a1 (M.readV s.data.toList).length c1] 32)).cell? ((⟨w1.heap.size, 0, none⟩ : Addr).add j) = some u) := hide (World.news_of_block (heap_alloc_new w1 _))
        have HBW := hide (HB.out.trans (HB1.out.mono hsz))
        have HLEN := hide hrl
        clear ho1 hz1 hb1 hx1 hx2 hrl
        generalize hq : (M.readV s.data.toList).length = q at *
        have HQ := hide hq
        clear hq
        dsimp only
        go_wp2_with (at_builtin; (refine wpList_append_own _ rfl (.tmp 25) (.tmp 27) 76 rfl w.heap.size 32 i0 (.slice none 0 0) 1 24 Tryz.underlying76 HI.out.1 HI.out.2.1 HI.out.2.2.1 HI.out.2.2.2 rfl (by decide) (.slice ao k c) k xs rfl HX.out ⟨w1.heap.size, 0, none⟩ 1 1 [.slice a1 q c1] rfl rfl HNEW.out (by simp [Value.oneCell']) (by unfold maxLen; omega) (by omega) (by simp; omega) ?_))
        intro v' w3 hown' hgrow _
        obtain ⟨a3, c3, rfl⟩ := slice_own hown'
        have HR3 : Hid (RowOf (OwnT w.heap.size w3) w.heap.size w3 (.slice a3 (k + 1) c3) (readAll (ws.take (k + 1)))) := hide (by
          rw [readAll_take HK2.out]
          have hsol := solid_grown HX.out hgrow
          have h1 := RowOf.snoc (L := readAll (ws.take k)) (l := M.readV s.data.toList) HX2.out (by have := HX.out.1; rw [HLEN.out]; omega) (by rw [HLEN.out]; exact hown') (HOA.out.mono hsz)
          rw [HS.out] at h1
          exact h1.mono fun _ _ ho => ho.solid hsol)
        have HB3 := hide ((HBW.out.alloc (by omega) _).grown hgrow (by simp; omega) (fun j hj => (HX.out.lt j hj).1))
        have HE3 : Hid (∀ s ∈ ws.take (k + 1), M.readE s.data.toList = 0) := hide fun s' hs' => by
          rw [List.take_succ_eq_append_getElem HK2.out] at hs'
          rcases List.mem_append.1 hs' with h | h
          · exact HE.out s' h
          · rw [List.mem_singleton.1 h, ← HS.out]; exact HK.out
        clear hown' hgrow
        go_wp2_with fail
        go_roundw
        case rel => exact ⟨a3, c3, k + 1, rfl, by go_num, by omega, HE3, HR3, HB3⟩
        case measure => simp [intOf]; omega
      · rw [errV_bad he] at HP
        have HX : Hid (∃ s ∈ ws, M.readE s.data.toList ≠ 0) := hide ⟨s, by rw [HS.out]; exact List.getElem_mem hk2, he⟩
        generalize M.readE s.data.toList = E at *
        clear he
        go_wp2_with fail
        refine (unhide HP).mono ?_
        rintro e w1 ⟨⟨v1, rfl, _, _⟩, hb1⟩
        have HBW := hide (HB.out.trans (hb1.mono hsz))
        clear hb1
        dsimp only
        go_wp2_with fail
        go_ret2
        exact ⟨Or.inl ⟨_, rfl, HX.out⟩, HBW.out⟩
    · have hkn : k = n := by omega
      subst hkn
      have k1 : ¬ (k : Int) < (k : Int) := by omega
      have e2 : ws.take k = ws := List.take_of_length_le (by have := HN.out; omega)
      rw [e2] at HE HR
      go_wp2_with fail
      go_ret2
      exact ⟨Or.inr ⟨_, _, rfl, HE.out, HR.out⟩, HB.out⟩

/-- the variables that the library names in its errors of numbers -/
def Errs (w : World) : Prop := (∃ t p, w.cell? ⟨3, 0, none⟩ = some (.iface t p)) ∧ ∃ t p, w.cell? ⟨4, 0, none⟩ = some (.iface t p)
theorem Errs.stays {w w' : World} {B : Nat} (h : Errs w) (hb : Below B w w') (hB : w.heap.size ≤ B) : Errs w' := by
  obtain ⟨⟨t, p, h1⟩, ⟨t2, p2, h2⟩⟩ := h
  exact ⟨⟨t, p, (hb.cell (p := ⟨3, 0, none⟩) (Nat.lt_of_lt_of_le (World.block_lt_of_cell? w _ h1) hB)).trans h1⟩, ⟨t2, p2, (hb.cell (p := ⟨4, 0, none⟩) (Nat.lt_of_lt_of_le (World.block_lt_of_cell? w _ h2) hB)).trans h2⟩⟩
/-- what the program's text lays in variables: the table, the error type, the errors of numbers -/
structure Env (w : World) : Prop where
  tab : Tab w
  hand : Hand w
  errs : Errs w
theorem Env.stays {w w' : World} {B : Nat} (h : Env w) (hb : Below B w w') (hB : w.heap.size ≤ B) : Env w' := ⟨h.tab.stays hb hB, hand_stays h.hand hb hB, h.errs.stays hb hB⟩

theorem atoiYes (s : ByteArray) (n : Int) (w : World) (hs : s.size ≤ 3000) (h : Lib.atoiAll s.data.toList = .ok n) :
    Calls Tryz.prog 130 #[.string s] w fun e w' => e = .returned (.tuple #[.int .i64 n, .nilIface]) ∧ Below w.heap.size w w' := by
  refine (Tryz.strconv_Atoi_ok s (by omega) n h w).mono ?_
  rintro e w' ⟨rfl, hw⟩
  refine ⟨rfl, ?_⟩
  rcases hw with rfl | ⟨t, rfl⟩
  · exact Below.refl _ _
  · exact Lib.bytesWorld_below _ _ _
theorem atoiNo (s : ByteArray) (w : World) (hs : s.size ≤ 3000) (hE : Errs w) (h : ∀ n, Lib.atoiAll s.data.toList ≠ .ok n) :
    Calls Tryz.prog 130 #[.string s] w fun e w' => ∃ n t N, e = .returned (.tuple #[.int .i64 n, .iface t (.pointer (some ⟨N, 0, none⟩))]) ∧ Below w.heap.size w w' := by
  obtain ⟨⟨t1, p1, h1⟩, ⟨t2, p2, h2⟩⟩ := hE
  cases ha : Lib.atoiAll s.data.toList with
  | ok n => exact absurd ha (h n)
  | «syntax» =>
    refine (Tryz.strconv_Atoi_syntax s (by omega) ha _ w h1 (Or.inr ⟨_, _, rfl⟩)).mono ?_
    rintro e w' ⟨N, rfl, _, _, hb⟩
    exact ⟨_, _, N, rfl, hb⟩
  | range =>
    refine (Tryz.strconv_Atoi_range s (by omega) ha _ w h2 (Or.inr ⟨_, _, rfl⟩)).mono ?_
    rintro e w' ⟨N, rfl, _, _, hb⟩
    exact ⟨_, _, N, rfl, hb⟩

set_option maxRecDepth 100000 in
set_option maxHeartbeats 1000000 in
theorem rNumbers (b off cap n : Nat) (ws : List ByteArray) (w : World) (hn : n = ws.length) (h3 : n ≤ 3) (hl : Wds w b off ws) (hz : ∀ s ∈ ws, s.size ≤ 3000) (hv : Env w) :
    Calls Tryz.prog 147 #[.slice (some ⟨b, off, none⟩) n cap] w fun e w' =>
      ((∃ x, e = .returned (.tuple #[.slice none 0 0, lineV x]) ∧ ∃ s ∈ ws, M.numB s.data.toList = false) ∨
       (∃ ao c, e = .returned (.tuple #[.slice ao n c, .nilIface]) ∧ (∀ s ∈ ws, M.numB s.data.toList = true) ∧ w'.ownsRow w.heap.size 3 1 (.slice ao n c) n (cellsI (ws.map fun s => M.numI s.data.toList)))) ∧ Below w.heap.size w w' := by
  obtain ⟨i0, hi, hz0, hz1, hz2⟩ := info_parts infoInt
  have HI := hide (And.intro hi (And.intro hz0 (And.intro hz1 hz2)))
  have HL := hide hl
  have HZ := hide hz
  have HN := hide hn
  have HV := hide hv
  clear hi hz0 hz1 hz2 hl hz hn hv
  go_enter Tryz.func147, Tryz.ntmps147
  go_wp2_with fail
  go_loopw [4, 11] (fun sv si wr => ∃ (ao : Option Addr) (c k : Nat), sv = .slice ao k c ∧ si = .int .i64 k ∧ k ≤ n ∧ Hid (∀ s ∈ ws.take k, M.numB s.data.toList = true) ∧ Hid (wr.ownsRow w.heap.size 3 1 (.slice ao k c) k (cellsI ((ws.take k).map fun s => M.numI s.data.toList))) ∧ Hid (Below w.heap.size w wr)) (fun _ si _ => n - (intOf si).toNat)
  case atStart => exact ⟨none, 0, 0, rfl, rfl, Nat.zero_le _, hide (by simp), hide (World.ownsRow_nil _ _ _ _), hide (Below.refl _ _)⟩
  case round =>
    obtain ⟨ao, c, k, rfl, rfl, hk, HE, HR, HB⟩ := hrel
    have hsz := HB.out.size
    have k0 : (0 : Int) ≤ (k : Int) := by omega
    by_cases hlt : k < n
    · have k1 : (k : Int) < (n : Int) := by omega
      have hk2 : k < ws.length := by rw [← HN.out]; exact hlt
      obtain ⟨s, HS, hc⟩ : ∃ s, Hid (s = ws[k]'hk2) ∧ wr.cell? ⟨b, off + k, none⟩ = some (.string s) := ⟨_, hide rfl, (HL.out.stays HB.out (Nat.le_refl _)) k hk2⟩
      have hs3 : s.size ≤ 3000 := by rw [HS.out]; exact HZ.out _ (List.getElem_mem hk2)
      have hsl : s.size = s.data.toList.length := Lib.size_eq s
      have hmem : s ∈ ws := by rw [HS.out]; exact List.getElem_mem hk2
      have HVr := hide (HV.out.stays HB.out (Nat.le_refl _))
      have HK2 := hide hk2
      have HBAD : Hid (M.numB s.data.toList = false → ∃ s ∈ ws, M.numB s.data.toList = false) := hide fun h => ⟨s, hmem, h⟩
      by_cases ha : ∃ m, Lib.atoiAll s.data.toList = .ok m
      · obtain ⟨m, ha⟩ := ha
        have HP := hide (atoiYes s m wr hs3 ha)
        obtain ⟨mb0, mb1⟩ := Lib.atoiAll_bounds ha
        have HIT : Hid (∀ wx, Below wr.heap.size wr wx → Calls Tryz.prog 82 #[.int .i64 m] wx fun e w' => e = .returned (.string ⟨(Lib.itoa m).toArray⟩) ∧ Below wx.heap.size wx w') := hide fun wx hb => by
          refine (Tryz.strconv_Itoa m mb0 mb1 wx (HVr.out.tab.stays hb (Nat.le_refl _))).mono ?_
          rintro e w' ⟨rfl, k, os, rfl⟩
          exact ⟨rfl, grown _ _ _⟩
        by_cases hb : M.numB s.data.toList = true
        · obtain ⟨y1, y2, y3, y4, y5⟩ := M.num_yes hb
          have hm : m = M.numI s.data.toList := by rw [ha] at y1; exact (Lib.NumEnd.ok.inj y1)
          have HM := hide hm
          rw [← hm] at y2 y4
          have g1 : ¬ m < 0 := by omega
          have g2 : ¬ (4 : Int) < (s.size : Int) := by omega
          have g3 : (⟨(Lib.itoa m).toArray⟩ : ByteArray) = s := by rw [y4]
          rw [g3] at HIT
          have HY := hide hb
          clear hm y1 y2 y3 y4 y5 ha hb mb0 mb1 hsl hmem
          go_wp2_with fail
          refine (unhide HP).mono ?_
          rintro e w1 ⟨rfl, hb1⟩
          have HB1 := hide hb1
          clear hb1
          dsimp only
          go_wp2_with fail
          refine (HIT.out _ HB1.out).mono ?_
          rintro e w2 ⟨rfl, hb2⟩
          have HB2 := hide (HB1.out.trans (hb2.mono HB1.out.size))
          have HBW := hide (HB.out.trans (HB2.out.mono hsz))
          have hsz2 := HB2.out.size
          have HX := hide ((owns_below HR.out HB2.out).alloc (.cells #[.int .i64 m] 3))
          have HNEW : Hid (∀ j u, [Value.int .i64 m][j]? = some u → (w2.alloc (.cells #[.int .i64 m] 3)).cell? ((⟨w2.heap.size, 0, none⟩ : Addr).add j) = some u) := hide (World.news_of_block (heap_alloc_new w2 _))
          clear hb2
          dsimp only
          go_wp2_with (at_builtin; (refine wpList_append_own _ rfl (.tmp 40) (.tmp 42) 24 rfl w.heap.size 3 i0 (.int .i64 0) 1 8 Tryz.underlying24 HI.out.1 HI.out.2.1 HI.out.2.2.1 HI.out.2.2.2 rfl (by decide) (.slice ao k c) k _ rfl HX.out ⟨w2.heap.size, 0, none⟩ 1 1 [.int .i64 m] rfl rfl HNEW.out (by simp [Value.oneCell']) (by unfold maxLen; omega) (by omega) (by simp; omega) ?_))
          intro v' w3 hown' hgrow _
          obtain ⟨a3, c3, rfl⟩ := slice_own hown'
          have HR3 : Hid (w3.ownsRow w.heap.size 3 1 (.slice a3 (k + 1) c3) (k + 1) (cellsI ((ws.take (k + 1)).map fun s => M.numI s.data.toList))) := hide (by
            rw [List.take_succ_eq_append_getElem HK2.out, List.map_append]
            have : cellsI ((ws.take k).map (fun s => M.numI s.data.toList) ++ [ws[k]'HK2.out].map fun s => M.numI s.data.toList) = cellsI ((ws.take k).map fun s => M.numI s.data.toList) ++ [.int .i64 m] := by
              rw [HM.out, HS.out]
              simp [cellsI]
            rw [this]
            first | exact hown' | (rw [List.map_take]; exact hown'))
          have HB3 := hide ((HBW.out.alloc (by omega) _).grown hgrow (by simp; omega) (fun j hj => (HX.out.lt j hj).1))
          have HE3 : Hid (∀ s ∈ ws.take (k + 1), M.numB s.data.toList = true) := hide fun s' hs' => by
            rw [List.take_succ_eq_append_getElem HK2.out] at hs'
            rcases List.mem_append.1 hs' with h | h
            · exact HE.out s' h
            · rw [List.mem_singleton.1 h, ← HS.out]; exact HY.out
          clear hown' hgrow
          go_wp2_with fail
          go_roundw
          case rel => exact ⟨a3, c3, k + 1, rfl, by go_num, by omega, HE3, HR3, HB3⟩
          case measure => simp [intOf]; omega
        · have hbf : M.numB s.data.toList = false := by simpa using hb
          have HX := hide (HBAD.out hbf)
          by_cases g1 : m < 0
          · clear hb ha hsl hmem
            go_wp2_with fail
            refine (unhide HP).mono ?_
            rintro e w1 ⟨rfl, hb1⟩
            have HBW := hide (HB.out.trans (hb1.mono hsz))
            clear hb1
            dsimp only
            go_wp2_with fail
            go_ret2
            exact ⟨Or.inl ⟨_, rfl, HX.out⟩, HBW.out⟩
          · by_cases g2 : (4 : Int) < (s.size : Int)
            · clear hb ha hsl hmem
              go_wp2_with fail
              refine (unhide HP).mono ?_
              rintro e w1 ⟨rfl, hb1⟩
              have HBW := hide (HB.out.trans (hb1.mono hsz))
              clear hb1
              dsimp only
              go_wp2_with fail
              go_ret2
              exact ⟨Or.inl ⟨_, rfl, HX.out⟩, HBW.out⟩
            · have g3 : ((⟨(Lib.itoa m).toArray⟩ : ByteArray).toList == s.toList) = false := by
                apply beq_eq_false_iff_ne.2
                intro h
                rw [Lib.toList_data, Lib.toList_data] at h
                exact M.num_no hbf (by omega) (by omega) h
              generalize (⟨(Lib.itoa m).toArray⟩ : ByteArray) = z at *
              clear hb ha hsl hmem hbf
              go_wp2_with fail
              refine (unhide HP).mono ?_
              rintro e w1 ⟨rfl, hb1⟩
              have HB1 := hide hb1
              clear hb1
              dsimp only
              go_wp2_with fail
              refine (HIT.out _ HB1.out).mono ?_
              rintro e w2 ⟨rfl, hb2⟩
              have HBW := hide (HB.out.trans ((HB1.out.trans (hb2.mono HB1.out.size)).mono hsz))
              clear hb2
              dsimp only
              go_wp2_with fail
              go_ret2
              exact ⟨Or.inl ⟨_, rfl, HX.out⟩, HBW.out⟩
      · have hbf : M.numB s.data.toList = false := by
          cases hb : M.numB s.data.toList
          · rfl
          · exact absurd ⟨_, (M.num_yes hb).1⟩ ha
        have HX := hide (HBAD.out hbf)
        have HP := hide (atoiNo s wr hs3 HVr.out.errs (fun n h => ha ⟨n, h⟩))
        clear ha hbf hsl hmem
        go_wp2_with fail
        refine (unhide HP).mono ?_
        rintro e w1 ⟨m, t1, N1, rfl, hb1⟩
        have HBW := hide (HB.out.trans (hb1.mono hsz))
        clear hb1
        dsimp only
        go_wp2_with fail
        go_ret2
        exact ⟨Or.inl ⟨_, rfl, HX.out⟩, HBW.out⟩
    · have hkn : k = n := by omega
      subst hkn
      have k1 : ¬ (k : Int) < (k : Int) := by omega
      have e2 : ws.take k = ws := List.take_of_length_le (by have := HN.out; omega)
      rw [e2] at HE HR
      go_wp2_with fail
      go_ret2
      exact ⟨Or.inr ⟨_, _, rfl, HE.out, HR.out⟩, HB.out⟩

end Go.Proofs.YtlefhfmckimlaakGreatDoor
