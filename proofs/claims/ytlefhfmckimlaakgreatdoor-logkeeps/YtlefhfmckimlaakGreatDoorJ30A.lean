/-
  What Faults, Win and Most of package vote do, each as one law of its call.
  What New and Need of package crowd do, each as one law of its call.
-/
import Derived.Test.YtlefhfmckimlaakGreatDoorJ3A
import Derived.Test.YtlefhfmckimlaakGreatDoorJ29A
import Derived.Test.YtlefhfmckimlaakGreatDoorShelf
import Derived.Deep.AppendLies
set_option linter.unusedVariables false
namespace Go.Proofs.YtlefhfmckimlaakGreatDoor
open Go.RowKit Go.WideMaps Go.Maps

theorem lawS : Keyed Tryz.prog 9 := string_keyed Tryz.underlying9
theorem zeroI (w : World) : (zeroValue 3).run Tryz.prog w = .ok (.int .i64 0) w := by kernel_rfl

/-- a copy of a text -/
theorem cloneT (s : ByteArray) (w : World) (hs : s.size ≤ 281474976710656) : Calls Tryz.prog 61 #[.string s] w fun e w' => e = .returned (.string s) ∧ Below w.heap.size w w' := by
  go_enter Tryz.func61, Tryz.ntmps61
  go_wp2_with fail
  refine (Tryz.stringslite_Clone s _ hs).mono ?_
  rintro e w1 ⟨rfl, hb⟩
  go_wp2_with fail
  go_ret
  exact ⟨rfl, hb⟩

theorem isCopies_no (n : Int) (w : World) (h : n < 1 ∨ 7 < n) : Calls Tryz.prog 96 #[.int .i64 n] w fun e w' => e = .returned (.bool false) ∧ w' = w := by
  by_cases h1 : n < 1
  · clear h
    go_enter Tryz.func96, Tryz.ntmps96
    go_wp2
    go_ret
    exact ⟨rfl, rfl⟩
  · have h2 : 7 < n := by omega
    clear h
    go_enter Tryz.func96, Tryz.ntmps96
    go_wp2
    go_ret
    exact ⟨by simp; omega, rfl⟩
theorem isCopies_yes (n : Int) (w : World) (h1 : ¬ n < 1) (h2 : ¬ 7 < n) : Calls Tryz.prog 96 #[.int .i64 n] w fun e w' => e = .returned (.bool true) ∧ w' = w := by
  go_enter Tryz.func96, Tryz.ntmps96
  go_wp2
  go_ret
  exact ⟨rfl, rfl⟩

theorem isCopies_hid (n : Int) (h1 : ¬ n < 1) (h2 : ¬ 7 < n) : Hid (∀ w, Calls Tryz.prog 96 #[.int .i64 n] w fun e w' => e = .returned (.bool true) ∧ w' = w) := hide fun w => isCopies_yes n w h1 h2

theorem vFaults (n : Int) (w : World) : Calls Tryz.prog 56 #[.int .i64 n] w fun e w' => e = .returned (.tuple #[.int .i64 (M.fltR n), errV (M.fltE n)]) ∧ w' = w := by
  by_cases h : n < 1 ∨ 7 < n
  · rw [M.fltR_bad h, M.fltE_bad h]
    have H := hide h
    clear h
    go_enter Tryz.func56, Tryz.ntmps56
    go_wp2_with fail
    refine (isCopies_no n w H.out).mono ?_
    rintro e w1 ⟨rfl, rfl⟩
    go_wp2_with fail
    go_ret2
    exact ⟨rfl, rfl⟩
  · rw [M.fltR_ok h, M.fltE_ok h]
    rcases (by omega : n = 1 ∨ n = 2 ∨ n = 3 ∨ n = 4 ∨ n = 5 ∨ n = 6 ∨ n = 7) with rfl | rfl | rfl | rfl | rfl | rfl | rfl
    all_goals
      clear h
      go_enter Tryz.func56, Tryz.ntmps56
      go_wp2_with fail
      refine (isCopies_yes _ w (by decide) (by decide)).mono ?_
      rintro e w1 ⟨rfl, rfl⟩
      go_wp2_with fail
      go_ret2
      exact ⟨rfl, rfl⟩

theorem vWin_range (av : Option Addr) (n cap : Nat) (need : Int) (w : World) (h : need < 1 ∨ 7 < need) :
    Calls Tryz.prog 62 #[.slice av n cap, .int .i64 need] w fun e w' => e = .returned (.tuple #[.string ⟨#[]⟩, errV 1]) ∧ Below w.heap.size w w' := by
  have H := hide h
  clear h
  go_enter Tryz.func62, Tryz.ntmps62
  go_wp2_with fail
  refine (isCopies_no need w H.out).mono ?_
  rintro e w1 ⟨rfl, rfl⟩
  go_wp2_with fail
  go_ret2
  exact ⟨rfl, Below.refl _ _⟩

theorem vWin_full (av : Option Addr) (n cap : Nat) (need : Int) (w : World) (h1 : ¬ need < 1) (h2 : ¬ 7 < need) (h7 : 7 < n) (hn : n ≤ maxLen) :
    Calls Tryz.prog 62 #[.slice av n cap, .int .i64 need] w fun e w' => e = .returned (.tuple #[.string ⟨#[]⟩, errV 4]) ∧ Below w.heap.size w w' := by
  unfold maxLen at hn
  have h7' : (7 : Int) < n := by omega
  have HY := isCopies_hid need h1 h2
  clear h1 h2
  go_enter Tryz.func62, Tryz.ntmps62
  go_wp2_with fail
  refine (HY.out _).mono ?_
  rintro e w1 ⟨rfl, rfl⟩
  go_wp2_with fail
  go_ret2
  exact ⟨rfl, Below.refl _ _⟩

set_option maxRecDepth 100000 in
set_option maxHeartbeats 1000000 in
theorem vWin_some (av : Option Addr) (n cap : Nat) (l : List ByteArray) (need : Int) (w : World) (hn : n = l.length) (h7 : n ≤ 7) (hl : AtS w av l) (h1 : ¬ need < 1) (h2 : ¬ 7 < need) :
    Calls Tryz.prog 62 #[.slice av n cap, .int .i64 need] w fun e w' => e = .returned (.tuple #[.string (M.winS l need), errV (M.winE l need)]) ∧ Below w.heap.size w w' := by
  have HL := hide hl
  have HN := hide hn
  have h7' : ¬ (7 : Int) < n := by omega
  have HR : Hid (¬ (need < 1 ∨ 7 < need)) := hide (by omega)
  have hmm := @run_makeMap Tryz.prog
  have HY := isCopies_hid need h1 h2
  clear hl hn h1 h2
  go_enter Tryz.func62, Tryz.ntmps62
  go_wp2_with fail
  refine (HY.out _).mono ?_
  rintro e w1 ⟨rfl, hw1⟩
  obtain rfl := hw1.symm
  clear HY
  go_wp2
  go_loopw [20] (fun i wr => ∃ (k : Nat) (D : DataW Unit), k ≤ n ∧ i = .int .i64 k ∧ Hid (∀ j, j < k → M.hitB l need j = false) ∧ Hid (Tally D (l.take k)) ∧ Hid (wr.ownsMap Tryz.prog 9 (plainElem (H := Unit) Tryz.prog 3) w.heap.size k D) ∧ Hid (Below w.heap.size w wr)) (fun i _ => n - (intOf i).toNat)
  case atStart => exact ⟨0, .map [], Nat.zero_le _, rfl, hide (fun j hj => by omega), hide tally_none, hide (World.ownsMap_made _ _ _ _), hide ((Below.refl _ _).alloc (Nat.le_refl _) _)⟩
  case round =>
    obtain ⟨k, D, hk, rfl, hno, htl, hown, hbel⟩ := hrel
    by_cases hlt : k < n
    · have hkl : k < l.length := HN.out ▸ hlt
      obtain ⟨b, off, rfl, hlie⟩ := HL.out (by omega)
      obtain ⟨c1, c2⟩ := (hlie.stays hbel.out (Nat.le_refl _)) k hkl
      have HH := hide (M.hitB_at (need := need) hkl)
      have HC : Hid (M.cntV (l.take (k + 1)) l[k] = M.cntV (l.take k) l[k] + 1) := hide (by rw [M.cntV_take hkl, if_pos rfl])
      have HT : Hid (∀ c : Int, c = M.cntV (l.take k) l[k] + 1 → Tally (D.put (keyS l[k]) (.lit (.int .i64 c))) (l.take (k + 1))) := hide fun c hc => htl.out.next hkl hc
      have HW : Hid (M.hitB l need k = true → M.winE l need = 0 ∧ M.winS l need = l[k]) := hide fun h => by
        have hw : M.winI l need = k := M.winI_hit hkl hno.out h
        have hw2 : M.winI l need < l.length := by omega
        have he := M.winE_hit HR.out (by have := HN.out; omega) hw2
        refine ⟨he, ?_⟩
        rw [M.winS_hit he hw2]
        simp only [hw]
      clear hlie
      generalize l[k] = s at *
      have HSZ : Hid (s.size ≤ 281474976710656) := hide (Nat.le_trans c2 (by unfold reachBytes; decide))
      have hkey : keyOf Tryz.prog 9 (.string s) = some (keyS s) := keyOf_string_mk Tryz.underlying9 (Nat.le_trans c2 (by unfold reachBytes maxLen; decide))
      have HKEY := hide hkey
      have HLE := hide (M.cntV_le (l.take k) s)
      have HLT : Hid ((l.take k).length ≤ 7) := hide (by rw [List.length_take]; omega)
      clear hkey c2
      go_wp2_with (at_lookup; refine wpList_lookup_own_int _ rfl _ _ 168 rfl 9 3 .i64 lawS Tryz.underlying168 Tryz.underlying3 (zeroI _) w.heap.size k _ rfl hown.out _ _ rfl HKEY.out ?_)
      intro c hat hwc
      have hc := htl.out.said hat
      clear hat hwc
      subst hc
      have hq : M.cntV (l.take k) s ≤ 7 := Nat.le_trans HLE.out HLT.out
      have HSB : Hid (M.hitB l need k = decide (((M.cntV (l.take k) s : Int) + 1) = need)) := hide (by rw [HH.out, HC.out]; simp)
      have HC2 : Hid (((M.cntV (l.take (k + 1)) s : Nat) : Int) = (M.cntV (l.take k) s : Int) + 1) := hide (by rw [HC.out]; simp)
      generalize M.cntV (l.take k) s = q at *
      clear HLE HLT HH HC htl
      go_wp2_with (at_mapUpdate; refine wpList_mapUpdate_own _ rfl _ _ _ 168 rfl 9 3 lawS Tryz.underlying168 _ w.heap.size k _ rfl hown.out (by unfold maxLen; omega) _ _ _ rfl rfl HKEY.out _ [] (plainElem_int Tryz.underlying3 (WalkArith.wf_i64 (by omega))) ?_)
      intro w1 hown1 hgrow1
      have HB1 := hide (hbel.out.grown hgrow1 hbel.out.size (fun j hj => by cases hj; exact Nat.le_refl _))
      have HO1 := hide hown1
      have HT1 := hide (HT.out _ rfl)
      clear hown1 hgrow1 HT hown hbel
      go_wp2_with (at_lookup; refine wpList_lookup_own_int _ rfl _ _ 168 rfl 9 3 .i64 lawS Tryz.underlying168 Tryz.underlying3 (zeroI _) w.heap.size (k + 1) _ rfl HO1.out _ _ rfl HKEY.out ?_)
      intro c hat hwc
      have hc : c = (q : Int) + 1 := (HT1.out.said hat).trans HC2.out
      clear hat hwc HC2
      subst hc
      cases hb : decide (((q : Int) + 1) = need)
      · have hb' : ((q : Int) + 1 == need) = false := by simpa using hb
        have HNX : Hid (∀ j, j < k + 1 → M.hitB l need j = false) := hide fun j hj => by
          rcases Nat.lt_succ_iff_lt_or_eq.1 hj with h | h
          · exact hno.out j h
          · subst h; rw [HSB.out, hb]
        clear hb
        go_wp2_with fail
        go_roundw
        case rel => exact ⟨k + 1, _, by omega, by go_num, HNX, HT1, HO1, HB1⟩
        case measure => simp [intOf]; omega
      · have hb' : ((q : Int) + 1 == need) = true := by simpa using hb
        obtain ⟨e1, e2⟩ := HW.out (by rw [HSB.out, hb])
        have E1 := hide e1
        have E2 := hide e2
        clear hb e1 e2
        go_wp2_with fail
        refine (cloneT s _ HSZ.out).mono ?_
        rintro e w2 ⟨rfl, hb2⟩
        have HB2 := hide (HB1.out.trans (hb2.mono HB1.out.size))
        clear hb2
        go_wp2_with fail
        go_ret2
        exact ⟨by rw [E1.out, E2.out]; rfl, HB2.out⟩
    · have hw : M.winI l need = l.length := M.winI_none (fun j hj => hno.out j (by have := HN.out; omega))
      have he := M.winE_none HR.out (by have := HN.out; omega) (by omega : ¬ M.winI l need < l.length)
      have E1 := hide he
      have E2 : Hid (M.winS l need = ⟨#[]⟩) := hide (M.winS_bad (by rw [he]; decide))
      clear hw he
      go_wp2
      go_ret2
      exact ⟨by rw [E1.out, E2.out]; rfl, hbel.out⟩

/-- Win, whatever comes in -/
theorem vWin (av : Option Addr) (n cap : Nat) (l : List ByteArray) (need : Int) (w : World) (hn : n = l.length) (hm : n ≤ maxLen) (hl : AtS w av l) :
    Calls Tryz.prog 62 #[.slice av n cap, .int .i64 need] w fun e w' => e = .returned (.tuple #[.string (M.winS l need), errV (M.winE l need)]) ∧ Below w.heap.size w w' := by
  by_cases h : need < 1 ∨ 7 < need
  · have e := M.winE_range (l := l) h
    rw [M.winS_bad (by rw [e]; decide), e]
    exact vWin_range av n cap need w h
  · by_cases h7 : 7 < n
    · have e := M.winE_full h (hn ▸ h7)
      rw [M.winS_bad (by rw [e]; decide), e]
      exact vWin_full av n cap need w (by omega) (by omega) h7 hm
    · exact vWin_some av n cap l need w hn (by omega) hl (by omega) (by omega)




end Go.Proofs.YtlefhfmckimlaakGreatDoor

set_option linter.unusedVariables false
namespace Go.Proofs.YtlefhfmckimlaakGreatDoor
open Go.RowKit
attribute [local go_sem ↓] Go.wp_at_zero Go.wp_at_succ

theorem infoPt : (Tryz.prog.info? 60).map (fun i => (i.zero, i.size, i.bytes)) = some (some (.pointer none), 1, 8) := by kernel_rfl

theorem crNew_range (n : Int) (av : Option Addr) (rn rc : Nat) (w : World) (h : n < 1 ∨ 7 < n) :
    Calls Tryz.prog 25 #[.int .i64 n, .slice av rn rc] w fun e w' => e = .returned (.tuple #[.pointer none, errV 1]) ∧ Below w.heap.size w w' := by
  have HF : Hid (Calls Tryz.prog 56 #[.int .i64 n] w fun e w' => e = .returned (.tuple #[.int .i64 0, .iface 87 (.int .i64 1)]) ∧ w' = w) := hide (by have := vFaults n w; rwa [M.fltR_bad h, M.fltE_bad h] at this)
  clear h
  go_enter Tryz.func25, Tryz.ntmps25
  go_wp2_with fail
  refine (unhide HF).mono ?_
  rintro e w1 ⟨rfl, hw1⟩
  obtain rfl := hw1.symm
  go_wp2_with fail
  go_ret2
  exact ⟨rfl, Below.refl _ _⟩

theorem faults_ok {n : Nat} (h1 : 1 ≤ n) (h7 : n ≤ 7) (w : World) : Calls Tryz.prog 56 #[.int .i64 n] w fun e w' => e = .returned (.tuple #[.int .i64 (M.need n - 1), .nilIface]) ∧ w' = w := by
  have := vFaults n w
  rw [M.fltE_ok (by omega), show M.fltR n = M.need n - 1 by rw [← M.need_flt h1 h7]; omega] at this
  exact this

theorem crNew_bad (n : Nat) (av : Option Addr) (rn rc : Nat) (R : List M.Rul) (w : World) (h1 : 1 ≤ n) (h7 : n ≤ 7) (hn : rn = R.length) (hm : rn ≤ maxLen) (hl : AtR w av R) (hE : M.rulE R ≠ 0) :
    Calls Tryz.prog 25 #[.int .i64 n, .slice av rn rc] w fun e w' => e = .returned (.tuple #[.pointer none, errV (M.rulE R)]) ∧ Below w.heap.size w w' := by
  have HF := hide (faults_ok h1 h7 w)
  have HN : Hid (∀ wx, Below w.heap.size w wx → Calls Tryz.prog 24 #[.slice av rn rc] wx fun e w' => e = .returned (.tuple #[.pointer none, .iface 87 (.int .i64 (M.rulE R))]) ∧ Below wx.heap.size wx w') := hide fun wx hb => by
    have := mNew_bad av rn rc R wx hn hm (hl.stays hb (Nat.le_refl _)) hE
    rwa [errV_bad hE] at this
  rw [errV_bad hE]
  have hr := M.need_range h1 h7
  have i0 : (0 : Int) < (n : Int) := by omega
  generalize M.rulE R = X at *
  generalize M.need n = nd at *
  clear hn hm hl hE
  go_enter Tryz.func25, Tryz.ntmps25
  go_wp2_with fail
  refine (unhide HF).mono ?_
  rintro e w1 ⟨rfl, hw1⟩
  obtain rfl := hw1.symm
  have HB1 : Hid (∀ o, Below w.heap.size w (w.alloc o)) := hide fun o => (Below.refl _ _).alloc (Nat.le_refl _) o
  go_wp2_with fail
  go_loopw [24] (fun i wr => i = .int .i64 0 ∧ Hid (Below w.heap.size w wr)) (fun _ _ => 0)
  case atStart => exact ⟨rfl, hide (HB1.out _)⟩
  case round =>
    obtain ⟨rfl, hb⟩ := hrel
    go_wp2_with fail
    refine (HN.out _ hb.out).mono ?_
    rintro e w2 ⟨rfl, hb2⟩
    have HB2 := hide (hb.out.trans (hb2.mono hb.out.size))
    clear hb2
    go_wp2_with fail
    go_ret2
    exact ⟨rfl, HB2.out⟩

set_option maxRecDepth 100000 in
set_option maxHeartbeats 1000000 in
theorem crNew_ok (base n : Nat) (av : Option Addr) (rn rc : Nat) (R : List M.Rul) (w : World) (hb : base ≤ w.heap.size) (h1 : 1 ≤ n) (h7 : n ≤ 7) (hn : rn = R.length) (hm : rn ≤ maxLen) (hl : AtR w av R) (hE : M.rulE R = 0) :
    Calls Tryz.prog 25 #[.int .i64 n, .slice av rn rc] w fun e w' => ∃ K F, e = .returned (.tuple #[.pointer (some ⟨K, 0, none⟩), .nilIface]) ∧ CwIs base w' F K n M.Cop.new R ∧ (∀ i, F i → w.heap.size ≤ i) ∧ Below w.heap.size w w' := by
  obtain ⟨i0, hi, hz0, hz1, hz2⟩ := info_parts infoPt
  have HI := hide (And.intro hi (And.intro hz0 (And.intro hz1 hz2)))
  have HF := hide (faults_ok h1 h7 w)
  have HN : Hid (∀ wx, Below w.heap.size w wx → Calls Tryz.prog 24 #[.slice av rn rc] wx fun e w' => ∃ C F, e = .returned (.tuple #[.pointer (some ⟨C, 0, none⟩), .nilIface]) ∧ CpIs base w' F C M.Cop.new R ∧ (∀ i, F i → wx.heap.size ≤ i) ∧ Below wx.heap.size wx w') := hide fun wx hw => mNew_ok base av rn rc R wx (Nat.le_trans hb hw.size) hn hm (hl.stays hw (Nat.le_refl _)) hE
  have hr := M.need_range h1 h7
  have HE := hide hE
  have HBASE := hide hb
  obtain ⟨nd, hnd⟩ : ∃ nd, nd = M.need n := ⟨_, rfl⟩
  rw [← hnd] at HF hr
  have HND := hide hnd
  clear hn hm hl hE hi hz0 hz1 hz2 hb hnd
  go_enter Tryz.func25, Tryz.ntmps25
  go_wp2_with fail
  refine (unhide HF).mono ?_
  rintro e w1 ⟨rfl, hw1⟩
  obtain rfl := hw1.symm
  have HC0 : Hid (Cw base (w.alloc (.cells #[.slice none 0 0, .int .i64 nd] 124)) w.heap.size (.slice none 0 0) nd [] (fun _ _ => False) (fun _ => M.Cop.new) R) := hide ⟨HBASE.out, heap_alloc_new w _, World.ownsRow_nil _ _ _ _, fun i h => absurd h (by simp), fun i j h => absurd h (by simp)⟩
  have HB0 : Hid (Below w.heap.size w (w.alloc (.cells #[.slice none 0 0, .int .i64 nd] 124))) := hide ((Below.refl _ _).alloc (Nat.le_refl _) _)
  have hnd2 : nd - 1 + 1 = nd := by omega
  go_wp2_with fail
  go_loopw [24] (fun i wr => ∃ (k : Nat) (ao : Option Addr) (cp : Nat) (Cs : List Nat) (Fs : Nat → Nat → Prop), k ≤ n ∧ i = .int .i64 k ∧ Hid (Cs.length = k) ∧ Hid (Cw base wr w.heap.size (.slice ao k cp) nd Cs Fs (fun _ => M.Cop.new) R) ∧ Hid (∀ b, cwF w.heap.size (.slice ao k cp) k Fs b → w.heap.size ≤ b) ∧ Hid (Below w.heap.size w wr)) (fun i _ => n - (intOf i).toNat)
  case atStart => exact ⟨0, none, 0, [], fun _ _ => False, Nat.zero_le _, rfl, hide rfl, by first | exact HC0 | (rw [hnd2]; exact HC0), hide (fun b hb => by
    rcases hb with rfl | hb | ⟨i, hi, _⟩
    · exact Nat.le_refl _
    · cases hb
    · omega), by first | exact HB0 | (rw [hnd2]; exact HB0)⟩
  case round =>
    obtain ⟨k, ao, cp, Cs, Fs, hk, rfl, hlen, hC, hlo, hbel⟩ := hrel
    by_cases hlt : k < n
    · have i1 : (k : Int) < (n : Int) := by omega
      go_wp2_with fail
      refine (HN.out _ hbel.out).mono ?_
      rintro e w2 ⟨C, F, rfl, hC2, hF2, hb2⟩
      have HW2 := hide (hC.out.quiet hb2)
      have HOF : Hid (∀ i, i < Cs.length → Off F (Fs i)) := hide fun i hi => Off.new (w := wr) (hC.out.cps i hi).highs hF2
      have HFL : Hid (∀ i, F i → w.heap.size ≤ i) := hide fun i hi => Nat.le_trans hbel.out.size (hF2 i hi)
      have HB2 := hide (hbel.out.trans (hb2.mono hbel.out.size))
      have HBA : Hid (Below w2.heap.size w2 (w2.alloc (.cells #[.pointer (some ⟨C, 0, none⟩)] 60))) := hide ((Below.refl _ _).alloc (Nat.le_refl _) _)
      have HWA := hide (HW2.out.quiet HBA.out)
      have HCA := hide (hC2.quiet HBA.out)
      clear hC2 hF2 hb2
      obtain ⟨c0, c1, cn, cf⟩ := HW2.out.cells
      have HRW : Hid ((w2.alloc (.cells #[.pointer (some ⟨C, 0, none⟩)] 60)).ownsRow base 60 1 (.slice ao k cp) k (ptrs Cs)) := hide (by have := HWA.out.row; rwa [hlen.out] at this)
      have HNW : Hid (∀ j u, [Value.pointer (some ⟨C, 0, none⟩)][j]? = some u → (w2.alloc (.cells #[.pointer (some ⟨C, 0, none⟩)] 60)).cell? ((⟨w2.heap.size, 0, none⟩ : Addr).add j) = some u) := hide (World.news_of_block (heap_alloc_new w2 _))
      have hneK : Hid ((Value.slice ao k cp).ownBlock ≠ some w.heap.size) := hide fun e => by
        obtain ⟨_, cc, fr, hh⟩ := ownsRow_tag HWA.out.row e
        rw [HWA.out.heap] at hh
        exact absurd (tag_eq hh) (by decide)
      go_wp2_with (at_builtin; refine wpList_append_lies _ rfl (.tmp 38) (.tmp 40) 122 rfl base 60 i0 (.pointer none) 1 8 Tryz.underlying122 HI.out.1 HI.out.2.1 HI.out.2.2.1 HI.out.2.2.2 rfl (by decide) (.slice ao k cp) k (ptrs Cs) rfl HRW.out ⟨w2.heap.size, 0, none⟩ 1 1 [.pointer (some ⟨C, 0, none⟩)] rfl rfl HNW.out (by intro u hu; simp at hu; subst hu; rfl) (by decide) (by unfold maxLen; omega) (by omega) HWA.out.base_le (w2.heap.size + 1) (by simp) ?_)
      intro g3 k3 w3 hown3 hgrow3 hat3 hlt3
      have c4 : w3.cell? ⟨w.heap.size, 0, none⟩ = some (.slice ao k cp) := hgrow3.cell HWA.out.cells.1 (fun e => hneK.out e.symm)
      have f4 : w3.frozen? ⟨w.heap.size, 0, none⟩ = false := (World.frozen?_of_block (hgrow3.block w.heap.size HWA.out.cells.2.2.1 (fun e => hneK.out e.symm))).trans (HWA.out.cells.2.2.2 0)
      have HO3 := hide hown3
      have HG3 := hide hgrow3
      have HAT := hide hat3
      clear hown3 hgrow3 hat3
      go_wp2_with fail
      go_roundw
      case rel =>
        have hnear := near_app (w := w2.alloc (.cells #[.pointer (some ⟨C, 0, none⟩)] 60)) (n := k + 1) (c := k3) HAT.out (by simp)
        obtain ⟨r1, r2⟩ := HWA.out.more HCA.out HOF.out HG3.out (by rw [hlen.out]; exact HO3.out) hnear
        have e : upd (fun _ => M.Cop.new) Cs.length M.Cop.new = fun _ => M.Cop.new := by funext j; unfold upd; split <;> rfl
        rw [e] at r1
        have hbw : Below w.heap.size (w2.alloc (.cells #[.pointer (some ⟨C, 0, none⟩)] 60)) (w3.setCell ⟨w.heap.size, 0, none⟩ (.slice (some ⟨g3, 0, none⟩) (k + 1) k3)) := by
          refine Below.setCell (p := ⟨w.heap.size, 0, none⟩) (Below.grown (Below.refl w.heap.size _) HG3.out ?_ ?_) (Nat.le_refl _) _
          · have := HB2.out.size; simp; omega
          · intro b hb
            exact hlo.out b (Or.inr (Or.inl hb))
        refine ⟨k + 1, some ⟨g3, 0, none⟩, k3, Cs ++ [C], upd Fs Cs.length F, by omega, by go_num, hide (by rw [List.length_append, hlen.out]; rfl), hide r1, hide (fun b hb => ?_), hide ((HB2.out.trans (HBA.out.mono HB2.out.size)).trans hbw)⟩
        rcases hb with rfl | hb | ⟨i, hi, hb⟩
        · exact Nat.le_refl _
        · rcases hnear.grows hb with q | q
          · exact hlo.out b (Or.inr (Or.inl q))
          · have := HB2.out.size; simp at q; omega
        · by_cases e : i = Cs.length
          · subst e
            rw [upd_same] at hb
            exact HFL.out b hb
          · rw [upd_other e] at hb
            exact hlo.out b (Or.inr (Or.inr ⟨i, by have := hlen.out; omega, hb⟩))
      case measure => simp [intOf]; omega
    · have hkn : k = n := by omega
      have i1 : ¬ (k : Int) < (n : Int) := by omega
      have HFIN : Hid (CwIs base wr (cwF w.heap.size (.slice ao k cp) n Fs) w.heap.size n M.Cop.new R) := hide ⟨M.Cop.new_ok, HE.out, h1, h7, .slice ao k cp, Cs, Fs, by rw [hlen.out, hkn], rfl, by have := hC.out; rwa [HND.out] at this⟩
      have HFL : Hid (∀ b, cwF w.heap.size (.slice ao k cp) n Fs b → w.heap.size ≤ b) := hide (by have := hlo.out; rwa [hkn] at this ⊢)
      clear hkn
      go_wp2_with fail
      go_ret2
      exact ⟨w.heap.size, rfl, cwF w.heap.size (.slice ao k cp) n Fs, HFIN.out, HFL.out, hbel.out⟩


end Go.Proofs.YtlefhfmckimlaakGreatDoor
