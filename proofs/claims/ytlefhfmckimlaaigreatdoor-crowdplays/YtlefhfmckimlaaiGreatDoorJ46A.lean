/-
  A map of a call's own that holds how often each text was said: its datum, and what one more makes of it. For any program.
  What Faults, Win and Most of package vote do, each as one law of its call.
-/
import Derived.Test.YtlefhfmckimlaaiGreatDoorVoteMath
import Derived.Maps.Views
import Derived.Maps.Own
import Derived.Maps.OwnOps
import Derived.Test.YtlefhfmckimlaaiGreatDoorJ3A
import Derived.Test.YtlefhfmckimlaaiGreatDoorJ45A
import Derived.Test.YtlefhfmckimlaaiGreatDoorShelf
set_option linter.unusedVariables false
namespace Go.Proofs.YtlefhfmckimlaaiGreatDoor
open Go.RowKit Go.WideMaps Go.Maps

/-- a text as a key -/
def keyS (s : ByteArray) : Lit := .string s.data.toList
theorem keyS_own {a b : ByteArray} (h : keyS a = keyS b) : a = b := by
  obtain ⟨a⟩ := a
  obtain ⟨b⟩ := b
  have h1 : a.toList = b.toList := by simpa [keyS] using h
  rw [Array.toList_inj.1 h1]
/-- the map says how often each was said -/
def Tally (D : DataW Unit) (l : List ByteArray) : Prop := IsMap D ∧ ∀ s, D.atKey (keyS s) (.lit (.int .i64 0)) = .lit (.int .i64 (M.cntV l s))
theorem tally_none : Tally (.map []) [] := ⟨isMap_empty, fun s => rfl⟩
theorem Tally.said {D : DataW Unit} {l : List ByteArray} (h : Tally D l) {s : ByteArray} {c : Int} (hc : D.atKey (keyS s) (.lit (.int .i64 0)) = .lit (.int .i64 c)) : c = M.cntV l s := by
  rw [h.2 s] at hc
  simpa using hc.symm
theorem Tally.snoc {D : DataW Unit} {l : List ByteArray} (h : Tally D l) (x : ByteArray) {c : Int} (hc : c = M.cntV l x + 1) : Tally (D.put (keyS x) (.lit (.int .i64 c))) (l ++ [x]) := by
  refine ⟨h.1.put _ _, fun s => ?_⟩
  rw [M.cntV_append, M.cntV_cons, M.cntV_nil, Nat.zero_add]
  by_cases e : s = x
  · subst e
    rw [atKey_put_same h.1 (by simp [keyS, WideAt.IsKeyLit]), if_pos rfl, hc]
    simp
  · rw [atKey_put_other (fun g => e (keyS_own g)), if_neg (fun g => e g.symm), h.2 s]
    simp
theorem Tally.next {D : DataW Unit} {l : List ByteArray} {k : Nat} (h : Tally D (l.take k)) (hk : k < l.length) {c : Int} (hc : c = M.cntV (l.take k) l[k] + 1) : Tally (D.put (keyS l[k]) (.lit (.int .i64 c))) (l.take (k + 1)) := by
  rw [List.take_succ_eq_append_getElem hk]
  exact h.snoc _ hc

end Go.Proofs.YtlefhfmckimlaaiGreatDoor

set_option linter.unusedVariables false
namespace Go.Proofs.YtlefhfmckimlaaiGreatDoor
open Go.RowKit Go.WideMaps Go.Maps

theorem lawS : Keyed Tryz.prog 9 := string_keyed Tryz.underlying9
theorem zeroI (w : World) : (zeroValue 3).run Tryz.prog w = .ok (.int .i64 0) w := by kernel_rfl

/-- a copy of a text -/
theorem cloneT (s : ByteArray) (w : World) (hs : s.size ≤ 281474976710656) : Calls Tryz.prog 33 #[.string s] w fun e w' => e = .returned (.string s) ∧ Below w.heap.size w w' := by
  go_enter Tryz.func33, Tryz.ntmps33
  go_wp2_with fail
  refine (Tryz.stringslite_Clone s _ hs).mono ?_
  rintro e w1 ⟨rfl, hb⟩
  go_wp2_with fail
  go_ret
  exact ⟨rfl, hb⟩

theorem isCopies_no (n : Int) (w : World) (h : n < 1 ∨ 7 < n) : Calls Tryz.prog 61 #[.int .i64 n] w fun e w' => e = .returned (.bool false) ∧ w' = w := by
  by_cases h1 : n < 1
  · clear h
    go_enter Tryz.func61, Tryz.ntmps61
    go_wp2
    go_ret
    exact ⟨rfl, rfl⟩
  · have h2 : 7 < n := by omega
    clear h
    go_enter Tryz.func61, Tryz.ntmps61
    go_wp2
    go_ret
    exact ⟨by simp; omega, rfl⟩
theorem isCopies_yes (n : Int) (w : World) (h1 : ¬ n < 1) (h2 : ¬ 7 < n) : Calls Tryz.prog 61 #[.int .i64 n] w fun e w' => e = .returned (.bool true) ∧ w' = w := by
  go_enter Tryz.func61, Tryz.ntmps61
  go_wp2
  go_ret
  exact ⟨rfl, rfl⟩

theorem isCopies_hid (n : Int) (h1 : ¬ n < 1) (h2 : ¬ 7 < n) : Hid (∀ w, Calls Tryz.prog 61 #[.int .i64 n] w fun e w' => e = .returned (.bool true) ∧ w' = w) := hide fun w => isCopies_yes n w h1 h2

theorem vFaults (n : Int) (w : World) : Calls Tryz.prog 41 #[.int .i64 n] w fun e w' => e = .returned (.tuple #[.int .i64 (M.fltR n), errV (M.fltE n)]) ∧ w' = w := by
  by_cases h : n < 1 ∨ 7 < n
  · rw [M.fltR_bad h, M.fltE_bad h]
    have H := hide h
    clear h
    go_enter Tryz.func41, Tryz.ntmps41
    go_wp2_with fail
    refine (isCopies_no n w H.out).mono ?_
    rintro e w1 ⟨rfl, rfl⟩
    go_wp2_with fail
    go_ret2
    exact ⟨rfl, rfl⟩
  · rw [M.fltR_ok h, M.fltE_ok h]
    rcases (by omega : n = 1 ∨ n = 2 ∨ n = 3 ∨ n = 4 ∨ n = 5 ∨ n = 6 ∨ n = 7) with rfl | rfl | rfl | rfl | rfl | rfl | rfl
    all_goals
      clear h
      go_enter Tryz.func41, Tryz.ntmps41
      go_wp2_with fail
      refine (isCopies_yes _ w (by decide) (by decide)).mono ?_
      rintro e w1 ⟨rfl, rfl⟩
      go_wp2_with fail
      go_ret2
      exact ⟨rfl, rfl⟩

theorem vWin_range (av : Option Addr) (n cap : Nat) (need : Int) (w : World) (h : need < 1 ∨ 7 < need) :
    Calls Tryz.prog 42 #[.slice av n cap, .int .i64 need] w fun e w' => e = .returned (.tuple #[.string ⟨#[]⟩, errV 1]) ∧ Below w.heap.size w w' := by
  have H := hide h
  clear h
  go_enter Tryz.func42, Tryz.ntmps42
  go_wp2_with fail
  refine (isCopies_no need w H.out).mono ?_
  rintro e w1 ⟨rfl, rfl⟩
  go_wp2_with fail
  go_ret2
  exact ⟨rfl, Below.refl _ _⟩

theorem vWin_full (av : Option Addr) (n cap : Nat) (need : Int) (w : World) (h1 : ¬ need < 1) (h2 : ¬ 7 < need) (h7 : 7 < n) (hn : n ≤ maxLen) :
    Calls Tryz.prog 42 #[.slice av n cap, .int .i64 need] w fun e w' => e = .returned (.tuple #[.string ⟨#[]⟩, errV 4]) ∧ Below w.heap.size w w' := by
  unfold maxLen at hn
  have h7' : (7 : Int) < n := by omega
  have HY := isCopies_hid need h1 h2
  clear h1 h2
  go_enter Tryz.func42, Tryz.ntmps42
  go_wp2_with fail
  refine (HY.out _).mono ?_
  rintro e w1 ⟨rfl, rfl⟩
  go_wp2_with fail
  go_ret2
  exact ⟨rfl, Below.refl _ _⟩

set_option maxRecDepth 100000 in
set_option maxHeartbeats 1000000 in
theorem vWin_some (av : Option Addr) (n cap : Nat) (l : List ByteArray) (need : Int) (w : World) (hn : n = l.length) (h7 : n ≤ 7) (hl : AtS w av l) (h1 : ¬ need < 1) (h2 : ¬ 7 < need) :
    Calls Tryz.prog 42 #[.slice av n cap, .int .i64 need] w fun e w' => e = .returned (.tuple #[.string (M.winS l need), errV (M.winE l need)]) ∧ Below w.heap.size w w' := by
  have HL := hide hl
  have HN := hide hn
  have h7' : ¬ (7 : Int) < n := by omega
  have HR : Hid (¬ (need < 1 ∨ 7 < need)) := hide (by omega)
  have hmm := @run_makeMap Tryz.prog
  have HY := isCopies_hid need h1 h2
  clear hl hn h1 h2
  go_enter Tryz.func42, Tryz.ntmps42
  go_wp2_with fail
  refine (HY.out _).mono ?_
  rintro e w1 ⟨rfl, hw1⟩
  obtain rfl := hw1.symm
  clear HY
  go_wp2
  go_loopw [20] (fun i wr => ∃ (k : Nat) (D : DataW Unit), k ≤ n ∧ i = .int .i64 k ∧ Hid (∀ j, j < k → M.hitB l need j = false) ∧ Hid (Tally D (l.take k)) ∧ Hid (wr.ownsMap Tryz.prog 9 (plainElem (H := Unit) Tryz.prog 3) w.heap.size k D) ∧ Hid (Below w.heap.size w wr)) (fun i _ => n - (intOf i).toNat)
  case atStart => exact ⟨0, .map [], Nat.zero_le _, rfl, hide (fun j hj => by omega), hide tally_none, hide (World.ownsMap_made _ _ _ _), hide ((Below.refl _ _).alloc (Nat.le_refl _) _)⟩
  case round =>
    obtain ⟨k, D, hk, rfl, hno, htl, hown, hbel⟩ := hrel
    by_cases hlt : k < n
    · have hkl : k < l.length := HN.out ▸ hlt
      obtain ⟨b, off, rfl, hlie⟩ := HL.out (by omega)
      obtain ⟨c1, c2⟩ := (hlie.stays hbel.out (Nat.le_refl _)) k hkl
      have HH := hide (M.hitB_at (need := need) hkl)
      have HC : Hid (M.cntV (l.take (k + 1)) l[k] = M.cntV (l.take k) l[k] + 1) := hide (by rw [M.cntV_take hkl, if_pos rfl])
      have HT : Hid (∀ c : Int, c = M.cntV (l.take k) l[k] + 1 → Tally (D.put (keyS l[k]) (.lit (.int .i64 c))) (l.take (k + 1))) := hide fun c hc => htl.out.next hkl hc
      have HW : Hid (M.hitB l need k = true → M.winE l need = 0 ∧ M.winS l need = l[k]) := hide fun h => by
        have hw : M.winI l need = k := M.winI_hit hkl hno.out h
        have hw2 : M.winI l need < l.length := by omega
        have he := M.winE_hit HR.out (by have := HN.out; omega) hw2
        refine ⟨he, ?_⟩
        rw [M.winS_hit he hw2]
        simp only [hw]
      clear hlie
      generalize l[k] = s at *
      have HSZ : Hid (s.size ≤ 281474976710656) := hide (Nat.le_trans c2 (by unfold reachBytes; decide))
      have hkey : keyOf Tryz.prog 9 (.string s) = some (keyS s) := keyOf_string_mk Tryz.underlying9 (Nat.le_trans c2 (by unfold reachBytes maxLen; decide))
      have HKEY := hide hkey
      have HLE := hide (M.cntV_le (l.take k) s)
      have HLT : Hid ((l.take k).length ≤ 7) := hide (by rw [List.length_take]; omega)
      clear hkey c2
      go_wp2_with (at_lookup; refine wpList_lookup_own_int _ rfl _ _ 125 rfl 9 3 .i64 lawS Tryz.underlying125 Tryz.underlying3 (zeroI _) w.heap.size k _ rfl hown.out _ _ rfl HKEY.out ?_)
      intro c hat hwc
      have hc := htl.out.said hat
      clear hat hwc
      subst hc
      have hq : M.cntV (l.take k) s ≤ 7 := Nat.le_trans HLE.out HLT.out
      have HSB : Hid (M.hitB l need k = decide (((M.cntV (l.take k) s : Int) + 1) = need)) := hide (by rw [HH.out, HC.out]; simp)
      have HC2 : Hid (((M.cntV (l.take (k + 1)) s : Nat) : Int) = (M.cntV (l.take k) s : Int) + 1) := hide (by rw [HC.out]; simp)
      generalize M.cntV (l.take k) s = q at *
      clear HLE HLT HH HC htl
      go_wp2_with (at_mapUpdate; refine wpList_mapUpdate_own _ rfl _ _ _ 125 rfl 9 3 lawS Tryz.underlying125 _ w.heap.size k _ rfl hown.out (by unfold maxLen; omega) _ _ _ rfl rfl HKEY.out _ [] (plainElem_int Tryz.underlying3 (WalkArith.wf_i64 (by omega))) ?_)
      intro w1 hown1 hgrow1
      have HB1 := hide (hbel.out.grown hgrow1 hbel.out.size (fun j hj => by cases hj; exact Nat.le_refl _))
      have HO1 := hide hown1
      have HT1 := hide (HT.out _ rfl)
      clear hown1 hgrow1 HT hown hbel
      go_wp2_with (at_lookup; refine wpList_lookup_own_int _ rfl _ _ 125 rfl 9 3 .i64 lawS Tryz.underlying125 Tryz.underlying3 (zeroI _) w.heap.size (k + 1) _ rfl HO1.out _ _ rfl HKEY.out ?_)
      intro c hat hwc
      have hc : c = (q : Int) + 1 := (HT1.out.said hat).trans HC2.out
      clear hat hwc HC2
      subst hc
      cases hb : decide (((q : Int) + 1) = need)
      · have hb' : ((q : Int) + 1 == need) = false := by simpa using hb
        have HNX : Hid (∀ j, j < k + 1 → M.hitB l need j = false) := hide fun j hj => by
          rcases Nat.lt_succ_iff_lt_or_eq.1 hj with h | h
          · exact hno.out j h
          · subst h; rw [HSB.out, hb]
        clear hb
        go_wp2_with fail
        go_roundw
        case rel => exact ⟨k + 1, _, by omega, by go_num, HNX, HT1, HO1, HB1⟩
        case measure => simp [intOf]; omega
      · have hb' : ((q : Int) + 1 == need) = true := by simpa using hb
        obtain ⟨e1, e2⟩ := HW.out (by rw [HSB.out, hb])
        have E1 := hide e1
        have E2 := hide e2
        clear hb e1 e2
        go_wp2_with fail
        refine (cloneT s _ HSZ.out).mono ?_
        rintro e w2 ⟨rfl, hb2⟩
        have HB2 := hide (HB1.out.trans (hb2.mono HB1.out.size))
        clear hb2
        go_wp2_with fail
        go_ret2
        exact ⟨by rw [E1.out, E2.out]; rfl, HB2.out⟩
    · have hw : M.winI l need = l.length := M.winI_none (fun j hj => hno.out j (by have := HN.out; omega))
      have he := M.winE_none HR.out (by have := HN.out; omega) (by omega : ¬ M.winI l need < l.length)
      have E1 := hide he
      have E2 : Hid (M.winS l need = ⟨#[]⟩) := hide (M.winS_bad (by rw [he]; decide))
      clear hw he
      go_wp2
      go_ret2
      exact ⟨by rw [E1.out, E2.out]; rfl, hbel.out⟩

/-- Win, whatever comes in -/
theorem vWin (av : Option Addr) (n cap : Nat) (l : List ByteArray) (need : Int) (w : World) (hn : n = l.length) (hm : n ≤ maxLen) (hl : AtS w av l) :
    Calls Tryz.prog 42 #[.slice av n cap, .int .i64 need] w fun e w' => e = .returned (.tuple #[.string (M.winS l need), errV (M.winE l need)]) ∧ Below w.heap.size w w' := by
  by_cases h : need < 1 ∨ 7 < need
  · have e := M.winE_range (l := l) h
    rw [M.winS_bad (by rw [e]; decide), e]
    exact vWin_range av n cap need w h
  · by_cases h7 : 7 < n
    · have e := M.winE_full h (hn ▸ h7)
      rw [M.winS_bad (by rw [e]; decide), e]
      exact vWin_full av n cap need w (by omega) (by omega) h7 hm
    · exact vWin_some av n cap l need w hn (by omega) hl (by omega) (by omega)




end Go.Proofs.YtlefhfmckimlaaiGreatDoor
