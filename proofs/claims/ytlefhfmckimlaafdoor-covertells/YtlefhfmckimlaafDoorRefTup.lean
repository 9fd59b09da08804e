/-
  What the document's own Like, Tuple, Fits and Line do, each as one law of its call.
-/
import Derived.Test.YtlefhfmckimlaafDoorRefValue
import Derived.Test.YtlefhfmckimlaafDoorTupSame
namespace Go.Proofs.YtlefhfmckimlaafDoor
open Go.RowKit
attribute [local go_sem ↓] sameEq sameNe

theorem rlike_none (ao : Option Addr) (cap : Nat) (w : World) :
    Calls Tryd.prog 17 #[.slice ao 0 cap] w fun e w' => e = .returned (.int .i64 5) ∧ Below w.heap.size w w' := by
  go_enter Tryd.func17, Tryd.ntmps17
  go_wp2
  go_ret
  exact ⟨rfl, Below.refl _ _⟩
theorem rlike_many (ao : Option Addr) (n cap : Nat) (w : World) (h : 5 < n) :
    Calls Tryd.prog 17 #[.slice ao n cap] w fun e w' => e = .returned (.int .i64 4) ∧ Below w.heap.size w w' := by
  have h0 : ¬ (n : Int) = 0 := by omega
  have h5 : (5 : Int) < n := by omega
  go_enter Tryd.func17, Tryd.ntmps17
  go_wp2
  go_ret
  exact ⟨rfl, Below.refl _ _⟩
theorem rlike_some (b off cap : Nat) (l : List M.Val) (w : World) (h0 : 0 < l.length) (h5 : l.length ≤ 5) (hl : Lie w b off l) :
    Calls Tryd.prog 17 #[.slice (some ⟨b, off, none⟩) l.length cap] w fun e w' => e = .returned (.int .i64 (M.firstF l)) ∧ Below w.heap.size w w' := by
  have HL := hide hl
  clear hl
  obtain ⟨n, hn⟩ : ∃ n, n = l.length := ⟨_, rfl⟩
  rw [← hn] at h0 h5 ⊢
  have HN := hide hn
  clear hn
  have hz : ¬ (n : Int) = 0 := by omega
  have h5' : ¬ (5 : Int) < n := by omega
  go_enter Tryd.func17, Tryd.ntmps17
  go_wp2
  go_loopw [3] (fun i wr => ∃ k : Nat, k ≤ n ∧ i = .int .i64 k ∧ Hid (M.firstF (l.take k) = 0) ∧ Below w.heap.size w wr) (fun i _ => n - (intOf i).toNat)
  case atStart => exact ⟨0, Nat.zero_le _, rfl, hide rfl, Below.refl _ _⟩
  case round =>
    obtain ⟨k, hk, rfl, hno, hbel⟩ := hrel
    by_cases hlt : k < n
    · have hkl : k < l.length := HN.out ▸ hlt
      obtain ⟨c1, c2, c3, c4⟩ := ((unhide HL).stays (by omega) hbel (Nat.le_refl _)) k hkl
      by_cases hb : M.fault l[k].k l[k].n l[k].s = 0
      · have HV : Hid (∀ w, Calls Tryd.prog 34 #[.agg #[.int .i64 l[k].k, .int .i64 l[k].n, .string l[k].s]] w fun e w' => e = .returned (.int .i64 0) ∧ Below w.heap.size w w') := hide fun w => by have := refValue l[k].k l[k].n l[k].s w c4; rwa [hb] at this
        have HB := hide hb
        clear hb
        go_wp2_with fail
        refine (unhide HV _).mono ?_
        rintro e w1 ⟨rfl, hb1⟩
        go_wp2_with fail
        go_roundw
        case rel => exact ⟨k + 1, by omega, by go_num, hide ((firstF_take hkl hno.out).trans HB.out), hbel.trans (hb1.mono hbel.size)⟩
        case measure => simp [intOf]; omega
      · have HV : Hid (∀ w, Calls Tryd.prog 34 #[.agg #[.int .i64 l[k].k, .int .i64 l[k].n, .string l[k].s]] w fun e w' => e = .returned (.int .i64 (M.fault l[k].k l[k].n l[k].s)) ∧ Below w.heap.size w w') := hide fun w => refValue _ _ _ w c4
        have HB := hide hb
        have hb' : (M.fault l[k].k l[k].n l[k].s != 0) = true := by simpa using hb
        clear hb
        have hfin : Hid (M.firstF l = M.fault l[k].k l[k].n l[k].s) := hide (firstF_bad hkl hno.out HB.out)
        go_wp2_with fail
        refine (unhide HV _).mono ?_
        rintro e w1 ⟨rfl, hb1⟩
        go_wp2_with fail
        go_ret
        exact ⟨by rw [hfin.out]; rfl, hbel.trans (hb1.mono hbel.size)⟩
    · have hfin : Hid (M.firstF l = 0) := hide (by have := hno.out; rwa [List.take_of_length_le (by have := HN.out; omega)] at this)
      go_wp2
      go_ret
      exact ⟨by rw [hfin.out]; rfl, hbel⟩
theorem rlike (v : Value) (l : List M.Val) (w : World) (h : IsVals w v l) : Calls Tryd.prog 17 #[v] w fun e w' => e = .returned (.int .i64 (M.likeF l)) ∧ Below w.heap.size w w' := by
  unfold M.likeF
  by_cases h0 : l.length = 0
  · rw [if_pos h0]
    obtain ⟨ao, cap, rfl, _⟩ := h.shape
    rw [h0]
    exact rlike_none ao cap w
  · rw [if_neg h0]
    by_cases h5 : 5 < l.length
    · rw [if_pos h5]
      obtain ⟨ao, cap, rfl, _⟩ := h.shape
      exact rlike_many ao _ cap w h5
    · rw [if_neg h5]
      obtain ⟨b, off, cap, rfl, _, _, hl⟩ := h.some (by omega)
      exact rlike_some b off cap l w (by omega) (by omega) hl

theorem rtuple_bad (ao : Option Addr) (n cap : Nat) (e : Int) (w : World) (hn : n ≤ maxLen) (he : e ≠ 0) (hL : Calls Tryd.prog 17 #[.slice ao n cap] w fun x w' => x = .returned (.int .i64 e) ∧ Below w.heap.size w w') :
    Calls Tryd.prog 12 #[.slice ao n cap] w fun x w' => x = .returned (.int .i64 e) ∧ Below w.heap.size w w' := by
  unfold maxLen at hn
  have HL := hide hL
  have he' : (e == 0) = false := by simpa using he
  clear hL he
  go_enter Tryd.func12, Tryd.ntmps12
  go_wp2_with fail
  refine (unhide HL).mono ?_
  rintro x w1 ⟨rfl, hb1⟩
  go_wp2_with fail
  go_loopw [3, 4] (fun a i wr => a = .int .i64 e ∧ i = .int .i64 0 ∧ wr = w1) (fun _ _ _ => 0)
  case atStart => exact ⟨rfl, rfl, rfl⟩
  case round =>
    obtain ⟨rfl, rfl, rfl⟩ := hrel
    by_cases h0 : n = 0
    · subst h0
      go_wp2
      go_ret
      exact ⟨rfl, hb1⟩
    · have h0' : (0 : Int) < n := by omega
      go_wp2
      go_ret
      exact ⟨rfl, hb1⟩

def M.anyF (l : List M.Val) : Int := if M.hasAny l then 3 else 0
theorem anyF_yes {l : List M.Val} (h : M.hasAny l = true) : M.anyF l = 3 := by unfold M.anyF; rw [h]; rfl
theorem anyF_no {l : List M.Val} (h : M.hasAny l = false) : M.anyF l = 0 := by unfold M.anyF; rw [h]; rfl

theorem rtuple_ok (b off cap : Nat) (l : List M.Val) (w : World) (hl : Lie w b off l) (hcap : l.length ≤ cap) (hcm : cap ≤ maxLen) (hf : M.likeF l = 0) :
    Calls Tryd.prog 12 #[.slice (some ⟨b, off, none⟩) l.length cap] w fun e w' => e = .returned (.int .i64 (M.anyF l)) ∧ Below w.heap.size w w' := by
  obtain ⟨h0, h5⟩ := likeF_len hf
  have hv : IsVals w (.slice (.some ⟨b, off, none⟩) l.length cap) l := Or.inr (Or.inr ⟨b, off, cap, h0, rfl, hcap, hcm, hl⟩)
  have HK : Hid (Calls Tryd.prog 17 #[.slice (some ⟨b, off, none⟩) l.length cap] w fun e w' => e = .returned (.int .i64 0) ∧ Below w.heap.size w w') := hide (by have := rlike _ l w hv; rwa [hf] at this)
  have HL := hide hl
  clear hv hf hl hcap hcm
  obtain ⟨n, hn⟩ : ∃ n, n = l.length := ⟨_, rfl⟩
  rw [← hn] at h0 h5 HK ⊢
  have HN := hide hn
  clear hn
  go_enter Tryd.func12, Tryd.ntmps12
  go_wp2_with fail
  refine (unhide HK).mono ?_
  rintro x w1 ⟨rfl, hb1⟩
  go_wp2_with fail
  go_loopw [3, 4] (fun a i wr => ∃ k : Nat, ∃ e : Int, k ≤ n ∧ a = .int .i64 e ∧ i = .int .i64 k ∧ Hid ((e = 0 ∧ M.hasAny (l.take k) = false) ∨ (e = 3 ∧ M.hasAny l = true)) ∧ wr = w1) (fun a i _ => if intOf a = 0 then n + 1 - (intOf i).toNat else 0)
  case atStart => exact ⟨0, 0, Nat.zero_le _, rfl, rfl, hide (Or.inl ⟨rfl, rfl⟩), rfl⟩
  case round =>
    obtain ⟨k, e, hk, rfl, rfl, hno, rfl⟩ := hrel
    rcases hno.out with ⟨rfl, hno'⟩ | ⟨rfl, hyes⟩
    · have HNO := hide hno'
      clear hno' hno
      by_cases hlt : k < n
      · have hkl : k < l.length := HN.out ▸ hlt
        obtain ⟨c1, c2, c3, c4⟩ := ((unhide HL).stays (by omega) hb1 (Nat.le_refl _)) k hkl
        have HS : Hid (M.hasAny (l.take (k + 1)) = (l[k].k == 2)) := hide (by
          have h := HNO.out
          unfold M.hasAny at h ⊢
          rw [List.take_succ_eq_append_getElem hkl, List.any_append, h]; simp)
        cases hb : (l[k].k == 2)
        · have HB := hide hb
          go_wp2
          go_roundw
          case rel => exact ⟨k + 1, 0, by omega, rfl, by go_num, hide (Or.inl ⟨rfl, HS.out.trans HB.out⟩), by first | rfl | trivial⟩
          case measure => simp [intOf]; omega
        · have hfin : Hid (M.hasAny l = true) := hide (by
            have h := HS.out.trans hb
            unfold M.hasAny at h ⊢
            rw [← List.take_append_drop (k + 1) l, List.any_append, h]; rfl)
          go_wp2
          go_roundw
          case rel => exact ⟨k + 1, 3, by omega, rfl, by go_num, hide (Or.inr ⟨rfl, hfin.out⟩), by first | rfl | trivial⟩
          case measure => simp [intOf]; omega
      · have hfin : Hid (M.hasAny l = false) := hide (by have := HNO.out; rwa [List.take_of_length_le (by have := HN.out; omega)] at this)
        go_wp2
        go_ret
        exact ⟨by rw [anyF_no hfin.out]; rfl, hb1⟩
    · have HY := hide hyes
      clear hyes hno
      by_cases hlt : k < n
      · go_wp2
        go_ret
        exact ⟨by rw [anyF_yes HY.out]; rfl, hb1⟩
      · go_wp2
        go_ret
        exact ⟨by rw [anyF_yes HY.out]; rfl, hb1⟩

theorem rtuple (v : Value) (l : List M.Val) (w : World) (h : IsVals w v l) : Calls Tryd.prog 12 #[v] w fun e w' => e = .returned (.int .i64 (M.tupF l)) ∧ Below w.heap.size w w' := by
  unfold M.tupF
  by_cases hf : M.likeF l ≠ 0
  · rw [if_pos hf]
    have hL := rlike v l w h
    obtain ⟨ao, cap, rfl, hm⟩ := h.shape
    exact rtuple_bad ao _ cap _ w hm hf hL
  · rw [if_neg hf]
    have hf' : M.likeF l = 0 := by simpa using hf
    obtain ⟨b, off, cap, rfl, h1, h2, h3⟩ := h.some (likeF_len hf').1
    exact rtuple_ok b off cap l w h3 h1 h2 hf'



end Go.Proofs.YtlefhfmckimlaafDoor
