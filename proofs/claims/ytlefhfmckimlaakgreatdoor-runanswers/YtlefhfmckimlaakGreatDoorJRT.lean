/-
  What the document's own Like, Tuple, Fits and Line do, each as one law of its call.
  What the document's own ReadTuple does, as one law of its call: of a text that is not too long.
  What the document's own name and number do, each as one law of its call.
-/
import Derived.Test.YtlefhfmckimlaakGreatDoorJRefW
import Derived.Test.YtlefhfmckimlaakGreatDoorJTup
import Derived.Test.YtlefhfmckimlaakGreatDoorJPrint
import Derived.Test.YtlefhfmckimlaakGreatDoorJSame
import Derived.Test.YtlefhfmckimlaakGreatDoorJCut
import Derived.Test.YtlefhfmckimlaakGreatDoorRunMath
import Derived.Below
namespace Go.Proofs.YtlefhfmckimlaakGreatDoor
open Go.RowKit
attribute [local go_sem ↓] sameEq sameNe

theorem rlike_none (ao : Option Addr) (cap : Nat) (w : World) :
    Calls Tryz.prog 43 #[.slice ao 0 cap] w fun e w' => e = .returned (.int .i64 5) ∧ Below w.heap.size w w' := by
  go_enter Tryz.func43, Tryz.ntmps43
  go_wp2
  go_ret
  exact ⟨rfl, Below.refl _ _⟩
theorem rlike_many (ao : Option Addr) (n cap : Nat) (w : World) (h : 5 < n) :
    Calls Tryz.prog 43 #[.slice ao n cap] w fun e w' => e = .returned (.int .i64 4) ∧ Below w.heap.size w w' := by
  have h0 : ¬ (n : Int) = 0 := by omega
  have h5 : (5 : Int) < n := by omega
  go_enter Tryz.func43, Tryz.ntmps43
  go_wp2
  go_ret
  exact ⟨rfl, Below.refl _ _⟩
theorem rlike_some (b off cap : Nat) (l : List M.Val) (w : World) (h0 : 0 < l.length) (h5 : l.length ≤ 5) (hl : Lie w b off l) :
    Calls Tryz.prog 43 #[.slice (some ⟨b, off, none⟩) l.length cap] w fun e w' => e = .returned (.int .i64 (M.firstF l)) ∧ Below w.heap.size w w' := by
  have HL := hide hl
  clear hl
  obtain ⟨n, hn⟩ : ∃ n, n = l.length := ⟨_, rfl⟩
  rw [← hn] at h0 h5 ⊢
  have HN := hide hn
  clear hn
  have hz : ¬ (n : Int) = 0 := by omega
  have h5' : ¬ (5 : Int) < n := by omega
  go_enter Tryz.func43, Tryz.ntmps43
  go_wp2
  go_loopw [3] (fun i wr => ∃ k : Nat, k ≤ n ∧ i = .int .i64 k ∧ Hid (M.firstF (l.take k) = 0) ∧ Below w.heap.size w wr) (fun i _ => n - (intOf i).toNat)
  case atStart => exact ⟨0, Nat.zero_le _, rfl, hide rfl, Below.refl _ _⟩
  case round =>
    obtain ⟨k, hk, rfl, hno, hbel⟩ := hrel
    by_cases hlt : k < n
    · have hkl : k < l.length := HN.out ▸ hlt
      obtain ⟨c1, c2, c3, c4⟩ := ((unhide HL).stays (by omega) hbel (Nat.le_refl _)) k hkl
      by_cases hb : M.fault l[k].k l[k].n l[k].s = 0
      · have HV : Hid (∀ w, Calls Tryz.prog 87 #[.agg #[.int .i64 l[k].k, .int .i64 l[k].n, .string l[k].s]] w fun e w' => e = .returned (.int .i64 0) ∧ Below w.heap.size w w') := hide fun w => by have := refValue l[k].k l[k].n l[k].s w c4; rwa [hb] at this
        have HB := hide hb
        clear hb
        go_wp2_with fail
        refine (unhide HV _).mono ?_
        rintro e w1 ⟨rfl, hb1⟩
        go_wp2_with fail
        go_roundw
        case rel => exact ⟨k + 1, by omega, by go_num, hide ((firstF_take hkl hno.out).trans HB.out), hbel.trans (hb1.mono hbel.size)⟩
        case measure => simp [intOf]; omega
      · have HV : Hid (∀ w, Calls Tryz.prog 87 #[.agg #[.int .i64 l[k].k, .int .i64 l[k].n, .string l[k].s]] w fun e w' => e = .returned (.int .i64 (M.fault l[k].k l[k].n l[k].s)) ∧ Below w.heap.size w w') := hide fun w => refValue _ _ _ w c4
        have HB := hide hb
        have hb' : (M.fault l[k].k l[k].n l[k].s != 0) = true := by simpa using hb
        clear hb
        have hfin : Hid (M.firstF l = M.fault l[k].k l[k].n l[k].s) := hide (firstF_bad hkl hno.out HB.out)
        go_wp2_with fail
        refine (unhide HV _).mono ?_
        rintro e w1 ⟨rfl, hb1⟩
        go_wp2_with fail
        go_ret
        exact ⟨by rw [hfin.out]; rfl, hbel.trans (hb1.mono hbel.size)⟩
    · have hfin : Hid (M.firstF l = 0) := hide (by have := hno.out; rwa [List.take_of_length_le (by have := HN.out; omega)] at this)
      go_wp2
      go_ret
      exact ⟨by rw [hfin.out]; rfl, hbel⟩
theorem rlike (v : Value) (l : List M.Val) (w : World) (h : IsVals w v l) : Calls Tryz.prog 43 #[v] w fun e w' => e = .returned (.int .i64 (M.likeF l)) ∧ Below w.heap.size w w' := by
  unfold M.likeF
  by_cases h0 : l.length = 0
  · rw [if_pos h0]
    obtain ⟨ao, cap, rfl, _⟩ := h.shape
    rw [h0]
    exact rlike_none ao cap w
  · rw [if_neg h0]
    by_cases h5 : 5 < l.length
    · rw [if_pos h5]
      obtain ⟨ao, cap, rfl, _⟩ := h.shape
      exact rlike_many ao _ cap w h5
    · rw [if_neg h5]
      obtain ⟨b, off, cap, rfl, _, _, hl⟩ := h.some (by omega)
      exact rlike_some b off cap l w (by omega) (by omega) hl

theorem rtuple_bad (ao : Option Addr) (n cap : Nat) (e : Int) (w : World) (hn : n ≤ maxLen) (he : e ≠ 0) (hL : Calls Tryz.prog 43 #[.slice ao n cap] w fun x w' => x = .returned (.int .i64 e) ∧ Below w.heap.size w w') :
    Calls Tryz.prog 77 #[.slice ao n cap] w fun x w' => x = .returned (.int .i64 e) ∧ Below w.heap.size w w' := by
  unfold maxLen at hn
  have HL := hide hL
  have he' : (e == 0) = false := by simpa using he
  clear hL he
  go_enter Tryz.func77, Tryz.ntmps77
  go_wp2_with fail
  refine (unhide HL).mono ?_
  rintro x w1 ⟨rfl, hb1⟩
  go_wp2_with fail
  go_loopw [3, 4] (fun a i wr => a = .int .i64 e ∧ i = .int .i64 0 ∧ wr = w1) (fun _ _ _ => 0)
  case atStart => exact ⟨rfl, rfl, rfl⟩
  case round =>
    obtain ⟨rfl, rfl, rfl⟩ := hrel
    by_cases h0 : n = 0
    · subst h0
      go_wp2
      go_ret
      exact ⟨rfl, hb1⟩
    · have h0' : (0 : Int) < n := by omega
      go_wp2
      go_ret
      exact ⟨rfl, hb1⟩

def M.anyF (l : List M.Val) : Int := if M.hasAny l then 3 else 0
theorem anyF_yes {l : List M.Val} (h : M.hasAny l = true) : M.anyF l = 3 := by unfold M.anyF; rw [h]; rfl
theorem anyF_no {l : List M.Val} (h : M.hasAny l = false) : M.anyF l = 0 := by unfold M.anyF; rw [h]; rfl

theorem rtuple_ok (b off cap : Nat) (l : List M.Val) (w : World) (hl : Lie w b off l) (hcap : l.length ≤ cap) (hcm : cap ≤ maxLen) (hf : M.likeF l = 0) :
    Calls Tryz.prog 77 #[.slice (some ⟨b, off, none⟩) l.length cap] w fun e w' => e = .returned (.int .i64 (M.anyF l)) ∧ Below w.heap.size w w' := by
  obtain ⟨h0, h5⟩ := likeF_len hf
  have hv : IsVals w (.slice (.some ⟨b, off, none⟩) l.length cap) l := Or.inr (Or.inr ⟨b, off, cap, h0, rfl, hcap, hcm, hl⟩)
  have HK : Hid (Calls Tryz.prog 43 #[.slice (some ⟨b, off, none⟩) l.length cap] w fun e w' => e = .returned (.int .i64 0) ∧ Below w.heap.size w w') := hide (by have := rlike _ l w hv; rwa [hf] at this)
  have HL := hide hl
  clear hv hf hl hcap hcm
  obtain ⟨n, hn⟩ : ∃ n, n = l.length := ⟨_, rfl⟩
  rw [← hn] at h0 h5 HK ⊢
  have HN := hide hn
  clear hn
  go_enter Tryz.func77, Tryz.ntmps77
  go_wp2_with fail
  refine (unhide HK).mono ?_
  rintro x w1 ⟨rfl, hb1⟩
  go_wp2_with fail
  go_loopw [3, 4] (fun a i wr => ∃ k : Nat, ∃ e : Int, k ≤ n ∧ a = .int .i64 e ∧ i = .int .i64 k ∧ Hid ((e = 0 ∧ M.hasAny (l.take k) = false) ∨ (e = 3 ∧ M.hasAny l = true)) ∧ wr = w1) (fun a i _ => if intOf a = 0 then n + 1 - (intOf i).toNat else 0)
  case atStart => exact ⟨0, 0, Nat.zero_le _, rfl, rfl, hide (Or.inl ⟨rfl, rfl⟩), rfl⟩
  case round =>
    obtain ⟨k, e, hk, rfl, rfl, hno, rfl⟩ := hrel
    rcases hno.out with ⟨rfl, hno'⟩ | ⟨rfl, hyes⟩
    · have HNO := hide hno'
      clear hno' hno
      by_cases hlt : k < n
      · have hkl : k < l.length := HN.out ▸ hlt
        obtain ⟨c1, c2, c3, c4⟩ := ((unhide HL).stays (by omega) hb1 (Nat.le_refl _)) k hkl
        have HS : Hid (M.hasAny (l.take (k + 1)) = (l[k].k == 2)) := hide (by
          have h := HNO.out
          unfold M.hasAny at h ⊢
          rw [List.take_succ_eq_append_getElem hkl, List.any_append, h]; simp)
        cases hb : (l[k].k == 2)
        · have HB := hide hb
          go_wp2
          go_roundw
          case rel => exact ⟨k + 1, 0, by omega, rfl, by go_num, hide (Or.inl ⟨rfl, HS.out.trans HB.out⟩), by first | rfl | trivial⟩
          case measure => simp [intOf]; omega
        · have hfin : Hid (M.hasAny l = true) := hide (by
            have h := HS.out.trans hb
            unfold M.hasAny at h ⊢
            rw [← List.take_append_drop (k + 1) l, List.any_append, h]; rfl)
          go_wp2
          go_roundw
          case rel => exact ⟨k + 1, 3, by omega, rfl, by go_num, hide (Or.inr ⟨rfl, hfin.out⟩), by first | rfl | trivial⟩
          case measure => simp [intOf]; omega
      · have hfin : Hid (M.hasAny l = false) := hide (by have := HNO.out; rwa [List.take_of_length_le (by have := HN.out; omega)] at this)
        go_wp2
        go_ret
        exact ⟨by rw [anyF_no hfin.out]; rfl, hb1⟩
    · have HY := hide hyes
      clear hyes hno
      by_cases hlt : k < n
      · go_wp2
        go_ret
        exact ⟨by rw [anyF_yes HY.out]; rfl, hb1⟩
      · go_wp2
        go_ret
        exact ⟨by rw [anyF_yes HY.out]; rfl, hb1⟩

theorem rtuple (v : Value) (l : List M.Val) (w : World) (h : IsVals w v l) : Calls Tryz.prog 77 #[v] w fun e w' => e = .returned (.int .i64 (M.tupF l)) ∧ Below w.heap.size w w' := by
  unfold M.tupF
  by_cases hf : M.likeF l ≠ 0
  · rw [if_pos hf]
    have hL := rlike v l w h
    obtain ⟨ao, cap, rfl, hm⟩ := h.shape
    exact rtuple_bad ao _ cap _ w hm hf hL
  · rw [if_neg hf]
    have hf' : M.likeF l = 0 := by simpa using hf
    obtain ⟨b, off, cap, rfl, h1, h2, h3⟩ := h.some (likeF_len hf').1
    exact rtuple_ok b off cap l w h3 h1 h2 hf'

theorem rfits_other (ao1 ao2 : Option Addr) (n1 n2 cap1 cap2 : Nat) (w : World) (h : n1 ≠ n2) : Calls Tryz.prog 120 #[.slice ao1 n1 cap1, .slice ao2 n2 cap2] w fun e w' => e = .returned (.bool false) ∧ Below w.heap.size w w' := by
  have hb : ((n1 : Int) != (n2 : Int)) = true := by simpa using (by omega : ¬ (n1 : Int) = (n2 : Int))
  clear h
  go_enter Tryz.func120, Tryz.ntmps120
  go_wp2
  go_ret
  exact ⟨rfl, Below.refl _ _⟩

theorem rfits_walk (b1 off1 cap1 b2 off2 cap2 : Nat) (l1 l2 : List M.Val) (w : World) (hl1 : Lie w b1 off1 l1) (hl2 : Lie w b2 off2 l2) (h0 : 0 < l1.length) (h5 : l1.length ≤ 5) (hlen : l1.length = l2.length) :
    Calls Tryz.prog 120 #[.slice (some ⟨b1, off1, none⟩) l1.length cap1, .slice (some ⟨b2, off2, none⟩) l2.length cap2] w fun e w' => e = .returned (.bool (M.fitAll l1 l2)) ∧ Below w.heap.size w w' := by
  have HL1 := hide hl1
  have HL2 := hide hl2
  clear hl1 hl2
  obtain ⟨n, hn⟩ : ∃ n, n = l1.length := ⟨_, rfl⟩
  rw [← hn] at h0 h5 ⊢
  have hn2 : l2.length = n := by omega
  rw [hn2]
  have HN := hide hn
  have HN2 := hide hn2
  clear hn hn2 hlen
  go_enter Tryz.func120, Tryz.ntmps120
  go_wp2
  go_loopw [5] (fun i wr => ∃ k : Nat, k ≤ n ∧ i = .int .i64 k ∧ Hid (M.fitAll (l1.take k) (l2.take k) = true) ∧ Below w.heap.size w wr) (fun i _ => n - (intOf i).toNat)
  case atStart => exact ⟨0, Nat.zero_le _, rfl, hide rfl, Below.refl _ _⟩
  case round =>
    obtain ⟨k, hk, rfl, hno, hbel⟩ := hrel
    by_cases hlt : k < n
    · have hkl : k < l1.length := HN.out ▸ hlt
      have hkl2 : k < l2.length := HN2.out ▸ hlt
      have ik0 : (0 : Int) ≤ (k : Int) := by omega
      have ikn : (k : Int) < (n : Int) := by omega
      obtain ⟨c1, c2, c3, c4⟩ := ((unhide HL1).stays (by omega) hbel (Nat.le_refl _)) k hkl
      obtain ⟨d1, d2, d3, d4⟩ := ((unhide HL2).stays (by omega) hbel (Nat.le_refl _)) k hkl2
      have HS := hide (fitAll_take hkl hkl2 hno.out)
      clear c4 d4
      cases h2 : (l1[k].k == 2)
      · have hne : (l1[k].k != 2) = true := by simpa using h2
        have hf1 : M.fit1 l1[k] l2[k] = M.same l1[k].k l1[k].n l1[k].s l2[k].k l2[k].n l2[k].s := by unfold M.fit1; rw [h2]; rfl
        have HF1 := hide hf1
        clear hf1
        cases hb : M.same l1[k].k l1[k].n l1[k].s l2[k].k l2[k].n l2[k].s
        · have HB : Hid (M.fit1 l1[k] l2[k] = false) := hide (HF1.out.trans hb)
          have hb' : (!M.same l1[k].k l1[k].n l1[k].s l2[k].k l2[k].n l2[k].s) = true := by rw [hb]; rfl
          go_wp2_with fail
          go_quiet (fail)
          go_wp2
          go_ret
          exact ⟨by rw [fitAll_no hkl hkl2 HB.out]; rfl, Go.below_drewN hbel _⟩
        · have HB : Hid (M.fit1 l1[k] l2[k] = true) := hide (HF1.out.trans hb)
          have hb' : (!M.same l1[k].k l1[k].n l1[k].s l2[k].k l2[k].n l2[k].s) = false := by rw [hb]; rfl
          go_wp2_with fail
          go_quiet (fail)
          go_wp2
          go_roundw
          case rel => exact ⟨k + 1, by omega, by go_num, hide (HS.out.trans HB.out), Go.below_drewN hbel _⟩
          case measure => simp [intOf]; omega
      · have hne : (l1[k].k != 2) = false := by simpa using h2
        have HB : Hid (M.fit1 l1[k] l2[k] = true) := hide (by unfold M.fit1; rw [h2]; rfl)
        go_wp2_with fail
        go_quiet (fail)
        go_wp2
        go_roundw
        case rel => exact ⟨k + 1, by omega, by go_num, hide (HS.out.trans HB.out), Go.below_drewN hbel _⟩
        case measure => simp [intOf]; omega
    · have hfin : Hid (M.fitAll l1 l2 = true) := hide (by have := hno.out; rwa [List.take_of_length_le (by have := HN.out; omega), List.take_of_length_le (by have := HN2.out; omega)] at this)
      go_wp2
      go_ret
      exact ⟨by rw [hfin.out]; rfl, hbel⟩

theorem rfits (v1 v2 : Value) (l1 l2 : List M.Val) (w : World) (h1 : IsVals w v1 l1) (h2 : IsVals w v2 l2) (hf1 : M.likeF l1 = 0) :
    Calls Tryz.prog 120 #[v1, v2] w fun e w' => e = .returned (.bool (M.fitAll l1 l2)) ∧ Below w.heap.size w w' := by
  by_cases hlen : l1.length = l2.length
  · obtain ⟨g0, g5⟩ := likeF_len hf1
    obtain ⟨b1, off1, cap1, rfl, _, _, hl1⟩ := h1.some g0
    obtain ⟨b2, off2, cap2, rfl, _, _, hl2⟩ := h2.some (by omega)
    exact rfits_walk b1 off1 cap1 b2 off2 cap2 l1 l2 w hl1 hl2 g0 g5 hlen
  · obtain ⟨a1, c1, rfl, _⟩ := h1.shape
    obtain ⟨a2, c2, rfl, _⟩ := h2.shape
    rw [fitAll_len hlen]
    exact rfits_other a1 a2 _ _ c1 c2 w hlen

theorem data_eq {a b : ByteArray} (h : a.data.toList = b.data.toList) : a = b := by
  cases a; cases b; simp at h; rw [h]
theorem rline (v : Value) (l : List M.Val) (w : World) (h : IsVals w v l) (hf : M.likeF l = 0) :
    Calls Tryz.prog 50 #[v] w fun e w' => e = .returned (.string (M.line l)) ∧ Below w.heap.size w w' := by
  obtain ⟨h0, h5⟩ := likeF_len hf
  obtain ⟨b, off, cap, rfl, _, _, hl⟩ := h.some h0
  have HE := hide (likeF_each' hf)
  have HL := hide hl
  clear h hf hl
  obtain ⟨n, hn⟩ : ∃ n, n = l.length := ⟨_, rfl⟩
  rw [← hn] at h0 h5 ⊢
  have HN := hide hn
  clear hn
  go_enter Tryz.func50, Tryz.ntmps50
  go_wp2
  go_loopw [3, 4] (fun a i wr => ∃ k : Nat, ∃ q : ByteArray, k ≤ n ∧ a = .string q ∧ i = .int .i64 k ∧ Hid (q.data.toList = M.joinL (words (l.take k))) ∧ Below w.heap.size w wr) (fun _ i _ => n - (intOf i).toNat)
  case atStart => exact ⟨0, ⟨#[]⟩, Nat.zero_le _, rfl, rfl, hide rfl, Below.refl _ _⟩
  case round =>
    obtain ⟨k, q, hk, rfl, rfl, hq, hbel⟩ := hrel
    by_cases hlt : k < n
    · have hkl : k < l.length := HN.out ▸ hlt
      obtain ⟨c1, c2, c3, c4⟩ := ((unhide HL).stays (by omega) hbel (Nat.le_refl _)) k hkl
      have hfk : Hid (M.fault l[k].k l[k].n l[k].s = 0) := hide (HE.out _ (List.getElem_mem hkl))
      have hqz : q.size ≤ 70 := by
        have := words_len (l := l.take k) (fun v hv => HE.out v (List.mem_of_mem_take hv))
        rw [List.length_take] at this
        have h2 := congrArg List.length hq.out
        have h3 : q.data.toList.length = q.size := by simp
        omega
      have hwz : (M.word l[k].k l[k].n l[k].s).size ≤ 13 := by have := word_size (v := l[k]) (HE.out _ (List.getElem_mem hkl)); simpa [M.Val.word] using this
      have hadd1 : ∀ w, (Op.stringOp .add q ⟨#[44]⟩).run Tryz.prog w = .ok (.string (q ++ ⟨#[44]⟩)) w := fun w => run_string_add_sum w _ _ (by show q.size + 1 ≤ _; omega)
      have hadd2 : ∀ w, (Op.stringOp .add (q ++ ⟨#[44]⟩) (M.word l[k].k l[k].n l[k].s)).run Tryz.prog w = .ok (.string ((q ++ ⟨#[44]⟩) ++ M.word l[k].k l[k].n l[k].s)) w := fun w => run_string_add_sum w _ _ (by rw [ByteArray.size_append]; show q.size + 1 + _ ≤ _; omega)
      have hadd3 : ∀ w, (Op.stringOp .add q (M.word l[k].k l[k].n l[k].s)).run Tryz.prog w = .ok (.string (q ++ M.word l[k].k l[k].n l[k].s)) w := fun w => run_string_add_sum w _ _ (by omega)
      clear hqz hwz
      by_cases hk0 : k = 0
      · have hk1 : ¬ (0 : Int) < (k : Int) := by omega
        have HK0 := hide hk0
        clear hadd1 hadd2 hk0
        go_wp2_with fail
        refine (refWord _ _ _ _ hfk.out).mono ?_
        rintro e w2 ⟨rfl, hb2⟩
        go_wp2_with fail
        go_roundw
        case rel =>
          refine ⟨k + 1, _, by omega, rfl, by go_num, hide ?_, hbel.trans (hb2.mono hbel.size)⟩
          rw [words_take hkl, ByteArray.data_append, Array.toList_append, hq.out]
          have e0 : words (l.take k) = [] := by rw [HK0.out]; rfl
          rw [e0]
          rfl
        case measure => simp [intOf]; omega
      · have hk1 : (0 : Int) < (k : Int) := by omega
        clear hadd3
        go_wp2_with fail
        refine (refWord _ _ _ _ hfk.out).mono ?_
        rintro e w2 ⟨rfl, hb2⟩
        go_wp2_with fail
        go_roundw
        case rel =>
          refine ⟨k + 1, _, by omega, rfl, by go_num, hide ?_, hbel.trans (hb2.mono hbel.size)⟩
          rw [words_take hkl, join_snoc _ _ (by
            intro e
            have := congrArg List.length e
            unfold words at this
            rw [List.length_map, List.length_take] at this
            simp only [List.length_nil] at this
            omega), ByteArray.data_append, Array.toList_append, ByteArray.data_append, Array.toList_append, hq.out, List.append_assoc]
          rfl
        case measure => simp [intOf]; omega
    · have hfin : Hid (l.take k = l) := hide (List.take_of_length_le (by have := HN.out; omega))
      have hlast : Hid (q = M.line l) := hide (data_eq (by rw [hq.out, hfin.out, line_eq]))
      go_wp2
      go_ret
      exact ⟨by rw [← hlast.out]; rfl, hbel⟩

end Go.Proofs.YtlefhfmckimlaakGreatDoor

namespace Go.Proofs.YtlefhfmckimlaakGreatDoor
open Go.RowKit

theorem rread_none (w : World) : Calls Tryz.prog 75 #[.string ⟨#[]⟩] w fun e w' => e = .returned (.tuple #[.slice none 0 0, .int .i64 5]) ∧ Below w.heap.size w w' := by
  go_enter Tryz.func75, Tryz.ntmps75
  go_wp2
  go_ret2
  exact ⟨rfl, Below.refl _ _⟩

def pvals (ps : List Str) : List M.Val := (lst ps).map M.pVal
theorem pvals_snoc (ps : List Str) (x : Str) : pvals (ps ++ [x]) = pvals ps ++ [⟨M.pK x.1, M.pN x.1, M.pS x.1⟩] := by
  unfold pvals; rw [lst_snoc, List.map_append]; simp [pVal_eq]
theorem pvals_len (ps : List Str) : (pvals ps).length = ps.length := by simp [pvals, lst]
theorem pvals_size {ps : List Str} (h : okS ps) : ∀ v ∈ pvals ps, v.s.size ≤ maxLen := fun v hv => by
  obtain ⟨p, hp, rfl⟩ := List.mem_map.1 hv
  obtain ⟨x, hx, rfl⟩ := List.mem_map.1 hp
  rw [pVal_eq]
  have := fault_size (v := ⟨M.pK x.1, M.pN x.1, M.pS x.1⟩) (M.back_text (h x hx)).1
  unfold maxLen; omega

set_option maxRecDepth 100000 in
set_option maxHeartbeats 2000000 in
theorem rread_some (s : ByteArray) (w : World) (hs : s.size ≤ 1048576) (h0 : s.size ≠ 0) :
    Calls Tryz.prog 75 #[.string s] w fun e w' => (∃ v, e = .returned (.tuple #[v, .int .i64 (M.readE s.data.toList)]) ∧ w'.ownsRow w.heap.size 31 3 v (M.readV s.data.toList).length (flat (M.readV s.data.toList)) ∧ ∀ x ∈ M.readV s.data.toList, x.s.size ≤ maxLen) ∧ Below w.heap.size w w' := by
  obtain ⟨hn1, hn2⟩ := empty_of h0
  have HL0 : Hid (s.data.toList.length ≠ 0) := hide (by simpa using h0)
  clear h0
  obtain ⟨i0, hi, hz0, hz1, hz2⟩ := info_parts infoV
  have HI := hide (And.intro hi (And.intro hz0 (And.intro hz1 hz2)))
  clear hi hz0 hz1 hz2
  go_enter Tryz.func75, Tryz.ntmps75
  go_wp2_with fail
  refine (rcut s _ hs).mono ?_
  rintro e w1 ⟨v, ps, rfl, hown, hlst, hlen, hb1⟩
  have hpos : 0 < ps.length := by
    rcases Nat.eq_zero_or_pos ps.length with h | h
    · have e0 := List.length_eq_zero_iff.1 h
      rw [e0] at hlst
      exact absurd hlst.symm (M.cutL_ne _)
    · exact h
  obtain ⟨g, cap, rfl, hg1, hg2⟩ := hown.form hpos
  have HCELL : Hid (∀ j (h : j < ps.length), w1.cell? ⟨g, j, none⟩ = some (.string (ps[j]'h).1)) := hide fun j h => by
    rw [hown.cellAt j (by omega)]
    unfold strs
    rw [List.getElem?_map, List.getElem?_eq_getElem h]; rfl
  have HLST := hide hlst
  have HB1 := hide hb1
  obtain ⟨n, hn⟩ : ∃ n, n = ps.length := ⟨_, rfl⟩
  rw [← hn] at hlen hpos ⊢
  have HN := hide hn
  clear hown hlst hb1 hn hg1
  go_wp2_with fail
  go_loopw [5, 6] (fun x i wr => ∃ (v : Value) (k : Nat), v = x ∧ k ≤ n ∧ i = .int .i64 k ∧ Hid (okS (ps.take k)) ∧ Hid (wr.ownsRow w1.heap.size 31 3 v k (flat (pvals (ps.take k)))) ∧ Below w1.heap.size w1 wr) (fun _ i _ => n - (intOf i).toNat)
  case atStart => exact ⟨_, 0, rfl, Nat.zero_le _, rfl, hide (fun x hx => by simp at hx), hide (World.ownsRow_nil _ _ _ _), Below.refl _ _⟩
  case round =>
    obtain ⟨v, k, rfl, hk, rfl, hok, hrow, hbel⟩ := hrel
    have hz := hbel.size
    have HBEL := hide hbel
    by_cases hlt : k < n
    · have hkl : k < ps.length := HN.out ▸ hlt
      have hc : wr.cell? ⟨g, k, none⟩ = some (.string ps[k].1) := (hbel.cell (p := ⟨g, k, none⟩) hg2).trans (HCELL.out k hkl)
      clear hbel
      have htk : Hid (ps.take (k + 1) = ps.take k ++ [ps[k]]) := hide (List.take_succ_eq_append_getElem hkl)
      obtain ⟨x, hx⟩ : ∃ x, x = ps[k] := ⟨_, rfl⟩
      rw [← hx] at hc htk
      have HXE := hide hx
      clear hx
      by_cases he : M.pErr x.1 = 0
      · have HR : Hid (∀ w, Calls Tryz.prog 119 #[.string x.1] w fun e w' => e = .returned (.tuple #[.agg #[.int .i64 (M.pK x.1), .int .i64 (M.pN x.1), .string (M.pS x.1)], .int .i64 0]) ∧ Below w.heap.size w w') := hide fun w => by have := refRead x.1 w x.2; rwa [he] at this
        have HE := hide he
        clear he
        go_wp2_with fail
        refine (unhide HR _).mono ?_
        rintro e w2 ⟨rfl, hb2⟩
        have hz2 : w1.heap.size ≤ w2.heap.size := Nat.le_trans hz hb2.size
        have HROW2 : Hid (((w2.alloc (cellsV x)).alloc (cellsV x)).ownsRow w1.heap.size 31 3 v k (flat (pvals (ps.take k)))) := hide (((owns_below hrow.out hb2).alloc _).alloc _)
        have HNEW := hide (news_two w2 x)
        have HB2 := hide (HBEL.out.trans (hb2.mono hz))
        clear hb2
        go_wp2_with (at_builtin; (refine wpList_append_own _ rfl (.tmp 30) (.tmp 32) 32 rfl w1.heap.size 31 i0 (.agg #[.int .i64 0, .int .i64 0, .string ⟨#[]⟩]) 3 32 Tryz.underlying32 HI.out.1 HI.out.2.1 HI.out.2.2.1 HI.out.2.2.2 rfl (by decide) v k (flat (pvals (ps.take k))) rfl HROW2.out ⟨w2.heap.size + 1, 0, none⟩ 1 1 [.int .i64 (M.pK x.1), .int .i64 (M.pN x.1), .string (M.pS x.1)] rfl rfl HNEW.out (flat_oneCell [⟨M.pK x.1, M.pN x.1, M.pS x.1⟩]) (by unfold maxLen; omega) (by omega) (Nat.le_trans hz2 (by simp; omega)) ?_))
        intro v' w3 hown' hgrow _
        have HO := hide hown'
        have HB3 := hide (((HB2.out.alloc hz2 _).alloc (by simp; omega) _).grown hgrow (by simp; omega) (fun j hj => (HROW2.out.lt j hj).1))
        clear hown' hgrow
        go_wp2
        go_roundw
        case rel =>
          refine ⟨_, k + 1, rfl, by omega, by go_num, hide ?_, hide ?_, HB3.out⟩
          · rw [htk.out]; exact okS_snoc hok.out HE.out
          · rw [htk.out, pvals_snoc, flat_append]; exact HO.out
        case measure => simp [intOf]; omega
      · have HR : Hid (∀ w, Calls Tryz.prog 119 #[.string x.1] w fun e w' => e = .returned (.tuple #[.agg #[.int .i64 (M.pK x.1), .int .i64 (M.pN x.1), .string (M.pS x.1)], .int .i64 (M.pErr x.1)]) ∧ Below w.heap.size w w') := hide fun w => refRead x.1 w x.2
        have HE := hide he
        have he' : (M.pErr x.1 != 0) = true := by simpa using he
        clear he
        have hst := parse_stop (l := s.data.toList) (front := ps.take k) (x := x) (by
          rw [← htk.out, ← HLST.out]
          unfold lst
          rw [List.map_take]
          exact List.take_prefix _ _) hok.out HE.out HL0.out
        have HST := hide hst
        clear hst
        go_wp2_with fail
        refine (unhide HR _).mono ?_
        rintro e w2 ⟨rfl, hb2⟩
        have HB2 := hide (HB1.out.trans ((HBEL.out.trans (hb2.mono hz)).mono HB1.out.size))
        clear hb2
        go_wp2_with fail
        go_ret2
        refine ⟨⟨.slice none 0 0, by rw [HST.out.1]; rfl, by rw [HST.out.2]; exact ⟨World.ownsRow_nil _ _ _ _, fun x hx => by simp at hx⟩⟩, HB2.out.alloc HB2.out.size _⟩
    · clear hbel
      have hfin : Hid (ps.take k = ps) := hide (List.take_of_length_le (by have := HN.out; omega))
      have hok' : Hid (okS ps) := hide (by have := hok.out; rwa [hfin.out] at this)
      have hrow' : Hid (wr.ownsRow w1.heap.size 31 3 v k (flat (pvals ps))) := hide (by have := hrow.out; rwa [hfin.out] at this)
      have hkn : k = n := by omega
      subst hkn
      obtain ⟨ao, cap2, hvs⟩ : ∃ ao cap, v = .slice ao k cap := by
        rcases hrow'.out.2 with ⟨h1, h2⟩ | ⟨g, cap, _, h1, _⟩
        · exact ⟨none, 0, by rw [h1, h2]⟩
        · exact ⟨_, cap, h1⟩
      subst hvs
      have HB2 := hide (HB1.out.trans (HBEL.out.mono HB1.out.size))
      rcases read_done HLST.out hok'.out HL0.out with ⟨d1, d2, d3⟩ | ⟨d1, d2, d3⟩
      · have h5 : (5 : Int) < (k : Int) := by have := HN.out; omega
        have H2 := hide d2
        have H3 := hide d3
        clear d1 d2 d3
        go_wp2
        go_ret2
        exact ⟨⟨.slice none 0 0, by rw [H2.out]; rfl, by rw [H3.out]; exact ⟨World.ownsRow_nil _ _ _ _, fun x hx => by simp at hx⟩⟩, HB2.out⟩
      · have h5 : ¬ (5 : Int) < (k : Int) := by have := HN.out; omega
        have H2 := hide d2
        have H3 := hide d3
        clear d1 d2 d3
        go_wp2
        go_ret2
        refine ⟨⟨.slice ao k cap2, by rw [H2.out]; rfl, ?_⟩, HB2.out⟩
        rw [H3.out]
        have hr := hrow'.out
        rw [HN.out, ← pvals_len ps] at hr
        rw [HN.out, ← pvals_len ps]
        refine ⟨⟨hr.1, ?_⟩, pvals_size hok'.out⟩
        rcases hr.2 with h2 | ⟨g, cap, cur, hv, hg, hh, r⟩
        · exact Or.inl h2
        · exact Or.inr ⟨g, cap, cur, hv, Nat.le_trans HB1.out.size hg, hh, r⟩

/-- .. in memory of its own -/
theorem rreadO (s : ByteArray) (w : World) (hs : s.size ≤ 1048576) :
    Calls Tryz.prog 75 #[.string s] w fun e w' => (∃ v, e = .returned (.tuple #[v, .int .i64 (M.readE s.data.toList)]) ∧ w'.ownsRow w.heap.size 31 3 v (M.readV s.data.toList).length (flat (M.readV s.data.toList)) ∧ ∀ x ∈ M.readV s.data.toList, x.s.size ≤ maxLen) ∧ Below w.heap.size w w' := by
  by_cases h : s.size = 0
  · have := size0 h; subst this
    refine (rread_none w).mono ?_
    rintro e w' ⟨rfl, hb⟩
    exact ⟨⟨_, rfl, World.ownsRow_nil _ _ _ _, fun x hx => by exact absurd hx (by simp [M.readV, M.readE])⟩, hb⟩
  · exact rread_some s w hs h
theorem rread (s : ByteArray) (w : World) (hs : s.size ≤ 1048576) :
    Calls Tryz.prog 75 #[.string s] w fun e w' => (∃ v, e = .returned (.tuple #[v, .int .i64 (M.readE s.data.toList)]) ∧ IsVals w' v (M.readV s.data.toList)) ∧ Below w.heap.size w w' := by
  refine (rreadO s w hs).mono ?_
  rintro e w' ⟨⟨v, rfl, h1, h2⟩, hb⟩
  exact ⟨⟨v, rfl, isVals_own h2 h1⟩, hb⟩

end Go.Proofs.YtlefhfmckimlaakGreatDoor

set_option linter.unusedVariables false
namespace Go.Proofs.YtlefhfmckimlaakGreatDoor
open Go.RowKit

set_option maxRecDepth 100000 in
set_option maxHeartbeats 2000000 in
theorem rname (e : Int) (w : World) (h0 : 0 ≤ e) (h8 : e ≤ 8) : Calls Tryz.prog 73 #[.int .i64 e] w fun x w' => x = .returned (.string ⟨(M.errN e).toArray⟩) ∧ Below w.heap.size w w' := by
  have h : e = 0 ∨ e = 1 ∨ e = 2 ∨ e = 3 ∨ e = 4 ∨ e = 5 ∨ e = 6 ∨ e = 7 ∨ e = 8 := by omega
  rcases h with rfl | rfl | rfl | rfl | rfl | rfl | rfl | rfl | rfl
  all_goals
    go_enter Tryz.func73, Tryz.ntmps73
    go_wp2_with fail
    go_ret
    exact ⟨rfl, (Below.refl _ _).alloc (Nat.le_refl _) _⟩

theorem numI_snoc (l : List UInt8) (c : UInt8) : M.numI (l ++ [c]) = M.numI l * 10 + c.toNat - 48 := by
  unfold M.numI
  rw [List.foldl_append]
  rfl
theorem take_next {s : ByteArray} {i : Nat} (h : i < s.size) : s.data.toList.take (i + 1) = s.data.toList.take i ++ [s[i]] := by
  rw [List.take_succ_eq_append_getElem (by simpa using h)]
  rfl
theorem pow_le {i : Nat} (h : i ≤ 3) : 10 ^ i ≤ 1000 := Nat.pow_le_pow_right (by decide) h
/-- digits alone -/
def M.digB (l : List UInt8) : Bool := l.all fun c => decide (48 ≤ c.toNat) && decide (c.toNat ≤ 57)

theorem dig_no {s : ByteArray} {i : Nat} (h : i < s.size) (hd : ¬ (48 ≤ s[i].toNat ∧ s[i].toNat ≤ 57)) : M.digB s.data.toList = false := by
  cases hh : M.digB s.data.toList
  · rfl
  · have hm : s[i] ∈ s.data.toList := by
      have : s[i] = s.data.toList[i]'(by simpa using h) := rfl
      rw [this]; exact List.getElem_mem _
    have := List.all_eq_true.1 hh _ hm
    simp only [Bool.and_eq_true, decide_eq_true_eq] at this
    exact absurd this hd
theorem dig_next {s : ByteArray} {i : Nat} (h : i < s.size) (hb : M.digB (s.data.toList.take i) = true) (hd : 48 ≤ s[i].toNat ∧ s[i].toNat ≤ 57) : M.digB (s.data.toList.take (i + 1)) = true := by
  rw [take_next h]
  unfold M.digB at hb ⊢
  rw [List.all_append, hb]
  simp [hd.1, hd.2]

set_option maxRecDepth 100000 in
set_option maxHeartbeats 1000000 in
theorem rnumber_loop (s : ByteArray) (w : World) (h1 : 1 ≤ s.size) (h4 : s.size ≤ 4) (hz : ¬ (s[0]'(by omega) = 48 ∧ 1 < s.size)) :
    Calls Tryz.prog 71 #[.string s] w fun x w' => x = .returned (.tuple #[.int .i64 (if M.digB s.data.toList = true then M.numI s.data.toList else 0), .bool (M.digB s.data.toList)]) ∧ w' = w := by
  have hlen : s.data.toList.length = s.size := by simp
  have a1 : s.toList.isEmpty = false := by
    cases hh : s.toList.isEmpty
    · rfl
    · have e : s.toList = [] := by simpa using hh
      have e2 : s.data.toList = [] := by rw [ByteArray.toList_eq] at e; exact e
      rw [e2] at hlen
      simp at hlen
      omega
  have a2 : ¬ (4 : Int) < (s.size : Int) := by omega
  have a3 : (0 : Int) < (s.size : Int) := by omega
  have HLEN := hide hlen
  have HQ : Hid ((((s[0]'(by omega)).toNat : Int) == 48) = true ∧ decide ((1 : Int) < (s.size : Int)) = false ∨ (((s[0]'(by omega)).toNat : Int) == 48) = false) := hide (by
    by_cases h : s[0]'(by omega) = 48
    · exact Or.inl ⟨by rw [h]; rfl, by have : ¬ 1 < s.size := fun q => hz ⟨h, q⟩; exact decide_eq_false (by omega)⟩
    · refine Or.inr ?_
      cases hh : (((s[0]'(by omega)).toNat : Int) == 48)
      · rfl
      · exact absurd (UInt8.toNat_inj.1 (by have : ((s[0]'(by omega)).toNat : Int) = 48 := by simpa using hh
                                            show (s[0]'(by omega)).toNat = 48; omega)) h)
  clear hz
  obtain ⟨V, hV⟩ : ∃ V : Int, V = if M.digB s.data.toList = true then M.numI s.data.toList else 0 := ⟨_, rfl⟩
  obtain ⟨D, hD⟩ : ∃ D : Bool, D = M.digB s.data.toList := ⟨_, rfl⟩
  rw [← hV, ← hD]
  have HV := hide (And.intro hV hD)
  clear hV hD
  rcases HQ.out with ⟨q1, q2⟩ | q1
  all_goals
    clear HQ
    go_enter Tryz.func71, Tryz.ntmps71
    go_wp2_with fail
    go_loopw [4, 5] (fun sn si wx => ∃ (i z : Nat), sn = .int .i64 z ∧ si = .int .i64 i ∧ i ≤ s.size ∧ Hid (z + 1 ≤ 10 ^ i) ∧ Hid ((z : Int) = M.numI (s.data.toList.take i)) ∧ Hid (M.digB (s.data.toList.take i) = true) ∧ wx = w) (fun _ si _ => s.size - (intOf si).toNat)
    case atStart => exact ⟨0, 0, rfl, rfl, Nat.zero_le _, hide (by decide), hide rfl, hide rfl, rfl⟩
    case round =>
      obtain ⟨i, z, rfl, rfl, hi, HZ, HN, HD, hwx⟩ := hrel
      obtain rfl := hwx.symm
      have i0 : (0 : Int) ≤ (i : Int) := by omega
      by_cases hlt : i < s.size
      · have i1 : (i : Int) < (s.size : Int) := by omega
        have hp := pow_le (show i ≤ 3 by omega)
        have z9 : z ≤ 999 := by have := HZ.out; omega
        by_cases d1 : s[i].toNat < 48
        · have c1 : (s[i].toNat : Int) < 48 := by omega
          have HF := hide (dig_no hlt (by omega))
          clear hp
          go_wp2_with fail
          go_ret2
          obtain ⟨e1, e2⟩ := HV.out
          rw [HF.out] at e1 e2
          rw [e1, e2]
          exact ⟨rfl, by first | rfl | trivial⟩
        · have c1 : ¬ (s[i].toNat : Int) < 48 := by omega
          by_cases d2 : 57 < s[i].toNat
          · have c2 : (57 : Int) < (s[i].toNat : Int) := by omega
            have HF := hide (dig_no hlt (by omega))
            clear hp
            go_wp2_with fail
            go_ret2
            obtain ⟨e1, e2⟩ := HV.out
            rw [HF.out] at e1 e2
            rw [e1, e2]
            exact ⟨rfl, by first | rfl | trivial⟩
          · have c2 : ¬ (57 : Int) < (s[i].toNat : Int) := by omega
            have HF := hide (dig_next hlt HD.out (by omega))
            have HN2 : Hid (((z * 10 + s[i].toNat - 48 : Nat) : Int) = M.numI (s.data.toList.take (i + 1))) := hide (by rw [take_next hlt, numI_snoc, ← HN.out]; omega)
            have HZ2 : Hid ((z * 10 + s[i].toNat - 48) + 1 ≤ 10 ^ (i + 1)) := hide (by rw [Nat.pow_succ]; have := HZ.out; omega)
            clear hp
            go_wp2_with fail
            go_roundw
            case rel => exact ⟨i + 1, z * 10 + s[i].toNat - 48, by go_num, by go_num, by omega, HZ2, HN2, HF, by first | rfl | trivial⟩
            case measure => simp [intOf]; omega
      · have i1 : ¬ (i : Int) < (s.size : Int) := by omega
        have HF : Hid (M.digB s.data.toList = true ∧ (z : Int) = M.numI s.data.toList) := hide (by
          have e : s.data.toList.take i = s.data.toList := List.take_of_length_le (by have := HLEN.out; omega)
          have q1 := HD.out
          have q2 := HN.out
          rw [e] at q1 q2
          exact ⟨q1, q2⟩)
        go_wp2_with fail
        go_ret2
        obtain ⟨e1, e2⟩ := HV.out
        rw [HF.out.1] at e1 e2
        rw [if_pos rfl] at e1
        rw [e1, e2, ← HF.out.2]
        exact ⟨rfl, by first | rfl | trivial⟩

theorem numB_in {s : ByteArray} (h1 : 1 ≤ s.size) (h4 : s.size ≤ 4) (hz : ¬ (s[0]'(by omega) = 48 ∧ 1 < s.size)) : M.numB s.data.toList = M.digB s.data.toList := by
  have hlen : s.data.toList.length = s.size := by simp
  have hh : s.data.toList.head? = some (s[0]'(by omega)) := by
    rw [List.head?_eq_getElem?, List.getElem?_eq_getElem (by omega)]
    rfl
  unfold M.numB M.digB
  rw [hh, hlen, decide_eq_true h1, decide_eq_true h4]
  have e : (some (s[0]'(by omega)) == some (48 : UInt8) && decide (1 < s.size)) = false := by
    cases q : (some (s[0]'(by omega)) == some (48 : UInt8) && decide (1 < s.size))
    · rfl
    · simp only [Bool.and_eq_true, beq_iff_eq, Option.some.injEq, decide_eq_true_eq] at q
      exact absurd q hz
  rw [e]
  simp
theorem numB_out {s : ByteArray} (h : s.size = 0 ∨ 4 < s.size ∨ ∃ h : 0 < s.size, s[0] = 48 ∧ 1 < s.size) : M.numB s.data.toList = false := by
  have hlen : s.data.toList.length = s.size := by simp
  unfold M.numB
  rw [hlen]
  rcases h with h | h | ⟨h0, h, h2⟩
  · rw [show decide (1 ≤ s.size) = false from decide_eq_false (by omega)]; rfl
  · rw [show decide (s.size ≤ 4) = false from decide_eq_false (by omega)]; simp
  · have hh : s.data.toList.head? = some (s[0]'(by omega)) := by
      rw [List.head?_eq_getElem?, List.getElem?_eq_getElem (by omega)]
      rfl
    rw [hh, h, decide_eq_true h2]
    simp
theorem none_empty {s : ByteArray} (h1 : 1 ≤ s.size) : s.toList.isEmpty = false := by
  have hlen : s.data.toList.length = s.size := by simp
  cases hh : s.toList.isEmpty
  · rfl
  · have e : s.toList = [] := by simpa using hh
    have e2 : s.data.toList = [] := by rw [ByteArray.toList_eq] at e; exact e
    rw [e2] at hlen
    simp at hlen
    omega

set_option maxRecDepth 100000 in
set_option maxHeartbeats 1000000 in
/-- the document's number, of any text -/
theorem rnumber (s : ByteArray) (w : World) (hs : s.size ≤ maxLen) :
    Calls Tryz.prog 71 #[.string s] w fun x w' => x = .returned (.tuple #[.int .i64 (if M.numB s.data.toList = true then M.numI s.data.toList else 0), .bool (M.numB s.data.toList)]) ∧ w' = w := by
  unfold maxLen at hs
  by_cases h : s.size = 0 ∨ 4 < s.size ∨ ∃ h : 0 < s.size, s[0] = 48 ∧ 1 < s.size
  · rw [numB_out h]
    by_cases h0 : s.size = 0
    · have e : s = ⟨#[]⟩ := by
        apply ByteArray.ext
        apply Array.ext'
        exact List.eq_nil_of_length_eq_zero (by simpa using h0)
      subst e
      clear h h0 hs
      go_enter Tryz.func71, Tryz.ntmps71
      go_wp2_with fail
      go_ret2
      exact ⟨rfl, rfl⟩
    · have a1 := none_empty (s := s) (by omega)
      have a3 : (0 : Int) < (s.size : Int) := by omega
      by_cases h4 : 4 < s.size
      · have a2 : (4 : Int) < (s.size : Int) := by omega
        clear h h0
        go_enter Tryz.func71, Tryz.ntmps71
        go_wp2_with fail
        go_ret2
        exact ⟨rfl, rfl⟩
      · have a2 : ¬ (4 : Int) < (s.size : Int) := by omega
        obtain ⟨h5, h6, h7⟩ : ∃ h : 0 < s.size, s[0] = 48 ∧ 1 < s.size := by
          rcases h with h | h | h
          · omega
          · omega
          · exact h
        have q1 : ((s[0].toNat : Int) == 48) = true := by rw [h6]; rfl
        have q2 : decide ((1 : Int) < (s.size : Int)) = true := decide_eq_true (by omega)
        clear h h0 h6
        go_enter Tryz.func71, Tryz.ntmps71
        go_wp2_with fail
        go_ret2
        exact ⟨rfl, rfl⟩
  · have h1 : 1 ≤ s.size := by omega
    have h4 : s.size ≤ 4 := by omega
    have hz : ¬ (s[0]'(by omega) = 48 ∧ 1 < s.size) := fun q => h (Or.inr (Or.inr ⟨by omega, q⟩))
    rw [numB_in h1 h4 hz]
    exact rnumber_loop s w h1 h4 hz

end Go.Proofs.YtlefhfmckimlaakGreatDoor
