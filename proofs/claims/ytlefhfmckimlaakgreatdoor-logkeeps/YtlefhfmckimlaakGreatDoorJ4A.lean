/-
  What Like and Check of package tuple do, each as one law of its call.
  What Fits of package tuple does, as one law of its call.
-/
import Derived.Test.YtlefhfmckimlaakGreatDoorJ3A
import Derived.Deep.RegionHeld3
import Derived.Deep.DrawnRows
namespace Go.Proofs.YtlefhfmckimlaakGreatDoor
open Go.RowKit

theorem firstF_take {l : List M.Val} {k : Nat} (h : k < l.length) (h0 : M.firstF (l.take k) = 0) : M.firstF (l.take (k + 1)) = l[k].fault := by
  induction l generalizing k with
  | nil => simp at h
  | cons a l ih =>
    cases k with
    | zero => simp only [List.take_succ_cons, List.take_zero, M.firstF, List.getElem_cons_zero]; split <;> simp_all
    | succ k =>
      simp only [List.take_succ_cons, M.firstF, List.getElem_cons_succ] at h0 ⊢
      by_cases ha : a.fault ≠ 0
      · rw [if_pos ha] at h0; exact absurd h0 ha
      · rw [if_neg ha] at h0 ⊢; exact ih (by simpa using h) h0
theorem firstF_bad {l : List M.Val} {k : Nat} (h : k < l.length) (h0 : M.firstF (l.take k) = 0) (hk : l[k].fault ≠ 0) : M.firstF l = l[k].fault := by
  induction l generalizing k with
  | nil => simp at h
  | cons a l ih =>
    cases k with
    | zero => simp only [List.getElem_cons_zero] at hk ⊢; simp only [M.firstF]; rw [if_pos hk]
    | succ k =>
      simp only [List.take_succ_cons, M.firstF, List.getElem_cons_succ] at h0 hk ⊢
      by_cases ha : a.fault ≠ 0
      · rw [if_pos ha] at h0; exact absurd h0 ha
      · rw [if_neg ha] at h0 ⊢; exact ih (by simpa using h) h0 hk

theorem like_none (v : Value) (l : List M.Val) (w : World) (hl : l = []) (hv : v = .slice none 0 0 ∨ ∃ a cap, v = .slice (some a) 0 cap) :
    Calls Tryz.prog 99 #[v] w fun e w' => e = .returned (errV (M.likeF l)) ∧ Below w.heap.size w w' := by
  subst hl
  have he : M.likeF [] = 5 := rfl
  rw [he]; clear he
  rcases hv with rfl | ⟨a, cap, rfl⟩
  · go_enter Tryz.func99, Tryz.ntmps99
    go_wp2
    go_ret
    exact ⟨rfl, Below.refl _ _⟩
  · go_enter Tryz.func99, Tryz.ntmps99
    go_wp2
    go_ret
    exact ⟨rfl, Below.refl _ _⟩

theorem like_many (a : Addr) (n cap : Nat) (w : World) (h : 5 < n) (hn : n ≤ maxLen) :
    Calls Tryz.prog 99 #[.slice (some a) n cap] w fun e w' => e = .returned (errV 4) ∧ Below w.heap.size w w' := by
  unfold maxLen at hn
  have h0 : ¬ (n : Int) = 0 := by omega
  have h5 : (5 : Int) < n := by omega
  go_enter Tryz.func99, Tryz.ntmps99
  go_wp2
  go_ret
  exact ⟨rfl, Below.refl _ _⟩

theorem like_some (b off cap : Nat) (l : List M.Val) (w : World) (h0 : 0 < l.length) (h5 : l.length ≤ 5) (hl : Lie w b off l) :
    Calls Tryz.prog 99 #[.slice (some ⟨b, off, none⟩) l.length cap] w fun e w' => e = .returned (errV (M.firstF l)) ∧ Below w.heap.size w w' := by
  have HL := hide hl
  clear hl
  obtain ⟨n, hn⟩ : ∃ n, n = l.length := ⟨_, rfl⟩
  rw [← hn] at h0 h5 ⊢
  have HN := hide hn
  clear hn
  have hz : ¬ (n : Int) = 0 := by omega
  have h5' : ¬ (5 : Int) < n := by omega
  go_enter Tryz.func99, Tryz.ntmps99
  go_wp2
  go_loopw [16] (fun i wr => ∃ k : Nat, k ≤ n ∧ i = .int .i64 k ∧ Hid (M.firstF (l.take k) = 0) ∧ Below w.heap.size w wr) (fun i _ => n - (intOf i).toNat)
  case atStart => exact ⟨0, Nat.zero_le _, rfl, hide rfl, Below.refl _ _⟩
  case round =>
    obtain ⟨k, hk, rfl, hno, hbel⟩ := hrel
    by_cases hlt : k < n
    · have hkl : k < l.length := HN.out ▸ hlt
      obtain ⟨c1, c2, c3, c4⟩ := ((unhide HL).stays (by omega) hbel (Nat.le_refl _)) k hkl
      by_cases hb : M.fault l[k].k l[k].n l[k].s = 0
      · have HB := hide hb
        clear hb
        go_wp2_with fail
        refine (checkOk _ _ _ _ c4 HB.out).mono ?_
        rintro e w1 ⟨rfl, hb1⟩
        obtain ⟨hc, hf⟩ := bcell hb1
        go_wp2_with fail
        go_roundw
        case rel => exact ⟨k + 1, by omega, by go_num, hide ((firstF_take hkl hno.out).trans HB.out), hbel.trans (((Below.refl _ _).alloc (Nat.le_refl _) _).trans (hb1.mono (by simp)) |>.mono hbel.size)⟩
        case measure => simp [intOf]; omega
      · have HB := hide hb
        clear hb
        have hfin : Hid (M.firstF l = M.fault l[k].k l[k].n l[k].s) := hide (firstF_bad hkl hno.out HB.out)
        go_wp2_with fail
        refine (checkBad _ _ _ _ c4 HB.out).mono ?_
        rintro e w1 ⟨rfl, hb1⟩
        obtain ⟨hc, hf⟩ := bcell hb1
        go_wp2_with fail
        go_ret
        exact ⟨by rw [hfin.out, errV_bad HB.out]; rfl, hbel.trans (((Below.refl _ _).alloc (Nat.le_refl _) _).trans (hb1.mono (by simp)) |>.mono hbel.size)⟩
    · have hfin : Hid (M.firstF l = 0) := hide (by have := hno.out; rwa [List.take_of_length_le (by have := HN.out; omega)] at this)
      go_wp2
      go_ret
      exact ⟨by rw [hfin.out]; rfl, hbel⟩

theorem like (v : Value) (l : List M.Val) (w : World) (h : IsVals w v l) : Calls Tryz.prog 99 #[v] w fun e w' => e = .returned (errV (M.likeF l)) ∧ Below w.heap.size w w' := by
  rcases h with ⟨h1, h2⟩ | ⟨a, cap, h1, h2⟩ | ⟨b, off, cap, h1, h2, h3, h4, h5⟩
  · exact like_none v l w h2 (Or.inl h1)
  · exact like_none v l w h2 (Or.inr ⟨a, cap, h1⟩)
  · subst h2
    unfold M.likeF
    rw [if_neg (by omega)]
    by_cases h : 5 < l.length
    · rw [if_pos h]; exact like_many _ _ _ w h (by omega)
    · rw [if_neg h]; exact like_some b off cap l w h1 (by omega) h5

theorem isAny (k n : Int) (s : ByteArray) (w : World) : Calls Tryz.prog 136 #[.agg #[.int .i64 k, .int .i64 n, .string s]] w fun e w' => e = .returned (.bool (k == 2)) ∧ Below w.heap.size w w' := by
  go_enter Tryz.func136, Tryz.ntmps136
  go_wp2
  go_ret
  exact ⟨rfl, (Below.refl _ _).alloc (Nat.le_refl _) _⟩

theorem index_some (b off cap : Nat) (l : List M.Val) (w : World) (h0 : 0 < l.length) (hm : l.length ≤ maxLen) (hl : Lie w b off l) :
    Calls Tryz.prog 163 #[.slice (some ⟨b, off, none⟩) l.length cap, .func (.func 136) #[] #[]] w fun e w' => (∃ r, e = .returned (.int .i64 r) ∧ decide (0 ≤ r) = M.hasAny l) ∧ Below w.heap.size w w' := by
  unfold maxLen at hm
  have HL := hide hl
  clear hl
  obtain ⟨n, hn⟩ : ∃ n, n = l.length := ⟨_, rfl⟩
  rw [← hn] at h0 hm ⊢
  have HN := hide hn
  clear hn
  go_enter Tryz.func163, Tryz.ntmps163
  go_wp2
  go_loopw [8] (fun i wr => ∃ k : Nat, k ≤ n ∧ i = .int .i64 k ∧ Hid (M.hasAny (l.take k) = false) ∧ Below w.heap.size w wr) (fun i _ => n - (intOf i).toNat)
  case atStart => exact ⟨0, Nat.zero_le _, rfl, hide rfl, Below.refl _ _⟩
  case round =>
    obtain ⟨k, hk, rfl, hno, hbel⟩ := hrel
    by_cases hlt : k < n
    · have hkl : k < l.length := HN.out ▸ hlt
      obtain ⟨c1, c2, c3, c4⟩ := ((unhide HL).stays (by omega) hbel (Nat.le_refl _)) k hkl
      have HS : Hid (M.hasAny (l.take (k + 1)) = (l[k].k == 2)) := hide (by
        have h := hno.out
        unfold M.hasAny at h ⊢
        rw [List.take_succ_eq_append_getElem hkl, List.any_append, h]; simp)
      cases hb : (l[k].k == 2)
      · have hl : ∀ w, Calls Tryz.prog 136 #[.agg #[.int .i64 l[k].k, .int .i64 l[k].n, .string l[k].s]] w fun e w' => e = .returned (.bool false) ∧ Below w.heap.size w w' := fun w => by rw [← hb]; exact isAny _ _ _ _
        have HB := hide hb
        have HC := hide hl
        clear hl hb
        go_wp2_with fail
        refine (unhide HC _).mono ?_
        rintro e w1 ⟨rfl, hb1⟩
        go_wp2_with fail
        go_roundw
        case rel => exact ⟨k + 1, by omega, by go_num, hide (HS.out.trans HB.out), hbel.trans (hb1.mono hbel.size)⟩
        case measure => simp [intOf]; omega
      · have hl : ∀ w, Calls Tryz.prog 136 #[.agg #[.int .i64 l[k].k, .int .i64 l[k].n, .string l[k].s]] w fun e w' => e = .returned (.bool true) ∧ Below w.heap.size w w' := fun w => by rw [← hb]; exact isAny _ _ _ _
        have HB := hide hb
        have HC := hide hl
        clear hl hb
        have hfin : Hid (M.hasAny l = true) := hide (by
          have h := HS.out.trans HB.out
          unfold M.hasAny at h ⊢
          rw [← List.take_append_drop (k + 1) l, List.any_append, h]; rfl)
        go_wp2_with fail
        refine (unhide HC _).mono ?_
        rintro e w1 ⟨rfl, hb1⟩
        go_wp2_with fail
        go_ret
        exact ⟨⟨_, rfl, by rw [hfin.out]; simp⟩, hbel.trans (hb1.mono hbel.size)⟩
    · have hfin : Hid (M.hasAny l = false) := hide (by have := hno.out; rwa [List.take_of_length_le (by have := HN.out; omega)] at this)
      go_wp2
      go_ret
      exact ⟨⟨_, rfl, by rw [hfin.out]; decide⟩, hbel⟩

theorem contains_some (b off cap : Nat) (l : List M.Val) (w : World) (h0 : 0 < l.length) (hm : l.length ≤ maxLen) (hl : Lie w b off l) :
    Calls Tryz.prog 135 #[.slice (some ⟨b, off, none⟩) l.length cap, .func (.func 136) #[] #[]] w fun e w' => e = .returned (.bool (M.hasAny l)) ∧ Below w.heap.size w w' := by
  go_enter Tryz.func135, Tryz.ntmps135
  go_wp2_with fail
  refine (index_some b off cap l w h0 hm hl).mono ?_
  rintro e w1 ⟨⟨r, rfl, hr⟩, hb1⟩
  have HR := hide hr
  clear hr
  go_wp2_with fail
  go_ret
  exact ⟨by rw [← HR.out]; rfl, hb1⟩

theorem check_bad (v : Value) (l : List M.Val) (w : World) (h : IsVals w v l) (hf : M.likeF l ≠ 0) : Calls Tryz.prog 92 #[v] w fun e w' => e = .returned (errV (M.likeF l)) ∧ Below w.heap.size w w' := by
  have hL : ∀ w, IsVals w v l → Calls Tryz.prog 99 #[v] w fun e w' => e = .returned (.iface 87 (.int .i64 (M.likeF l))) ∧ Below w.heap.size w w' := fun w h => by rw [← errV_bad hf]; exact like v l w h
  have HF := hide hf
  have HL := hide hL
  have H := hide h
  clear hf hL h
  go_enter Tryz.func92, Tryz.ntmps92
  go_wp2_with fail
  refine (unhide HL _ H.out).mono ?_
  rintro e w1 ⟨rfl, hb1⟩
  go_wp2_with fail
  go_ret
  exact ⟨by rw [errV_bad HF.out]; rfl, hb1⟩

theorem likeF_len {l : List M.Val} (h : M.likeF l = 0) : 0 < l.length ∧ l.length ≤ 5 := by
  unfold M.likeF at h
  by_cases h0 : l.length = 0
  · rw [if_pos h0] at h; exact absurd h (by decide)
  rw [if_neg h0] at h
  by_cases h5 : 5 < l.length
  · rw [if_pos h5] at h; exact absurd h (by decide)
  · omega

/-- what has a field lies in memory -/
theorem IsVals.some {w : World} {v : Value} {l : List M.Val} (h : IsVals w v l) (h0 : 0 < l.length) : ∃ b off cap, v = .slice (some ⟨b, off, none⟩) l.length cap ∧ l.length ≤ cap ∧ cap ≤ maxLen ∧ Lie w b off l := by
  rcases h with ⟨_, h2⟩ | ⟨_, _, _, h2⟩ | ⟨b, off, cap, h1, h2, h3, h4, h5⟩
  · subst h2; exact absurd h0 (by simp)
  · subst h2; exact absurd h0 (by simp)
  · exact ⟨b, off, cap, h2, h3, h4, h5⟩

theorem check_ok (b off cap : Nat) (l : List M.Val) (w : World) (hl : Lie w b off l) (hcap : l.length ≤ cap) (hcm : cap ≤ maxLen) (hf : M.likeF l = 0) : Calls Tryz.prog 92 #[.slice (some ⟨b, off, none⟩) l.length cap] w fun e w' => e = .returned (errV (if M.hasAny l then 3 else 0)) ∧ Below w.heap.size w w' := by
  obtain ⟨h0, h5⟩ := likeF_len hf
  have hv : IsVals w (.slice (.some ⟨b, off, none⟩) l.length cap) l := Or.inr (Or.inr ⟨b, off, cap, h0, rfl, hcap, hcm, hl⟩)
  have hL : Calls Tryz.prog 99 #[.slice (some ⟨b, off, none⟩) l.length cap] w fun e w' => e = .returned .nilIface ∧ Below w.heap.size w w' := by have := like _ l w hv; rwa [hf] at this
  have hC : ∀ w1, Below w.heap.size w w1 → Calls Tryz.prog 135 #[.slice (some ⟨b, off, none⟩) l.length cap, .func (.func 136) #[] #[]] w1 fun e w' => e = .returned (.bool (M.hasAny l)) ∧ Below w1.heap.size w1 w' := fun w1 hb => contains_some b off cap l w1 h0 (by omega) (hl.stays h0 hb (Nat.le_refl _))
  have HL := hide hL
  have HC := hide hC
  clear hL hC hv hl hf h0 h5 hcap hcm
  cases hA : M.hasAny l
  · rw [hA] at HC
    clear hA
    go_enter Tryz.func92, Tryz.ntmps92
    go_wp2_with fail
    refine (unhide HL).mono ?_
    rintro e w1 ⟨rfl, hb1⟩
    go_wp2_with fail
    refine (unhide HC _ hb1).mono ?_
    rintro e w2 ⟨rfl, hb2⟩
    go_wp2_with fail
    go_ret
    exact ⟨rfl, hb1.trans (hb2.mono hb1.size)⟩
  · rw [hA] at HC
    clear hA
    go_enter Tryz.func92, Tryz.ntmps92
    go_wp2_with fail
    refine (unhide HL).mono ?_
    rintro e w1 ⟨rfl, hb1⟩
    go_wp2_with fail
    refine (unhide HC _ hb1).mono ?_
    rintro e w2 ⟨rfl, hb2⟩
    go_wp2_with fail
    go_ret
    exact ⟨rfl, hb1.trans (hb2.mono hb1.size)⟩

theorem tcheck (v : Value) (l : List M.Val) (w : World) (h : IsVals w v l) : Calls Tryz.prog 92 #[v] w fun e w' => e = .returned (errV (M.tupF l)) ∧ Below w.heap.size w w' := by
  unfold M.tupF
  by_cases hf : M.likeF l ≠ 0
  · rw [if_pos hf]; exact check_bad v l w h hf
  · rw [if_neg hf]
    have hf' : M.likeF l = 0 := by simpa using hf
    obtain ⟨b, off, cap, rfl, h1, h2, h3⟩ := h.some (likeF_len hf').1
    exact check_ok b off cap l w h3 h1 h2 hf'

end Go.Proofs.YtlefhfmckimlaakGreatDoor

namespace Go.Proofs.YtlefhfmckimlaakGreatDoor
open Go.RowKit
attribute [local go_sem ↓] Go.wp_at_zero Go.wp_at_succ

/-- does a tuple fit: both right, and field by field -/
def M.fitsB (a b : List M.Val) : Bool := decide (M.both (M.likeF a) (M.tupF b) = 0) && M.fitAll a b

theorem tfitsOne (a b : M.Val) (w : World) (h1 : a.s.size ≤ maxLen) (h2 : b.s.size ≤ maxLen) (ha : a.fault = 0) (hb : b.fault = 0) (hk : b.k ≠ 2) :
    Calls Tryz.prog 191 #[.agg #[.int .i64 a.k, .int .i64 a.n, .string a.s], .agg #[.int .i64 b.k, .int .i64 b.n, .string b.s]] w fun e w' => e = .returned (.tuple #[.bool (M.fit1 a b), .nilIface]) ∧ Below w.heap.size w w' := by
  have hB : M.both (M.fault a.k a.n a.s) (M.fault b.k b.n b.s) = 0 := by
    have e1 : M.fault a.k a.n a.s = 0 := ha
    have e2 : M.fault b.k b.n b.s = 0 := hb
    rw [e1, e2]; rfl
  obtain ⟨k1, n1, s1⟩ := a
  by_cases e : k1 = 2
  · subst e
    have hf : M.fit1 ⟨2, n1, s1⟩ b = true := by simp [M.fit1]
    rw [hf]
    exact fitsAll n1 s1 b.k b.n b.s w h1 h2 hB hk
  · have hf : M.fit1 ⟨k1, n1, s1⟩ b = M.same k1 n1 s1 b.k b.n b.s := by simp [M.fit1, e, M.Val.same]
    rw [hf]
    exact fitsSame k1 n1 s1 b.k b.n b.s w h1 h2 hB e hk

theorem fitAll_len : ∀ {a b : List M.Val}, a.length ≠ b.length → M.fitAll a b = false
  | [], [], h => absurd rfl h
  | [], _ :: _, _ => rfl
  | _ :: _, [], _ => rfl
  | x :: a, y :: b, h => by unfold M.fitAll; rw [fitAll_len (by simpa using h)]; simp
theorem fitAll_take : ∀ {a b : List M.Val} {k : Nat} (h1 : k < a.length) (h2 : k < b.length), M.fitAll (a.take k) (b.take k) = true → M.fitAll (a.take (k + 1)) (b.take (k + 1)) = M.fit1 a[k] b[k]
  | [], _, _, h, _, _ => by simp at h
  | _ :: _, [], _, _, h, _ => by simp at h
  | x :: a, y :: b, 0, _, _, _ => by simp [M.fitAll]
  | x :: a, y :: b, k + 1, h1, h2, h => by
    simp only [List.take_succ_cons, M.fitAll, Bool.and_eq_true, List.getElem_cons_succ] at h ⊢
    rw [h.1, Bool.true_and]
    exact fitAll_take (by simpa using h1) (by simpa using h2) h.2
theorem fitAll_no : ∀ {a b : List M.Val} {k : Nat} (h1 : k < a.length) (h2 : k < b.length), M.fit1 a[k] b[k] = false → M.fitAll a b = false
  | [], _, _, h, _, _ => by simp at h
  | _ :: _, [], _, _, h, _ => by simp at h
  | x :: a, y :: b, 0, _, _, h => by simp only [List.getElem_cons_zero] at h; unfold M.fitAll; rw [h]; rfl
  | x :: a, y :: b, k + 1, h1, h2, h => by
    simp only [List.getElem_cons_succ] at h
    unfold M.fitAll
    rw [fitAll_no (by simpa using h1) (by simpa using h2) h]; simp
theorem tupF_ok {l : List M.Val} (h : M.tupF l = 0) : M.likeF l = 0 ∧ M.hasAny l = false := by
  unfold M.tupF at h
  by_cases hf : M.likeF l ≠ 0
  · rw [if_pos hf] at h; exact absurd h hf
  · rw [if_neg hf] at h
    refine ⟨by simpa using hf, ?_⟩
    cases hA : M.hasAny l
    · rfl
    · rw [hA] at h; exact absurd h (by decide)
theorem likeF_each {l : List M.Val} (h : M.likeF l = 0) : ∀ v ∈ l, v.fault = 0 := by
  obtain ⟨h0, h5⟩ := likeF_len h
  unfold M.likeF at h
  rw [if_neg (by omega), if_neg (by omega)] at h
  exact M.firstF_zero h
theorem noAny_each {l : List M.Val} (h : M.hasAny l = false) : ∀ v ∈ l, v.k ≠ 2 := fun v hv e => by
  have : M.hasAny l = true := by unfold M.hasAny; rw [List.any_eq_true]; exact ⟨v, hv, by simp [e]⟩
  rw [h] at this; exact absurd this (by decide)

theorem tfits_walk (b1 off1 cap1 b2 off2 cap2 : Nat) (l1 l2 : List M.Val) (w : World) (hl1 : Lie w b1 off1 l1) (hl2 : Lie w b2 off2 l2)
    (c1 : l1.length ≤ cap1) (c1' : cap1 ≤ maxLen) (c2 : l2.length ≤ cap2) (c2' : cap2 ≤ maxLen) (hf1 : M.likeF l1 = 0) (hf2 : M.tupF l2 = 0) (hlen : l1.length = l2.length) :
    Calls Tryz.prog 165 #[.slice (some ⟨b1, off1, none⟩) l1.length cap1, .slice (some ⟨b2, off2, none⟩) l2.length cap2] w fun e w' => e = .returned (.tuple #[.bool (M.fitAll l1 l2), .nilIface]) ∧ Below w.heap.size w w' := by
  obtain ⟨p1, p5⟩ := likeF_len hf1
  obtain ⟨g1, g2⟩ := tupF_ok hf2
  have hv1 : IsVals w (.slice (.some ⟨b1, off1, none⟩) l1.length cap1) l1 := Or.inr (Or.inr ⟨b1, off1, cap1, p1, rfl, c1, c1', hl1⟩)
  have hv2 : IsVals w (.slice (.some ⟨b2, off2, none⟩) l2.length cap2) l2 := Or.inr (Or.inr ⟨b2, off2, cap2, by omega, rfl, c2, c2', hl2⟩)
  have hL : Calls Tryz.prog 99 #[.slice (some ⟨b1, off1, none⟩) l1.length cap1] w fun e w' => e = .returned .nilIface ∧ Below w.heap.size w w' := by have := like _ l1 w hv1; rwa [hf1] at this
  have hC : ∀ w1, Below w.heap.size w w1 → Calls Tryz.prog 92 #[.slice (some ⟨b2, off2, none⟩) l2.length cap2] w1 fun e w' => e = .returned .nilIface ∧ Below w1.heap.size w1 w' := fun w1 hb => by have := tcheck _ l2 w1 (hv2.stays hb (Nat.le_refl _)); rwa [hf2] at this
  have hF : ∀ k (h1 : k < l1.length) (h2 : k < l2.length) w1, l1[k].s.size ≤ maxLen → l2[k].s.size ≤ maxLen → Calls Tryz.prog 191 #[.agg #[.int .i64 l1[k].k, .int .i64 l1[k].n, .string l1[k].s], .agg #[.int .i64 l2[k].k, .int .i64 l2[k].n, .string l2[k].s]] w1 fun e w' => e = .returned (.tuple #[.bool (M.fit1 l1[k] l2[k]), .nilIface]) ∧ Below w1.heap.size w1 w' := fun k h1 h2 w1 hs1 hs2 =>
    tfitsOne l1[k] l2[k] w1 hs1 hs2 (likeF_each hf1 _ (List.getElem_mem h1)) (likeF_each g1 _ (List.getElem_mem h2)) (noAny_each g2 _ (List.getElem_mem h2))
  have HL := hide hL
  have HC := hide hC
  have HF := hide hF
  have HL1 := hide hl1
  have HL2 := hide hl2
  clear hL hC hF hl1 hl2 hv1 hv2 g1 g2 hf1 hf2 c1 c1' c2 c2'
  obtain ⟨n, hn⟩ : ∃ n, n = l1.length := ⟨_, rfl⟩
  rw [← hn] at p1 p5 HL ⊢
  have hn2 : l2.length = n := by omega
  rw [hn2] at HC ⊢
  have HN := hide hn
  have HN2 := hide hn2
  clear hn hn2 hlen
  go_enter Tryz.func165, Tryz.ntmps165
  go_wp2_with fail
  refine (unhide HL).mono ?_
  rintro e w1 ⟨rfl, hb1⟩
  go_wp2_with fail
  refine (unhide HC _ hb1).mono ?_
  rintro e w2 ⟨rfl, hb2⟩
  have hb := hb1.trans (hb2.mono hb1.size)
  clear hb1 hb2
  go_wp2_with fail
  go_loopw [29] (fun i wr => ∃ k : Nat, k ≤ n ∧ i = .int .i64 k ∧ Hid (M.fitAll (l1.take k) (l2.take k) = true) ∧ Below w.heap.size w wr) (fun i _ => n - (intOf i).toNat)
  case atStart => exact ⟨0, Nat.zero_le _, rfl, hide rfl, hb⟩
  case round =>
    obtain ⟨k, hk, rfl, hno, hbel⟩ := hrel
    by_cases hlt : k < n
    · have hkl : k < l1.length := HN.out ▸ hlt
      have hkl2 : k < l2.length := HN2.out ▸ hlt
      have ik0 : (0 : Int) ≤ (k : Int) := by omega
      have ikn : (k : Int) < (n : Int) := by omega
      obtain ⟨c1, c2, c3, c4⟩ := ((unhide HL1).stays (by omega) hbel (Nat.le_refl _)) k hkl
      obtain ⟨d1, d2, d3, d4⟩ := ((unhide HL2).stays (by omega) hbel (Nat.le_refl _)) k hkl2
      have hbb : b1 < wr.heap.size := Nat.lt_of_lt_of_le ((unhide HL1).block (by omega)) hbel.size
      have hne : b1 ≠ wr.heap.size := by omega
      have hbz : b1 < wr.heap.size + 1 := by omega
      have HC4 := hide c4
      have HD4 := hide d4
      clear c4 d4
      have HS := hide (fitAll_take hkl hkl2 hno.out)
      cases hb : M.fit1 l1[k] l2[k]
      · have HB := hide hb
        have HT : Hid (∀ w1, Calls Tryz.prog 191 #[.agg #[.int .i64 l1[k].k, .int .i64 l1[k].n, .string l1[k].s], .agg #[.int .i64 l2[k].k, .int .i64 l2[k].n, .string l2[k].s]] w1 fun e w' => e = .returned (.tuple #[.bool false, .nilIface]) ∧ Below w1.heap.size w1 w') := hide fun w1 => by have := (unhide HF) k hkl hkl2 w1 HC4.out HD4.out; rwa [hb] at this
        clear hb
        go_wp2_with fail
        go_region_held3 (fun w' => w'.cell? ⟨b1, off1 + k * 3, none⟩ = some (.int .i64 l1[k].k) ∧ w'.cell? ⟨b1, off1 + k * 3 + 1, none⟩ = some (.int .i64 l1[k].n) ∧ w'.cell? ⟨b1, off1 + k * 3 + 2, none⟩ = some (.string l1[k].s) ∧ w'.cell? ⟨wr.heap.size, 0, none⟩ = some (.int .i64 l2[k].k) ∧ w'.cell? ⟨wr.heap.size, 1, none⟩ = some (.int .i64 l2[k].n) ∧ w'.cell? ⟨wr.heap.size, 2, none⟩ = some (.string l2[k].s)) (go_keep)
          (first | (go_at_call 191; refine (unhide HT _).mono ?_; rintro e w3 ⟨rfl, hb3⟩; obtain ⟨hc, hf⟩ := bcell hb3))
        go_wp2_with fail
        go_ret2
        exact ⟨by rw [fitAll_no hkl hkl2 HB.out]; rfl, hbel.trans ((((Below.refl _ _).alloc (Nat.le_refl _) _).drew.trans (hb3.mono (by simp))).mono hbel.size)⟩
      · have HB := hide hb
        have HT : Hid (∀ w1, Calls Tryz.prog 191 #[.agg #[.int .i64 l1[k].k, .int .i64 l1[k].n, .string l1[k].s], .agg #[.int .i64 l2[k].k, .int .i64 l2[k].n, .string l2[k].s]] w1 fun e w' => e = .returned (.tuple #[.bool true, .nilIface]) ∧ Below w1.heap.size w1 w') := hide fun w1 => by have := (unhide HF) k hkl hkl2 w1 HC4.out HD4.out; rwa [hb] at this
        clear hb
        go_wp2_with fail
        go_region_held3 (fun w' => w'.cell? ⟨b1, off1 + k * 3, none⟩ = some (.int .i64 l1[k].k) ∧ w'.cell? ⟨b1, off1 + k * 3 + 1, none⟩ = some (.int .i64 l1[k].n) ∧ w'.cell? ⟨b1, off1 + k * 3 + 2, none⟩ = some (.string l1[k].s) ∧ w'.cell? ⟨wr.heap.size, 0, none⟩ = some (.int .i64 l2[k].k) ∧ w'.cell? ⟨wr.heap.size, 1, none⟩ = some (.int .i64 l2[k].n) ∧ w'.cell? ⟨wr.heap.size, 2, none⟩ = some (.string l2[k].s)) (go_keep)
          (first | (go_at_call 191; refine (unhide HT _).mono ?_; rintro e w3 ⟨rfl, hb3⟩; obtain ⟨hc, hf⟩ := bcell hb3))
        go_wp2_with fail
        go_roundw
        case rel => exact ⟨k + 1, by omega, by go_num, hide (HS.out.trans HB.out), hbel.trans ((((Below.refl _ _).alloc (Nat.le_refl _) _).drew.trans (hb3.mono (by simp))).mono hbel.size)⟩
        case measure => simp [intOf]; omega
    · have hfin : Hid (M.fitAll l1 l2 = true) := hide (by have := hno.out; rwa [List.take_of_length_le (by have := HN.out; omega), List.take_of_length_le (by have := HN2.out; omega)] at this)
      go_wp2
      go_ret2
      exact ⟨by rw [hfin.out]; rfl, hbel⟩

theorem tfits_like (v1 v2 : Value) (l1 : List M.Val) (w : World) (h1 : IsVals w v1 l1) (hf : M.likeF l1 ≠ 0) :
    Calls Tryz.prog 165 #[v1, v2] w fun e w' => e = .returned (.tuple #[.bool false, errV (M.likeF l1)]) ∧ Below w.heap.size w w' := by
  have HL : Hid (Calls Tryz.prog 99 #[v1] w fun e w' => e = .returned (.iface 87 (.int .i64 (M.likeF l1))) ∧ Below w.heap.size w w') := hide (by rw [← errV_bad hf]; exact like v1 l1 w h1)
  have HF := hide hf
  clear hf h1
  go_enter Tryz.func165, Tryz.ntmps165
  go_wp2_with fail
  refine (unhide HL).mono ?_
  rintro e w1 ⟨rfl, hb1⟩
  go_wp2_with fail
  go_ret2
  exact ⟨by rw [errV_bad HF.out]; rfl, hb1⟩

theorem tfits_check (v1 v2 : Value) (l1 l2 : List M.Val) (w : World) (h1 : IsVals w v1 l1) (h2 : IsVals w v2 l2) (hf1 : M.likeF l1 = 0) (hf : M.tupF l2 ≠ 0) :
    Calls Tryz.prog 165 #[v1, v2] w fun e w' => e = .returned (.tuple #[.bool false, errV (M.tupF l2)]) ∧ Below w.heap.size w w' := by
  have HL : Hid (Calls Tryz.prog 99 #[v1] w fun e w' => e = .returned .nilIface ∧ Below w.heap.size w w') := hide (by have := like v1 l1 w h1; rwa [hf1] at this)
  have HC : Hid (∀ w1, Below w.heap.size w w1 → Calls Tryz.prog 92 #[v2] w1 fun e w' => e = .returned (.iface 87 (.int .i64 (M.tupF l2))) ∧ Below w1.heap.size w1 w') := hide fun w1 hb => by rw [← errV_bad hf]; exact tcheck v2 l2 w1 (h2.stays hb (Nat.le_refl _))
  have HF := hide hf
  clear hf hf1 h1 h2
  go_enter Tryz.func165, Tryz.ntmps165
  go_wp2_with fail
  refine (unhide HL).mono ?_
  rintro e w1 ⟨rfl, hb1⟩
  go_wp2_with fail
  refine (unhide HC _ hb1).mono ?_
  rintro e w2 ⟨rfl, hb2⟩
  go_wp2_with fail
  go_ret2
  exact ⟨by rw [errV_bad HF.out]; rfl, hb1.trans (hb2.mono hb1.size)⟩

theorem tfits_other (a1 a2 : Addr) (l1 l2 : List M.Val) (cap1 cap2 : Nat) (w : World) (h1 : IsVals w (.slice (some a1) l1.length cap1) l1) (h2 : IsVals w (.slice (some a2) l2.length cap2) l2) (hf1 : M.likeF l1 = 0) (hf2 : M.tupF l2 = 0) (hne : l1.length ≠ l2.length) :
    Calls Tryz.prog 165 #[.slice (some a1) l1.length cap1, .slice (some a2) l2.length cap2] w fun e w' => e = .returned (.tuple #[.bool false, .nilIface]) ∧ Below w.heap.size w w' := by
  have HL : Hid (Calls Tryz.prog 99 #[.slice (some a1) l1.length cap1] w fun e w' => e = .returned .nilIface ∧ Below w.heap.size w w') := hide (by have := like _ l1 w h1; rwa [hf1] at this)
  have HC : Hid (∀ w1, Below w.heap.size w w1 → Calls Tryz.prog 92 #[.slice (some a2) l2.length cap2] w1 fun e w' => e = .returned .nilIface ∧ Below w1.heap.size w1 w') := hide fun w1 hb => by have := tcheck _ l2 w1 (h2.stays hb (Nat.le_refl _)); rwa [hf2] at this
  have hb : ((l1.length : Int) != (l2.length : Int)) = true := by simpa using (by omega : ¬ (l1.length : Int) = (l2.length : Int))
  clear hf1 hf2 h1 h2 hne
  go_enter Tryz.func165, Tryz.ntmps165
  go_wp2_with fail
  refine (unhide HL).mono ?_
  rintro e w1 ⟨rfl, hb1⟩
  go_wp2_with fail
  refine (unhide HC _ hb1).mono ?_
  rintro e w2 ⟨rfl, hb2⟩
  go_wp2_with fail
  go_ret2
  exact ⟨rfl, hb1.trans (hb2.mono hb1.size)⟩

theorem tfits (v1 v2 : Value) (l1 l2 : List M.Val) (w : World) (h1 : IsVals w v1 l1) (h2 : IsVals w v2 l2) :
    Calls Tryz.prog 165 #[v1, v2] w fun e w' => e = .returned (.tuple #[.bool (M.fitsB l1 l2), errV (M.both (M.likeF l1) (M.tupF l2))]) ∧ Below w.heap.size w w' := by
  by_cases hf1 : M.likeF l1 = 0
  · by_cases hf2 : M.tupF l2 = 0
    · have e1 : M.both (M.likeF l1) (M.tupF l2) = 0 := by rw [hf1, hf2]; rfl
      have e2 : M.fitsB l1 l2 = M.fitAll l1 l2 := by unfold M.fitsB; rw [e1]; rfl
      rw [e1, e2]
      obtain ⟨b1, off1, cap1, rfl, c1, c1', hl1⟩ := h1.some (likeF_len hf1).1
      obtain ⟨b2, off2, cap2, rfl, c2, c2', hl2⟩ := h2.some (likeF_len (tupF_ok hf2).1).1
      by_cases hlen : l1.length = l2.length
      · exact tfits_walk b1 off1 cap1 b2 off2 cap2 l1 l2 w hl1 hl2 c1 c1' c2 c2' hf1 hf2 hlen
      · rw [fitAll_len hlen]
        exact tfits_other _ _ l1 l2 cap1 cap2 w h1 h2 hf1 hf2 hlen
    · have e1 : M.both (M.likeF l1) (M.tupF l2) = M.tupF l2 := by rw [hf1]; rfl
      have e2 : M.fitsB l1 l2 = false := by unfold M.fitsB; rw [e1]; simp [hf2]
      rw [e1, e2]
      exact tfits_check v1 v2 l1 l2 w h1 h2 hf1 hf2
  · have e1 : M.both (M.likeF l1) (M.tupF l2) = M.likeF l1 := by unfold M.both; rw [if_neg hf1]
    have e2 : M.fitsB l1 l2 = false := by unfold M.fitsB; rw [e1]; simp [hf1]
    rw [e1, e2]
    exact tfits_like v1 v2 l1 w h1 hf1

end Go.Proofs.YtlefhfmckimlaakGreatDoor
