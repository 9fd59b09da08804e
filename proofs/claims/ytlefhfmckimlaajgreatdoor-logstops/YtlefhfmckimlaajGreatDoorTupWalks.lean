/-
  What Like and Check of package tuple do, each as one law of its call.
-/
import Derived.Test.YtlefhfmckimlaajGreatDoorJ7A
namespace Go.Proofs.YtlefhfmckimlaajGreatDoor
open Go.RowKit

theorem firstF_take {l : List M.Val} {k : Nat} (h : k < l.length) (h0 : M.firstF (l.take k) = 0) : M.firstF (l.take (k + 1)) = l[k].fault := by
  induction l generalizing k with
  | nil => simp at h
  | cons a l ih =>
    cases k with
    | zero => simp only [List.take_succ_cons, List.take_zero, M.firstF, List.getElem_cons_zero]; split <;> simp_all
    | succ k =>
      simp only [List.take_succ_cons, M.firstF, List.getElem_cons_succ] at h0 ⊢
      by_cases ha : a.fault ≠ 0
      · rw [if_pos ha] at h0; exact absurd h0 ha
      · rw [if_neg ha] at h0 ⊢; exact ih (by simpa using h) h0
theorem firstF_bad {l : List M.Val} {k : Nat} (h : k < l.length) (h0 : M.firstF (l.take k) = 0) (hk : l[k].fault ≠ 0) : M.firstF l = l[k].fault := by
  induction l generalizing k with
  | nil => simp at h
  | cons a l ih =>
    cases k with
    | zero => simp only [List.getElem_cons_zero] at hk ⊢; simp only [M.firstF]; rw [if_pos hk]
    | succ k =>
      simp only [List.take_succ_cons, M.firstF, List.getElem_cons_succ] at h0 hk ⊢
      by_cases ha : a.fault ≠ 0
      · rw [if_pos ha] at h0; exact absurd h0 ha
      · rw [if_neg ha] at h0 ⊢; exact ih (by simpa using h) h0 hk

theorem like_none (v : Value) (l : List M.Val) (w : World) (hl : l = []) (hv : v = .slice none 0 0 ∨ ∃ a cap, v = .slice (some a) 0 cap) :
    Calls Tryz.prog 48 #[v] w fun e w' => e = .returned (errV (M.likeF l)) ∧ Below w.heap.size w w' := by
  subst hl
  have he : M.likeF [] = 5 := rfl
  rw [he]; clear he
  rcases hv with rfl | ⟨a, cap, rfl⟩
  · go_enter Tryz.func48, Tryz.ntmps48
    go_wp2
    go_ret
    exact ⟨rfl, Below.refl _ _⟩
  · go_enter Tryz.func48, Tryz.ntmps48
    go_wp2
    go_ret
    exact ⟨rfl, Below.refl _ _⟩

theorem like_many (a : Addr) (n cap : Nat) (w : World) (h : 5 < n) (hn : n ≤ maxLen) :
    Calls Tryz.prog 48 #[.slice (some a) n cap] w fun e w' => e = .returned (errV 4) ∧ Below w.heap.size w w' := by
  unfold maxLen at hn
  have h0 : ¬ (n : Int) = 0 := by omega
  have h5 : (5 : Int) < n := by omega
  go_enter Tryz.func48, Tryz.ntmps48
  go_wp2
  go_ret
  exact ⟨rfl, Below.refl _ _⟩

theorem like_some (b off cap : Nat) (l : List M.Val) (w : World) (h0 : 0 < l.length) (h5 : l.length ≤ 5) (hl : Lie w b off l) :
    Calls Tryz.prog 48 #[.slice (some ⟨b, off, none⟩) l.length cap] w fun e w' => e = .returned (errV (M.firstF l)) ∧ Below w.heap.size w w' := by
  have HL := hide hl
  clear hl
  obtain ⟨n, hn⟩ : ∃ n, n = l.length := ⟨_, rfl⟩
  rw [← hn] at h0 h5 ⊢
  have HN := hide hn
  clear hn
  have hz : ¬ (n : Int) = 0 := by omega
  have h5' : ¬ (5 : Int) < n := by omega
  go_enter Tryz.func48, Tryz.ntmps48
  go_wp2
  go_loopw [16] (fun i wr => ∃ k : Nat, k ≤ n ∧ i = .int .i64 k ∧ Hid (M.firstF (l.take k) = 0) ∧ Below w.heap.size w wr) (fun i _ => n - (intOf i).toNat)
  case atStart => exact ⟨0, Nat.zero_le _, rfl, hide rfl, Below.refl _ _⟩
  case round =>
    obtain ⟨k, hk, rfl, hno, hbel⟩ := hrel
    by_cases hlt : k < n
    · have hkl : k < l.length := HN.out ▸ hlt
      obtain ⟨c1, c2, c3, c4⟩ := ((unhide HL).stays (by omega) hbel (Nat.le_refl _)) k hkl
      by_cases hb : M.fault l[k].k l[k].n l[k].s = 0
      · have HB := hide hb
        clear hb
        go_wp2_with fail
        refine (checkOk _ _ _ _ c4 HB.out).mono ?_
        rintro e w1 ⟨rfl, hb1⟩
        obtain ⟨hc, hf⟩ := bcell hb1
        go_wp2_with fail
        go_roundw
        case rel => exact ⟨k + 1, by omega, by go_num, hide ((firstF_take hkl hno.out).trans HB.out), hbel.trans (((Below.refl _ _).alloc (Nat.le_refl _) _).trans (hb1.mono (by simp)) |>.mono hbel.size)⟩
        case measure => simp [intOf]; omega
      · have HB := hide hb
        clear hb
        have hfin : Hid (M.firstF l = M.fault l[k].k l[k].n l[k].s) := hide (firstF_bad hkl hno.out HB.out)
        go_wp2_with fail
        refine (checkBad _ _ _ _ c4 HB.out).mono ?_
        rintro e w1 ⟨rfl, hb1⟩
        obtain ⟨hc, hf⟩ := bcell hb1
        go_wp2_with fail
        go_ret
        exact ⟨by rw [hfin.out, errV_bad HB.out]; rfl, hbel.trans (((Below.refl _ _).alloc (Nat.le_refl _) _).trans (hb1.mono (by simp)) |>.mono hbel.size)⟩
    · have hfin : Hid (M.firstF l = 0) := hide (by have := hno.out; rwa [List.take_of_length_le (by have := HN.out; omega)] at this)
      go_wp2
      go_ret
      exact ⟨by rw [hfin.out]; rfl, hbel⟩

theorem like (v : Value) (l : List M.Val) (w : World) (h : IsVals w v l) : Calls Tryz.prog 48 #[v] w fun e w' => e = .returned (errV (M.likeF l)) ∧ Below w.heap.size w w' := by
  rcases h with ⟨h1, h2⟩ | ⟨a, cap, h1, h2⟩ | ⟨b, off, cap, h1, h2, h3, h4, h5⟩
  · exact like_none v l w h2 (Or.inl h1)
  · exact like_none v l w h2 (Or.inr ⟨a, cap, h1⟩)
  · subst h2
    unfold M.likeF
    rw [if_neg (by omega)]
    by_cases h : 5 < l.length
    · rw [if_pos h]; exact like_many _ _ _ w h (by omega)
    · rw [if_neg h]; exact like_some b off cap l w h1 (by omega) h5

theorem isAny (k n : Int) (s : ByteArray) (w : World) : Calls Tryz.prog 75 #[.agg #[.int .i64 k, .int .i64 n, .string s]] w fun e w' => e = .returned (.bool (k == 2)) ∧ Below w.heap.size w w' := by
  go_enter Tryz.func75, Tryz.ntmps75
  go_wp2
  go_ret
  exact ⟨rfl, (Below.refl _ _).alloc (Nat.le_refl _) _⟩

theorem index_some (b off cap : Nat) (l : List M.Val) (w : World) (h0 : 0 < l.length) (hm : l.length ≤ maxLen) (hl : Lie w b off l) :
    Calls Tryz.prog 107 #[.slice (some ⟨b, off, none⟩) l.length cap, .func (.func 75) #[] #[]] w fun e w' => (∃ r, e = .returned (.int .i64 r) ∧ decide (0 ≤ r) = M.hasAny l) ∧ Below w.heap.size w w' := by
  unfold maxLen at hm
  have HL := hide hl
  clear hl
  obtain ⟨n, hn⟩ : ∃ n, n = l.length := ⟨_, rfl⟩
  rw [← hn] at h0 hm ⊢
  have HN := hide hn
  clear hn
  go_enter Tryz.func107, Tryz.ntmps107
  go_wp2
  go_loopw [8] (fun i wr => ∃ k : Nat, k ≤ n ∧ i = .int .i64 k ∧ Hid (M.hasAny (l.take k) = false) ∧ Below w.heap.size w wr) (fun i _ => n - (intOf i).toNat)
  case atStart => exact ⟨0, Nat.zero_le _, rfl, hide rfl, Below.refl _ _⟩
  case round =>
    obtain ⟨k, hk, rfl, hno, hbel⟩ := hrel
    by_cases hlt : k < n
    · have hkl : k < l.length := HN.out ▸ hlt
      obtain ⟨c1, c2, c3, c4⟩ := ((unhide HL).stays (by omega) hbel (Nat.le_refl _)) k hkl
      have HS : Hid (M.hasAny (l.take (k + 1)) = (l[k].k == 2)) := hide (by
        have h := hno.out
        unfold M.hasAny at h ⊢
        rw [List.take_succ_eq_append_getElem hkl, List.any_append, h]; simp)
      cases hb : (l[k].k == 2)
      · have hl : ∀ w, Calls Tryz.prog 75 #[.agg #[.int .i64 l[k].k, .int .i64 l[k].n, .string l[k].s]] w fun e w' => e = .returned (.bool false) ∧ Below w.heap.size w w' := fun w => by rw [← hb]; exact isAny _ _ _ _
        have HB := hide hb
        have HC := hide hl
        clear hl hb
        go_wp2_with fail
        refine (unhide HC _).mono ?_
        rintro e w1 ⟨rfl, hb1⟩
        go_wp2_with fail
        go_roundw
        case rel => exact ⟨k + 1, by omega, by go_num, hide (HS.out.trans HB.out), hbel.trans (hb1.mono hbel.size)⟩
        case measure => simp [intOf]; omega
      · have hl : ∀ w, Calls Tryz.prog 75 #[.agg #[.int .i64 l[k].k, .int .i64 l[k].n, .string l[k].s]] w fun e w' => e = .returned (.bool true) ∧ Below w.heap.size w w' := fun w => by rw [← hb]; exact isAny _ _ _ _
        have HB := hide hb
        have HC := hide hl
        clear hl hb
        have hfin : Hid (M.hasAny l = true) := hide (by
          have h := HS.out.trans HB.out
          unfold M.hasAny at h ⊢
          rw [← List.take_append_drop (k + 1) l, List.any_append, h]; rfl)
        go_wp2_with fail
        refine (unhide HC _).mono ?_
        rintro e w1 ⟨rfl, hb1⟩
        go_wp2_with fail
        go_ret
        exact ⟨⟨_, rfl, by rw [hfin.out]; simp⟩, hbel.trans (hb1.mono hbel.size)⟩
    · have hfin : Hid (M.hasAny l = false) := hide (by have := hno.out; rwa [List.take_of_length_le (by have := HN.out; omega)] at this)
      go_wp2
      go_ret
      exact ⟨⟨_, rfl, by rw [hfin.out]; decide⟩, hbel⟩

theorem contains_some (b off cap : Nat) (l : List M.Val) (w : World) (h0 : 0 < l.length) (hm : l.length ≤ maxLen) (hl : Lie w b off l) :
    Calls Tryz.prog 74 #[.slice (some ⟨b, off, none⟩) l.length cap, .func (.func 75) #[] #[]] w fun e w' => e = .returned (.bool (M.hasAny l)) ∧ Below w.heap.size w w' := by
  go_enter Tryz.func74, Tryz.ntmps74
  go_wp2_with fail
  refine (index_some b off cap l w h0 hm hl).mono ?_
  rintro e w1 ⟨⟨r, rfl, hr⟩, hb1⟩
  have HR := hide hr
  clear hr
  go_wp2_with fail
  go_ret
  exact ⟨by rw [← HR.out]; rfl, hb1⟩

theorem check_bad (v : Value) (l : List M.Val) (w : World) (h : IsVals w v l) (hf : M.likeF l ≠ 0) : Calls Tryz.prog 44 #[v] w fun e w' => e = .returned (errV (M.likeF l)) ∧ Below w.heap.size w w' := by
  have hL : ∀ w, IsVals w v l → Calls Tryz.prog 48 #[v] w fun e w' => e = .returned (.iface 66 (.int .i64 (M.likeF l))) ∧ Below w.heap.size w w' := fun w h => by rw [← errV_bad hf]; exact like v l w h
  have HF := hide hf
  have HL := hide hL
  have H := hide h
  clear hf hL h
  go_enter Tryz.func44, Tryz.ntmps44
  go_wp2_with fail
  refine (unhide HL _ H.out).mono ?_
  rintro e w1 ⟨rfl, hb1⟩
  go_wp2_with fail
  go_ret
  exact ⟨by rw [errV_bad HF.out]; rfl, hb1⟩

theorem likeF_len {l : List M.Val} (h : M.likeF l = 0) : 0 < l.length ∧ l.length ≤ 5 := by
  unfold M.likeF at h
  by_cases h0 : l.length = 0
  · rw [if_pos h0] at h; exact absurd h (by decide)
  rw [if_neg h0] at h
  by_cases h5 : 5 < l.length
  · rw [if_pos h5] at h; exact absurd h (by decide)
  · omega

/-- what has a field lies in memory -/
theorem IsVals.some {w : World} {v : Value} {l : List M.Val} (h : IsVals w v l) (h0 : 0 < l.length) : ∃ b off cap, v = .slice (some ⟨b, off, none⟩) l.length cap ∧ l.length ≤ cap ∧ cap ≤ maxLen ∧ Lie w b off l := by
  rcases h with ⟨_, h2⟩ | ⟨_, _, _, h2⟩ | ⟨b, off, cap, h1, h2, h3, h4, h5⟩
  · subst h2; exact absurd h0 (by simp)
  · subst h2; exact absurd h0 (by simp)
  · exact ⟨b, off, cap, h2, h3, h4, h5⟩

theorem check_ok (b off cap : Nat) (l : List M.Val) (w : World) (hl : Lie w b off l) (hcap : l.length ≤ cap) (hcm : cap ≤ maxLen) (hf : M.likeF l = 0) : Calls Tryz.prog 44 #[.slice (some ⟨b, off, none⟩) l.length cap] w fun e w' => e = .returned (errV (if M.hasAny l then 3 else 0)) ∧ Below w.heap.size w w' := by
  obtain ⟨h0, h5⟩ := likeF_len hf
  have hv : IsVals w (.slice (.some ⟨b, off, none⟩) l.length cap) l := Or.inr (Or.inr ⟨b, off, cap, h0, rfl, hcap, hcm, hl⟩)
  have hL : Calls Tryz.prog 48 #[.slice (some ⟨b, off, none⟩) l.length cap] w fun e w' => e = .returned .nilIface ∧ Below w.heap.size w w' := by have := like _ l w hv; rwa [hf] at this
  have hC : ∀ w1, Below w.heap.size w w1 → Calls Tryz.prog 74 #[.slice (some ⟨b, off, none⟩) l.length cap, .func (.func 75) #[] #[]] w1 fun e w' => e = .returned (.bool (M.hasAny l)) ∧ Below w1.heap.size w1 w' := fun w1 hb => contains_some b off cap l w1 h0 (by omega) (hl.stays h0 hb (Nat.le_refl _))
  have HL := hide hL
  have HC := hide hC
  clear hL hC hv hl hf h0 h5 hcap hcm
  cases hA : M.hasAny l
  · rw [hA] at HC
    clear hA
    go_enter Tryz.func44, Tryz.ntmps44
    go_wp2_with fail
    refine (unhide HL).mono ?_
    rintro e w1 ⟨rfl, hb1⟩
    go_wp2_with fail
    refine (unhide HC _ hb1).mono ?_
    rintro e w2 ⟨rfl, hb2⟩
    go_wp2_with fail
    go_ret
    exact ⟨rfl, hb1.trans (hb2.mono hb1.size)⟩
  · rw [hA] at HC
    clear hA
    go_enter Tryz.func44, Tryz.ntmps44
    go_wp2_with fail
    refine (unhide HL).mono ?_
    rintro e w1 ⟨rfl, hb1⟩
    go_wp2_with fail
    refine (unhide HC _ hb1).mono ?_
    rintro e w2 ⟨rfl, hb2⟩
    go_wp2_with fail
    go_ret
    exact ⟨rfl, hb1.trans (hb2.mono hb1.size)⟩

theorem tcheck (v : Value) (l : List M.Val) (w : World) (h : IsVals w v l) : Calls Tryz.prog 44 #[v] w fun e w' => e = .returned (errV (M.tupF l)) ∧ Below w.heap.size w w' := by
  unfold M.tupF
  by_cases hf : M.likeF l ≠ 0
  · rw [if_pos hf]; exact check_bad v l w h hf
  · rw [if_neg hf]
    have hf' : M.likeF l = 0 := by simpa using hf
    obtain ⟨b, off, cap, rfl, h1, h2, h3⟩ := h.some (likeF_len hf').1
    exact check_ok b off cap l w h3 h1 h2 hf'

end Go.Proofs.YtlefhfmckimlaajGreatDoor
