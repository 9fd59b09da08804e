/-
  What Like and Check of package tuple do, each as one law of its call.
-/
import Derived.Test.YtlefhfmckimlaadDoorValWalks3
import Derived.Test.YtlefhfmckimlaadDoorVals
namespace Go.Proofs.YtlefhfmckimlaadDoor
open Go.RowKit

theorem firstF_take {l : List M.Val} {k : Nat} (h : k < l.length) (h0 : M.firstF (l.take k) = 0) : M.firstF (l.take (k + 1)) = l[k].fault := by
  induction l generalizing k with
  | nil => simp at h
  | cons a l ih =>
    cases k with
    | zero => simp only [List.take_succ_cons, List.take_zero, M.firstF, List.getElem_cons_zero]; split <;> simp_all
    | succ k =>
      simp only [List.take_succ_cons, M.firstF, List.getElem_cons_succ] at h0 ⊢
      by_cases ha : a.fault ≠ 0
      · rw [if_pos ha] at h0; exact absurd h0 ha
      · rw [if_neg ha] at h0 ⊢; exact ih (by simpa using h) h0
theorem firstF_bad {l : List M.Val} {k : Nat} (h : k < l.length) (h0 : M.firstF (l.take k) = 0) (hk : l[k].fault ≠ 0) : M.firstF l = l[k].fault := by
  induction l generalizing k with
  | nil => simp at h
  | cons a l ih =>
    cases k with
    | zero => simp only [List.getElem_cons_zero] at hk ⊢; simp only [M.firstF]; rw [if_pos hk]
    | succ k =>
      simp only [List.take_succ_cons, M.firstF, List.getElem_cons_succ] at h0 hk ⊢
      by_cases ha : a.fault ≠ 0
      · rw [if_pos ha] at h0; exact absurd h0 ha
      · rw [if_neg ha] at h0 ⊢; exact ih (by simpa using h) h0 hk

theorem like_none (v : Value) (l : List M.Val) (w : World) (hl : l = []) (hv : v = .slice none 0 0 ∨ ∃ a cap, v = .slice (some a) 0 cap) :
    Calls Tryd.prog 40 #[v] w fun e w' => e = .returned (errV (M.likeF l)) ∧ Below w.heap.size w w' := by
  subst hl
  have he : M.likeF [] = 5 := rfl
  rw [he]; clear he
  rcases hv with rfl | ⟨a, cap, rfl⟩
  · go_enter Tryd.func40, Tryd.ntmps40
    go_wp2
    go_ret
    exact ⟨rfl, Below.refl _ _⟩
  · go_enter Tryd.func40, Tryd.ntmps40
    go_wp2
    go_ret
    exact ⟨rfl, Below.refl _ _⟩

theorem like_many (a : Addr) (n cap : Nat) (w : World) (h : 5 < n) (hn : n ≤ maxLen) :
    Calls Tryd.prog 40 #[.slice (some a) n cap] w fun e w' => e = .returned (errV 4) ∧ Below w.heap.size w w' := by
  unfold maxLen at hn
  have h0 : ¬ (n : Int) = 0 := by omega
  have h5 : (5 : Int) < n := by omega
  go_enter Tryd.func40, Tryd.ntmps40
  go_wp2
  go_ret
  exact ⟨rfl, Below.refl _ _⟩

theorem like_some (b off cap : Nat) (l : List M.Val) (w : World) (h0 : 0 < l.length) (h5 : l.length ≤ 5) (hl : Lie w b off l) :
    Calls Tryd.prog 40 #[.slice (some ⟨b, off, none⟩) l.length cap] w fun e w' => e = .returned (errV (M.firstF l)) ∧ Below w.heap.size w w' := by
  have HL := hide hl
  clear hl
  obtain ⟨n, hn⟩ : ∃ n, n = l.length := ⟨_, rfl⟩
  rw [← hn] at h0 h5 ⊢
  have HN := hide hn
  clear hn
  have hz : ¬ (n : Int) = 0 := by omega
  have h5' : ¬ (5 : Int) < n := by omega
  go_enter Tryd.func40, Tryd.ntmps40
  go_wp2
  go_loopw [16] (fun i wr => ∃ k : Nat, k ≤ n ∧ i = .int .i64 k ∧ Hid (M.firstF (l.take k) = 0) ∧ Below w.heap.size w wr) (fun i _ => n - (intOf i).toNat)
  case atStart => exact ⟨0, Nat.zero_le _, rfl, hide rfl, Below.refl _ _⟩
  case round =>
    obtain ⟨k, hk, rfl, hno, hbel⟩ := hrel
    by_cases hlt : k < n
    · have hkl : k < l.length := HN.out ▸ hlt
      obtain ⟨c1, c2, c3, c4⟩ := ((unhide HL).stays (by omega) hbel (Nat.le_refl _)) k hkl
      by_cases hb : M.fault l[k].k l[k].n l[k].s = 0
      · have HB := hide hb
        clear hb
        go_wp2_with fail
        refine (checkOk _ _ _ _ c4 HB.out).mono ?_
        rintro e w1 ⟨rfl, hb1⟩
        obtain ⟨hc, hf⟩ := bcell hb1
        go_wp2_with fail
        go_roundw
        case rel => exact ⟨k + 1, by omega, by go_num, hide ((firstF_take hkl hno.out).trans HB.out), hbel.trans (((Below.refl _ _).alloc (Nat.le_refl _) _).trans (hb1.mono (by simp)) |>.mono hbel.size)⟩
        case measure => simp [intOf]; omega
      · have HB := hide hb
        clear hb
        have hfin : Hid (M.firstF l = M.fault l[k].k l[k].n l[k].s) := hide (firstF_bad hkl hno.out HB.out)
        go_wp2_with fail
        refine (checkBad _ _ _ _ c4 HB.out).mono ?_
        rintro e w1 ⟨rfl, hb1⟩
        obtain ⟨hc, hf⟩ := bcell hb1
        go_wp2_with fail
        go_ret
        exact ⟨by rw [hfin.out, errV_bad HB.out]; rfl, hbel.trans (((Below.refl _ _).alloc (Nat.le_refl _) _).trans (hb1.mono (by simp)) |>.mono hbel.size)⟩
    · have hfin : Hid (M.firstF l = 0) := hide (by have := hno.out; rwa [List.take_of_length_le (by have := HN.out; omega)] at this)
      go_wp2
      go_ret
      exact ⟨by rw [hfin.out]; rfl, hbel⟩

theorem like (v : Value) (l : List M.Val) (w : World) (h : IsVals w v l) : Calls Tryd.prog 40 #[v] w fun e w' => e = .returned (errV (M.likeF l)) ∧ Below w.heap.size w w' := by
  rcases h with ⟨h1, h2⟩ | ⟨a, cap, h1, h2⟩ | ⟨b, off, cap, h1, h2, h3, h4, h5⟩
  · exact like_none v l w h2 (Or.inl h1)
  · exact like_none v l w h2 (Or.inr ⟨a, cap, h1⟩)
  · subst h2
    unfold M.likeF
    rw [if_neg (by omega)]
    by_cases h : 5 < l.length
    · rw [if_pos h]; exact like_many _ _ _ w h (by omega)
    · rw [if_neg h]; exact like_some b off cap l w h1 (by omega) h5


theorem likeF_len {l : List M.Val} (h : M.likeF l = 0) : 0 < l.length ∧ l.length ≤ 5 := by
  unfold M.likeF at h
  by_cases h0 : l.length = 0
  · rw [if_pos h0] at h; exact absurd h (by decide)
  rw [if_neg h0] at h
  by_cases h5 : 5 < l.length
  · rw [if_pos h5] at h; exact absurd h (by decide)
  · omega

/-- what has a field lies in memory -/
theorem IsVals.some {w : World} {v : Value} {l : List M.Val} (h : IsVals w v l) (h0 : 0 < l.length) : ∃ b off cap, v = .slice (some ⟨b, off, none⟩) l.length cap ∧ l.length ≤ cap ∧ cap ≤ maxLen ∧ Lie w b off l := by
  rcases h with ⟨_, h2⟩ | ⟨_, _, _, h2⟩ | ⟨b, off, cap, h1, h2, h3, h4, h5⟩
  · subst h2; exact absurd h0 (by simp)
  · subst h2; exact absurd h0 (by simp)
  · exact ⟨b, off, cap, h2, h3, h4, h5⟩


end Go.Proofs.YtlefhfmckimlaadDoor
