/-
  What Deal and Join of package share ask, each as one law of its call.
  What Deal and Join of package share do, each as one law of its call.
-/
import Derived.Test.YtlefhfmckimlaajGreatDoorJ53A
import Derived.Test.YtlefhfmckimlaajGreatDoorPolyNext
import Derived.BigQuiet
import Derived.Deep.QuietTactic
import Derived.Test.YtlefhfmckimlaajGreatDoorJ52A
import Derived.Test.YtlefhfmckimlaajGreatDoorJ47A
import Derived.Laws.OwnMore
import Derived.Laws.AppendOwnNone
import Derived.OwnWalk
set_option linter.unusedVariables false
namespace Go.Proofs.YtlefhfmckimlaajGreatDoor
open Go.RowKit Go.Shelf

theorem isFac (a : Int) (w : World) : Calls Tryz.prog 115 #[.int .i64 a] w fun e w' => e = .returned (.bool (!M.inR a)) ∧ w' = w := by
  cases h : M.inR a
  · have H := hide (M.inR_no h)
    clear h
    go_enter Tryz.func115, Tryz.ntmps115
    go_wp2_with (go_at_call 30; refine (Md.isNo _ _ H.out).mono ?_; rintro e w' ⟨rfl, rfl⟩)
    go_ret
    exact ⟨rfl, rfl⟩
  · obtain ⟨h0, h1⟩ := M.inR_yes h
    clear h
    go_enter Tryz.func115, Tryz.ntmps115
    go_wp2_with (go_at_call 30; refine (Md.isYes _ _ (by assumption) (by assumption)).mono ?_; rintro e w' ⟨rfl, rfl⟩)
    go_ret
    exact ⟨rfl, rfl⟩

theorem findFac (a : Option Addr) (n cap : Nat) (p : List Int) (w : World) (hn : n = p.length) (h7 : n ≤ 7) (hl : AtI w a p) :
    Calls Tryz.prog 136 #[.slice a n cap, .func (.func 115) #[] #[]] w fun e w' => (∃ r, e = .returned (.int .i64 r) ∧ decide (0 ≤ r) = badB p) ∧ w' = w := by
  have HL := hide hl
  have HN := hide hn
  clear hl hn
  go_enter Tryz.func136, Tryz.ntmps136
  go_wp2
  go_loop [8] (fun i => ∃ k : Nat, k ≤ n ∧ i = .int .i64 k ∧ Hid (M.first (M.facF p) k = 0)) (fun i => n - (intOf i).toNat)
  case atStart => exact ⟨0, Nat.zero_le _, rfl, hide rfl⟩
  case round =>
    obtain ⟨k, hk, rfl, hno⟩ := hrel
    by_cases hlt : k < n
    · have hkl : k < p.length := HN.out ▸ hlt
      obtain ⟨b, off, rfl, hlie⟩ := HL.out (by omega)
      have c1 := hlie k hkl
      have HF := hide (M.facF_at hkl)
      clear hlie
      generalize hz : p[k] = z at c1 HF
      clear hz
      cases hb : M.inR z
      · have HC : Hid (∀ w, Calls Tryz.prog 115 #[.int .i64 z] w fun e w' => e = .returned (.bool true) ∧ w' = w) := hide fun w => by have := isFac z w; rwa [hb] at this
        have hfin : Hid (badB p = true) := hide (by
          have h1 := HF.out
          rw [hb] at h1
          unfold badB
          rw [M.first_bad hkl hno.out (by rw [h1]; decide), h1]; rfl)
        clear hb
        go_wp2_with fail
        refine (unhide HC _).mono ?_
        rintro e w1 ⟨rfl, rfl⟩
        go_wp2_with fail
        go_ret
        exact ⟨⟨_, rfl, by rw [hfin.out]; simp⟩, rfl⟩
      · have HC : Hid (∀ w, Calls Tryz.prog 115 #[.int .i64 z] w fun e w' => e = .returned (.bool false) ∧ w' = w) := hide fun w => by have := isFac z w; rwa [hb] at this
        have HS : Hid (M.first (M.facF p) (k + 1) = 0) := hide (by rw [M.first_next hno.out, HF.out, if_pos hb])
        clear hb
        go_wp2_with fail
        refine (unhide HC _).mono ?_
        rintro e w1 ⟨rfl, rfl⟩
        go_wp2_with fail
        go_round
        case rel => exact ⟨k + 1, by omega, by go_num, HS⟩
        case measure => simp [intOf]; omega
    · have hfin : Hid (badB p = false) := hide (by
        have h1 := hno.out
        have h2 := HN.out
        unfold badB
        rw [← h2, show n = k by omega, h1]; rfl)
      go_wp2
      go_ret
      exact ⟨⟨_, rfl, by rw [hfin.out]; decide⟩, rfl⟩

theorem hasFac (a : Option Addr) (n cap : Nat) (p : List Int) (w : World) (hn : n = p.length) (h7 : n ≤ 7) (hl : AtI w a p) :
    Calls Tryz.prog 114 #[.slice a n cap, .func (.func 115) #[] #[]] w fun e w' => e = .returned (.bool (badB p)) ∧ w' = w := by
  have HI := hide (findFac a n cap p w hn h7 hl)
  clear hn hl
  go_enter Tryz.func114, Tryz.ntmps114
  go_wp2_with fail
  refine (unhide HI).mono ?_
  rintro e w1 ⟨⟨r, rfl, hr⟩, rfl⟩
  have HR := hide hr
  clear hr
  go_wp2_with fail
  go_ret
  exact ⟨by rw [← HR.out]; rfl, rfl⟩

theorem sCheck (s : Int) (a : Option Addr) (n cap : Nat) (r : List Int) (w : World) (hn : n = r.length) (hm : n ≤ maxLen) (hl : AtI w a r) :
    Calls Tryz.prog 81 #[.int .i64 s, .slice a n cap] w fun e w' => e = .returned (errV (M.secE s r)) ∧ w' = w := by
  unfold maxLen at hm
  cases hs : M.inR s
  · rw [M.secE_s hs]
    have HS := hide (M.inR_no hs)
    clear hs hn hl
    go_enter Tryz.func81, Tryz.ntmps81
    go_wp2_with fail
    refine (Md.isNo s _ HS.out).mono ?_
    rintro e w1 ⟨rfl, rfl⟩
    go_wp2_with fail
    go_ret
    exact ⟨rfl, rfl⟩
  · by_cases h6 : 6 < n
    · have h6' : (6 : Int) < n := by omega
      rw [M.secE_many hs (hn ▸ h6)]
      obtain ⟨s0, s1⟩ := M.inR_yes hs
      clear hs hn hl
      go_enter Tryz.func81, Tryz.ntmps81
      go_wp2_with fail
      refine (Md.isYes s _ s0 s1).mono ?_
      rintro e w1 ⟨rfl, rfl⟩
      go_wp2_with fail
      go_ret
      exact ⟨rfl, rfl⟩
    · have h6' : ¬ (6 : Int) < n := by omega
      have hC := hasFac a n cap r w hn (by omega) hl
      have hc := M.fac_first r r.length
      rw [M.secE_few hs (hn ▸ h6)]
      obtain ⟨s0, s1⟩ := M.inR_yes hs
      generalize hq : M.first (M.facF r) r.length = q at hc ⊢
      have hb : badB r = decide (q ≠ 0) := by unfold badB; rw [hq]
      rw [hb] at hC
      clear hb hq hn hl hs
      by_cases h0 : q = 0
      · subst h0
        have HC : Hid (Calls Tryz.prog 114 #[.slice a n cap, .func (.func 115) #[] #[]] w fun e w' => e = .returned (.bool false) ∧ w' = w) := hide hC
        clear hC hc
        go_enter Tryz.func81, Tryz.ntmps81
        go_wp2_with fail
        refine (Md.isYes s _ s0 s1).mono ?_
        rintro e w1 ⟨rfl, hw⟩
        obtain rfl := hw.symm
        go_wp2_with fail
        refine (unhide HC).mono ?_
        rintro e w1 ⟨rfl, rfl⟩
        go_wp2_with fail
        go_ret
        exact ⟨rfl, rfl⟩
      · rw [decide_eq_true h0] at hC
        have HC := hide hC
        have H1 : Hid (q = 1) := hide (by omega)
        clear hC hc h0
        go_enter Tryz.func81, Tryz.ntmps81
        go_wp2_with fail
        refine (Md.isYes s _ s0 s1).mono ?_
        rintro e w1 ⟨rfl, hw⟩
        obtain rfl := hw.symm
        go_wp2_with fail
        refine (unhide HC).mono ?_
        rintro e w1 ⟨rfl, rfl⟩
        go_wp2_with fail
        go_ret
        exact ⟨by rw [H1.out]; rfl, rfl⟩

theorem isCnt (n : Int) (w : World) : Calls Tryz.prog 56 #[.int .i64 n] w fun e w' => e = .returned (.bool (M.cntB n)) ∧ w' = w := by
  by_cases h1 : 1 ≤ n
  · by_cases h7 : n ≤ 7
    · rw [M.cntB_mk h1 h7]
      go_enter Tryz.func56, Tryz.ntmps56
      go_wp2
      go_ret
      exact ⟨by simp, rfl⟩
    · have e : M.cntB n = false := decide_eq_false (by omega)
      rw [e]
      clear e
      go_enter Tryz.func56, Tryz.ntmps56
      go_wp2
      go_ret
      exact ⟨by simp, rfl⟩
  · have e : M.cntB n = false := decide_eq_false (by omega)
    rw [e]
    clear e
    go_enter Tryz.func56, Tryz.ntmps56
    go_wp2
    go_ret
    exact ⟨by simp, rfl⟩

end Go.Proofs.YtlefhfmckimlaajGreatDoor

set_option linter.unusedVariables false
namespace Go.Proofs.YtlefhfmckimlaajGreatDoor
open Go.RowKit

theorem LieP.take {w : World} {b off : Nat} {l : List (Int × Int)} (h : LieP w b off l) (k : Nat) : LieP w b off (l.take k) := fun i hi => by
  have hi' : i < l.length := by rw [List.length_take] at hi; omega
  rw [List.getElem_take]
  exact h i hi'
theorem flatP_set : ∀ (l : List (Int × Int)) (i : Nat) (a b : Int), ((flatP l).set (i * 2) (.int .i64 a)).set (i * 2 + 1) (.int .i64 b) = flatP (l.set i (a, b))
  | [], i, a, b => by simp [flatP]
  | q :: l, 0, a, b => by simp [flatP]
  | q :: l, i + 1, a, b => by
    have e : (i + 1) * 2 = i * 2 + 1 + 1 := by omega
    rw [e]
    simp only [flatP, List.set_cons_succ, flatP_set l i a b]
theorem made_pairs : ∀ m : Nat, m ≤ 7 → (madeCells #[.int .i64 0, .int .i64 0] (m * 2)).toList = flatP (List.replicate m (0, 0))
  | 0, _ => by kernel_rfl
  | 1, _ => by kernel_rfl
  | 2, _ => by kernel_rfl
  | 3, _ => by kernel_rfl
  | 4, _ => by kernel_rfl
  | 5, _ => by kernel_rfl
  | 6, _ => by kernel_rfl
  | 7, _ => by kernel_rfl
  | m + 8, h => absurd h (by omega)
/-- what is dealt so far, and nothing behind it -/
def half (p : List Int) (m k : Nat) : List (Int × Int) := M.deal p k ++ List.replicate (m - k) (0, 0)
theorem half_len (p : List Int) {m k : Nat} (h : k ≤ m) : (half p m k).length = m := by
  unfold half; rw [List.length_append, M.deal_len, List.length_replicate]; omega
theorem half_zero (p : List Int) (m : Nat) : half p m 0 = List.replicate m (0, 0) := rfl
theorem half_all (p : List Int) (m : Nat) : half p m m = M.deal p m := by unfold half; rw [Nat.sub_self, List.replicate_zero, List.append_nil]
theorem half_next (p : List Int) {m k : Nat} (h : k < m) : (half p m k).set k ((k : Int) + 1, M.ev p ((k : Int) + 1)) = half p m (k + 1) := by
  unfold half
  have e : m - k = (m - (k + 1)) + 1 := by omega
  rw [e, List.replicate_succ, List.set_append_right _ _ (by rw [M.deal_len]; exact Nat.le_refl _), M.deal_len, Nat.sub_self, List.set_cons_zero, M.deal_succ, List.append_assoc, List.singleton_append]
theorem row_set {w : World} {base g n cap : Nat} {K : List (Int × Int)} (h : w.ownsRow base 37 2 (.slice (some ⟨g, 0, none⟩) n cap) n (flatP K)) (i : Nat) (a b : Int) :
    ((w.setCell ⟨g, i * 2, none⟩ (.int .i64 a)).setCell ⟨g, i * 2 + 1, none⟩ (.int .i64 b)).ownsRow base 37 2 (.slice (some ⟨g, 0, none⟩) n cap) n (flatP (K.set i (a, b))) := by
  have h1 := (h.stored (i * 2) (.int .i64 a)).1
  have h2 := (h1.stored (i * 2 + 1) (.int .i64 b)).1
  rwa [flatP_set] at h2

set_option maxRecDepth 100000 in
set_option maxHeartbeats 2000000 in
/-- what is dealt, in a row of the call's own -/
theorem sharesOfO (ap : Option Addr) (np cp : Nat) (p : List Int) (m : Nat) (w : World) (hnp : np = p.length) (hmp : np ≤ maxLen) (hp : AtI w ap p) (hf : M.facE p = 0) (h1 : 1 ≤ m) (h7 : m ≤ 7) :
    Calls Tryz.prog 82 #[.slice ap np cp, .int .i64 m] w fun e w' => (∃ g, e = .returned (.tuple #[.slice (some ⟨g, 0, none⟩) m m, .nilIface]) ∧ w'.ownsRow w.heap.size 37 2 (.slice (some ⟨g, 0, none⟩) m m) m (flatP (M.deal p m))) ∧ Below w.heap.size w w' := by
  obtain ⟨i0, hi, hz0, hz1, hz2⟩ := info_parts infoP
  have HI := hide (And.intro hi (And.intro hz0 (And.intro hz1 hz2)))
  have HAT : Hid (∀ (k : Nat) (wx : World), k < m → Below w.heap.size w wx → Calls Tryz.prog 83 #[.slice ap np cp, .int .i64 ((k : Int) + 1)] wx fun e w' => e = .returned (.tuple #[.int .i64 (M.ev p ((k : Int) + 1)), .nilIface]) ∧ Below wx.heap.size wx w') := hide fun k wx hk hb => by
    have := pAt ap np cp p ((k : Int) + 1) wx hnp hmp (hp.stays hb (Nat.le_refl _))
    have e := M.atE_0 hf (M.inR_mk (a := (k : Int) + 1) (by omega) (by omega))
    rwa [M.atR_ok e, e] at this
  clear hi hz0 hz1 hz2 hnp hmp hp hf
  go_enter Tryz.func82, Tryz.ntmps82
  go_wp2_with (at_make; refine wpList_make_full _ rfl (.tmp 10) (.tmp 10) 35 rfl w.heap.size 37 i0 (.agg #[.int .i64 0, .int .i64 0]) 2 Tryz.underlying35 HI.out.1 HI.out.2.1 HI.out.2.2.1 .i64 .i64 _ _ m rfl rfl rfl rfl (by rw [HI.out.2.2.2]; omega) (by unfold maxLen; omega) (Nat.le_refl _) ?_)
  intro w1 hown hgrow
  rw [made_pairs m h7, ← half_zero p m] at hown
  have HO := hide hown
  have HB := hide ((Below.refl w.heap.size w).grown hgrow (Nat.le_refl _) (fun k hk => by cases hk))
  clear hown hgrow
  go_wp2
  go_loopw [14] (fun si wr => ∃ k : Nat, si = .int .i64 k ∧ k ≤ m ∧ Hid (wr.ownsRow w.heap.size 37 2 (.slice (some ⟨w.heap.size, 0, none⟩) m m) m (flatP (half p m k))) ∧ Hid (Below w.heap.size w wr)) (fun si _ => m - (intOf si).toNat)
  case atStart => exact ⟨0, rfl, Nat.zero_le _, HO, HB⟩
  case round =>
    obtain ⟨k, rfl, hk, hrow, hbel⟩ := hrel
    by_cases hlt : k < m
    · have HC := hide (HAT.out k wr hlt hbel.out)
      have HN := hide (half_next p hlt)
      generalize M.ev p ((k : Int) + 1) = z at HC HN
      go_wp2_with fail
      refine (unhide HC).mono ?_
      rintro e w2 ⟨rfl, hb2⟩
      have HR2 := hide (row_stays hrow.out hb2)
      have HB2 := hide (hbel.out.trans (hb2.mono hbel.out.size))
      have hkl : k < (half p m k).length := by rw [half_len p hk]; exact hlt
      obtain ⟨q1, q2⟩ := flatP_at _ k hkl
      have c1 : w2.cell? ⟨w.heap.size, k * 2, none⟩ = some (.int .i64 (half p m k)[k].1) := by rw [HR2.out.cellAt (k * 2) (by omega), q1]
      have c2 : w2.cell? ⟨w.heap.size, k * 2 + 1, none⟩ = some (.int .i64 (half p m k)[k].2) := by rw [HR2.out.cellAt (k * 2 + 1) (by omega), q2]
      have f1 : w2.frozen? ⟨w.heap.size, k * 2, none⟩ = false := HR2.out.frozenAt _
      have f2 : w2.frozen? ⟨w.heap.size, k * 2 + 1, none⟩ = false := HR2.out.frozenAt _
      generalize (half p m k)[k].1 = o1 at c1
      generalize (half p m k)[k].2 = o2 at c2
      have hg : w.heap.size < w2.heap.size := World.block_lt_of_cell? w2 _ c1
      clear hb2 q1 q2 hkl
      go_wp2_with fail
      go_roundw
      case rel => exact ⟨k + 1, by go_num, by omega, hide (by rw [← HN.out]; exact row_set HR2.out k _ _), hide ((HB2.out.setCell (p := ⟨w.heap.size, k * 2, none⟩) (Nat.le_refl _) _).setCell (p := ⟨w.heap.size, k * 2 + 1, none⟩) (Nat.le_refl _) _)⟩
      case measure => simp [intOf]; omega
    · have hkm : k = m := by omega
      rw [hkm, half_all] at hrow
      clear hkm
      go_wp2_with fail
      go_ret2
      exact ⟨⟨_, rfl, hrow.out⟩, hbel.out⟩
theorem sharesOf (ap : Option Addr) (np cp : Nat) (p : List Int) (m : Nat) (w : World) (hnp : np = p.length) (hmp : np ≤ maxLen) (hp : AtI w ap p) (hf : M.facE p = 0) (h1 : 1 ≤ m) (h7 : m ≤ 7) :
    Calls Tryz.prog 82 #[.slice ap np cp, .int .i64 m] w fun e w' => (∃ g, e = .returned (.tuple #[.slice (some ⟨g, 0, none⟩) m m, .nilIface]) ∧ AtP w' (some ⟨g, 0, none⟩) (M.deal p m)) ∧ Below w.heap.size w w' := by
  refine (sharesOfO ap np cp p m w hnp hmp hp hf h1 h7).mono ?_
  rintro e w' ⟨⟨g, rfl, hrow⟩, hb⟩
  refine ⟨⟨g, rfl, ?_⟩, hb⟩
  obtain ⟨av, cv, hv, _, _, hat⟩ := atP_own (M.deal_len p m).symm hrow
  cases hv
  exact hat
/-- a row of the call's own is one of an earlier base, too -/
theorem ownsRow_mono {w : World} {b b2 : Nat} {e : TypeId} {k n : Nat} {v : Value} {xs : List Value} (h : w.ownsRow b e k v n xs) (hb : b2 ≤ b) : w.ownsRow b2 e k v n xs := by
  refine ⟨h.1, ?_⟩
  rcases h.2 with q | ⟨g, cap, cur, hv, hg, hh, r⟩
  · exact Or.inl q
  · exact Or.inr ⟨g, cap, cur, hv, Nat.le_trans hb hg, hh, r⟩

theorem dealSec (s : Int) (a : Option Addr) (n cap : Nat) (r : List Int) (m : Int) (w : World) (hn : n = r.length) (hm : n ≤ maxLen) (hl : AtI w a r) (hf : M.secE s r ≠ 0) :
    Calls Tryz.prog 52 #[.int .i64 s, .slice a n cap, .int .i64 m] w fun e w' => e = .returned (.tuple #[.slice none 0 0, .iface 66 (.int .i64 (M.secE s r))]) ∧ Below w.heap.size w w' := by
  have HC : Hid (Calls Tryz.prog 81 #[.int .i64 s, .slice a n cap] w fun e w' => e = .returned (.iface 66 (.int .i64 (M.secE s r))) ∧ w' = w) := hide (by
    have := sCheck s a n cap r w hn hm hl
    rwa [errV_bad hf] at this)
  clear hn hm hl hf
  go_enter Tryz.func52, Tryz.ntmps52
  go_wp2_with fail
  refine (unhide HC).mono ?_
  rintro e w1 ⟨rfl, rfl⟩
  go_wp2_with fail
  go_ret2
  exact ⟨rfl, Below.refl _ _⟩

theorem dealCnt (s : Int) (a : Option Addr) (n cap : Nat) (r : List Int) (m : Int) (w : World) (hn : n = r.length) (hm : n ≤ maxLen) (hl : AtI w a r) (hf : M.secE s r = 0) (hc : M.cntB m = false) :
    Calls Tryz.prog 52 #[.int .i64 s, .slice a n cap, .int .i64 m] w fun e w' => e = .returned (.tuple #[.slice none 0 0, .iface 66 (.int .i64 1)]) ∧ Below w.heap.size w w' := by
  have HC : Hid (Calls Tryz.prog 81 #[.int .i64 s, .slice a n cap] w fun e w' => e = .returned .nilIface ∧ w' = w) := hide (by
    have := sCheck s a n cap r w hn hm hl
    rwa [hf] at this)
  have HN : Hid (∀ wx, Calls Tryz.prog 56 #[.int .i64 m] wx fun e w' => e = .returned (.bool false) ∧ w' = wx) := hide fun wx => by have := isCnt m wx; rwa [hc] at this
  clear hn hm hl hf hc
  go_enter Tryz.func52, Tryz.ntmps52
  go_wp2_with fail
  refine (unhide HC).mono ?_
  rintro e w1 ⟨rfl, hw⟩
  obtain rfl := hw.symm
  go_wp2_with fail
  refine (unhide HN _).mono ?_
  rintro e w1 ⟨rfl, hw⟩
  obtain rfl := hw.symm
  go_wp2_with fail
  go_ret2
  exact ⟨rfl, Below.refl _ _⟩

theorem dealFew (s : Int) (a : Option Addr) (n cap : Nat) (r : List Int) (m : Int) (w : World) (hn : n = r.length) (hm : n ≤ maxLen) (hl : AtI w a r) (hf : M.secE s r = 0) (hc : M.cntB m = true) (hfew : m ≤ (r.length : Int)) :
    Calls Tryz.prog 52 #[.int .i64 s, .slice a n cap, .int .i64 m] w fun e w' => e = .returned (.tuple #[.slice none 0 0, .iface 66 (.int .i64 3)]) ∧ Below w.heap.size w w' := by
  have HC : Hid (Calls Tryz.prog 81 #[.int .i64 s, .slice a n cap] w fun e w' => e = .returned .nilIface ∧ w' = w) := hide (by
    have := sCheck s a n cap r w hn hm hl
    rwa [hf] at this)
  have HN : Hid (∀ wx, Calls Tryz.prog 56 #[.int .i64 m] wx fun e w' => e = .returned (.bool true) ∧ w' = wx) := hide fun wx => by have := isCnt m wx; rwa [hc] at this
  have hle : m ≤ (n : Int) := by omega
  unfold maxLen at hm
  clear hn hl hf hc hfew
  go_enter Tryz.func52, Tryz.ntmps52
  go_wp2_with fail
  refine (unhide HC).mono ?_
  rintro e w1 ⟨rfl, hw⟩
  obtain rfl := hw.symm
  go_wp2_with fail
  refine (unhide HN _).mono ?_
  rintro e w1 ⟨rfl, hw⟩
  obtain rfl := hw.symm
  go_wp2_with fail
  go_ret2
  exact ⟨rfl, Below.refl _ _⟩

end Go.Proofs.YtlefhfmckimlaajGreatDoor
