/-
  What Deal and Join of package share ask, each as one law of its call.
  What Deal and Join of package share do, each as one law of its call.
  What Deal and Join of package share answer, whatever comes in, each as one law of its call.
-/
import Derived.Test.YtmhkngceeeibpajDoorJPoly
import Derived.Test.YtmhkngceeeibpajDoorJMem
import Derived.Test.YtmhkngceeeibpajDoorJMath
import Derived.Laws.OwnMore
import Derived.Laws.AppendOwnNone
import Derived.OwnWalk
set_option linter.unusedVariables false
namespace Go.Proofs.YtmhkngceeeibpajDoor
open Go.RowKit Go.Shelf

theorem isFac (a : Int) (w : World) : Calls Tryd.prog 54 #[.int .i64 a] w fun e w' => e = .returned (.bool (!M.inR a)) ∧ w' = w := by
  cases h : M.inR a
  · have H := hide (M.inR_no h)
    clear h
    go_enter Tryd.func54, Tryd.ntmps54
    go_wp2_with (go_at_call 23; refine (Md.isNo _ _ H.out).mono ?_; rintro e w' ⟨rfl, rfl⟩)
    go_ret
    exact ⟨rfl, rfl⟩
  · obtain ⟨h0, h1⟩ := M.inR_yes h
    clear h
    go_enter Tryd.func54, Tryd.ntmps54
    go_wp2_with (go_at_call 23; refine (Md.isYes _ _ (by assumption) (by assumption)).mono ?_; rintro e w' ⟨rfl, rfl⟩)
    go_ret
    exact ⟨rfl, rfl⟩

theorem findFac (a : Option Addr) (n cap : Nat) (p : List Int) (w : World) (hn : n = p.length) (h7 : n ≤ 7) (hl : AtI w a p) :
    Calls Tryd.prog 59 #[.slice a n cap, .func (.func 54) #[] #[]] w fun e w' => (∃ r, e = .returned (.int .i64 r) ∧ decide (0 ≤ r) = badB p) ∧ w' = w := by
  have HL := hide hl
  have HN := hide hn
  clear hl hn
  go_enter Tryd.func59, Tryd.ntmps59
  go_wp2
  go_loop [8] (fun i => ∃ k : Nat, k ≤ n ∧ i = .int .i64 k ∧ Hid (M.first (M.facF p) k = 0)) (fun i => n - (intOf i).toNat)
  case atStart => exact ⟨0, Nat.zero_le _, rfl, hide rfl⟩
  case round =>
    obtain ⟨k, hk, rfl, hno⟩ := hrel
    by_cases hlt : k < n
    · have hkl : k < p.length := HN.out ▸ hlt
      obtain ⟨b, off, rfl, hlie⟩ := HL.out (by omega)
      have c1 := hlie k hkl
      have HF := hide (M.facF_at hkl)
      clear hlie
      generalize hz : p[k] = z at c1 HF
      clear hz
      cases hb : M.inR z
      · have HC : Hid (∀ w, Calls Tryd.prog 54 #[.int .i64 z] w fun e w' => e = .returned (.bool true) ∧ w' = w) := hide fun w => by have := isFac z w; rwa [hb] at this
        have hfin : Hid (badB p = true) := hide (by
          have h1 := HF.out
          rw [hb] at h1
          unfold badB
          rw [M.first_bad hkl hno.out (by rw [h1]; decide), h1]; rfl)
        clear hb
        go_wp2_with fail
        refine (unhide HC _).mono ?_
        rintro e w1 ⟨rfl, rfl⟩
        go_wp2_with fail
        go_ret
        exact ⟨⟨_, rfl, by rw [hfin.out]; simp⟩, rfl⟩
      · have HC : Hid (∀ w, Calls Tryd.prog 54 #[.int .i64 z] w fun e w' => e = .returned (.bool false) ∧ w' = w) := hide fun w => by have := isFac z w; rwa [hb] at this
        have HS : Hid (M.first (M.facF p) (k + 1) = 0) := hide (by rw [M.first_next hno.out, HF.out, if_pos hb])
        clear hb
        go_wp2_with fail
        refine (unhide HC _).mono ?_
        rintro e w1 ⟨rfl, rfl⟩
        go_wp2_with fail
        go_round
        case rel => exact ⟨k + 1, by omega, by go_num, HS⟩
        case measure => simp [intOf]; omega
    · have hfin : Hid (badB p = false) := hide (by
        have h1 := hno.out
        have h2 := HN.out
        unfold badB
        rw [← h2, show n = k by omega, h1]; rfl)
      go_wp2
      go_ret
      exact ⟨⟨_, rfl, by rw [hfin.out]; decide⟩, rfl⟩

theorem hasFac (a : Option Addr) (n cap : Nat) (p : List Int) (w : World) (hn : n = p.length) (h7 : n ≤ 7) (hl : AtI w a p) :
    Calls Tryd.prog 47 #[.slice a n cap, .func (.func 54) #[] #[]] w fun e w' => e = .returned (.bool (badB p)) ∧ w' = w := by
  have HI := hide (findFac a n cap p w hn h7 hl)
  clear hn hl
  go_enter Tryd.func47, Tryd.ntmps47
  go_wp2_with fail
  refine (unhide HI).mono ?_
  rintro e w1 ⟨⟨r, rfl, hr⟩, rfl⟩
  have HR := hide hr
  clear hr
  go_wp2_with fail
  go_ret
  exact ⟨by rw [← HR.out]; rfl, rfl⟩

theorem sCheck (s : Int) (a : Option Addr) (n cap : Nat) (r : List Int) (w : World) (hn : n = r.length) (hm : n ≤ maxLen) (hl : AtI w a r) :
    Calls Tryd.prog 42 #[.int .i64 s, .slice a n cap] w fun e w' => e = .returned (errV (M.secE s r)) ∧ w' = w := by
  unfold maxLen at hm
  cases hs : M.inR s
  · rw [M.secE_s hs]
    have HS := hide (M.inR_no hs)
    clear hs hn hl
    go_enter Tryd.func42, Tryd.ntmps42
    go_wp2_with fail
    refine (Md.isNo s _ HS.out).mono ?_
    rintro e w1 ⟨rfl, rfl⟩
    go_wp2_with fail
    go_ret
    exact ⟨rfl, rfl⟩
  · by_cases h6 : 6 < n
    · have h6' : (6 : Int) < n := by omega
      rw [M.secE_many hs (hn ▸ h6)]
      obtain ⟨s0, s1⟩ := M.inR_yes hs
      clear hs hn hl
      go_enter Tryd.func42, Tryd.ntmps42
      go_wp2_with fail
      refine (Md.isYes s _ s0 s1).mono ?_
      rintro e w1 ⟨rfl, rfl⟩
      go_wp2_with fail
      go_ret
      exact ⟨rfl, rfl⟩
    · have h6' : ¬ (6 : Int) < n := by omega
      have hC := hasFac a n cap r w hn (by omega) hl
      have hc := M.fac_first r r.length
      rw [M.secE_few hs (hn ▸ h6)]
      obtain ⟨s0, s1⟩ := M.inR_yes hs
      generalize hq : M.first (M.facF r) r.length = q at hc ⊢
      have hb : badB r = decide (q ≠ 0) := by unfold badB; rw [hq]
      rw [hb] at hC
      clear hb hq hn hl hs
      by_cases h0 : q = 0
      · subst h0
        have HC : Hid (Calls Tryd.prog 47 #[.slice a n cap, .func (.func 54) #[] #[]] w fun e w' => e = .returned (.bool false) ∧ w' = w) := hide hC
        clear hC hc
        go_enter Tryd.func42, Tryd.ntmps42
        go_wp2_with fail
        refine (Md.isYes s _ s0 s1).mono ?_
        rintro e w1 ⟨rfl, hw⟩
        obtain rfl := hw.symm
        go_wp2_with fail
        refine (unhide HC).mono ?_
        rintro e w1 ⟨rfl, rfl⟩
        go_wp2_with fail
        go_ret
        exact ⟨rfl, rfl⟩
      · rw [decide_eq_true h0] at hC
        have HC := hide hC
        have H1 : Hid (q = 1) := hide (by omega)
        clear hC hc h0
        go_enter Tryd.func42, Tryd.ntmps42
        go_wp2_with fail
        refine (Md.isYes s _ s0 s1).mono ?_
        rintro e w1 ⟨rfl, hw⟩
        obtain rfl := hw.symm
        go_wp2_with fail
        refine (unhide HC).mono ?_
        rintro e w1 ⟨rfl, rfl⟩
        go_wp2_with fail
        go_ret
        exact ⟨by rw [H1.out]; rfl, rfl⟩

theorem isCnt (n : Int) (w : World) : Calls Tryd.prog 35 #[.int .i64 n] w fun e w' => e = .returned (.bool (M.cntB n)) ∧ w' = w := by
  by_cases h1 : 1 ≤ n
  · by_cases h7 : n ≤ 7
    · rw [M.cntB_mk h1 h7]
      go_enter Tryd.func35, Tryd.ntmps35
      go_wp2
      go_ret
      exact ⟨by simp, rfl⟩
    · have e : M.cntB n = false := decide_eq_false (by omega)
      rw [e]
      clear e
      go_enter Tryd.func35, Tryd.ntmps35
      go_wp2
      go_ret
      exact ⟨by simp, rfl⟩
  · have e : M.cntB n = false := decide_eq_false (by omega)
    rw [e]
    clear e
    go_enter Tryd.func35, Tryd.ntmps35
    go_wp2
    go_ret
    exact ⟨by simp, rfl⟩

end Go.Proofs.YtmhkngceeeibpajDoor

set_option linter.unusedVariables false
namespace Go.Proofs.YtmhkngceeeibpajDoor
open Go.RowKit

theorem LieP.take {w : World} {b off : Nat} {l : List (Int × Int)} (h : LieP w b off l) (k : Nat) : LieP w b off (l.take k) := fun i hi => by
  have hi' : i < l.length := by rw [List.length_take] at hi; omega
  rw [List.getElem_take]
  exact h i hi'
theorem flatP_set : ∀ (l : List (Int × Int)) (i : Nat) (a b : Int), ((flatP l).set (i * 2) (.int .i64 a)).set (i * 2 + 1) (.int .i64 b) = flatP (l.set i (a, b))
  | [], i, a, b => by simp [flatP]
  | q :: l, 0, a, b => by simp [flatP]
  | q :: l, i + 1, a, b => by
    have e : (i + 1) * 2 = i * 2 + 1 + 1 := by omega
    rw [e]
    simp only [flatP, List.set_cons_succ, flatP_set l i a b]
theorem made_pairs : ∀ m : Nat, m ≤ 7 → (madeCells #[.int .i64 0, .int .i64 0] (m * 2)).toList = flatP (List.replicate m (0, 0))
  | 0, _ => by kernel_rfl
  | 1, _ => by kernel_rfl
  | 2, _ => by kernel_rfl
  | 3, _ => by kernel_rfl
  | 4, _ => by kernel_rfl
  | 5, _ => by kernel_rfl
  | 6, _ => by kernel_rfl
  | 7, _ => by kernel_rfl
  | m + 8, h => absurd h (by omega)
/-- what is dealt so far, and nothing behind it -/
def half (p : List Int) (m k : Nat) : List (Int × Int) := M.deal p k ++ List.replicate (m - k) (0, 0)
theorem half_len (p : List Int) {m k : Nat} (h : k ≤ m) : (half p m k).length = m := by
  unfold half; rw [List.length_append, M.deal_len, List.length_replicate]; omega
theorem half_zero (p : List Int) (m : Nat) : half p m 0 = List.replicate m (0, 0) := rfl
theorem half_all (p : List Int) (m : Nat) : half p m m = M.deal p m := by unfold half; rw [Nat.sub_self, List.replicate_zero, List.append_nil]
theorem half_next (p : List Int) {m k : Nat} (h : k < m) : (half p m k).set k ((k : Int) + 1, M.ev p ((k : Int) + 1)) = half p m (k + 1) := by
  unfold half
  have e : m - k = (m - (k + 1)) + 1 := by omega
  rw [e, List.replicate_succ, List.set_append_right _ _ (by rw [M.deal_len]; exact Nat.le_refl _), M.deal_len, Nat.sub_self, List.set_cons_zero, M.deal_succ, List.append_assoc, List.singleton_append]
theorem row_set {w : World} {base g n cap : Nat} {K : List (Int × Int)} (h : w.ownsRow base 31 2 (.slice (some ⟨g, 0, none⟩) n cap) n (flatP K)) (i : Nat) (a b : Int) :
    ((w.setCell ⟨g, i * 2, none⟩ (.int .i64 a)).setCell ⟨g, i * 2 + 1, none⟩ (.int .i64 b)).ownsRow base 31 2 (.slice (some ⟨g, 0, none⟩) n cap) n (flatP (K.set i (a, b))) := by
  have h1 := (h.stored (i * 2) (.int .i64 a)).1
  have h2 := (h1.stored (i * 2 + 1) (.int .i64 b)).1
  rwa [flatP_set] at h2

set_option maxRecDepth 100000 in
set_option maxHeartbeats 2000000 in
/-- what is dealt, in a row of the call's own -/
theorem sharesOfO (ap : Option Addr) (np cp : Nat) (p : List Int) (m : Nat) (w : World) (hnp : np = p.length) (hmp : np ≤ maxLen) (hp : AtI w ap p) (hf : M.facE p = 0) (h1 : 1 ≤ m) (h7 : m ≤ 7) :
    Calls Tryd.prog 43 #[.slice ap np cp, .int .i64 m] w fun e w' => (∃ g, e = .returned (.tuple #[.slice (some ⟨g, 0, none⟩) m m, .nilIface]) ∧ w'.ownsRow w.heap.size 31 2 (.slice (some ⟨g, 0, none⟩) m m) m (flatP (M.deal p m))) ∧ Below w.heap.size w w' := by
  obtain ⟨i0, hi, hz0, hz1, hz2⟩ := info_parts infoP
  have HI := hide (And.intro hi (And.intro hz0 (And.intro hz1 hz2)))
  have HAT : Hid (∀ (k : Nat) (wx : World), k < m → Below w.heap.size w wx → Calls Tryd.prog 44 #[.slice ap np cp, .int .i64 ((k : Int) + 1)] wx fun e w' => e = .returned (.tuple #[.int .i64 (M.ev p ((k : Int) + 1)), .nilIface]) ∧ Below wx.heap.size wx w') := hide fun k wx hk hb => by
    have := pAt ap np cp p ((k : Int) + 1) wx hnp hmp (hp.stays hb (Nat.le_refl _))
    have e := M.atE_0 hf (M.inR_mk (a := (k : Int) + 1) (by omega) (by omega))
    rwa [M.atR_ok e, e] at this
  clear hi hz0 hz1 hz2 hnp hmp hp hf
  go_enter Tryd.func43, Tryd.ntmps43
  go_wp2_with (at_make; refine wpList_make_full _ rfl (.tmp 10) (.tmp 10) 23 rfl w.heap.size 31 i0 (.agg #[.int .i64 0, .int .i64 0]) 2 Tryd.underlying23 HI.out.1 HI.out.2.1 HI.out.2.2.1 .i64 .i64 _ _ m rfl rfl rfl rfl (by rw [HI.out.2.2.2]; omega) (by unfold maxLen; omega) (Nat.le_refl _) ?_)
  intro w1 hown hgrow
  rw [made_pairs m h7, ← half_zero p m] at hown
  have HO := hide hown
  have HB := hide ((Below.refl w.heap.size w).grown hgrow (Nat.le_refl _) (fun k hk => by cases hk))
  clear hown hgrow
  go_wp2
  go_loopw [14] (fun si wr => ∃ k : Nat, si = .int .i64 k ∧ k ≤ m ∧ Hid (wr.ownsRow w.heap.size 31 2 (.slice (some ⟨w.heap.size, 0, none⟩) m m) m (flatP (half p m k))) ∧ Hid (Below w.heap.size w wr)) (fun si _ => m - (intOf si).toNat)
  case atStart => exact ⟨0, rfl, Nat.zero_le _, HO, HB⟩
  case round =>
    obtain ⟨k, rfl, hk, hrow, hbel⟩ := hrel
    by_cases hlt : k < m
    · have HC := hide (HAT.out k wr hlt hbel.out)
      have HN := hide (half_next p hlt)
      generalize M.ev p ((k : Int) + 1) = z at HC HN
      go_wp2_with fail
      refine (unhide HC).mono ?_
      rintro e w2 ⟨rfl, hb2⟩
      have HR2 := hide (row_stays hrow.out hb2)
      have HB2 := hide (hbel.out.trans (hb2.mono hbel.out.size))
      have hkl : k < (half p m k).length := by rw [half_len p hk]; exact hlt
      obtain ⟨q1, q2⟩ := flatP_at _ k hkl
      have c1 : w2.cell? ⟨w.heap.size, k * 2, none⟩ = some (.int .i64 (half p m k)[k].1) := by rw [HR2.out.cellAt (k * 2) (by omega), q1]
      have c2 : w2.cell? ⟨w.heap.size, k * 2 + 1, none⟩ = some (.int .i64 (half p m k)[k].2) := by rw [HR2.out.cellAt (k * 2 + 1) (by omega), q2]
      have f1 : w2.frozen? ⟨w.heap.size, k * 2, none⟩ = false := HR2.out.frozenAt _
      have f2 : w2.frozen? ⟨w.heap.size, k * 2 + 1, none⟩ = false := HR2.out.frozenAt _
      generalize (half p m k)[k].1 = o1 at c1
      generalize (half p m k)[k].2 = o2 at c2
      have hg : w.heap.size < w2.heap.size := World.block_lt_of_cell? w2 _ c1
      clear hb2 q1 q2 hkl
      go_wp2_with fail
      go_roundw
      case rel => exact ⟨k + 1, by go_num, by omega, hide (by rw [← HN.out]; exact row_set HR2.out k _ _), hide ((HB2.out.setCell (p := ⟨w.heap.size, k * 2, none⟩) (Nat.le_refl _) _).setCell (p := ⟨w.heap.size, k * 2 + 1, none⟩) (Nat.le_refl _) _)⟩
      case measure => simp [intOf]; omega
    · have hkm : k = m := by omega
      rw [hkm, half_all] at hrow
      clear hkm
      go_wp2_with fail
      go_ret2
      exact ⟨⟨_, rfl, hrow.out⟩, hbel.out⟩
theorem sharesOf (ap : Option Addr) (np cp : Nat) (p : List Int) (m : Nat) (w : World) (hnp : np = p.length) (hmp : np ≤ maxLen) (hp : AtI w ap p) (hf : M.facE p = 0) (h1 : 1 ≤ m) (h7 : m ≤ 7) :
    Calls Tryd.prog 43 #[.slice ap np cp, .int .i64 m] w fun e w' => (∃ g, e = .returned (.tuple #[.slice (some ⟨g, 0, none⟩) m m, .nilIface]) ∧ AtP w' (some ⟨g, 0, none⟩) (M.deal p m)) ∧ Below w.heap.size w w' := by
  refine (sharesOfO ap np cp p m w hnp hmp hp hf h1 h7).mono ?_
  rintro e w' ⟨⟨g, rfl, hrow⟩, hb⟩
  refine ⟨⟨g, rfl, ?_⟩, hb⟩
  obtain ⟨av, cv, hv, _, _, hat⟩ := atP_own (M.deal_len p m).symm hrow
  cases hv
  exact hat
/-- a row of the call's own is one of an earlier base, too -/
theorem ownsRow_mono {w : World} {b b2 : Nat} {e : TypeId} {k n : Nat} {v : Value} {xs : List Value} (h : w.ownsRow b e k v n xs) (hb : b2 ≤ b) : w.ownsRow b2 e k v n xs := by
  refine ⟨h.1, ?_⟩
  rcases h.2 with q | ⟨g, cap, cur, hv, hg, hh, r⟩
  · exact Or.inl q
  · exact Or.inr ⟨g, cap, cur, hv, Nat.le_trans hb hg, hh, r⟩

theorem dealSec (s : Int) (a : Option Addr) (n cap : Nat) (r : List Int) (m : Int) (w : World) (hn : n = r.length) (hm : n ≤ maxLen) (hl : AtI w a r) (hf : M.secE s r ≠ 0) :
    Calls Tryd.prog 31 #[.int .i64 s, .slice a n cap, .int .i64 m] w fun e w' => e = .returned (.tuple #[.slice none 0 0, .iface 52 (.int .i64 (M.secE s r))]) ∧ Below w.heap.size w w' := by
  have HC : Hid (Calls Tryd.prog 42 #[.int .i64 s, .slice a n cap] w fun e w' => e = .returned (.iface 52 (.int .i64 (M.secE s r))) ∧ w' = w) := hide (by
    have := sCheck s a n cap r w hn hm hl
    rwa [errV_bad hf] at this)
  clear hn hm hl hf
  go_enter Tryd.func31, Tryd.ntmps31
  go_wp2_with fail
  refine (unhide HC).mono ?_
  rintro e w1 ⟨rfl, rfl⟩
  go_wp2_with fail
  go_ret2
  exact ⟨rfl, Below.refl _ _⟩

theorem dealCnt (s : Int) (a : Option Addr) (n cap : Nat) (r : List Int) (m : Int) (w : World) (hn : n = r.length) (hm : n ≤ maxLen) (hl : AtI w a r) (hf : M.secE s r = 0) (hc : M.cntB m = false) :
    Calls Tryd.prog 31 #[.int .i64 s, .slice a n cap, .int .i64 m] w fun e w' => e = .returned (.tuple #[.slice none 0 0, .iface 52 (.int .i64 1)]) ∧ Below w.heap.size w w' := by
  have HC : Hid (Calls Tryd.prog 42 #[.int .i64 s, .slice a n cap] w fun e w' => e = .returned .nilIface ∧ w' = w) := hide (by
    have := sCheck s a n cap r w hn hm hl
    rwa [hf] at this)
  have HN : Hid (∀ wx, Calls Tryd.prog 35 #[.int .i64 m] wx fun e w' => e = .returned (.bool false) ∧ w' = wx) := hide fun wx => by have := isCnt m wx; rwa [hc] at this
  clear hn hm hl hf hc
  go_enter Tryd.func31, Tryd.ntmps31
  go_wp2_with fail
  refine (unhide HC).mono ?_
  rintro e w1 ⟨rfl, hw⟩
  obtain rfl := hw.symm
  go_wp2_with fail
  refine (unhide HN _).mono ?_
  rintro e w1 ⟨rfl, hw⟩
  obtain rfl := hw.symm
  go_wp2_with fail
  go_ret2
  exact ⟨rfl, Below.refl _ _⟩

theorem dealFew (s : Int) (a : Option Addr) (n cap : Nat) (r : List Int) (m : Int) (w : World) (hn : n = r.length) (hm : n ≤ maxLen) (hl : AtI w a r) (hf : M.secE s r = 0) (hc : M.cntB m = true) (hfew : m ≤ (r.length : Int)) :
    Calls Tryd.prog 31 #[.int .i64 s, .slice a n cap, .int .i64 m] w fun e w' => e = .returned (.tuple #[.slice none 0 0, .iface 52 (.int .i64 3)]) ∧ Below w.heap.size w w' := by
  have HC : Hid (Calls Tryd.prog 42 #[.int .i64 s, .slice a n cap] w fun e w' => e = .returned .nilIface ∧ w' = w) := hide (by
    have := sCheck s a n cap r w hn hm hl
    rwa [hf] at this)
  have HN : Hid (∀ wx, Calls Tryd.prog 35 #[.int .i64 m] wx fun e w' => e = .returned (.bool true) ∧ w' = wx) := hide fun wx => by have := isCnt m wx; rwa [hc] at this
  have hle : m ≤ (n : Int) := by omega
  unfold maxLen at hm
  clear hn hl hf hc hfew
  go_enter Tryd.func31, Tryd.ntmps31
  go_wp2_with fail
  refine (unhide HC).mono ?_
  rintro e w1 ⟨rfl, hw⟩
  obtain rfl := hw.symm
  go_wp2_with fail
  refine (unhide HN _).mono ?_
  rintro e w1 ⟨rfl, hw⟩
  obtain rfl := hw.symm
  go_wp2_with fail
  go_ret2
  exact ⟨rfl, Below.refl _ _⟩

end Go.Proofs.YtmhkngceeeibpajDoor

set_option linter.unusedVariables false
namespace Go.Proofs.YtmhkngceeeibpajDoor
open Go.RowKit

theorem cells_cons (s : Int) (r : List Int) : (#[Value.int .i64 s] : Array Value).toList ++ cellsI r = cellsI (s :: r) := rfl

set_option maxRecDepth 100000 in
set_option maxHeartbeats 2000000 in
/-- Deal where nothing is wrong: the shares lie in a row of the call's own -/
theorem dealOkO (s : Int) (a : Option Addr) (n cap : Nat) (r : List Int) (m : Nat) (w : World) (hn : n = r.length) (hm : n ≤ maxLen) (hl : AtI w a r) (ht : Tidy a n cap) (hf : M.secE s r = 0) (h1 : 1 ≤ m) (h7 : m ≤ 7) (hlt : r.length < m) :
    Calls Tryd.prog 31 #[.int .i64 s, .slice a n cap, .int .i64 m] w fun e w' => (∃ g, e = .returned (.tuple #[.slice (some ⟨g, 0, none⟩) m m, .nilIface]) ∧ w'.ownsRow w.heap.size 31 2 (.slice (some ⟨g, 0, none⟩) m m) m (flatP (M.deal (s :: r) m))) ∧ Below w.heap.size w w' := by
  obtain ⟨i0, hi, hz0, hz1, hz2⟩ := info_parts infoInt
  have HI := hide (And.intro hi (And.intro hz0 (And.intro hz1 hz2)))
  have HC : Hid (Calls Tryd.prog 42 #[.int .i64 s, .slice a n cap] w fun e w' => e = .returned .nilIface ∧ w' = w) := hide (by
    have := sCheck s a n cap r w hn hm hl
    rwa [hf] at this)
  have HN : Hid (∀ wx, Calls Tryd.prog 35 #[.int .i64 (m : Int)] wx fun e w' => e = .returned (.bool true) ∧ w' = wx) := hide fun wx => by have := isCnt (m : Int) wx; rwa [M.cntB_mk (by omega) (by omega)] at this
  obtain ⟨⟨s0, s1⟩, hr6, hfr⟩ := M.secE_ok hf
  have HF := hide (M.facE_cons s0 s1 hr6 hfr)
  have HS : Hid (∀ (v : Value) (wx : World) (B : Nat), wx.ownsRow B 3 1 v (1 + n) (cellsI (s :: r)) → ∃ a1 c1, v = .slice a1 (1 + n) c1 ∧ Calls Tryd.prog 43 #[.slice a1 (1 + n) c1, .int .i64 m] wx fun e w' => (∃ g, e = .returned (.tuple #[.slice (some ⟨g, 0, none⟩) m m, .nilIface]) ∧ w'.ownsRow wx.heap.size 31 2 (.slice (some ⟨g, 0, none⟩) m m) m (flatP (M.deal (s :: r) m))) ∧ Below wx.heap.size wx w') := hide fun v wx B ho => by
    have hlen : 1 + n = (s :: r).length := by rw [List.length_cons]; omega
    obtain ⟨a1, c1, rfl, _, _, hat⟩ := atI_own hlen ho
    exact ⟨a1, c1, rfl, sharesOfO a1 (1 + n) c1 (s :: r) m wx hlen (by unfold maxLen; omega) hat HF.out h1 h7⟩
  have hle : ¬ (m : Int) ≤ (n : Int) := by omega
  have hn6 : n ≤ 6 := by omega
  have HL := hide hl
  have HR := hide hn
  have HLIT : Hid ((w.alloc (.cells #[.int .i64 s] 3)).ownsRow w.heap.size 3 1 (.slice (some ⟨w.heap.size, 0, none⟩) 1 1) 1 (#[Value.int .i64 s] : Array Value).toList) := hide (World.ownsRow_lit w #[.int .i64 s] 1 (Nat.le_refl _) (by decide) rfl)
  have HB1 : Hid (Below w.heap.size w (w.alloc (.cells #[.int .i64 s] 3))) := hide ((Below.refl _ w).alloc (Nat.le_refl _) _)
  clear hi hz0 hz1 hz2 hn hm hl hf s0 s1 hr6 hfr hlt
  cases a with
  | none =>
    obtain ⟨rfl, rfl⟩ := ht rfl
    have HNIL : Hid (r = []) := hide (List.length_eq_zero_iff.1 HR.out.symm)
    clear ht
    go_enter Tryd.func31, Tryd.ntmps31
    go_wp2_with fail
    refine (unhide HC).mono ?_
    rintro e w1 ⟨rfl, hw⟩
    obtain rfl := hw.symm
    go_wp2_with fail
    refine (unhide HN _).mono ?_
    rintro e w1 ⟨rfl, hw⟩
    obtain rfl := hw.symm
    go_wp2_with (at_builtin; refine wpList_append_own_none rfl (.tmp 25) (.tmp 26) 22 rfl w.heap.size 3 i0 1 Tryd.underlying22 HI.out.1 _ 1 _ rfl HLIT.out rfl ?_)
    obtain ⟨a1, c1, he, hcall⟩ := HS.out _ _ w.heap.size (by
      have h := HLIT.out
      rw [HNIL.out]
      exact h)
    cases he
    have HCALL := hide hcall
    clear hcall
    refine (unhide HCALL).mono ?_
    rintro e w3 ⟨⟨g, rfl, hat⟩, hb3⟩
    have HAT := hide (ownsRow_mono hat HB1.out.size)
    have HB3 := hide (HB1.out.trans (hb3.mono HB1.out.size))
    clear hat hb3
    go_wp2_with fail
    go_ret2
    exact ⟨⟨_, rfl, HAT.out⟩, HB3.out⟩
  | some ad =>
    clear ht
    go_enter Tryd.func31, Tryd.ntmps31
    go_wp2_with fail
    refine (unhide HC).mono ?_
    rintro e w1 ⟨rfl, hw⟩
    obtain rfl := hw.symm
    go_wp2_with fail
    refine (unhide HN _).mono ?_
    rintro e w1 ⟨rfl, hw⟩
    obtain rfl := hw.symm
    have HNEW : Hid (∀ j u, (cellsI r)[j]? = some u → (w.alloc (.cells #[.int .i64 s] 3)).cell? (ad.add j) = some u) := hide ((HL.out.stays HB1.out (Nat.le_refl _)).news)
    have HLEN : Hid ((cellsI r).length = n * 1) := hide (by rw [cellsI_len, ← HR.out, Nat.mul_one])
    go_wp2_with (at_builtin; refine wpList_append_own _ rfl (.tmp 25) (.tmp 26) 22 rfl w.heap.size 3 i0 (.int .i64 0) 1 8 Tryd.underlying22 HI.out.1 HI.out.2.1 HI.out.2.2.1 HI.out.2.2.2 rfl (by decide) (.slice (some ⟨w.heap.size, 0, none⟩) 1 1) 1 _ rfl HLIT.out ad n cap (cellsI r) rfl HLEN.out HNEW.out (cellsI_oneCell r) (by unfold maxLen; omega) (by omega) (by simp) ?_)
    intro v1 w2 hown hgrow _
    have HBX := hide (HB1.out.grown hgrow (by simp) (fun j hj => (HLIT.out.lt j hj).1))
    obtain ⟨a1, c1, rfl, hcall⟩ := HS.out v1 w2 w.heap.size hown
    have HCALL := hide hcall
    clear hown hgrow hcall
    go_wp2_with fail
    refine (unhide HCALL).mono ?_
    rintro e w3 ⟨⟨g, rfl, hat⟩, hb3⟩
    have HAT := hide (ownsRow_mono hat HBX.out.size)
    have HB3 := hide (HBX.out.trans (hb3.mono HBX.out.size))
    clear hat hb3
    go_wp2_with fail
    go_ret2
    exact ⟨⟨_, rfl, HAT.out⟩, HB3.out⟩
theorem dealOk (s : Int) (a : Option Addr) (n cap : Nat) (r : List Int) (m : Nat) (w : World) (hn : n = r.length) (hm : n ≤ maxLen) (hl : AtI w a r) (ht : Tidy a n cap) (hf : M.secE s r = 0) (h1 : 1 ≤ m) (h7 : m ≤ 7) (hlt : r.length < m) :
    Calls Tryd.prog 31 #[.int .i64 s, .slice a n cap, .int .i64 m] w fun e w' => (∃ g, e = .returned (.tuple #[.slice (some ⟨g, 0, none⟩) m m, .nilIface]) ∧ AtP w' (some ⟨g, 0, none⟩) (M.deal (s :: r) m)) ∧ Below w.heap.size w w' := by
  refine (dealOkO s a n cap r m w hn hm hl ht hf h1 h7 hlt).mono ?_
  rintro e w' ⟨⟨g, rfl, hrow⟩, hb⟩
  refine ⟨⟨g, rfl, ?_⟩, hb⟩
  obtain ⟨av, cv, hv, _, _, hat⟩ := atP_own (M.deal_len (s :: r) m).symm hrow
  cases hv
  exact hat

theorem sDeal (s : Int) (a : Option Addr) (n cap : Nat) (r : List Int) (m : Int) (w : World) (hn : n = r.length) (hm : n ≤ maxLen) (hl : AtI w a r) (ht : Tidy a n cap) :
    Calls Tryd.prog 31 #[.int .i64 s, .slice a n cap, .int .i64 m] w fun e w' => (∃ v k c, e = .returned (.tuple #[.slice v k c, errV (M.dealE s r m)]) ∧ k = (M.dealR s r m).length ∧ k ≤ c ∧ c ≤ maxLen ∧ AtP w' v (M.dealR s r m)) ∧ Below w.heap.size w w' := by
  have bad : ∀ {E : Int} {w' : World}, E ≠ 0 → M.dealE s r m = E → ∃ v k c, Ending.returned (.tuple #[.slice none 0 0, .iface 52 (.int .i64 E)]) = .returned (.tuple #[.slice v k c, errV (M.dealE s r m)]) ∧ k = (M.dealR s r m).length ∧ k ≤ c ∧ c ≤ maxLen ∧ AtP w' v (M.dealR s r m) := fun {E w'} hE h => by
    rw [M.dealR_bad (by rw [h]; exact hE), h, errV_bad hE]
    exact ⟨none, 0, 0, rfl, rfl, Nat.le_refl _, Nat.zero_le _, fun h0 => absurd h0 (by decide)⟩
  by_cases hf : M.secE s r = 0
  · cases hc : M.cntB m
    · refine (dealCnt s a n cap r m w hn hm hl hf hc).mono ?_
      rintro e w' ⟨rfl, hb⟩
      exact ⟨bad (by decide) (M.dealE_cnt hf hc), hb⟩
    · by_cases hfew : m ≤ (r.length : Int)
      · refine (dealFew s a n cap r m w hn hm hl hf hc hfew).mono ?_
        rintro e w' ⟨rfl, hb⟩
        exact ⟨bad (by decide) (M.dealE_few hf hc hfew), hb⟩
      · have e0 := M.dealE_0 hf hc hfew
        obtain ⟨c1, c7⟩ := M.cntB_yes hc
        obtain ⟨k, rfl⟩ : ∃ k : Nat, m = k := ⟨m.toNat, by omega⟩
        have hR : M.dealR s r (k : Int) = M.deal (s :: r) k := by rw [M.dealR_ok e0, Int.toNat_natCast]
        rw [e0, hR]
        refine (dealOk s a n cap r k w hn hm hl ht hf (by omega) (by omega) (by omega)).mono ?_
        rintro e w' ⟨⟨g, rfl, hat⟩, hb⟩
        exact ⟨⟨some ⟨g, 0, none⟩, k, k, rfl, (M.deal_len _ _).symm, Nat.le_refl _, by unfold maxLen; omega, hat⟩, hb⟩
  · refine (dealSec s a n cap r m w hn hm hl hf).mono ?_
    rintro e w' ⟨rfl, hb⟩
    exact ⟨bad hf (M.dealE_sec hf), hb⟩

theorem joinCnt (a : Option Addr) (n cap : Nat) (k : Int) (w : World) (hc : M.cntB k = false) :
    Calls Tryd.prog 24 #[.slice a n cap, .int .i64 k] w fun e w' => e = .returned (.tuple #[.int .i64 0, .iface 52 (.int .i64 1)]) ∧ Below w.heap.size w w' := by
  have HN : Hid (∀ wx, Calls Tryd.prog 35 #[.int .i64 k] wx fun e w' => e = .returned (.bool false) ∧ w' = wx) := hide fun wx => by have := isCnt k wx; rwa [hc] at this
  clear hc
  go_enter Tryd.func24, Tryd.ntmps24
  go_wp2_with fail
  refine (unhide HN _).mono ?_
  rintro e w1 ⟨rfl, hw⟩
  obtain rfl := hw.symm
  go_wp2_with fail
  go_ret2
  exact ⟨rfl, Below.refl _ _⟩

theorem joinPts (a : Option Addr) (n cap : Nat) (l : List (Int × Int)) (k : Int) (w : World) (hn : n = l.length) (hcap : n ≤ cap) (hcm : cap ≤ maxLen) (hl : AtP w a l) (hc : M.cntB k = true) (hf : M.ptsE l ≠ 0) :
    Calls Tryd.prog 24 #[.slice a n cap, .int .i64 k] w fun e w' => e = .returned (.tuple #[.int .i64 0, .iface 52 (.int .i64 (M.ptsE l))]) ∧ Below w.heap.size w w' := by
  have HN : Hid (∀ wx, Calls Tryd.prog 35 #[.int .i64 k] wx fun e w' => e = .returned (.bool true) ∧ w' = wx) := hide fun wx => by have := isCnt k wx; rwa [hc] at this
  have HZ : Hid (Calls Tryd.prog 36 #[.slice a n cap] w fun e w' => e = .returned (.tuple #[.int .i64 (M.nxR l 0), .iface 52 (.int .i64 (M.ptsE l))]) ∧ Below w.heap.size w w') := hide (by
    have := pZero a n cap l w hn hcap hcm hl
    rwa [errV_bad hf] at this)
  clear hc hn hcap hcm hl hf
  go_enter Tryd.func24, Tryd.ntmps24
  go_wp2_with fail
  refine (unhide HN _).mono ?_
  rintro e w1 ⟨rfl, hw⟩
  obtain rfl := hw.symm
  go_wp2_with fail
  refine (unhide HZ).mono ?_
  rintro e w1 ⟨rfl, hb1⟩
  go_wp2_with fail
  go_ret2
  exact ⟨rfl, hb1⟩

theorem joinFew (a : Option Addr) (n cap : Nat) (l : List (Int × Int)) (k : Int) (w : World) (hn : n = l.length) (hcap : n ≤ cap) (hcm : cap ≤ maxLen) (hl : AtP w a l) (hc : M.cntB k = true) (hf : M.ptsE l = 0) (hfew : (l.length : Int) < k) :
    Calls Tryd.prog 24 #[.slice a n cap, .int .i64 k] w fun e w' => e = .returned (.tuple #[.int .i64 0, .iface 52 (.int .i64 5)]) ∧ Below w.heap.size w w' := by
  have HN : Hid (∀ wx, Calls Tryd.prog 35 #[.int .i64 k] wx fun e w' => e = .returned (.bool true) ∧ w' = wx) := hide fun wx => by have := isCnt k wx; rwa [hc] at this
  have HZ : Hid (Calls Tryd.prog 36 #[.slice a n cap] w fun e w' => e = .returned (.tuple #[.int .i64 (M.nxR l 0), .nilIface]) ∧ Below w.heap.size w w') := hide (by
    have := pZero a n cap l w hn hcap hcm hl
    rwa [hf] at this)
  have hlt : (n : Int) < k := by omega
  unfold maxLen at hcm
  clear hc hn hl hf hfew
  go_enter Tryd.func24, Tryd.ntmps24
  go_wp2_with fail
  refine (unhide HN _).mono ?_
  rintro e w1 ⟨rfl, hw⟩
  obtain rfl := hw.symm
  go_wp2_with fail
  refine (unhide HZ).mono ?_
  rintro e w1 ⟨rfl, hb1⟩
  have HB1 := hide hb1
  clear hb1
  go_wp2_with fail
  go_ret2
  exact ⟨rfl, HB1.out⟩

theorem joinOk (a : Option Addr) (n cap : Nat) (l : List (Int × Int)) (k : Nat) (w : World) (hn : n = l.length) (hcap : n ≤ cap) (hcm : cap ≤ maxLen) (hl : AtP w a l) (h1 : 1 ≤ k) (h7 : k ≤ 7) (hf : M.ptsE l = 0) (hk : k ≤ n) :
    Calls Tryd.prog 24 #[.slice a n cap, .int .i64 k] w fun e w' => e = .returned (.tuple #[.int .i64 (M.next (l.take k) 0), .nilIface]) ∧ Below w.heap.size w w' := by
  have HN : Hid (∀ wx, Calls Tryd.prog 35 #[.int .i64 (k : Int)] wx fun e w' => e = .returned (.bool true) ∧ w' = wx) := hide fun wx => by have := isCnt (k : Int) wx; rwa [M.cntB_mk (by omega) (by omega)] at this
  have HZ : Hid (Calls Tryd.prog 36 #[.slice a n cap] w fun e w' => e = .returned (.tuple #[.int .i64 (M.nxR l 0), .nilIface]) ∧ Below w.heap.size w w') := hide (by
    have := pZero a n cap l w hn hcap hcm hl
    rwa [hf] at this)
  obtain ⟨b, off, rfl, g⟩ := hl (by omega)
  have e1 := M.ptsE_take hf (k := k) (by omega) (by omega)
  have HT : Hid (∀ wx, Below w.heap.size w wx → Calls Tryd.prog 36 #[.slice (some ⟨b, off, none⟩) k cap] wx fun e w' => e = .returned (.tuple #[.int .i64 (M.next (l.take k) 0), .nilIface]) ∧ Below wx.heap.size wx w') := hide fun wx hb => by
    have := pZero (some ⟨b, off, none⟩) k cap (l.take k) wx (by rw [List.length_take]; omega) (by omega) hcm (fun _ => ⟨b, off, rfl, (g.stays hb (Nat.le_refl _)).take k⟩)
    rwa [M.nxR_ok (by rw [M.nxE_zero]; exact e1), e1] at this
  generalize M.next (l.take k) 0 = z at HT ⊢
  have hlt : ¬ (n : Int) < (k : Int) := by omega
  unfold maxLen at hcm
  clear hn hl hf g e1
  go_enter Tryd.func24, Tryd.ntmps24
  go_wp2_with fail
  refine (unhide HN _).mono ?_
  rintro e w1 ⟨rfl, hw⟩
  obtain rfl := hw.symm
  go_wp2_with fail
  refine (unhide HZ).mono ?_
  rintro e w1 ⟨rfl, hb1⟩
  have HB1 := hide hb1
  clear hb1
  go_wp2_with fail
  refine (HT.out _ HB1.out).mono ?_
  rintro e w2 ⟨rfl, hb2⟩
  have HB2 := hide (HB1.out.trans (hb2.mono HB1.out.size))
  clear hb2
  go_wp2_with fail
  go_ret2
  exact ⟨rfl, HB2.out⟩

theorem sJoin (a : Option Addr) (n cap : Nat) (l : List (Int × Int)) (k : Int) (w : World) (hn : n = l.length) (hcap : n ≤ cap) (hcm : cap ≤ maxLen) (hl : AtP w a l) :
    Calls Tryd.prog 24 #[.slice a n cap, .int .i64 k] w fun e w' => e = .returned (.tuple #[.int .i64 (M.joinR l k), errV (M.joinE l k)]) ∧ Below w.heap.size w w' := by
  cases hc : M.cntB k
  · have h := M.joinE_cnt (l := l) hc
    rw [M.joinR_bad (by rw [h]; decide), h]
    exact joinCnt a n cap k w hc
  · by_cases hf : M.ptsE l = 0
    · by_cases hfew : (l.length : Int) < k
      · have h := M.joinE_few hc hf hfew
        rw [M.joinR_bad (by rw [h]; decide), h]
        exact joinFew a n cap l k w hn hcap hcm hl hc hf hfew
      · have h := M.joinE_0 hc hf hfew
        obtain ⟨c1, c7⟩ := M.cntB_yes hc
        obtain ⟨m, rfl⟩ : ∃ m : Nat, k = m := ⟨k.toNat, by omega⟩
        rw [M.joinR_ok h, h, Int.toNat_natCast]
        exact joinOk a n cap l m w hn hcap hcm hl (by omega) (by omega) hf (by omega)
    · have h := M.joinE_pts hc hf
      rw [M.joinR_bad (by rw [h]; exact hf), h, errV_bad hf]
      exact joinPts a n cap l k w hn hcap hcm hl hc hf

end Go.Proofs.YtmhkngceeeibpajDoor
