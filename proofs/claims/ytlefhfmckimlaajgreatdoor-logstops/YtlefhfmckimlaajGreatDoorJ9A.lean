/-
  What Fits of package tuple does, as one law of its call.
  Plain functions on lists of tuples: what putting one answers, and which is the first that fits. No program is walked here.
-/
import Derived.Test.YtlefhfmckimlaajGreatDoorTupWalks
import Derived.Deep.RegionHeld3
import Derived.Deep.DrawnRows
namespace Go.Proofs.YtlefhfmckimlaajGreatDoor
open Go.RowKit
attribute [local go_sem ↓] Go.wp_at_zero Go.wp_at_succ

/-- does a tuple fit: both right, and field by field -/
def M.fitsB (a b : List M.Val) : Bool := decide (M.both (M.likeF a) (M.tupF b) = 0) && M.fitAll a b

theorem tfitsOne (a b : M.Val) (w : World) (h1 : a.s.size ≤ maxLen) (h2 : b.s.size ≤ maxLen) (ha : a.fault = 0) (hb : b.fault = 0) (hk : b.k ≠ 2) :
    Calls Tryz.prog 133 #[.agg #[.int .i64 a.k, .int .i64 a.n, .string a.s], .agg #[.int .i64 b.k, .int .i64 b.n, .string b.s]] w fun e w' => e = .returned (.tuple #[.bool (M.fit1 a b), .nilIface]) ∧ Below w.heap.size w w' := by
  have hB : M.both (M.fault a.k a.n a.s) (M.fault b.k b.n b.s) = 0 := by
    have e1 : M.fault a.k a.n a.s = 0 := ha
    have e2 : M.fault b.k b.n b.s = 0 := hb
    rw [e1, e2]; rfl
  obtain ⟨k1, n1, s1⟩ := a
  by_cases e : k1 = 2
  · subst e
    have hf : M.fit1 ⟨2, n1, s1⟩ b = true := by simp [M.fit1]
    rw [hf]
    exact fitsAll n1 s1 b.k b.n b.s w h1 h2 hB hk
  · have hf : M.fit1 ⟨k1, n1, s1⟩ b = M.same k1 n1 s1 b.k b.n b.s := by simp [M.fit1, e, M.Val.same]
    rw [hf]
    exact fitsSame k1 n1 s1 b.k b.n b.s w h1 h2 hB e hk

theorem fitAll_len : ∀ {a b : List M.Val}, a.length ≠ b.length → M.fitAll a b = false
  | [], [], h => absurd rfl h
  | [], _ :: _, _ => rfl
  | _ :: _, [], _ => rfl
  | x :: a, y :: b, h => by unfold M.fitAll; rw [fitAll_len (by simpa using h)]; simp
theorem fitAll_take : ∀ {a b : List M.Val} {k : Nat} (h1 : k < a.length) (h2 : k < b.length), M.fitAll (a.take k) (b.take k) = true → M.fitAll (a.take (k + 1)) (b.take (k + 1)) = M.fit1 a[k] b[k]
  | [], _, _, h, _, _ => by simp at h
  | _ :: _, [], _, _, h, _ => by simp at h
  | x :: a, y :: b, 0, _, _, _ => by simp [M.fitAll]
  | x :: a, y :: b, k + 1, h1, h2, h => by
    simp only [List.take_succ_cons, M.fitAll, Bool.and_eq_true, List.getElem_cons_succ] at h ⊢
    rw [h.1, Bool.true_and]
    exact fitAll_take (by simpa using h1) (by simpa using h2) h.2
theorem fitAll_no : ∀ {a b : List M.Val} {k : Nat} (h1 : k < a.length) (h2 : k < b.length), M.fit1 a[k] b[k] = false → M.fitAll a b = false
  | [], _, _, h, _, _ => by simp at h
  | _ :: _, [], _, _, h, _ => by simp at h
  | x :: a, y :: b, 0, _, _, h => by simp only [List.getElem_cons_zero] at h; unfold M.fitAll; rw [h]; rfl
  | x :: a, y :: b, k + 1, h1, h2, h => by
    simp only [List.getElem_cons_succ] at h
    unfold M.fitAll
    rw [fitAll_no (by simpa using h1) (by simpa using h2) h]; simp
theorem tupF_ok {l : List M.Val} (h : M.tupF l = 0) : M.likeF l = 0 ∧ M.hasAny l = false := by
  unfold M.tupF at h
  by_cases hf : M.likeF l ≠ 0
  · rw [if_pos hf] at h; exact absurd h hf
  · rw [if_neg hf] at h
    refine ⟨by simpa using hf, ?_⟩
    cases hA : M.hasAny l
    · rfl
    · rw [hA] at h; exact absurd h (by decide)
theorem likeF_each {l : List M.Val} (h : M.likeF l = 0) : ∀ v ∈ l, v.fault = 0 := by
  obtain ⟨h0, h5⟩ := likeF_len h
  unfold M.likeF at h
  rw [if_neg (by omega), if_neg (by omega)] at h
  exact M.firstF_zero h
theorem noAny_each {l : List M.Val} (h : M.hasAny l = false) : ∀ v ∈ l, v.k ≠ 2 := fun v hv e => by
  have : M.hasAny l = true := by unfold M.hasAny; rw [List.any_eq_true]; exact ⟨v, hv, by simp [e]⟩
  rw [h] at this; exact absurd this (by decide)

theorem tfits_walk (b1 off1 cap1 b2 off2 cap2 : Nat) (l1 l2 : List M.Val) (w : World) (hl1 : Lie w b1 off1 l1) (hl2 : Lie w b2 off2 l2)
    (c1 : l1.length ≤ cap1) (c1' : cap1 ≤ maxLen) (c2 : l2.length ≤ cap2) (c2' : cap2 ≤ maxLen) (hf1 : M.likeF l1 = 0) (hf2 : M.tupF l2 = 0) (hlen : l1.length = l2.length) :
    Calls Tryz.prog 109 #[.slice (some ⟨b1, off1, none⟩) l1.length cap1, .slice (some ⟨b2, off2, none⟩) l2.length cap2] w fun e w' => e = .returned (.tuple #[.bool (M.fitAll l1 l2), .nilIface]) ∧ Below w.heap.size w w' := by
  obtain ⟨p1, p5⟩ := likeF_len hf1
  obtain ⟨g1, g2⟩ := tupF_ok hf2
  have hv1 : IsVals w (.slice (.some ⟨b1, off1, none⟩) l1.length cap1) l1 := Or.inr (Or.inr ⟨b1, off1, cap1, p1, rfl, c1, c1', hl1⟩)
  have hv2 : IsVals w (.slice (.some ⟨b2, off2, none⟩) l2.length cap2) l2 := Or.inr (Or.inr ⟨b2, off2, cap2, by omega, rfl, c2, c2', hl2⟩)
  have hL : Calls Tryz.prog 48 #[.slice (some ⟨b1, off1, none⟩) l1.length cap1] w fun e w' => e = .returned .nilIface ∧ Below w.heap.size w w' := by have := like _ l1 w hv1; rwa [hf1] at this
  have hC : ∀ w1, Below w.heap.size w w1 → Calls Tryz.prog 44 #[.slice (some ⟨b2, off2, none⟩) l2.length cap2] w1 fun e w' => e = .returned .nilIface ∧ Below w1.heap.size w1 w' := fun w1 hb => by have := tcheck _ l2 w1 (hv2.stays hb (Nat.le_refl _)); rwa [hf2] at this
  have hF : ∀ k (h1 : k < l1.length) (h2 : k < l2.length) w1, l1[k].s.size ≤ maxLen → l2[k].s.size ≤ maxLen → Calls Tryz.prog 133 #[.agg #[.int .i64 l1[k].k, .int .i64 l1[k].n, .string l1[k].s], .agg #[.int .i64 l2[k].k, .int .i64 l2[k].n, .string l2[k].s]] w1 fun e w' => e = .returned (.tuple #[.bool (M.fit1 l1[k] l2[k]), .nilIface]) ∧ Below w1.heap.size w1 w' := fun k h1 h2 w1 hs1 hs2 =>
    tfitsOne l1[k] l2[k] w1 hs1 hs2 (likeF_each hf1 _ (List.getElem_mem h1)) (likeF_each g1 _ (List.getElem_mem h2)) (noAny_each g2 _ (List.getElem_mem h2))
  have HL := hide hL
  have HC := hide hC
  have HF := hide hF
  have HL1 := hide hl1
  have HL2 := hide hl2
  clear hL hC hF hl1 hl2 hv1 hv2 g1 g2 hf1 hf2 c1 c1' c2 c2'
  obtain ⟨n, hn⟩ : ∃ n, n = l1.length := ⟨_, rfl⟩
  rw [← hn] at p1 p5 HL ⊢
  have hn2 : l2.length = n := by omega
  rw [hn2] at HC ⊢
  have HN := hide hn
  have HN2 := hide hn2
  clear hn hn2 hlen
  go_enter Tryz.func109, Tryz.ntmps109
  go_wp2_with fail
  refine (unhide HL).mono ?_
  rintro e w1 ⟨rfl, hb1⟩
  go_wp2_with fail
  refine (unhide HC _ hb1).mono ?_
  rintro e w2 ⟨rfl, hb2⟩
  have hb := hb1.trans (hb2.mono hb1.size)
  clear hb1 hb2
  go_wp2_with fail
  go_loopw [29] (fun i wr => ∃ k : Nat, k ≤ n ∧ i = .int .i64 k ∧ Hid (M.fitAll (l1.take k) (l2.take k) = true) ∧ Below w.heap.size w wr) (fun i _ => n - (intOf i).toNat)
  case atStart => exact ⟨0, Nat.zero_le _, rfl, hide rfl, hb⟩
  case round =>
    obtain ⟨k, hk, rfl, hno, hbel⟩ := hrel
    by_cases hlt : k < n
    · have hkl : k < l1.length := HN.out ▸ hlt
      have hkl2 : k < l2.length := HN2.out ▸ hlt
      have ik0 : (0 : Int) ≤ (k : Int) := by omega
      have ikn : (k : Int) < (n : Int) := by omega
      obtain ⟨c1, c2, c3, c4⟩ := ((unhide HL1).stays (by omega) hbel (Nat.le_refl _)) k hkl
      obtain ⟨d1, d2, d3, d4⟩ := ((unhide HL2).stays (by omega) hbel (Nat.le_refl _)) k hkl2
      have hbb : b1 < wr.heap.size := Nat.lt_of_lt_of_le ((unhide HL1).block (by omega)) hbel.size
      have hne : b1 ≠ wr.heap.size := by omega
      have hbz : b1 < wr.heap.size + 1 := by omega
      have HC4 := hide c4
      have HD4 := hide d4
      clear c4 d4
      have HS := hide (fitAll_take hkl hkl2 hno.out)
      cases hb : M.fit1 l1[k] l2[k]
      · have HB := hide hb
        have HT : Hid (∀ w1, Calls Tryz.prog 133 #[.agg #[.int .i64 l1[k].k, .int .i64 l1[k].n, .string l1[k].s], .agg #[.int .i64 l2[k].k, .int .i64 l2[k].n, .string l2[k].s]] w1 fun e w' => e = .returned (.tuple #[.bool false, .nilIface]) ∧ Below w1.heap.size w1 w') := hide fun w1 => by have := (unhide HF) k hkl hkl2 w1 HC4.out HD4.out; rwa [hb] at this
        clear hb
        go_wp2_with fail
        go_region_held3 (fun w' => w'.cell? ⟨b1, off1 + k * 3, none⟩ = some (.int .i64 l1[k].k) ∧ w'.cell? ⟨b1, off1 + k * 3 + 1, none⟩ = some (.int .i64 l1[k].n) ∧ w'.cell? ⟨b1, off1 + k * 3 + 2, none⟩ = some (.string l1[k].s) ∧ w'.cell? ⟨wr.heap.size, 0, none⟩ = some (.int .i64 l2[k].k) ∧ w'.cell? ⟨wr.heap.size, 1, none⟩ = some (.int .i64 l2[k].n) ∧ w'.cell? ⟨wr.heap.size, 2, none⟩ = some (.string l2[k].s)) (go_keep)
          (first | (go_at_call 133; refine (unhide HT _).mono ?_; rintro e w3 ⟨rfl, hb3⟩; obtain ⟨hc, hf⟩ := bcell hb3))
        go_wp2_with fail
        go_ret2
        exact ⟨by rw [fitAll_no hkl hkl2 HB.out]; rfl, hbel.trans ((((Below.refl _ _).alloc (Nat.le_refl _) _).drew.trans (hb3.mono (by simp))).mono hbel.size)⟩
      · have HB := hide hb
        have HT : Hid (∀ w1, Calls Tryz.prog 133 #[.agg #[.int .i64 l1[k].k, .int .i64 l1[k].n, .string l1[k].s], .agg #[.int .i64 l2[k].k, .int .i64 l2[k].n, .string l2[k].s]] w1 fun e w' => e = .returned (.tuple #[.bool true, .nilIface]) ∧ Below w1.heap.size w1 w') := hide fun w1 => by have := (unhide HF) k hkl hkl2 w1 HC4.out HD4.out; rwa [hb] at this
        clear hb
        go_wp2_with fail
        go_region_held3 (fun w' => w'.cell? ⟨b1, off1 + k * 3, none⟩ = some (.int .i64 l1[k].k) ∧ w'.cell? ⟨b1, off1 + k * 3 + 1, none⟩ = some (.int .i64 l1[k].n) ∧ w'.cell? ⟨b1, off1 + k * 3 + 2, none⟩ = some (.string l1[k].s) ∧ w'.cell? ⟨wr.heap.size, 0, none⟩ = some (.int .i64 l2[k].k) ∧ w'.cell? ⟨wr.heap.size, 1, none⟩ = some (.int .i64 l2[k].n) ∧ w'.cell? ⟨wr.heap.size, 2, none⟩ = some (.string l2[k].s)) (go_keep)
          (first | (go_at_call 133; refine (unhide HT _).mono ?_; rintro e w3 ⟨rfl, hb3⟩; obtain ⟨hc, hf⟩ := bcell hb3))
        go_wp2_with fail
        go_roundw
        case rel => exact ⟨k + 1, by omega, by go_num, hide (HS.out.trans HB.out), hbel.trans ((((Below.refl _ _).alloc (Nat.le_refl _) _).drew.trans (hb3.mono (by simp))).mono hbel.size)⟩
        case measure => simp [intOf]; omega
    · have hfin : Hid (M.fitAll l1 l2 = true) := hide (by have := hno.out; rwa [List.take_of_length_le (by have := HN.out; omega), List.take_of_length_le (by have := HN2.out; omega)] at this)
      go_wp2
      go_ret2
      exact ⟨by rw [hfin.out]; rfl, hbel⟩

theorem tfits_like (v1 v2 : Value) (l1 : List M.Val) (w : World) (h1 : IsVals w v1 l1) (hf : M.likeF l1 ≠ 0) :
    Calls Tryz.prog 109 #[v1, v2] w fun e w' => e = .returned (.tuple #[.bool false, errV (M.likeF l1)]) ∧ Below w.heap.size w w' := by
  have HL : Hid (Calls Tryz.prog 48 #[v1] w fun e w' => e = .returned (.iface 66 (.int .i64 (M.likeF l1))) ∧ Below w.heap.size w w') := hide (by rw [← errV_bad hf]; exact like v1 l1 w h1)
  have HF := hide hf
  clear hf h1
  go_enter Tryz.func109, Tryz.ntmps109
  go_wp2_with fail
  refine (unhide HL).mono ?_
  rintro e w1 ⟨rfl, hb1⟩
  go_wp2_with fail
  go_ret2
  exact ⟨by rw [errV_bad HF.out]; rfl, hb1⟩

theorem tfits_check (v1 v2 : Value) (l1 l2 : List M.Val) (w : World) (h1 : IsVals w v1 l1) (h2 : IsVals w v2 l2) (hf1 : M.likeF l1 = 0) (hf : M.tupF l2 ≠ 0) :
    Calls Tryz.prog 109 #[v1, v2] w fun e w' => e = .returned (.tuple #[.bool false, errV (M.tupF l2)]) ∧ Below w.heap.size w w' := by
  have HL : Hid (Calls Tryz.prog 48 #[v1] w fun e w' => e = .returned .nilIface ∧ Below w.heap.size w w') := hide (by have := like v1 l1 w h1; rwa [hf1] at this)
  have HC : Hid (∀ w1, Below w.heap.size w w1 → Calls Tryz.prog 44 #[v2] w1 fun e w' => e = .returned (.iface 66 (.int .i64 (M.tupF l2))) ∧ Below w1.heap.size w1 w') := hide fun w1 hb => by rw [← errV_bad hf]; exact tcheck v2 l2 w1 (h2.stays hb (Nat.le_refl _))
  have HF := hide hf
  clear hf hf1 h1 h2
  go_enter Tryz.func109, Tryz.ntmps109
  go_wp2_with fail
  refine (unhide HL).mono ?_
  rintro e w1 ⟨rfl, hb1⟩
  go_wp2_with fail
  refine (unhide HC _ hb1).mono ?_
  rintro e w2 ⟨rfl, hb2⟩
  go_wp2_with fail
  go_ret2
  exact ⟨by rw [errV_bad HF.out]; rfl, hb1.trans (hb2.mono hb1.size)⟩

theorem tfits_other (a1 a2 : Addr) (l1 l2 : List M.Val) (cap1 cap2 : Nat) (w : World) (h1 : IsVals w (.slice (some a1) l1.length cap1) l1) (h2 : IsVals w (.slice (some a2) l2.length cap2) l2) (hf1 : M.likeF l1 = 0) (hf2 : M.tupF l2 = 0) (hne : l1.length ≠ l2.length) :
    Calls Tryz.prog 109 #[.slice (some a1) l1.length cap1, .slice (some a2) l2.length cap2] w fun e w' => e = .returned (.tuple #[.bool false, .nilIface]) ∧ Below w.heap.size w w' := by
  have HL : Hid (Calls Tryz.prog 48 #[.slice (some a1) l1.length cap1] w fun e w' => e = .returned .nilIface ∧ Below w.heap.size w w') := hide (by have := like _ l1 w h1; rwa [hf1] at this)
  have HC : Hid (∀ w1, Below w.heap.size w w1 → Calls Tryz.prog 44 #[.slice (some a2) l2.length cap2] w1 fun e w' => e = .returned .nilIface ∧ Below w1.heap.size w1 w') := hide fun w1 hb => by have := tcheck _ l2 w1 (h2.stays hb (Nat.le_refl _)); rwa [hf2] at this
  have hb : ((l1.length : Int) != (l2.length : Int)) = true := by simpa using (by omega : ¬ (l1.length : Int) = (l2.length : Int))
  clear hf1 hf2 h1 h2 hne
  go_enter Tryz.func109, Tryz.ntmps109
  go_wp2_with fail
  refine (unhide HL).mono ?_
  rintro e w1 ⟨rfl, hb1⟩
  go_wp2_with fail
  refine (unhide HC _ hb1).mono ?_
  rintro e w2 ⟨rfl, hb2⟩
  go_wp2_with fail
  go_ret2
  exact ⟨rfl, hb1.trans (hb2.mono hb1.size)⟩

theorem tfits (v1 v2 : Value) (l1 l2 : List M.Val) (w : World) (h1 : IsVals w v1 l1) (h2 : IsVals w v2 l2) :
    Calls Tryz.prog 109 #[v1, v2] w fun e w' => e = .returned (.tuple #[.bool (M.fitsB l1 l2), errV (M.both (M.likeF l1) (M.tupF l2))]) ∧ Below w.heap.size w w' := by
  by_cases hf1 : M.likeF l1 = 0
  · by_cases hf2 : M.tupF l2 = 0
    · have e1 : M.both (M.likeF l1) (M.tupF l2) = 0 := by rw [hf1, hf2]; rfl
      have e2 : M.fitsB l1 l2 = M.fitAll l1 l2 := by unfold M.fitsB; rw [e1]; rfl
      rw [e1, e2]
      obtain ⟨b1, off1, cap1, rfl, c1, c1', hl1⟩ := h1.some (likeF_len hf1).1
      obtain ⟨b2, off2, cap2, rfl, c2, c2', hl2⟩ := h2.some (likeF_len (tupF_ok hf2).1).1
      by_cases hlen : l1.length = l2.length
      · exact tfits_walk b1 off1 cap1 b2 off2 cap2 l1 l2 w hl1 hl2 c1 c1' c2 c2' hf1 hf2 hlen
      · rw [fitAll_len hlen]
        exact tfits_other _ _ l1 l2 cap1 cap2 w h1 h2 hf1 hf2 hlen
    · have e1 : M.both (M.likeF l1) (M.tupF l2) = M.tupF l2 := by rw [hf1]; rfl
      have e2 : M.fitsB l1 l2 = false := by unfold M.fitsB; rw [e1]; simp [hf2]
      rw [e1, e2]
      exact tfits_check v1 v2 l1 l2 w h1 h2 hf1 hf2
  · have e1 : M.both (M.likeF l1) (M.tupF l2) = M.likeF l1 := by unfold M.both; rw [if_neg hf1]
    have e2 : M.fitsB l1 l2 = false := by unfold M.fitsB; rw [e1]; simp [hf1]
    rw [e1, e2]
    exact tfits_like v1 v2 l1 w h1 hf1

end Go.Proofs.YtlefhfmckimlaajGreatDoor

namespace Go.Proofs.YtlefhfmckimlaajGreatDoor

/-- the fault of putting a tuple to a list, and the list behind it -/
def M.putF (L : List (List M.Val)) (t : List M.Val) : Int := if M.tupF t ≠ 0 then M.tupF t else if 20 ≤ L.length then 4 else 0
def M.putL (L : List (List M.Val)) (t : List M.Val) : List (List M.Val) := if M.putF L t = 0 then L ++ [t] else L
/-- where the first is that fits (as many as there are: none does) -/
def M.spot (a : List M.Val) (L : List (List M.Val)) : Nat := L.findIdx fun t => M.fitAll a t
/-- the fault of asking for one, the one, and the list without it -/
def M.getF (a : List M.Val) (L : List (List M.Val)) : Int := if M.likeF a ≠ 0 then M.likeF a else if M.spot a L < L.length then 0 else 5
def M.getV (a : List M.Val) (L : List (List M.Val)) : List M.Val := if M.getF a L = 0 then L.getD (M.spot a L) [] else []
def M.lessL (a : List M.Val) (L : List (List M.Val)) : List (List M.Val) := if M.getF a L = 0 then L.eraseIdx (M.spot a L) else L
def M.many (a : List M.Val) (L : List (List M.Val)) : Nat := L.countP fun t => M.fitAll a t
/-- all are right, and no more than may be -/
def M.Fine (L : List (List M.Val)) : Prop := (∀ t ∈ L, M.tupF t = 0) ∧ L.length ≤ 20

theorem Fine.nil : M.Fine [] := ⟨fun t h => by simp at h, by simp⟩
theorem Fine.put {L : List (List M.Val)} {t : List M.Val} (h : M.Fine L) : M.Fine (M.putL L t) := by
  unfold M.putL
  by_cases hf : M.putF L t = 0
  · rw [if_pos hf]
    unfold M.putF at hf
    by_cases h1 : M.tupF t ≠ 0
    · rw [if_pos h1] at hf; exact absurd hf h1
    · rw [if_neg h1] at hf
      by_cases h2 : 20 ≤ L.length
      · rw [if_pos h2] at hf; exact absurd hf (by decide)
      · refine ⟨fun x hx => ?_, by simp; omega⟩
        rcases List.mem_append.1 hx with hx | hx
        · exact h.1 x hx
        · simp at hx; subst hx; simpa using h1
  · rw [if_neg hf]; exact h
theorem Fine.erase {L : List (List M.Val)} {k : Nat} (h : M.Fine L) : M.Fine (L.eraseIdx k) := by
  refine ⟨fun t ht => h.1 t (List.mem_of_mem_eraseIdx ht), ?_⟩
  have := List.length_eraseIdx_le L k
  have := h.2
  omega
theorem Fine.less {L : List (List M.Val)} {a : List M.Val} (h : M.Fine L) : M.Fine (M.lessL a L) := by
  unfold M.lessL
  split
  · exact Fine.erase h
  · exact h

theorem spot_hit {a : List M.Val} {L : List (List M.Val)} {k : Nat} (hk : k < L.length) (h : ∀ j (hj : j < k), M.fitAll a (L[j]'(by omega)) = false) (h1 : M.fitAll a L[k] = true) : M.spot a L = k := by
  unfold M.spot
  rw [List.findIdx_eq hk]
  exact ⟨h1, fun j hj => by simpa using h j hj⟩
theorem spot_none {a : List M.Val} {L : List (List M.Val)} (h : ∀ j (hj : j < L.length), M.fitAll a L[j] = false) : M.spot a L = L.length := by
  unfold M.spot
  rw [List.findIdx_eq_length]
  intro x hx
  obtain ⟨i, hi, rfl⟩ := List.mem_iff_getElem.1 hx
  simpa using h i hi
theorem many_snoc {a : List M.Val} {L : List (List M.Val)} {k : Nat} (hk : k < L.length) : M.many a (L.take (k + 1)) = M.many a (L.take k) + (if M.fitAll a L[k] then 1 else 0) := by
  unfold M.many
  rw [List.take_succ_eq_append_getElem hk, List.countP_append, List.countP_singleton]
theorem many_le (a : List M.Val) (L : List (List M.Val)) : M.many a L ≤ L.length := List.countP_le_length
theorem putF_bad {L : List (List M.Val)} {t : List M.Val} (h : M.tupF t ≠ 0) : M.putF L t = M.tupF t := by unfold M.putF; rw [if_pos h]
theorem putF_full {L : List (List M.Val)} {t : List M.Val} (h : M.tupF t = 0) (hl : 20 ≤ L.length) : M.putF L t = 4 := by unfold M.putF; rw [if_neg (by simpa using h), if_pos hl]
theorem putF_ok {L : List (List M.Val)} {t : List M.Val} (h : M.tupF t = 0) (hl : L.length < 20) : M.putF L t = 0 := by unfold M.putF; rw [if_neg (by simpa using h), if_neg (by omega)]
theorem putL_no {L : List (List M.Val)} {t : List M.Val} (h : M.putF L t ≠ 0) : M.putL L t = L := by unfold M.putL; rw [if_neg h]
theorem putL_yes {L : List (List M.Val)} {t : List M.Val} (h : M.putF L t = 0) : M.putL L t = L ++ [t] := by unfold M.putL; rw [if_pos h]
theorem text_small {v : M.Val} (h : v.fault = 0) : v.s.size ≤ 12 := by
  obtain ⟨k, n, s⟩ := v
  simp only [M.Val.fault] at h ⊢
  unfold M.fault M.faultN M.faultT M.faultA at h
  repeat' split at h
  all_goals first | omega | (rename_i g; omega) | skip

theorem getF_bad {a : List M.Val} {L : List (List M.Val)} (h : M.likeF a ≠ 0) : M.getF a L = M.likeF a := by unfold M.getF; rw [if_pos h]
theorem getF_hit {a : List M.Val} {L : List (List M.Val)} (h : M.likeF a = 0) (hs : M.spot a L < L.length) : M.getF a L = 0 := by unfold M.getF; rw [if_neg (by simpa using h), if_pos hs]
theorem getF_miss {a : List M.Val} {L : List (List M.Val)} (h : M.likeF a = 0) (hs : ¬ M.spot a L < L.length) : M.getF a L = 5 := by unfold M.getF; rw [if_neg (by simpa using h), if_neg hs]
theorem getV_hit {a : List M.Val} {L : List (List M.Val)} (h : M.likeF a = 0) (hs : M.spot a L < L.length) : M.getV a L = L[M.spot a L] := by unfold M.getV; rw [if_pos (getF_hit h hs), List.getD_eq_getElem?_getD, List.getElem?_eq_getElem hs]; rfl
theorem getV_no {a : List M.Val} {L : List (List M.Val)} (h : M.getF a L ≠ 0) : M.getV a L = [] := by unfold M.getV; rw [if_neg h]
theorem lessL_no {a : List M.Val} {L : List (List M.Val)} (h : M.getF a L ≠ 0) : M.lessL a L = L := by unfold M.lessL; rw [if_neg h]
theorem lessL_hit {a : List M.Val} {L : List (List M.Val)} (h : M.likeF a = 0) (hs : M.spot a L < L.length) : M.lessL a L = L.eraseIdx (M.spot a L) := by unfold M.lessL; rw [if_pos (getF_hit h hs)]

end Go.Proofs.YtlefhfmckimlaajGreatDoor
