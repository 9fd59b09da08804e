/-
  What the document's own space does: Put, First, Count of package tupleref1, each as one law of its call.
  What the document's own space does: First and Count of package tupleref1, each as one law of its call.
  What Get of the document's own space does, as one law of its call.
-/
import Derived.Test.YtlefhfmckimlaakGreatDoorJSpace
import Derived.Test.YtlefhfmckimlaakGreatDoorJRef
namespace Go.Proofs.YtlefhfmckimlaakGreatDoor
open Go.RowKit

/-- the document's space of a law that came in with w0: its tuples came in -/
abbrev Ref (w0 w : World) (R : Nat) (u : Value) (L : List (List M.Val)) : Prop := Sp 78 (IsVals w0) w0.heap.size w R u L

theorem rput_bad (R : Nat) (t : Value) (l : List M.Val) (w : World) (ht : IsVals w t l) (hf : M.tupF l ≠ 0) :
    Calls Tryz.prog 48 #[.pointer (some ⟨R, 0, none⟩), t] w fun e w' => e = .returned (.int .i64 (M.tupF l)) ∧ Below w.heap.size w w' := by
  have HC := hide (rtuple t l w ht)
  generalize M.tupF l = c at *
  have hb : (c == 0) = false := by simpa using hf
  clear ht
  go_enter Tryz.func48, Tryz.ntmps48
  go_wp2_with fail
  refine (unhide HC).mono ?_
  rintro e w1 ⟨rfl, hb1⟩
  go_wp2_with fail
  go_ret
  exact ⟨rfl, hb1⟩

theorem rput_full (R n cap : Nat) (ao : Option Addr) (t : Value) (l : List M.Val) (w : World) (ht : IsVals w t l) (hf : M.tupF l = 0) (hS : R < w.heap.size) (hc : w.cell? ⟨R, 0, none⟩ = some (.slice ao n cap)) (hn : 20 ≤ n) (hm : n ≤ maxLen) :
    Calls Tryz.prog 48 #[.pointer (some ⟨R, 0, none⟩), t] w fun e w' => e = .returned (.int .i64 4) ∧ Below w.heap.size w w' := by
  unfold maxLen at hm
  have HC : Hid (Calls Tryz.prog 77 #[t] w fun e w' => e = .returned (.int .i64 0) ∧ Below w.heap.size w w') := hide (by have := rtuple t l w ht; rwa [hf] at this)
  have h20 : (20 : Int) ≤ (n : Int) := by omega
  have HS := hide hS
  have HCe := hide hc
  clear hf ht hc
  go_enter Tryz.func48, Tryz.ntmps48
  go_wp2_with fail
  refine (unhide HC).mono ?_
  rintro e w1 ⟨rfl, hb1⟩
  have c1 : w1.cell? ⟨R, 0, none⟩ = some (.slice ao n cap) := (hb1.cell (p := ⟨R, 0, none⟩) HS.out).trans HCe.out
  go_wp2_with fail
  go_ret
  exact ⟨rfl, hb1⟩

set_option maxRecDepth 100000 in
theorem rput_ok (w0 : World) (R n cap m k : Nat) (ao a2 : Option Addr) (l : List M.Val) (L : List (List M.Val)) (w : World) (hs : Ref w0 w R (.slice ao n cap) L) (ht : IsVals w0 (.slice a2 m k) l) (hbw : Below w0.heap.size w0 w) (hf : M.tupF l = 0) (hL : n = L.length) (hn : n < 20) :
    Calls Tryz.prog 48 #[.pointer (some ⟨R, 0, none⟩), .slice a2 m k] w fun e w' => e = .returned (.int .i64 0) ∧ ∃ u', Ref w0 w' R u' (L ++ [l]) ∧ Touch R (.slice ao n cap) w w' ∧ Near w (.slice ao n cap) u' := by
  obtain ⟨i0, hi, hz0, hz1, hz2⟩ := info_parts infoT
  have HI := hide (And.intro hi (And.intro hz0 (And.intro hz1 hz2)))
  have HC : Hid (Calls Tryz.prog 77 #[.slice a2 m k] w fun e w' => e = .returned (.int .i64 0) ∧ Below w.heap.size w w') := hide (by have := rtuple _ l w (ht.stays hbw (Nat.le_refl _)); rwa [hf] at this)
  have h20 : ¬ (20 : Int) ≤ (n : Int) := by omega
  have HP := hide hs
  have HT := hide ht
  have HL := hide hL
  clear hf ht hs hL hi hz0 hz1 hz2 hbw
  go_enter Tryz.func48, Tryz.ntmps48
  go_wp2_with fail
  refine (unhide HC).mono ?_
  rintro e w1 ⟨rfl, hb1⟩
  have HP1 : Hid (Ref w0 w1 R (.slice ao n cap) L) := hide (Sp.quiet HP.out hb1)
  have HA : Hid (Ref w0 (w1.alloc (.cells #[.slice a2 m k] 32)) R (.slice ao n cap) L) := hide (Sp.quiet HP1.out ((Below.refl _ _).alloc (Nat.le_refl _) _))
  obtain ⟨c1, f1, s1⟩ := HP1.out.cell
  have hne := hide (HP1.out.row_ne (by decide))
  obtain ⟨xs, hx1, hx2⟩ := HA.out.row
  rw [← HL.out] at hx1
  have HX := hide hx1
  have HX2 := hide hx2
  have HB1 := hide hb1
  have HWS := hide (Nat.le_trans HA.out.lo (Nat.le_of_lt HA.out.cell.2.2))
  have HNW : Hid (∀ j u, [Value.slice a2 m k][j]? = some u → (w1.alloc (.cells #[.slice a2 m k] 32)).cell? ((⟨w1.heap.size, 0, none⟩ : Addr).add j) = some u) := hide (World.news_of_block (heap_alloc_new w1 _))
  clear hb1 hx1 hx2
  go_wp2_with (at_builtin; refine wpList_append_lies _ rfl (.tmp 24) (.tmp 26) 76 rfl w0.heap.size 32 i0 (.slice none 0 0) 1 24 Tryz.underlying76 HI.out.1 HI.out.2.1 HI.out.2.2.1 HI.out.2.2.2 rfl (by decide) (.slice ao n cap) n xs rfl HX.out ⟨w1.heap.size, 0, none⟩ 1 1 [.slice a2 m k] rfl rfl HNW.out (by intro u hu; simp at hu; subst hu; rfl) (by decide) (by unfold maxLen; omega) (by omega) HWS.out (w1.heap.size + 1) (by simp) ?_)
  intro g3 k3 w3 hown3 hgrow3 hat3 hlt3
  have c4 : w3.cell? ⟨R, 0, none⟩ = some (.slice ao n cap) := hgrow3.cell HA.out.cell.1 (fun e => hne.out e.symm)
  have f4 : w3.frozen? ⟨R, 0, none⟩ = false := (World.frozen?_of_block (hgrow3.block R HA.out.cell.2.2 (fun e => hne.out e.symm))).trans HA.out.cell.2.1
  have HO3 := hide hown3
  have HG3 := hide hgrow3
  have HAT := hide hat3
  clear hown3 hgrow3 hat3
  go_wp2
  go_ret
  have hn3 := near_lies (w := w1.alloc (.cells #[.slice a2 m k] 32)) (n := n + 1) (c := k3) HAT.out (by simp)
  obtain ⟨h1, h2⟩ := Sp.stored (by decide) HA.out HG3.out (RowOf.more (HL.out ▸ HX.out) HX2.out (HL.out ▸ HO3.out) HT.out) hn3
  exact ⟨rfl, _, h1, (h2.after ((Below.refl _ _).alloc (Nat.le_refl _) _)).after HB1.out, hn3.mono (Nat.le_trans HB1.out.size (by simp))⟩

theorem rput (w0 : World) (R : Nat) (u t : Value) (l : List M.Val) (L : List (List M.Val)) (w : World) (hs : Ref w0 w R u L) (hL : M.Fine L) (ht : IsVals w0 t l) (hbw : Below w0.heap.size w0 w) :
    Calls Tryz.prog 48 #[.pointer (some ⟨R, 0, none⟩), t] w fun e w' => e = .returned (.int .i64 (M.putF L l)) ∧ ∃ u', Ref w0 w' R u' (M.putL L l) ∧ Touch R u w w' ∧ Near w u u' := by
  have htw := ht.stays hbw (Nat.le_refl _)
  by_cases hf : M.tupF l = 0
  · obtain ⟨ao, cap, rfl⟩ := hs.row.shape
    obtain ⟨hc, _, hS⟩ := hs.cell
    by_cases hn : L.length < 20
    · rw [putF_ok hf hn, putL_yes (putF_ok hf hn)]
      obtain ⟨a2, c2, rfl, _⟩ := ht.shape
      exact rput_ok w0 R L.length cap _ c2 ao a2 l L w hs ht hbw hf rfl hn
    · have e4 := putF_full (L := L) hf (by omega)
      rw [e4, putL_no (by rw [e4]; decide)]
      refine (rput_full R L.length cap ao t l w htw hf hS hc (by omega) (by have := hL.2; unfold maxLen; omega)).mono ?_
      rintro e w' ⟨rfl, hb⟩
      exact ⟨rfl, _, Sp.quiet hs hb, Touch.of_below hb, Near.refl _ _⟩
  · rw [putF_bad hf, putL_no (by rw [putF_bad hf]; exact hf)]
    refine (rput_bad R t l w htw hf).mono ?_
    rintro e w' ⟨rfl, hb⟩
    exact ⟨rfl, _, Sp.quiet hs hb, Touch.of_below hb, Near.refl _ _⟩

end Go.Proofs.YtlefhfmckimlaakGreatDoor

namespace Go.Proofs.YtlefhfmckimlaakGreatDoor
open Go.RowKit

theorem rfirst_none (R cap : Nat) (ao : Option Addr) (v : Value) (w : World) (hc : w.cell? ⟨R, 0, none⟩ = some (.slice ao 0 cap)) :
    Calls Tryz.prog 90 #[.pointer (some ⟨R, 0, none⟩), v] w fun e w' => e = .returned (.int .i64 (-1)) ∧ Below w.heap.size w w' := by
  go_enter Tryz.func90, Tryz.ntmps90
  go_wp2
  go_loopw [5] (fun i wr => i = .int .i64 0 ∧ wr = w) (fun _ _ => 0)
  case atStart => exact ⟨rfl, rfl⟩
  case round =>
    obtain ⟨rfl, rfl⟩ := hrel
    go_wp2
    go_ret
    exact ⟨rfl, Below.refl _ _⟩

/-- what a loop over the list reads, whatever has been laid since -/
def Reads (R g n cap : Nat) (v : Value) (a : List M.Val) (L : List (List M.Val)) (w : World) : Prop :=
  ∀ wr, Below w.heap.size w wr → wr.cell? ⟨R, 0, none⟩ = some (.slice (some ⟨g, 0, none⟩) n cap) ∧ ∀ j (hj : j < L.length), ∃ x, wr.cell? ⟨g, j, none⟩ = some x ∧ Calls Tryz.prog 120 #[v, x] wr fun e w' => e = .returned (.bool (M.fitAll a L[j])) ∧ Below wr.heap.size wr w'

theorem rfirst_many (R g n cap : Nat) (v : Value) (a : List M.Val) (L : List (List M.Val)) (w : World) (hn : n = L.length) (h0 : 0 < n) (h20 : n ≤ 20) (hR : Reads R g n cap v a L w) :
    Calls Tryz.prog 90 #[.pointer (some ⟨R, 0, none⟩), v] w fun e w' => e = .returned (.int .i64 (M.place a L)) ∧ Below w.heap.size w w' := by
  have HR := hide hR
  have HN := hide hn
  clear hR hn
  go_enter Tryz.func90, Tryz.ntmps90
  go_wp2
  go_loopw [5] (fun i wr => ∃ k : Nat, k ≤ n ∧ i = .int .i64 k ∧ Hid (∀ j (hj : j < k) (hjl : j < L.length), M.fitAll a L[j] = false) ∧ Hid (Below w.heap.size w wr)) (fun i _ => n - (intOf i).toNat)
  case atStart => exact ⟨0, Nat.zero_le _, rfl, hide (fun j hj => by omega), hide (Below.refl _ _)⟩
  case round =>
    obtain ⟨k, hk, rfl, hno, hbel⟩ := hrel
    obtain ⟨c1, hat⟩ := (unhide HR) wr hbel.out
    by_cases hlt : k < n
    · have hkl : k < L.length := HN.out ▸ hlt
      have ik : (k : Int) < (n : Int) := by omega
      obtain ⟨x, hx, hC⟩ := hat k hkl
      clear hat
      cases hb : M.fitAll a L[k]
      · rw [hb] at hC
        have HB := hide hb
        have HC := hide hC
        clear hb hC
        go_wp2_with fail
        refine (unhide HC).mono ?_
        rintro e w1 ⟨rfl, hb1⟩
        go_wp2_with fail
        go_roundw
        case rel =>
          refine ⟨k + 1, by omega, by go_num, hide (fun j hj hjl => ?_), hide (hbel.out.trans (hb1.mono hbel.out.size))⟩
          rcases Nat.lt_succ_iff_lt_or_eq.1 hj with h | h
          · exact hno.out j h hjl
          · subst h; exact HB.out
        case measure => simp [intOf]; omega
      · rw [hb] at hC
        have HC := hide hC
        have hsp : M.spot a L = k := spot_hit hkl (fun j hj => hno.out j hj (by omega)) hb
        have hfin : Hid (M.place a L = (k : Int)) := hide (by unfold M.place; rw [hsp, if_pos hkl])
        clear hb hC hsp
        go_wp2_with fail
        refine (unhide HC).mono ?_
        rintro e w1 ⟨rfl, hb1⟩
        go_wp2_with fail
        go_ret
        exact ⟨by rw [hfin.out]; rfl, hbel.out.trans (hb1.mono hbel.out.size)⟩
    · have hsp : M.spot a L = L.length := spot_none (fun j hj => hno.out j (by have := HN.out; omega) hj)
      have hfin : Hid (M.place a L = -1) := hide (by unfold M.place; rw [hsp, if_neg (Nat.lt_irrefl _)])
      have ik : ¬ (k : Int) < (n : Int) := by omega
      clear hsp hat
      go_wp2
      go_ret
      exact ⟨by rw [hfin.out]; rfl, hbel.out⟩

theorem rcount_none (R cap : Nat) (ao : Option Addr) (v : Value) (w : World) (hc : w.cell? ⟨R, 0, none⟩ = some (.slice ao 0 cap)) :
    Calls Tryz.prog 76 #[.pointer (some ⟨R, 0, none⟩), v] w fun e w' => e = .returned (.int .i64 0) ∧ Below w.heap.size w w' := by
  go_enter Tryz.func76, Tryz.ntmps76
  go_wp2
  go_loopw [6, 5] (fun i c wr => i = .int .i64 0 ∧ c = .int .i64 0 ∧ wr = w) (fun _ _ _ => 0)
  case atStart => exact ⟨rfl, rfl, rfl⟩
  case round =>
    obtain ⟨rfl, rfl, rfl⟩ := hrel
    go_wp2
    go_ret
    exact ⟨rfl, Below.refl _ _⟩

theorem rcount_many (R g n cap : Nat) (v : Value) (a : List M.Val) (L : List (List M.Val)) (w : World) (hn : n = L.length) (h0 : 0 < n) (h20 : n ≤ 20) (hR : Reads R g n cap v a L w) :
    Calls Tryz.prog 76 #[.pointer (some ⟨R, 0, none⟩), v] w fun e w' => e = .returned (.int .i64 (M.many a L)) ∧ Below w.heap.size w w' := by
  have HR := hide hR
  have HN := hide hn
  clear hR hn
  go_enter Tryz.func76, Tryz.ntmps76
  go_wp2
  go_loopw [6, 5] (fun i c wr => ∃ k q : Nat, k ≤ n ∧ q ≤ k ∧ i = .int .i64 k ∧ c = .int .i64 q ∧ Hid (q = M.many a (L.take k)) ∧ Hid (Below w.heap.size w wr)) (fun i _ _ => n - (intOf i).toNat)
  case atStart => exact ⟨0, 0, Nat.zero_le _, Nat.le_refl _, rfl, rfl, hide rfl, hide (Below.refl _ _)⟩
  case round =>
    obtain ⟨k, q, hk, hqk, rfl, rfl, hq, hbel⟩ := hrel
    obtain ⟨c1, hat⟩ := (unhide HR) wr hbel.out
    by_cases hlt : k < n
    · have hkl : k < L.length := HN.out ▸ hlt
      have ik : (k : Int) < (n : Int) := by omega
      obtain ⟨x, hx, hC⟩ := hat k hkl
      have hms := hide (many_snoc (a := a) hkl)
      clear hat
      cases hb : M.fitAll a L[k]
      · rw [hb] at hC hms
        have HC := hide hC
        clear hb hC
        go_wp2_with fail
        refine (unhide HC).mono ?_
        rintro e w1 ⟨rfl, hb1⟩
        go_wp2_with fail
        go_roundw
        case rel => exact ⟨k + 1, q, by omega, by omega, by go_num, rfl, hide (by rw [hms.out]; exact hq.out), hide (hbel.out.trans (hb1.mono hbel.out.size))⟩
        case measure => simp [intOf]; omega
      · rw [hb] at hC hms
        have HC := hide hC
        clear hb hC
        go_wp2_with fail
        refine (unhide HC).mono ?_
        rintro e w1 ⟨rfl, hb1⟩
        go_wp2_with fail
        go_roundw
        case rel => exact ⟨k + 1, q + 1, by omega, by omega, by go_num, by go_num, hide (by rw [hms.out]; have := hq.out; simp; omega), hide (hbel.out.trans (hb1.mono hbel.out.size))⟩
        case measure => simp [intOf]; omega
    · have hfin : Hid (q = M.many a L) := hide (by have := hq.out; rwa [List.take_of_length_le (by have := HN.out; omega)] at this)
      have ik : ¬ (k : Int) < (n : Int) := by omega
      clear hat
      go_wp2
      go_ret
      exact ⟨by rw [← hfin.out]; rfl, hbel.out⟩

theorem Ref.reads {w0 w : World} {R : Nat} {u v : Value} {a : List M.Val} {L : List (List M.Val)} (h : Ref w0 w R u L) (h0 : 0 < L.length) (hbw : Below w0.heap.size w0 w) (hv : IsVals w0 v a) (ha : M.likeF a = 0) : ∃ g cap, u = .slice (some ⟨g, 0, Option.none⟩) L.length cap ∧ Reads R g L.length cap v a L w := by
  obtain ⟨g, cap, rfl, _⟩ := h.row.at h0
  refine ⟨g, cap, rfl, fun wr hb => ?_⟩
  have h' : Ref w0 wr R (.slice (some ⟨g, 0, Option.none⟩) L.length cap) L := Sp.quiet h hb
  have hbr := hbw.trans (hb.mono hbw.size)
  refine ⟨h'.cell.1, fun j hj => ?_⟩
  obtain ⟨g2, cap2, e, hat⟩ := h'.row.at h0
  simp only [Value.slice.injEq, Option.some.injEq, Addr.mk.injEq, and_true, true_and] at e
  obtain ⟨rfl, rfl⟩ := e
  obtain ⟨x, hx, hxv⟩ := hat j hj
  exact ⟨x, hx, rfits v x a L[j] wr (hv.stays hbr (Nat.le_refl _)) (hxv.stays hbr (Nat.le_refl _)) ha⟩

theorem rfirst (w0 : World) (R : Nat) (u v : Value) (a : List M.Val) (L : List (List M.Val)) (w : World) (h : Ref w0 w R u L) (hL : M.Fine L) (hbw : Below w0.heap.size w0 w) (hv : IsVals w0 v a) (ha : M.likeF a = 0) :
    Calls Tryz.prog 90 #[.pointer (some ⟨R, 0, none⟩), v] w fun e w' => e = .returned (.int .i64 (M.place a L)) ∧ Below w.heap.size w w' := by
  rcases Nat.eq_zero_or_pos L.length with h0 | h0
  · obtain ⟨ao, cap, rfl⟩ := h.row.shape
    have hl := List.length_eq_zero_iff.1 h0
    subst hl
    exact rfirst_none R cap ao v w h.cell.1
  · obtain ⟨g, cap, rfl, hr⟩ := Ref.reads h h0 hbw hv ha
    exact rfirst_many R g L.length cap v a L w rfl h0 hL.2 hr
theorem rcount (w0 : World) (R : Nat) (u v : Value) (a : List M.Val) (L : List (List M.Val)) (w : World) (h : Ref w0 w R u L) (hL : M.Fine L) (hbw : Below w0.heap.size w0 w) (hv : IsVals w0 v a) (ha : M.likeF a = 0) :
    Calls Tryz.prog 76 #[.pointer (some ⟨R, 0, none⟩), v] w fun e w' => e = .returned (.int .i64 (M.many a L)) ∧ Below w.heap.size w w' := by
  rcases Nat.eq_zero_or_pos L.length with h0 | h0
  · obtain ⟨ao, cap, rfl⟩ := h.row.shape
    have hl := List.length_eq_zero_iff.1 h0
    subst hl
    exact rcount_none R cap ao v w h.cell.1
  · obtain ⟨g, cap, rfl, hr⟩ := Ref.reads h h0 hbw hv ha
    exact rcount_many R g L.length cap v a L w rfl h0 hL.2 hr

end Go.Proofs.YtlefhfmckimlaakGreatDoor

namespace Go.Proofs.YtlefhfmckimlaakGreatDoor
open Go.RowKit

theorem rget_bad (R : Nat) (v : Value) (b : Bool) (c : Int) (w : World) (hc : c ≠ 0) (hC : Calls Tryz.prog 43 #[v] w fun e w' => e = .returned (.int .i64 c) ∧ Below w.heap.size w w') :
    Calls Tryz.prog 49 #[.pointer (some ⟨R, 0, none⟩), v, .bool b] w fun e w' => e = .returned (.tuple #[.slice none 0 0, .int .i64 c]) ∧ Below w.heap.size w w' := by
  have HC := hide hC
  have hb : (c != 0) = true := by simpa using hc
  clear hC
  go_enter Tryz.func49, Tryz.ntmps49
  go_wp2_with fail
  refine (unhide HC).mono ?_
  rintro e w1 ⟨rfl, hb1⟩
  go_wp2_with fail
  go_ret2
  exact ⟨rfl, hb1⟩

theorem rget_miss (R : Nat) (v : Value) (b : Bool) (w : World) (hC : Calls Tryz.prog 43 #[v] w fun e w' => e = .returned (.int .i64 0) ∧ Below w.heap.size w w') (hF : ∀ w1, Below w.heap.size w w1 → Calls Tryz.prog 90 #[.pointer (some ⟨R, 0, none⟩), v] w1 fun e w' => e = .returned (.int .i64 (-1)) ∧ Below w1.heap.size w1 w') :
    Calls Tryz.prog 49 #[.pointer (some ⟨R, 0, none⟩), v, .bool b] w fun e w' => e = .returned (.tuple #[.slice none 0 0, .int .i64 5]) ∧ Below w.heap.size w w' := by
  have HC := hide hC
  have HF := hide hF
  clear hC hF
  go_enter Tryz.func49, Tryz.ntmps49
  go_wp2_with fail
  refine (unhide HC).mono ?_
  rintro e w1 ⟨rfl, hb1⟩
  go_wp2_with fail
  refine (unhide HF _ hb1).mono ?_
  rintro e w2 ⟨rfl, hb2⟩
  go_wp2_with fail
  go_ret2
  exact ⟨rfl, hb1.trans (hb2.mono hb1.size)⟩

theorem rget_stay (w0 : World) (R p n g cap : Nat) (v : Value) (L : List (List M.Val)) (w : World) (hpl : p < L.length) (hn : n = L.length) (h : Ref w0 w R (.slice (some ⟨g, 0, none⟩) n cap) L) (hC : Calls Tryz.prog 43 #[v] w fun e w' => e = .returned (.int .i64 0) ∧ Below w.heap.size w w') (hF : ∀ w1, Below w.heap.size w w1 → Calls Tryz.prog 90 #[.pointer (some ⟨R, 0, none⟩), v] w1 fun e w' => e = .returned (.int .i64 p) ∧ Below w1.heap.size w1 w') :
    Calls Tryz.prog 49 #[.pointer (some ⟨R, 0, none⟩), v, .bool false] w fun e w' => ∃ r, e = .returned (.tuple #[r, .int .i64 0]) ∧ IsVals w0 r L[p] ∧ Below w.heap.size w w' := by
  have HC := hide hC
  have HF := hide hF
  have HR := hide h
  have HN := hide hn
  have hp1 : (p : Int) < (n : Int) := by omega
  have hp : p < n := by omega
  have hp0 : ¬ (p : Int) < 0 := by omega
  clear hC hF h hn
  go_enter Tryz.func49, Tryz.ntmps49
  go_wp2_with fail
  refine (unhide HC).mono ?_
  rintro e w1 ⟨rfl, hb1⟩
  have HB1 := hide hb1
  clear hb1
  go_wp2_with fail
  refine (unhide HF _ HB1.out).mono ?_
  rintro e w2 ⟨rfl, hb2⟩
  have HB2 := hide (HB1.out.trans (hb2.mono HB1.out.size))
  have HR2 : Hid (Ref w0 w2 R (.slice (some ⟨g, 0, none⟩) n cap) L) := hide (Sp.quiet HR.out HB2.out)
  have c1 := HR2.out.cell.1
  obtain ⟨g2, cap2, e, hat⟩ := HR2.out.row.at (by omega)
  simp only [Value.slice.injEq, Option.some.injEq, Addr.mk.injEq, and_true] at e
  obtain ⟨rfl, _, _⟩ := e
  obtain ⟨x, hx, hxv⟩ := hat p hpl
  have HXV := hide hxv
  clear hb2 hat hxv
  go_wp2_with fail
  go_ret2
  exact ⟨x, rfl, HXV.out, HB2.out⟩

theorem Ref.less {w0 w w2 w3 w4 : World} {R n p : Nat} {u v1 v2 : Value} {L : List (List M.Val)} {xs : List Value} (hb : Below w.heap.size w w2) (h : Ref w0 w2 R u L) (hlen : xs.length = n) (hx2 : ∀ i (h1 : i < xs.length) (h2 : i < L.length), IsVals w0 xs[i] L[i]) (hn : n = L.length) (hp : p < n) (hg1 : Below w2.heap.size w2 w3)
    (ho1 : w3.ownsRow w2.heap.size 32 1 v1 p (xs.take p)) (hg2 : w3.grownBy w4 v1.ownBlock) (ho2 : w4.ownsRow w2.heap.size 32 1 v2 (p + (n - (p + 1))) (xs.take p ++ xs.drop (p + 1))) :
    Ref w0 (w4.setCell ⟨R, 0, none⟩ v2) R v2 (L.eraseIdx p) ∧ Touch R u w (w4.setCell ⟨R, 0, none⟩ v2) ∧ Near w u v2 := by
  have hlo : w0.heap.size ≤ w2.heap.size := Nat.le_trans h.lo (Nat.le_of_lt h.cell.2.2)
  have hg : w2.grownBy w4 u.ownBlock := ⟨hg2.os.trans hg1.os, hg2.tape.trans hg1.tape, hg2.output.trans hg1.output, Nat.le_trans hg1.size hg2.size, fun k hk _ => (hg2.block k (Nat.lt_of_lt_of_le hk hg1.size) (fun e => by have := (ho1.lt k e.symm).1; omega)).trans (hg1.block k hk)⟩
  have e1 : p + (n - (p + 1)) = n - 1 := by omega
  rw [e1, ← List.eraseIdx_eq_take_drop_succ] at ho2
  have ho3 : w4.ownsRow w0.heap.size 32 1 v2 (n - 1) (xs.eraseIdx p) := by
    refine ⟨ho2.1, ?_⟩
    rcases ho2.2 with h2 | ⟨g, cap, cur, hv, hg, hh, r⟩
    · exact Or.inl h2
    · exact Or.inr ⟨g, cap, cur, hv, Nat.le_trans hlo hg, hh, r⟩
  have hne : Near w2 u v2 := Or.inr fun k hk => (ho2.lt k hk).1
  obtain ⟨h1, h2⟩ := Sp.stored (by decide) h hg (RowOf.erase hx2 hn.symm hp ho3) hne
  exact ⟨h1, h2.after hb, hne.mono hb.size⟩

set_option maxRecDepth 100000 in
theorem rget_away (w0 : World) (R p n g cap : Nat) (v : Value) (L : List (List M.Val)) (w : World) (hpl : p < L.length) (hn : n = L.length) (h20 : n ≤ 20) (hcap : n ≤ cap) (hcm : cap ≤ maxLen) (h : Ref w0 w R (.slice (some ⟨g, 0, none⟩) n cap) L) (hC : Calls Tryz.prog 43 #[v] w fun e w' => e = .returned (.int .i64 0) ∧ Below w.heap.size w w') (hF : ∀ w1, Below w.heap.size w w1 → Calls Tryz.prog 90 #[.pointer (some ⟨R, 0, none⟩), v] w1 fun e w' => e = .returned (.int .i64 p) ∧ Below w1.heap.size w1 w') :
    Calls Tryz.prog 49 #[.pointer (some ⟨R, 0, none⟩), v, .bool true] w fun e w' => ∃ r u', e = .returned (.tuple #[r, .int .i64 0]) ∧ IsVals w0 r L[p] ∧ Ref w0 w' R u' (L.eraseIdx p) ∧ Touch R (.slice (some ⟨g, 0, none⟩) n cap) w w' ∧ Near w (.slice (some ⟨g, 0, none⟩) n cap) u' := by
  unfold maxLen at hcm
  obtain ⟨i0, hi, hz0, hz1, hz2⟩ := info_parts infoT
  have HI := hide (And.intro hi (And.intro hz0 (And.intro hz1 hz2)))
  have HC := hide hC
  have HF := hide hF
  have HR := hide h
  have HN := hide hn
  have hp1 : (p : Int) < (n : Int) := by omega
  have hp : p < n := by omega
  have hp0 : ¬ (p : Int) < 0 := by omega
  clear hC hF h hn hi hz0 hz1 hz2
  go_enter Tryz.func49, Tryz.ntmps49
  go_wp2_with fail
  refine (unhide HC).mono ?_
  rintro e w1 ⟨rfl, hb1⟩
  have HB1 := hide hb1
  clear hb1
  go_wp2_with fail
  refine (unhide HF _ HB1.out).mono ?_
  rintro e w2 ⟨rfl, hb2⟩
  have HB2 := hide (HB1.out.trans (hb2.mono HB1.out.size))
  have HR2 : Hid (Ref w0 w2 R (.slice (some ⟨g, 0, none⟩) n cap) L) := hide (Sp.quiet HR.out HB2.out)
  obtain ⟨c1, f1, s1⟩ := HR2.out.cell
  obtain ⟨xs, hx1, hx2⟩ := HR2.out.row
  have hlen : xs.length = n := by have := hx1.1; have := HN.out; omega
  rw [← HN.out] at hx1
  have hx : w2.cell? ⟨g, p, none⟩ = some (xs[p]'(by omega)) := by rw [hx1.cellAt p (by omega), List.getElem?_eq_getElem (by omega)]
  have HXV := hide (hx2 p (by omega) hpl)
  obtain ⟨x, hxe⟩ : ∃ x, x = xs[p]'(by omega) := ⟨_, rfl⟩
  rw [← hxe] at hx HXV
  have HX1 := hide hx1
  have HX2 := hide hx2
  have HLN := hide hlen
  have s11 : Hid ((xs.take p).length = p * 1) := hide (by rw [List.length_take]; omega)
  have s12 : Hid (∀ j u, (xs.take p)[j]? = some u → w2.cell? ((⟨g, 0, none⟩ : Addr).add j) = some u) := hide fun j u hu => hx1.cells rfl j u (by rw [List.getElem?_take] at hu; split at hu; exact hu; cases hu)
  have one : ∀ u ∈ xs, u.oneCell' = true := fun u hu => by
    obtain ⟨i, hi, rfl⟩ := List.mem_iff_getElem.1 hu
    obtain ⟨a1, c1, e1, _⟩ := (hx2 i hi (by have := HN.out; omega)).shape
    rw [e1]; rfl
  have HON := hide one
  have hpc : (p : Int) ≤ (cap : Int) := by omega
  have hpc1 : (p : Int) + 1 ≤ (cap : Int) := by omega
  have hpn1 : (p : Int) + 1 ≤ (n : Int) := by omega
  clear hb2 hx1 hx2 hlen hxe one
  have one1 : Hid (∀ u ∈ xs.take p, u.oneCell' = true) := hide fun u hu => HON.out u (List.mem_of_mem_take hu)
  go_wp2_with (at_builtin; refine wpList_append_own _ rfl (.tmp 30) (.tmp 36) 76 rfl w2.heap.size 32 i0 (.slice none 0 0) 1 24 Tryz.underlying76 HI.out.1 HI.out.2.1 HI.out.2.2.1 HI.out.2.2.2 rfl (by decide) (.slice none 0 0) 0 [] rfl (World.ownsRow_nil _ _ _ _) ⟨g, 0, none⟩ p cap (xs.take p) rfl s11.out s12.out one1.out (by unfold maxLen; omega) (by omega) (Nat.le_refl _) ?_)
  intro v1 w3 hown1 hgrow1 _
  try simp only [Nat.zero_add, List.nil_append] at hown1
  have HO1 := hide hown1
  have HG1 := hide hgrow1
  have HB3 : Hid (Below w2.heap.size w2 w3) := hide ((Below.refl _ _).grown hgrow1 (Nat.le_refl _) (fun k hk => by cases hk))
  have HR3 : Hid (Ref w0 w3 R (.slice (some ⟨g, 0, none⟩) n cap) L) := hide (Sp.quiet HR2.out HB3.out)
  have c3 := HR3.out.cell.1
  clear hown1 hgrow1
  have hRl := HR3.out.cell.2.2
  have s21 : Hid ((xs.drop (p + 1)).length = (n - (p + 1)) * 1) := hide (by rw [List.length_drop, HLN.out]; omega)
  have one2 : Hid (∀ u ∈ xs.drop (p + 1), u.oneCell' = true) := hide fun u hu => HON.out u (List.mem_of_mem_drop hu)
  have HRW : Hid (∀ w4 : World, w3.grownBy w4 v1.ownBlock → w4.cell? ⟨R, 0, none⟩ = some (.slice (some ⟨g, 0, none⟩) n cap) ∧ w4.frozen? ⟨R, 0, none⟩ = false) := hide fun w4 hg => by
    have hne : some R ≠ v1.ownBlock := fun e => by have := (HO1.out.lt R e.symm).1; omega
    exact ⟨hg.cell HR3.out.cell.1 hne, (World.frozen?_of_block (hg.block R HR3.out.cell.2.2 hne)).trans HR3.out.cell.2.1⟩
  have HWS := hide HB3.out.size
  by_cases hcp : cap = p + 1
  · have h0 : Hid (xs.drop (p + 1) = [] ∧ n - (p + 1) = 0) := hide ⟨by rw [List.drop_eq_nil_iff]; have := HLN.out; omega, by omega⟩
    subst hcp
    go_wp2_with (at_builtin; refine wpList_append_own _ rfl (.tmp 39) (.tmp 46) 76 rfl w2.heap.size 32 i0 (.slice none 0 0) 1 24 Tryz.underlying76 HI.out.1 HI.out.2.1 HI.out.2.2.1 HI.out.2.2.2 rfl (by decide) v1 p (xs.take p) rfl HO1.out ⟨g, 0, none⟩ 0 0 [] rfl rfl (fun j u hu => by simp at hu) (fun u hu => by simp at hu) (by unfold maxLen; omega) (by omega) HWS.out ?_)
    intro v2 w4 hown2 hgrow2 _
    obtain ⟨c4, f4⟩ := HRW.out w4 hgrow2
    obtain ⟨a2, n2, k2, rfl⟩ := ownsRow_slice hown2
    have HO2 := hide hown2
    have HG2 := hide hgrow2
    clear hown2 hgrow2
    go_wp2
    go_ret2
    exact ⟨x, .slice a2 n2 k2, rfl, HXV.out, Ref.less HB2.out HR2.out HLN.out HX2.out HN.out hp HB3.out HO1.out HG2.out (by rw [h0.out.1, h0.out.2, Nat.add_zero, List.append_nil]; exact HO2.out)⟩
  · have s22 : Hid (∀ j u, (xs.drop (p + 1))[j]? = some u → w3.cell? ((⟨g, p + 1, none⟩ : Addr).add j) = some u) := hide fun j u hu => by
      rw [WideShapes.add_plain, HB3.out.cell (p := ⟨g, p + 1 + j, none⟩) (HX1.out.lt g rfl).2]
      rw [List.getElem?_drop] at hu
      have := HX1.out.cells rfl _ _ hu
      rwa [WideShapes.add_plain, Nat.zero_add] at this
    go_wp2_with (at_builtin; refine wpList_append_own _ rfl (.tmp 39) (.tmp 46) 76 rfl w2.heap.size 32 i0 (.slice none 0 0) 1 24 Tryz.underlying76 HI.out.1 HI.out.2.1 HI.out.2.2.1 HI.out.2.2.2 rfl (by decide) v1 p (xs.take p) rfl HO1.out ⟨g, p + 1, none⟩ (n - (p + 1)) (cap - (p + 1)) (xs.drop (p + 1)) rfl s21.out s22.out one2.out (by unfold maxLen; omega) (by omega) HWS.out ?_)
    intro v2 w4 hown2 hgrow2 _
    obtain ⟨c4, f4⟩ := HRW.out w4 hgrow2
    obtain ⟨a2, n2, k2, rfl⟩ := ownsRow_slice hown2
    have HO2 := hide hown2
    have HG2 := hide hgrow2
    clear hown2 hgrow2
    go_wp2
    go_ret2
    exact ⟨x, .slice a2 n2 k2, rfl, HXV.out, Ref.less HB2.out HR2.out HLN.out HX2.out HN.out hp HB3.out HO1.out HG2.out HO2.out⟩

theorem rget0 (w0 : World) (R : Nat) (u v : Value) (a : List M.Val) (L : List (List M.Val)) (w : World) (h : Ref w0 w R u L) (hL : M.Fine L) (hbw : Below w0.heap.size w0 w) (hv : IsVals w0 v a) :
    Calls Tryz.prog 49 #[.pointer (some ⟨R, 0, none⟩), v, .bool false] w fun e w' => ∃ r, e = .returned (.tuple #[r, .int .i64 (M.getF a L)]) ∧ IsVals w0 r (M.getV a L) ∧ Below w.heap.size w w' := by
  have hC := rlike v a w (hv.stays hbw (Nat.le_refl _))
  by_cases ha : M.likeF a = 0
  · rw [ha] at hC
    have hF : ∀ w1, Below w.heap.size w w1 → Calls Tryz.prog 90 #[.pointer (some ⟨R, 0, none⟩), v] w1 fun e w' => e = .returned (.int .i64 (M.place a L)) ∧ Below w1.heap.size w1 w' := fun w1 hb => rfirst w0 R u v a L w1 (Sp.quiet h hb) hL (hbw.trans (hb.mono hbw.size)) hv ha
    by_cases hp : M.spot a L < L.length
    · have e1 : M.place a L = (M.spot a L : Int) := by unfold M.place; rw [if_pos hp]
      rw [e1] at hF
      rw [getF_hit ha hp, getV_hit ha hp]
      obtain ⟨g, cap, rfl, _⟩ := h.row.at (by omega)
      exact rget_stay w0 R _ L.length g cap v L w hp rfl h hC hF
    · have e1 : M.place a L = -1 := by unfold M.place; rw [if_neg hp]
      rw [e1] at hF
      have e5 := getF_miss ha hp
      rw [getV_no (by rw [e5]; decide), e5]
      refine (rget_miss R v false w hC hF).mono ?_
      rintro e w' ⟨rfl, hb⟩
      exact ⟨_, rfl, Or.inl ⟨rfl, rfl⟩, hb⟩
  · rw [getV_no (by rw [getF_bad ha]; exact ha), getF_bad ha]
    refine (rget_bad R v false _ w ha hC).mono ?_
    rintro e w' ⟨rfl, hb⟩
    exact ⟨_, rfl, Or.inl ⟨rfl, rfl⟩, hb⟩

theorem rget1 (w0 : World) (R : Nat) (u v : Value) (a : List M.Val) (L : List (List M.Val)) (w : World) (h : Ref w0 w R u L) (hL : M.Fine L) (hbw : Below w0.heap.size w0 w) (hv : IsVals w0 v a) :
    Calls Tryz.prog 49 #[.pointer (some ⟨R, 0, none⟩), v, .bool true] w fun e w' => ∃ r u', e = .returned (.tuple #[r, .int .i64 (M.getF a L)]) ∧ IsVals w0 r (M.getV a L) ∧ Ref w0 w' R u' (M.lessL a L) ∧ Touch R u w w' ∧ Near w u u' := by
  have hC := rlike v a w (hv.stays hbw (Nat.le_refl _))
  by_cases ha : M.likeF a = 0
  · rw [ha] at hC
    have hF : ∀ w1, Below w.heap.size w w1 → Calls Tryz.prog 90 #[.pointer (some ⟨R, 0, none⟩), v] w1 fun e w' => e = .returned (.int .i64 (M.place a L)) ∧ Below w1.heap.size w1 w' := fun w1 hb => rfirst w0 R u v a L w1 (Sp.quiet h hb) hL (hbw.trans (hb.mono hbw.size)) hv ha
    by_cases hp : M.spot a L < L.length
    · have e1 : M.place a L = (M.spot a L : Int) := by unfold M.place; rw [if_pos hp]
      rw [e1] at hF
      rw [getF_hit ha hp, getV_hit ha hp, lessL_hit ha hp]
      obtain ⟨xs, hx1, hx2⟩ := h.row
      rcases hx1.2 with ⟨_, h0⟩ | ⟨g, cap, cur, rfl, _, _, hc1, hc2, _⟩
      · omega
      · exact rget_away w0 R _ L.length g cap v L w hp rfl hL.2 hc1 hc2 h hC hF
    · have e1 : M.place a L = -1 := by unfold M.place; rw [if_neg hp]
      rw [e1] at hF
      have e5 := getF_miss ha hp
      rw [getV_no (by rw [e5]; decide), lessL_no (by rw [e5]; decide), e5]
      refine (rget_miss R v true w hC hF).mono ?_
      rintro e w' ⟨rfl, hb⟩
      exact ⟨_, u, rfl, Or.inl ⟨rfl, rfl⟩, Sp.quiet h hb, Touch.of_below hb, Near.refl _ _⟩
  · rw [getV_no (by rw [getF_bad ha]; exact ha), lessL_no (by rw [getF_bad ha]; exact ha), getF_bad ha]
    refine (rget_bad R v true _ w ha hC).mono ?_
    rintro e w' ⟨rfl, hb⟩
    exact ⟨_, u, rfl, Or.inl ⟨rfl, rfl⟩, Sp.quiet h hb, Touch.of_below hb, Near.refl _ _⟩

end Go.Proofs.YtlefhfmckimlaakGreatDoor
