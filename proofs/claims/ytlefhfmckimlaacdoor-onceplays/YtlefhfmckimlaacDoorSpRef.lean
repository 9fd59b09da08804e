/-
  What the document's own space does: Put, First, Count of package tupleref1, each as one law of its call.
-/
import Derived.Test.YtlefhfmckimlaacDoorSpKeep
import Derived.Test.YtlefhfmckimlaacDoorRefTup
namespace Go.Proofs.YtlefhfmckimlaacDoor
open Go.RowKit

/-- the document's space of a law that came in with w0: its tuples came in -/
abbrev Ref (w0 w : World) (R : Nat) (u : Value) (L : List (List M.Val)) : Prop := Sp 28 (IsVals w0) w0.heap.size w R u L

theorem rput_bad (R : Nat) (t : Value) (l : List M.Val) (w : World) (ht : IsVals w t l) (hf : M.tupF l ≠ 0) :
    Calls Tryd.prog 11 #[.pointer (some ⟨R, 0, none⟩), t] w fun e w' => e = .returned (.int .i64 (M.tupF l)) ∧ Below w.heap.size w w' := by
  have HC := hide (rtuple t l w ht)
  generalize M.tupF l = c at *
  have hb : (c == 0) = false := by simpa using hf
  clear ht
  go_enter Tryd.func11, Tryd.ntmps11
  go_wp2_with fail
  refine (unhide HC).mono ?_
  rintro e w1 ⟨rfl, hb1⟩
  go_wp2_with fail
  go_ret
  exact ⟨rfl, hb1⟩

theorem rput_full (R n cap : Nat) (ao : Option Addr) (t : Value) (l : List M.Val) (w : World) (ht : IsVals w t l) (hf : M.tupF l = 0) (hS : R < w.heap.size) (hc : w.cell? ⟨R, 0, none⟩ = some (.slice ao n cap)) (hn : 20 ≤ n) (hm : n ≤ maxLen) :
    Calls Tryd.prog 11 #[.pointer (some ⟨R, 0, none⟩), t] w fun e w' => e = .returned (.int .i64 4) ∧ Below w.heap.size w w' := by
  unfold maxLen at hm
  have HC : Hid (Calls Tryd.prog 9 #[t] w fun e w' => e = .returned (.int .i64 0) ∧ Below w.heap.size w w') := hide (by have := rtuple t l w ht; rwa [hf] at this)
  have h20 : (20 : Int) ≤ (n : Int) := by omega
  have HS := hide hS
  have HCe := hide hc
  clear hf ht hc
  go_enter Tryd.func11, Tryd.ntmps11
  go_wp2_with fail
  refine (unhide HC).mono ?_
  rintro e w1 ⟨rfl, hb1⟩
  have c1 : w1.cell? ⟨R, 0, none⟩ = some (.slice ao n cap) := (hb1.cell (p := ⟨R, 0, none⟩) HS.out).trans HCe.out
  go_wp2_with fail
  go_ret
  exact ⟨rfl, hb1⟩

set_option maxRecDepth 100000 in
theorem rput_ok (w0 : World) (R n cap m k : Nat) (ao a2 : Option Addr) (l : List M.Val) (L : List (List M.Val)) (w : World) (hs : Ref w0 w R (.slice ao n cap) L) (ht : IsVals w0 (.slice a2 m k) l) (hbw : Below w0.heap.size w0 w) (hf : M.tupF l = 0) (hL : n = L.length) (hn : n < 20) :
    Calls Tryd.prog 11 #[.pointer (some ⟨R, 0, none⟩), .slice a2 m k] w fun e w' => e = .returned (.int .i64 0) ∧ ∃ u', Ref w0 w' R u' (L ++ [l]) ∧ Touch R (.slice ao n cap) w w' ∧ Near w (.slice ao n cap) u' := by
  obtain ⟨i0, hi, hz0, hz1, hz2⟩ := info_parts infoT
  have HI := hide (And.intro hi (And.intro hz0 (And.intro hz1 hz2)))
  have HC : Hid (Calls Tryd.prog 9 #[.slice a2 m k] w fun e w' => e = .returned (.int .i64 0) ∧ Below w.heap.size w w') := hide (by have := rtuple _ l w (ht.stays hbw (Nat.le_refl _)); rwa [hf] at this)
  have h20 : ¬ (20 : Int) ≤ (n : Int) := by omega
  have HP := hide hs
  have HT := hide ht
  have HL := hide hL
  clear hf ht hs hL hi hz0 hz1 hz2 hbw
  go_enter Tryd.func11, Tryd.ntmps11
  go_wp2_with fail
  refine (unhide HC).mono ?_
  rintro e w1 ⟨rfl, hb1⟩
  have HP1 : Hid (Ref w0 w1 R (.slice ao n cap) L) := hide (Sp.quiet HP.out hb1)
  have HA : Hid (Ref w0 (w1.alloc (.cells #[.slice a2 m k] 30)) R (.slice ao n cap) L) := hide (Sp.quiet HP1.out ((Below.refl _ _).alloc (Nat.le_refl _) _))
  obtain ⟨c1, f1, s1⟩ := HP1.out.cell
  have hne := hide (HP1.out.row_ne (by decide))
  obtain ⟨xs, hx1, hx2⟩ := HA.out.row
  rw [← HL.out] at hx1
  have HX := hide hx1
  have HX2 := hide hx2
  have HB1 := hide hb1
  have HWS := hide (Nat.le_trans HA.out.lo (Nat.le_of_lt HA.out.cell.2.2))
  have HNW : Hid (∀ j u, [Value.slice a2 m k][j]? = some u → (w1.alloc (.cells #[.slice a2 m k] 30)).cell? ((⟨w1.heap.size, 0, none⟩ : Addr).add j) = some u) := hide (World.news_of_block (heap_alloc_new w1 _))
  clear hb1 hx1 hx2
  go_wp2_with (at_builtin; refine wpList_append_lies _ rfl (.tmp 24) (.tmp 26) 23 rfl w0.heap.size 30 i0 (.slice none 0 0) 1 24 Tryd.underlying23 HI.out.1 HI.out.2.1 HI.out.2.2.1 HI.out.2.2.2 rfl (by decide) (.slice ao n cap) n xs rfl HX.out ⟨w1.heap.size, 0, none⟩ 1 1 [.slice a2 m k] rfl rfl HNW.out (by intro u hu; simp at hu; subst hu; rfl) (by decide) (by unfold maxLen; omega) (by omega) HWS.out (w1.heap.size + 1) (by simp) ?_)
  intro g3 k3 w3 hown3 hgrow3 hat3 hlt3
  have c4 : w3.cell? ⟨R, 0, none⟩ = some (.slice ao n cap) := hgrow3.cell HA.out.cell.1 (fun e => hne.out e.symm)
  have f4 : w3.frozen? ⟨R, 0, none⟩ = false := (World.frozen?_of_block (hgrow3.block R HA.out.cell.2.2 (fun e => hne.out e.symm))).trans HA.out.cell.2.1
  have HO3 := hide hown3
  have HG3 := hide hgrow3
  have HAT := hide hat3
  clear hown3 hgrow3 hat3
  go_wp2
  go_ret
  have hn3 := near_lies (w := w1.alloc (.cells #[.slice a2 m k] 30)) (n := n + 1) (c := k3) HAT.out (by simp)
  obtain ⟨h1, h2⟩ := Sp.stored (by decide) HA.out HG3.out (RowOf.more (HL.out ▸ HX.out) HX2.out (HL.out ▸ HO3.out) HT.out) hn3
  exact ⟨rfl, _, h1, (h2.after ((Below.refl _ _).alloc (Nat.le_refl _) _)).after HB1.out, hn3.mono (Nat.le_trans HB1.out.size (by simp))⟩

theorem rput (w0 : World) (R : Nat) (u t : Value) (l : List M.Val) (L : List (List M.Val)) (w : World) (hs : Ref w0 w R u L) (hL : M.Fine L) (ht : IsVals w0 t l) (hbw : Below w0.heap.size w0 w) :
    Calls Tryd.prog 11 #[.pointer (some ⟨R, 0, none⟩), t] w fun e w' => e = .returned (.int .i64 (M.putF L l)) ∧ ∃ u', Ref w0 w' R u' (M.putL L l) ∧ Touch R u w w' ∧ Near w u u' := by
  have htw := ht.stays hbw (Nat.le_refl _)
  by_cases hf : M.tupF l = 0
  · obtain ⟨ao, cap, rfl⟩ := hs.row.shape
    obtain ⟨hc, _, hS⟩ := hs.cell
    by_cases hn : L.length < 20
    · rw [putF_ok hf hn, putL_yes (putF_ok hf hn)]
      obtain ⟨a2, c2, rfl, _⟩ := ht.shape
      exact rput_ok w0 R L.length cap _ c2 ao a2 l L w hs ht hbw hf rfl hn
    · have e4 := putF_full (L := L) hf (by omega)
      rw [e4, putL_no (by rw [e4]; decide)]
      refine (rput_full R L.length cap ao t l w htw hf hS hc (by omega) (by have := hL.2; unfold maxLen; omega)).mono ?_
      rintro e w' ⟨rfl, hb⟩
      exact ⟨rfl, _, Sp.quiet hs hb, Touch.of_below hb, Near.refl _ _⟩
  · rw [putF_bad hf, putL_no (by rw [putF_bad hf]; exact hf)]
    refine (rput_bad R t l w htw hf).mono ?_
    rintro e w' ⟨rfl, hb⟩
    exact ⟨rfl, _, Sp.quiet hs hb, Touch.of_below hb, Near.refl _ _⟩

end Go.Proofs.YtlefhfmckimlaacDoor
