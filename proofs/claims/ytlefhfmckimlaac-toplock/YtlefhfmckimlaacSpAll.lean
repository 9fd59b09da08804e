/-
  What Count and All of package space do, each as one law of its call.
-/
import Derived.Test.YtlefhfmckimlaacSpGet
namespace Go.Proofs.Ytlefhfmckimlaac
open Go.RowKit

theorem count_bad (S : Nat) (v : Value) (a : List M.Val) (w : World) (hv : IsVals w v a) (ha : M.likeF a ≠ 0) :
    Calls Try.prog 10 #[.pointer (some ⟨S, 0, none⟩), v] w fun e w' => e = .returned (.tuple #[.int .i64 0, errV (M.likeF a)]) ∧ Below w.heap.size w w' := by
  have HC : Hid (Calls Try.prog 16 #[v] w fun e w' => e = .returned (.iface 50 (.int .i64 (M.likeF a))) ∧ Below w.heap.size w w') := hide (by rw [← errV_bad ha]; exact like v a w hv)
  have HF := hide ha
  clear ha hv
  go_enter Try.func10, Try.ntmps10
  go_wp2_with fail
  refine (unhide HC).mono ?_
  rintro e w1 ⟨rfl, hb1⟩
  go_wp2_with fail
  go_ret2
  exact ⟨by rw [errV_bad HF.out]; rfl, hb1⟩

theorem count_none (S cap m k : Nat) (ao ao2 : Option Addr) (a : List M.Val) (w : World) (hv : IsVals w (.slice ao2 m k) a) (ha : M.likeF a = 0) (hS : S < w.heap.size) (hc : w.cell? ⟨S, 0, none⟩ = some (.slice ao 0 cap)) :
    Calls Try.prog 10 #[.pointer (some ⟨S, 0, none⟩), .slice ao2 m k] w fun e w' => e = .returned (.tuple #[.int .i64 0, .nilIface]) ∧ Below w.heap.size w w' := by
  have HC : Hid (Calls Try.prog 16 #[.slice ao2 m k] w fun e w' => e = .returned .nilIface ∧ Below w.heap.size w w') := hide (by have := like _ a w hv; rwa [ha] at this)
  have HS := hide hS
  have HCe := hide hc
  clear hv ha hc
  go_enter Try.func10, Try.ntmps10
  go_wp2_with fail
  refine (unhide HC).mono ?_
  rintro e w1 ⟨rfl, hb1⟩
  have c1 : w1.cell? ⟨S, 0, none⟩ = some (.slice ao 0 cap) := (hb1.cell (p := ⟨S, 0, none⟩) HS.out).trans HCe.out
  have s1 : S < w1.heap.size := Nat.lt_of_lt_of_le HS.out hb1.size
  have HB1 := hide hb1
  clear hb1
  go_wp2_with fail
  refine (fitting _ _ _ _).mono ?_
  rintro e w2 ⟨rfl, rfl⟩
  have HW1 : Hid (Below w.heap.size w (w1.alloc (.cells #[.slice ao2 m k] 28))) := hide (HB1.out.alloc HB1.out.size _)
  go_wp2_with fail
  go_loopw [23, 8] (fun i c wr => i = .int .i64 0 ∧ c = .int .i64 0 ∧ Hid (Below w.heap.size w wr)) (fun _ _ _ => 0)
  case atStart => exact ⟨rfl, rfl, HW1⟩
  case round =>
    obtain ⟨rfl, rfl, hbel⟩ := hrel
    go_wp2
    go_ret2
    exact ⟨rfl, hbel.out⟩

set_option maxRecDepth 100000 in
theorem count_many (S b off n cap m k : Nat) (ao2 : Option Addr) (a : List M.Val) (L : List (List M.Val)) (w : World) (hv : IsVals w (.slice ao2 m k) a) (ha : M.likeF a = 0) (hS : S < w.heap.size) (hn : n = L.length) (h0 : 0 < n) (hc : w.cell? ⟨S, 0, none⟩ = some (.slice (some ⟨b, off, none⟩) n cap)) (hl : LieT w b off L) (hL : M.Fine L) :
    Calls Try.prog 10 #[.pointer (some ⟨S, 0, none⟩), .slice ao2 m k] w fun e w' => e = .returned (.tuple #[.int .i64 (M.many a L), .nilIface]) ∧ Below w.heap.size w w' := by
  have HC : Hid (Calls Try.prog 16 #[.slice ao2 m k] w fun e w' => e = .returned .nilIface ∧ Below w.heap.size w w') := hide (by have := like _ a w hv; rwa [ha] at this)
  have HK : Hid (∀ wr B, Below w.heap.size w wr → wr.cell? ⟨B, 0, none⟩ = some (.slice ao2 m k) → ∀ k (hk : k < L.length), ∃ x, wr.cell? ⟨b, off + k, none⟩ = some x ∧ Calls Try.prog 29 #[x, .pointer (some ⟨B, 0, none⟩)] wr fun e w' => e = .returned (.bool (M.fitAll a L[k])) ∧ Below wr.heap.size wr w') := hide fun wr B hb hB k hk => by
    obtain ⟨x, hx, hxv⟩ := (hl.stays (by omega) hb (Nat.le_refl _)) k hk
    exact ⟨x, hx, asks B _ x a L[k] wr hB (hv.stays hb (Nat.le_refl _)) hxv ha (hL.1 _ (List.getElem_mem hk))⟩
  have HS := hide hS
  have HCe := hide hc
  have h20 : n ≤ 20 := by have := hL.2; omega
  have HN := hide hn
  clear hv ha hc hl hL hn
  go_enter Try.func10, Try.ntmps10
  go_wp2_with fail
  refine (unhide HC).mono ?_
  rintro e w1 ⟨rfl, hb1⟩
  have c1 : w1.cell? ⟨S, 0, none⟩ = some (.slice (some ⟨b, off, none⟩) n cap) := (hb1.cell (p := ⟨S, 0, none⟩) HS.out).trans HCe.out
  have s1 : S < w1.heap.size := Nat.lt_of_lt_of_le HS.out hb1.size
  have HB1 := hide hb1
  clear hb1
  go_wp2_with fail
  refine (fitting _ _ _ _).mono ?_
  rintro e w2 ⟨rfl, rfl⟩
  have HW1 : Hid (Below w.heap.size w (w1.alloc (.cells #[.slice ao2 m k] 28))) := hide (HB1.out.alloc HB1.out.size _)
  have HW2 : Hid ((w1.alloc (.cells #[.slice ao2 m k] 28)).cell? ⟨w1.heap.size, 0, none⟩ = some (.slice ao2 m k)) := hide ((cell_of_row (w1.alloc (.cells #[.slice ao2 m k] 28)) w1.heap.size 0 #[.slice ao2 m k] 28 (0, 0) (heap_alloc_new w1 _)).trans rfl)
  go_wp2_with fail
  go_loopw [23, 8] (fun i c wr => ∃ j q : Nat, j ≤ n ∧ q ≤ j ∧ i = .int .i64 j ∧ c = .int .i64 q ∧ Hid (q = M.many a (L.take j)) ∧ Hid (Below w.heap.size w wr) ∧ Hid (wr.cell? ⟨w1.heap.size, 0, none⟩ = some (.slice ao2 m k))) (fun i _ _ => n - (intOf i).toNat)
  case atStart => exact ⟨0, 0, Nat.zero_le _, Nat.le_refl _, rfl, rfl, hide rfl, HW1, HW2⟩
  case round =>
    obtain ⟨j, q, hj, hqj, rfl, rfl, hq, hbel, hcell⟩ := hrel
    by_cases hlt : j < n
    · have hjl : j < L.length := HN.out ▸ hlt
      obtain ⟨x, hx, hC⟩ := (unhide HK) wr w1.heap.size hbel.out hcell.out j hjl
      have hms := hide (many_snoc (a := a) hjl)
      cases hb : M.fitAll a L[j]
      · rw [hb] at hC hms
        have HC := hide hC
        clear hb hC
        go_wp2_with fail
        refine (unhide HC).mono ?_
        rintro e w2 ⟨rfl, hb2⟩
        go_wp2_with fail
        go_roundw
        case rel => exact ⟨j + 1, q, by omega, by omega, by go_num, rfl, hide (by rw [hms.out]; exact hq.out), hide (hbel.out.trans (hb2.mono hbel.out.size)), hide ((hb2.cell (p := ⟨w1.heap.size, 0, none⟩) (World.block_lt_of_cell? wr _ hcell.out)).trans hcell.out)⟩
        case measure => simp [intOf]; omega
      · rw [hb] at hC hms
        have HC := hide hC
        clear hb hC
        go_wp2_with fail
        refine (unhide HC).mono ?_
        rintro e w2 ⟨rfl, hb2⟩
        go_wp2_with fail
        go_roundw
        case rel => exact ⟨j + 1, q + 1, by omega, by omega, by go_num, by go_num, hide (by rw [hms.out]; have := hq.out; simp; omega), hide (hbel.out.trans (hb2.mono hbel.out.size)), hide ((hb2.cell (p := ⟨w1.heap.size, 0, none⟩) (World.block_lt_of_cell? wr _ hcell.out)).trans hcell.out)⟩
        case measure => simp [intOf]; omega
    · have hfin : Hid (q = M.many a L) := hide (by have := hq.out; rwa [List.take_of_length_le (by have := HN.out; omega)] at this)
      go_wp2
      go_ret2
      exact ⟨by rw [← hfin.out]; rfl, hbel.out⟩

/-- the number that Count answers -/
def M.cnt (a : List M.Val) (L : List (List M.Val)) : Nat := if M.likeF a = 0 then M.many a L else 0

theorem count (base S : Nat) (u v : Value) (a : List M.Val) (L : List (List M.Val)) (w : World) (hs : Space base w S u L) (hL : M.Fine L) (hv : IsVals w v a) :
    Calls Try.prog 10 #[.pointer (some ⟨S, 0, none⟩), v] w fun e w' => e = .returned (.tuple #[.int .i64 (M.cnt a L), errV (M.likeF a)]) ∧ Below w.heap.size w w' := by
  unfold M.cnt
  by_cases ha : M.likeF a = 0
  · rw [if_pos ha, ha]
    obtain ⟨ao2, cap2, rfl, _⟩ : ∃ ao c, v = .slice ao a.length c ∧ True := by
      rcases hv with ⟨h1, h2⟩ | ⟨x, c, h1, h2⟩ | ⟨b, off, c, h1, h2, _⟩
      · subst h2; exact ⟨_, _, h1, trivial⟩
      · subst h2; exact ⟨_, _, h1, trivial⟩
      · exact ⟨_, _, h2, trivial⟩
    obtain ⟨c1, _, s1⟩ := hs.cell
    have hu : IsTups w u L := hs.row.tups fun _ _ ho => ho.vals
    rcases Nat.eq_zero_or_pos L.length with h0 | h0
    · obtain ⟨ao, cap, rfl, _⟩ := hu.shape
      have hl := List.length_eq_zero_iff.1 h0
      subst hl
      exact count_none S cap _ _ ao ao2 a w hv ha s1 c1
    · obtain ⟨b, off, cap, rfl, _, _, hl⟩ := hu.some h0
      exact count_many S b off L.length cap _ _ ao2 a L w hv ha s1 rfl h0 c1 hl hL
  · rw [if_neg ha]
    exact count_bad S v a w hv ha




end Go.Proofs.Ytlefhfmckimlaac
