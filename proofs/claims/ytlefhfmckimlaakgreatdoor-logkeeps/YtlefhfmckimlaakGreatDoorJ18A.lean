/-
  What Count and All of package space do, each as one law of its call.
  What First and May of package rule do, with the library's search that they call: each as one law of its call.
-/
import Derived.Test.YtlefhfmckimlaakGreatDoorJ17A
import Derived.Test.YtlefhfmckimlaakGreatDoorJ13A
import Derived.Deep.RegionHeld3
namespace Go.Proofs.YtlefhfmckimlaakGreatDoor
open Go.RowKit

theorem count_bad (S : Nat) (v : Value) (a : List M.Val) (w : World) (hv : IsVals w v a) (ha : M.likeF a ≠ 0) :
    Calls Tryz.prog 145 #[.pointer (some ⟨S, 0, none⟩), v] w fun e w' => e = .returned (.tuple #[.int .i64 0, errV (M.likeF a)]) ∧ Below w.heap.size w w' := by
  have HC : Hid (Calls Tryz.prog 99 #[v] w fun e w' => e = .returned (.iface 87 (.int .i64 (M.likeF a))) ∧ Below w.heap.size w w') := hide (by rw [← errV_bad ha]; exact like v a w hv)
  have HF := hide ha
  clear ha hv
  go_enter Tryz.func145, Tryz.ntmps145
  go_wp2_with fail
  refine (unhide HC).mono ?_
  rintro e w1 ⟨rfl, hb1⟩
  go_wp2_with fail
  go_ret2
  exact ⟨by rw [errV_bad HF.out]; rfl, hb1⟩

theorem count_none (S cap m k : Nat) (ao ao2 : Option Addr) (a : List M.Val) (w : World) (hv : IsVals w (.slice ao2 m k) a) (ha : M.likeF a = 0) (hS : S < w.heap.size) (hc : w.cell? ⟨S, 0, none⟩ = some (.slice ao 0 cap)) :
    Calls Tryz.prog 145 #[.pointer (some ⟨S, 0, none⟩), .slice ao2 m k] w fun e w' => e = .returned (.tuple #[.int .i64 0, .nilIface]) ∧ Below w.heap.size w w' := by
  have HC : Hid (Calls Tryz.prog 99 #[.slice ao2 m k] w fun e w' => e = .returned .nilIface ∧ Below w.heap.size w w') := hide (by have := like _ a w hv; rwa [ha] at this)
  have HS := hide hS
  have HCe := hide hc
  clear hv ha hc
  go_enter Tryz.func145, Tryz.ntmps145
  go_wp2_with fail
  refine (unhide HC).mono ?_
  rintro e w1 ⟨rfl, hb1⟩
  have c1 : w1.cell? ⟨S, 0, none⟩ = some (.slice ao 0 cap) := (hb1.cell (p := ⟨S, 0, none⟩) HS.out).trans HCe.out
  have s1 : S < w1.heap.size := Nat.lt_of_lt_of_le HS.out hb1.size
  have HB1 := hide hb1
  clear hb1
  go_wp2_with fail
  refine (fitting _ _ _ _).mono ?_
  rintro e w2 ⟨rfl, rfl⟩
  have HW1 : Hid (Below w.heap.size w (w1.alloc (.cells #[.slice ao2 m k] 32))) := hide (HB1.out.alloc HB1.out.size _)
  go_wp2_with fail
  go_loopw [23, 8] (fun i c wr => i = .int .i64 0 ∧ c = .int .i64 0 ∧ Hid (Below w.heap.size w wr)) (fun _ _ _ => 0)
  case atStart => exact ⟨rfl, rfl, HW1⟩
  case round =>
    obtain ⟨rfl, rfl, hbel⟩ := hrel
    go_wp2
    go_ret2
    exact ⟨rfl, hbel.out⟩

set_option maxRecDepth 100000 in
theorem count_many (S b off n cap m k : Nat) (ao2 : Option Addr) (a : List M.Val) (L : List (List M.Val)) (w : World) (hv : IsVals w (.slice ao2 m k) a) (ha : M.likeF a = 0) (hS : S < w.heap.size) (hn : n = L.length) (h0 : 0 < n) (hc : w.cell? ⟨S, 0, none⟩ = some (.slice (some ⟨b, off, none⟩) n cap)) (hl : LieT w b off L) (hL : M.Fine L) :
    Calls Tryz.prog 145 #[.pointer (some ⟨S, 0, none⟩), .slice ao2 m k] w fun e w' => e = .returned (.tuple #[.int .i64 (M.many a L), .nilIface]) ∧ Below w.heap.size w w' := by
  have HC : Hid (Calls Tryz.prog 99 #[.slice ao2 m k] w fun e w' => e = .returned .nilIface ∧ Below w.heap.size w w') := hide (by have := like _ a w hv; rwa [ha] at this)
  have HK : Hid (∀ wr B, Below w.heap.size w wr → wr.cell? ⟨B, 0, none⟩ = some (.slice ao2 m k) → ∀ k (hk : k < L.length), ∃ x, wr.cell? ⟨b, off + k, none⟩ = some x ∧ Calls Tryz.prog 164 #[x, .pointer (some ⟨B, 0, none⟩)] wr fun e w' => e = .returned (.bool (M.fitAll a L[k])) ∧ Below wr.heap.size wr w') := hide fun wr B hb hB k hk => by
    obtain ⟨x, hx, hxv⟩ := (hl.stays (by omega) hb (Nat.le_refl _)) k hk
    exact ⟨x, hx, asks B _ x a L[k] wr hB (hv.stays hb (Nat.le_refl _)) hxv ha (hL.1 _ (List.getElem_mem hk))⟩
  have HS := hide hS
  have HCe := hide hc
  have h20 : n ≤ 20 := by have := hL.2; omega
  have HN := hide hn
  clear hv ha hc hl hL hn
  go_enter Tryz.func145, Tryz.ntmps145
  go_wp2_with fail
  refine (unhide HC).mono ?_
  rintro e w1 ⟨rfl, hb1⟩
  have c1 : w1.cell? ⟨S, 0, none⟩ = some (.slice (some ⟨b, off, none⟩) n cap) := (hb1.cell (p := ⟨S, 0, none⟩) HS.out).trans HCe.out
  have s1 : S < w1.heap.size := Nat.lt_of_lt_of_le HS.out hb1.size
  have HB1 := hide hb1
  clear hb1
  go_wp2_with fail
  refine (fitting _ _ _ _).mono ?_
  rintro e w2 ⟨rfl, rfl⟩
  have HW1 : Hid (Below w.heap.size w (w1.alloc (.cells #[.slice ao2 m k] 32))) := hide (HB1.out.alloc HB1.out.size _)
  have HW2 : Hid ((w1.alloc (.cells #[.slice ao2 m k] 32)).cell? ⟨w1.heap.size, 0, none⟩ = some (.slice ao2 m k)) := hide ((cell_of_row (w1.alloc (.cells #[.slice ao2 m k] 32)) w1.heap.size 0 #[.slice ao2 m k] 32 (0, 0) (heap_alloc_new w1 _)).trans rfl)
  go_wp2_with fail
  go_loopw [23, 8] (fun i c wr => ∃ j q : Nat, j ≤ n ∧ q ≤ j ∧ i = .int .i64 j ∧ c = .int .i64 q ∧ Hid (q = M.many a (L.take j)) ∧ Hid (Below w.heap.size w wr) ∧ Hid (wr.cell? ⟨w1.heap.size, 0, none⟩ = some (.slice ao2 m k))) (fun i _ _ => n - (intOf i).toNat)
  case atStart => exact ⟨0, 0, Nat.zero_le _, Nat.le_refl _, rfl, rfl, hide rfl, HW1, HW2⟩
  case round =>
    obtain ⟨j, q, hj, hqj, rfl, rfl, hq, hbel, hcell⟩ := hrel
    by_cases hlt : j < n
    · have hjl : j < L.length := HN.out ▸ hlt
      obtain ⟨x, hx, hC⟩ := (unhide HK) wr w1.heap.size hbel.out hcell.out j hjl
      have hms := hide (many_snoc (a := a) hjl)
      cases hb : M.fitAll a L[j]
      · rw [hb] at hC hms
        have HC := hide hC
        clear hb hC
        go_wp2_with fail
        refine (unhide HC).mono ?_
        rintro e w2 ⟨rfl, hb2⟩
        go_wp2_with fail
        go_roundw
        case rel => exact ⟨j + 1, q, by omega, by omega, by go_num, rfl, hide (by rw [hms.out]; exact hq.out), hide (hbel.out.trans (hb2.mono hbel.out.size)), hide ((hb2.cell (p := ⟨w1.heap.size, 0, none⟩) (World.block_lt_of_cell? wr _ hcell.out)).trans hcell.out)⟩
        case measure => simp [intOf]; omega
      · rw [hb] at hC hms
        have HC := hide hC
        clear hb hC
        go_wp2_with fail
        refine (unhide HC).mono ?_
        rintro e w2 ⟨rfl, hb2⟩
        go_wp2_with fail
        go_roundw
        case rel => exact ⟨j + 1, q + 1, by omega, by omega, by go_num, by go_num, hide (by rw [hms.out]; have := hq.out; simp; omega), hide (hbel.out.trans (hb2.mono hbel.out.size)), hide ((hb2.cell (p := ⟨w1.heap.size, 0, none⟩) (World.block_lt_of_cell? wr _ hcell.out)).trans hcell.out)⟩
        case measure => simp [intOf]; omega
    · have hfin : Hid (q = M.many a L) := hide (by have := hq.out; rwa [List.take_of_length_le (by have := HN.out; omega)] at this)
      go_wp2
      go_ret2
      exact ⟨by rw [← hfin.out]; rfl, hbel.out⟩

/-- the number that Count answers -/
def M.cnt (a : List M.Val) (L : List (List M.Val)) : Nat := if M.likeF a = 0 then M.many a L else 0

theorem count (base S : Nat) (u v : Value) (a : List M.Val) (L : List (List M.Val)) (w : World) (hs : Space base w S u L) (hL : M.Fine L) (hv : IsVals w v a) :
    Calls Tryz.prog 145 #[.pointer (some ⟨S, 0, none⟩), v] w fun e w' => e = .returned (.tuple #[.int .i64 (M.cnt a L), errV (M.likeF a)]) ∧ Below w.heap.size w w' := by
  unfold M.cnt
  by_cases ha : M.likeF a = 0
  · rw [if_pos ha, ha]
    obtain ⟨ao2, cap2, rfl, _⟩ : ∃ ao c, v = .slice ao a.length c ∧ True := by
      rcases hv with ⟨h1, h2⟩ | ⟨x, c, h1, h2⟩ | ⟨b, off, c, h1, h2, _⟩
      · subst h2; exact ⟨_, _, h1, trivial⟩
      · subst h2; exact ⟨_, _, h1, trivial⟩
      · exact ⟨_, _, h2, trivial⟩
    obtain ⟨c1, _, s1⟩ := hs.cell
    have hu : IsTups w u L := hs.row.tups fun _ _ ho => ho.vals
    rcases Nat.eq_zero_or_pos L.length with h0 | h0
    · obtain ⟨ao, cap, rfl, _⟩ := hu.shape
      have hl := List.length_eq_zero_iff.1 h0
      subst hl
      exact count_none S cap _ _ ao ao2 a w hv ha s1 c1
    · obtain ⟨b, off, cap, rfl, _, _, hl⟩ := hu.some h0
      exact count_many S b off L.length cap _ _ ao2 a L w hv ha s1 rfl h0 c1 hl hL
  · rw [if_neg ha]
    exact count_bad S v a w hv ha

theorem all_none (S cap : Nat) (ao : Option Addr) (w : World) (hc : w.cell? ⟨S, 0, none⟩ = some (.slice ao 0 cap)) :
    Calls Tryz.prog 63 #[.pointer (some ⟨S, 0, none⟩)] w fun e w' => e = .returned (.slice none 0 0) ∧ Below w.heap.size w w' := by
  go_enter Tryz.func63, Tryz.ntmps63
  go_wp2
  go_loopw [11, 3] (fun i c wr => i = .int .i64 0 ∧ c = .slice none 0 0 ∧ wr = w) (fun _ _ _ => 0)
  case atStart => exact ⟨rfl, rfl, rfl⟩
  case round =>
    obtain ⟨rfl, rfl, rfl⟩ := hrel
    go_wp2
    go_ret
    exact ⟨rfl, Below.refl _ _⟩

set_option maxHeartbeats 1000000 in
set_option maxRecDepth 100000 in
theorem all_many (S b off n cap : Nat) (L : List (List M.Val)) (w : World) (hn : n = L.length) (h0 : 0 < n) (hc : w.cell? ⟨S, 0, none⟩ = some (.slice (some ⟨b, off, none⟩) n cap)) (hl : LieT w b off L) (hL : M.Fine L) :
    Calls Tryz.prog 63 #[.pointer (some ⟨S, 0, none⟩)] w fun e w' => ∃ v, e = .returned v ∧ RowOf (OwnT w.heap.size w') w.heap.size w' v L ∧ Below w.heap.size w w' := by
  obtain ⟨i0, hi, hz0, hz1, hz2⟩ := info_parts infoT
  have HI := hide (And.intro hi (And.intro hz0 (And.intro hz1 hz2)))
  have HK : Hid (∀ wr, Below w.heap.size w wr → ∀ k (hk : k < L.length), ∃ x, wr.cell? ⟨b, off + k, none⟩ = some x ∧ Calls Tryz.prog 58 #[x] wr fun e w' => ∃ g c, e = .returned (.slice (some ⟨g, 0, none⟩) L[k].length c) ∧ OwnT wr.heap.size w' (.slice (some ⟨g, 0, none⟩) L[k].length c) L[k] ∧ Below wr.heap.size wr w') := hide fun wr hb k hk => by
    obtain ⟨x, hx, hxv⟩ := (hl.stays (by omega) hb (Nat.le_refl _)) k hk
    exact ⟨x, hx, freshAt x L[k] wr hxv (hL.1 _ (List.getElem_mem hk))⟩
  have h20 : n ≤ 20 := by have := hL.2; omega
  have HN := hide hn
  clear hl hL hn hi hz0 hz1 hz2
  go_enter Tryz.func63, Tryz.ntmps63
  go_wp2_with fail
  go_loopw [11, 3] (fun i c wr => ∃ j : Nat, ∃ v : Value, j ≤ n ∧ v = c ∧ i = .int .i64 j ∧ Hid (RowOf (OwnT w.heap.size wr) w.heap.size wr v (L.take j)) ∧ Hid (Below w.heap.size w wr)) (fun i _ _ => n - (intOf i).toNat)
  case atStart => exact ⟨0, _, Nat.zero_le _, rfl, rfl, hide (RowOf.nil _ _ _), hide (Below.refl _ _)⟩
  case round =>
    obtain ⟨j, v, hj, rfl, rfl, hr, hbel⟩ := hrel
    by_cases hlt : j < n
    · have hjl : j < L.length := HN.out ▸ hlt
      obtain ⟨x, hx, hC⟩ := (unhide HK) wr hbel.out j hjl
      have HC := hide hC
      have HJ : Hid ((L.take j).length = j) := hide (by rw [List.length_take]; omega)
      generalize hlj : L[j] = lj at HC
      have HLJ := hide hlj
      clear hC hlj
      go_wp2_with fail
      refine (unhide HC).mono ?_
      rintro e w2 ⟨g2, k2, rfl, hO2, hb2⟩
      have HB2 := hide (hbel.out.trans (hb2.mono hbel.out.size))
      have HO2 := hide hO2
      have HS2 := hide (Solid.below hb2)
      have HR2 := hide ((hr.out.below hb2).mono fun _ _ ho => ho.solid HS2.out)
      obtain ⟨xs, hx1, hx2⟩ := HR2.out
      rw [HJ.out] at hx1
      have HX := hide (hx1.alloc (.cells #[.slice (some ⟨g2, 0, none⟩) lj.length k2] 32))
      have HX2 := hide hx2
      have HLN : Hid (xs.length = (L.take j).length) := hide (by have := hx1.1; rw [HJ.out]; omega)
      have HNW : Hid (∀ j u, [Value.slice (some ⟨g2, 0, none⟩) lj.length k2][j]? = some u → (w2.alloc (.cells #[.slice (some ⟨g2, 0, none⟩) lj.length k2] 32)).cell? ((⟨w2.heap.size, 0, none⟩ : Addr).add j) = some u) := hide (World.news_of_block (heap_alloc_new w2 _))
      have HWS : Hid (w.heap.size ≤ (w2.alloc (.cells #[.slice (some ⟨g2, 0, none⟩) lj.length k2] 32)).heap.size) := hide (Nat.le_trans HB2.out.size (by simp))
      have HRO := hide hbel.out.size
      clear hx1 hx2 hO2 hb2 HK
      go_wp2_with (at_builtin; refine wpList_append_own _ rfl (.tmp 15) (.tmp 18) 76 rfl w.heap.size 32 i0 (.slice none 0 0) 1 24 Tryz.underlying76 HI.out.1 HI.out.2.1 HI.out.2.2.1 HI.out.2.2.2 rfl (by decide) v j xs rfl HX.out ⟨w2.heap.size, 0, none⟩ 1 1 [.slice (some ⟨g2, 0, none⟩) lj.length k2] rfl rfl HNW.out (by intro u hu; simp at hu; subst hu; rfl) (by unfold maxLen; omega) (by omega) HWS.out ?_)
      intro v3 w3 hown3 hgrow3 _
      have HO3 := hide hown3
      have HG3 := hide hgrow3
      clear hown3 hgrow3
      go_wp2
      go_roundw
      case rel =>
        have hsol : Solid w2 w3 := (Solid.below ((Below.refl _ _).alloc (Nat.le_refl _) _)).trans (solid_grown HX.out HG3.out)
        refine ⟨j + 1, v3, by omega, rfl, by go_num, hide ?_, hide (HB2.out.trans (((Below.refl _ _).alloc HB2.out.size _).grown HG3.out HWS.out (fun k hk => (HX.out.lt k hk).1)))⟩
        rw [List.take_succ_eq_append_getElem hjl, HLJ.out]
        exact RowOf.snoc (fun i h1 h2 => (HX2.out i h1 h2).solid hsol) HLN.out (by rw [HJ.out]; exact HO3.out) ((HO2.out.mono HRO.out).solid hsol)
      case measure => simp [intOf]; omega
    · have hfin : Hid (L.take j = L) := hide (List.take_of_length_le (by have := HN.out; omega))
      go_wp2
      go_ret
      exact ⟨v, rfl, by have := hr.out; rwa [hfin.out] at this, hbel.out⟩

theorem all (base S : Nat) (u : Value) (L : List (List M.Val)) (w : World) (hs : Space base w S u L) (hL : M.Fine L) :
    Calls Tryz.prog 63 #[.pointer (some ⟨S, 0, none⟩)] w fun e w' => ∃ ao cap, e = .returned (.slice ao L.length cap) ∧ IsTups w' (.slice ao L.length cap) L ∧ Below w.heap.size w w' := by
  obtain ⟨c1, _, s1⟩ := hs.cell
  have hu : IsTups w u L := hs.row.tups fun _ _ ho => ho.vals
  rcases Nat.eq_zero_or_pos L.length with h0 | h0
  · obtain ⟨ao, cap, rfl, _⟩ := hu.shape
    have hl := List.length_eq_zero_iff.1 h0
    subst hl
    refine (all_none S cap ao w c1).mono ?_
    rintro e w' ⟨rfl, hb⟩
    exact ⟨_, _, rfl, Or.inl ⟨rfl, rfl⟩, hb⟩
  · obtain ⟨b, off, cap, rfl, _, _, hl⟩ := hu.some h0
    refine (all_many S b off L.length cap L w rfl h0 c1 hl hL).mono ?_
    rintro e w' ⟨v, rfl, hr, hb⟩
    have ht := hr.tups fun _ _ ho => ho.vals
    obtain ⟨ao, c, rfl, _⟩ := ht.shape
    exact ⟨ao, c, rfl, ht, hb⟩

end Go.Proofs.YtlefhfmckimlaakGreatDoor

set_option linter.unusedVariables false
namespace Go.Proofs.YtlefhfmckimlaakGreatDoor
open Go.RowKit

theorem ruleFits (v1 v2 : Value) (a l : List M.Val) (w : World) (h1 : IsVals w v1 a) (h2 : IsVals w v2 l) (ha : M.likeF a = 0) (hl : M.tupF l = 0) :
    Calls Tryz.prog 165 #[v1, v2] w fun e w' => e = .returned (.tuple #[.bool (M.fitAll a l), .nilIface]) ∧ Below w.heap.size w w' := by
  have := tfits v1 v2 a l w h1 h2
  have e1 : M.both (M.likeF a) (M.tupF l) = 0 := by rw [ha, hl]; rfl
  have e2 : M.fitsB a l = M.fitAll a l := by unfold M.fitsB; rw [e1]; rfl
  rwa [e1, e2] at this

/-- the question that is asked of each rule -/
theorem asksR (d x deed who : Int) (a : Option Addr) (n c : Nat) (m : Bool) (B1 B2 B3 : Nat) (ta : Option Addr) (tn tc : Nat) (l t : List M.Val) (w : World)
    (h1 : w.cell? ⟨B1, 0, none⟩ = some (.int .i64 deed)) (h2 : w.cell? ⟨B2, 0, none⟩ = some (.int .i64 who)) (h3 : w.cell? ⟨B3, 0, none⟩ = some (.slice ta tn tc)) (hv : IsVals w (.slice a n c) l) (ht : IsVals w (.slice ta tn tc) t) (hl : M.likeF l = 0) (htf : M.tupF t = 0) :
    Calls Tryz.prog 175 #[aggR d x a n c m, .pointer (some ⟨B1, 0, none⟩), .pointer (some ⟨B2, 0, none⟩), .pointer (some ⟨B3, 0, none⟩)] w fun e w' => e = .returned (.bool (M.goes who deed t ⟨d, x, l, m⟩)) ∧ Below w.heap.size w w' := by
  have HA : Hid (∀ o, Below w.heap.size w (w.alloc o)) := hide fun o => (Below.refl _ _).alloc (Nat.le_refl _) o
  have HF : Hid (∀ wx, Below w.heap.size w wx → Calls Tryz.prog 165 #[.slice a n c, .slice ta tn tc] wx fun e w' => e = .returned (.tuple #[.bool (M.fitAll l t), .nilIface]) ∧ Below wx.heap.size wx w') := hide fun wx hb => ruleFits _ _ l t wx (hv.stays hb (Nat.le_refl _)) (ht.stays hb (Nat.le_refl _)) hl htf
  have b1 := World.block_lt_of_cell? w _ h1
  have b2 := World.block_lt_of_cell? w _ h2
  have b3 := World.block_lt_of_cell? w _ h3
  have q1 : ¬ B1 = w.heap.size := by simp at b1; omega
  have q2 : ¬ B2 = w.heap.size := by simp at b2; omega
  have q3 : ¬ B3 = w.heap.size := by simp at b3; omega
  clear hv ht hl htf
  by_cases hd : d = deed
  · have hdb : (d != deed) = false := by simpa using hd
    by_cases hx : x = -1
    · have HG : Hid (M.goes who deed t ⟨d, x, l, m⟩ = M.fitAll l t) := hide (by unfold M.goes; simp [hd, hx])
      rw [HG.out]
      generalize M.fitAll l t = f at *
      clear HG hd
      have hxb : (x != -1) = false := by simpa using hx
      clear hx
      go_enter Tryz.func175, Tryz.ntmps175
      go_wp2_with fail
      refine (HF.out _ (HA.out _)).mono ?_
      rintro e w1 ⟨rfl, hb1⟩
      have HB1 := hide ((HA.out _).trans (hb1.mono (by simp)))
      clear hb1
      go_wp2_with fail
      go_ret
      exact ⟨rfl, HB1.out⟩
    · have hxb : (x != -1) = true := by simpa using hx
      by_cases hw : x = who
      · have HG : Hid (M.goes who deed t ⟨d, x, l, m⟩ = M.fitAll l t) := hide (by unfold M.goes; simp [hd, hw])
        have hwb : (x != who) = false := by simpa using hw
        rw [HG.out]
        generalize M.fitAll l t = f at *
        clear HG hd hx hw
        go_enter Tryz.func175, Tryz.ntmps175
        go_wp2_with fail
        refine (HF.out _ (HA.out _)).mono ?_
        rintro e w1 ⟨rfl, hb1⟩
        have HB1 := hide ((HA.out _).trans (hb1.mono (by simp)))
        clear hb1
        go_wp2_with fail
        go_ret
        exact ⟨rfl, HB1.out⟩
      · have HG : Hid (M.goes who deed t ⟨d, x, l, m⟩ = false) := hide (by unfold M.goes; simp [hx, hw])
        have hwb : (x != who) = true := by simpa using hw
        rw [HG.out]
        clear HG hd hx hw HF
        go_enter Tryz.func175, Tryz.ntmps175
        go_wp2_with fail
        go_ret
        exact ⟨rfl, HA.out _⟩
  · have HG : Hid (M.goes who deed t ⟨d, x, l, m⟩ = false) := hide (by unfold M.goes; simp [hd])
    have hdb : (d != deed) = true := by simpa using hd
    rw [HG.out]
    clear HG hd HF
    go_enter Tryz.func175, Tryz.ntmps175
    go_wp2_with fail
    go_ret
    exact ⟨rfl, HA.out _⟩

/-- the answer of the search: where, or -1 -/
def M.placeR (l : List M.Rul) (who deed : Int) (t : List M.Val) : Int := if M.spotR l who deed t < l.length then M.spotR l who deed t else -1

theorem indexR (av : Option Addr) (n cap : Nat) (L : List M.Rul) (deed who : Int) (B1 B2 B3 : Nat) (ta : Option Addr) (tn tc : Nat) (t : List M.Val) (w : World) (hn : n = L.length) (h8 : n ≤ 8) (hl : AtR w av L) (hL : ∀ r ∈ L, M.likeF r.like = 0)
    (h1 : w.cell? ⟨B1, 0, none⟩ = some (.int .i64 deed)) (h2 : w.cell? ⟨B2, 0, none⟩ = some (.int .i64 who)) (h3 : w.cell? ⟨B3, 0, none⟩ = some (.slice ta tn tc)) (ht : IsVals w (.slice ta tn tc) t) (htf : M.tupF t = 0) :
    Calls Tryz.prog 174 #[.slice av n cap, .func (.func 175) #[] #[.pointer (some ⟨B1, 0, none⟩), .pointer (some ⟨B2, 0, none⟩), .pointer (some ⟨B3, 0, none⟩)]] w fun e w' => e = .returned (.int .i64 (M.placeR L who deed t)) ∧ Below w.heap.size w w' := by
  have HK : Hid (∀ wr, Below w.heap.size w wr → ∀ k (hk : k < L.length), ∃ b off a m c, av = some ⟨b, off, none⟩ ∧ wr.cell? ⟨b, off + k * 4, none⟩ = some (.int .i64 L[k].deed) ∧ wr.cell? ⟨b, off + k * 4 + 1, none⟩ = some (.int .i64 L[k].who) ∧ wr.cell? ⟨b, off + k * 4 + 2, none⟩ = some (.slice a m c) ∧ wr.cell? ⟨b, off + k * 4 + 3, none⟩ = some (.bool L[k].may) ∧ Calls Tryz.prog 175 #[aggR L[k].deed L[k].who a m c L[k].may, .pointer (some ⟨B1, 0, none⟩), .pointer (some ⟨B2, 0, none⟩), .pointer (some ⟨B3, 0, none⟩)] wr fun e w' => e = .returned (.bool (M.goes who deed t L[k])) ∧ Below wr.heap.size wr w') := hide fun wr hb k hk => by
    obtain ⟨b, off, e, hlie⟩ := hl (by omega)
    obtain ⟨a, m, c, c1, c2, c3, c4, hv⟩ := (hlie.stays hb (Nat.le_refl _)).get hk
    exact ⟨b, off, a, m, c, e, c1, c2, c3, c4, asksR _ _ deed who a m c _ B1 B2 B3 ta tn tc L[k].like t wr ((hb.cell (p := ⟨B1, 0, none⟩) (World.block_lt_of_cell? w _ h1)).trans h1) ((hb.cell (p := ⟨B2, 0, none⟩) (World.block_lt_of_cell? w _ h2)).trans h2) ((hb.cell (p := ⟨B3, 0, none⟩) (World.block_lt_of_cell? w _ h3)).trans h3) hv (ht.stays hb (Nat.le_refl _)) (hL _ (List.getElem_mem hk)) htf⟩
  have HN := hide hn
  clear hn hl hL h1 h2 h3 ht htf
  go_enter Tryz.func174, Tryz.ntmps174
  go_wp2
  go_loopw [8] (fun i wr => ∃ k : Nat, k ≤ n ∧ i = .int .i64 k ∧ Hid (∀ j (hj : j < k) (hjl : j < L.length), M.goes who deed t L[j] = false) ∧ Hid (Below w.heap.size w wr)) (fun i _ => n - (intOf i).toNat)
  case atStart => exact ⟨0, Nat.zero_le _, rfl, hide (fun j hj => by omega), hide (Below.refl _ _)⟩
  case round =>
    obtain ⟨k, hk, rfl, hno, hbel⟩ := hrel
    by_cases hlt : k < n
    · have hkl : k < L.length := HN.out ▸ hlt
      obtain ⟨b, off, a, m, c, rfl, c1, c2, c3, c4, hC⟩ := (unhide HK) wr hbel.out k hkl
      have hbl : b < wr.heap.size := World.block_lt_of_cell? wr _ c1
      cases hb : M.goes who deed t L[k]
      · rw [hb] at hC
        have HB := hide hb
        have HC := hide hC
        clear hb hC
        generalize L[k].deed = xd at *
        generalize L[k].who = xw at *
        generalize L[k].may = xm at *
        go_wp2_with fail
        refine (unhide HC).mono ?_
        rintro e w1 ⟨rfl, hb1⟩
        have HB1 := hide (hbel.out.trans (hb1.mono hbel.out.size))
        clear hb1
        go_wp2_with fail
        go_roundw
        case rel =>
          refine ⟨k + 1, by omega, by go_num, hide (fun j hj hjl => ?_), HB1⟩
          rcases Nat.lt_succ_iff_lt_or_eq.1 hj with h | h
          · exact hno.out j h hjl
          · subst h; exact HB.out
        case measure => simp [intOf]; omega
      · rw [hb] at hC
        have HC := hide hC
        have hsp : M.spotR L who deed t = k := M.spotR_hit hkl (fun j hj => hno.out j hj (by omega)) hb
        have hfin : Hid (M.placeR L who deed t = (k : Int)) := hide (by unfold M.placeR; rw [hsp, if_pos hkl])
        clear hb hC hsp
        generalize L[k].deed = xd at *
        generalize L[k].who = xw at *
        generalize L[k].may = xm at *
        go_wp2_with fail
        refine (unhide HC).mono ?_
        rintro e w1 ⟨rfl, hb1⟩
        have HB1 := hide (hbel.out.trans (hb1.mono hbel.out.size))
        clear hb1
        go_wp2_with fail
        go_ret
        exact ⟨by rw [hfin.out]; rfl, HB1.out⟩
    · have hsp : M.spotR L who deed t = L.length := M.spotR_none (fun j hj => hno.out j (by have := HN.out; omega) hj)
      have hfin : Hid (M.placeR L who deed t = -1) := hide (by unfold M.placeR; rw [hsp, if_neg (Nat.lt_irrefl _)])
      clear hsp
      go_wp2
      go_ret
      exact ⟨by rw [hfin.out]; rfl, hbel.out⟩

/-- the place of the first that goes -/
theorem findR (av : Option Addr) (n cap : Nat) (L : List M.Rul) (who deed : Int) (ta : Option Addr) (tn tc : Nat) (t : List M.Val) (w : World) (hn : n = L.length) (h8 : n ≤ 8) (hl : AtR w av L) (hL : ∀ r ∈ L, M.likeF r.like = 0) (ht : IsVals w (.slice ta tn tc) t) (htf : M.tupF t = 0) :
    Calls Tryz.prog 153 #[.slice av n cap, .int .i64 who, .int .i64 deed, .slice ta tn tc] w fun e w' => e = .returned (.int .i64 (M.placeR L who deed t)) ∧ Below w.heap.size w w' := by
  obtain ⟨W, hW⟩ : ∃ W, W = ((w.alloc (.cells #[.int .i64 who] 3)).alloc (.cells #[.int .i64 deed] 3)).alloc (.cells #[.slice ta tn tc] 32) := ⟨_, rfl⟩
  have hb : Below w.heap.size w W := by rw [hW]; exact (((Below.refl _ _).alloc (Nat.le_refl _) _).alloc (by simp) _).alloc (by simp; omega) _
  have HI : Hid (Calls Tryz.prog 174 #[.slice av n cap, .func (.func 175) #[] #[.pointer (some ⟨w.heap.size + 1, 0, none⟩), .pointer (some ⟨w.heap.size, 0, none⟩), .pointer (some ⟨w.heap.size + 1 + 1, 0, none⟩)]] W fun e w' => e = .returned (.int .i64 (M.placeR L who deed t)) ∧ Below W.heap.size W w') := hide
    (indexR av n cap L deed who _ _ _ ta tn tc t W hn h8 (hl.stays hb (Nat.le_refl _)) hL (by rw [hW]; simp [go_sem]) (by rw [hW]; simp [go_sem]) (by rw [hW]; simp [go_sem]) (ht.stays hb (Nat.le_refl _)) htf)
  have HB := hide hb
  have HW := hide hW
  clear hn h8 hl hL ht htf hb hW
  go_enter Tryz.func153, Tryz.ntmps153
  go_wp2_with fail
  rw [← HW.out]
  refine (unhide HI).mono ?_
  rintro e w1 ⟨rfl, hb1⟩
  have HB1 := hide (HB.out.trans (hb1.mono HB.out.size))
  clear hb1
  go_wp2_with fail
  go_ret
  exact ⟨rfl, HB1.out⟩

/-- May, whatever comes in -/
theorem rMay (av : Option Addr) (n cap : Nat) (L : List M.Rul) (who deed : Int) (tv : Value) (t : List M.Val) (w : World) (hn : n = L.length) (hm : n ≤ maxLen) (hl : AtR w av L) (ht : IsVals w tv t) :
    Calls Tryz.prog 121 #[.slice av n cap, .int .i64 who, .int .i64 deed, tv] w fun e w' => e = .returned (.tuple #[.bool (M.mayR L who deed t), errV (M.mayE L who deed t)]) ∧ Below w.heap.size w w' := by
  have hC := checkAll av n cap L who deed tv t w hn hm hl ht
  by_cases hE : M.mayE L who deed t = 0
  · rw [hE] at hC ⊢
    have HC : Hid (Calls Tryz.prog 152 #[.slice av n cap, .int .i64 who, .int .i64 deed, tv] w fun e w' => e = .returned .nilIface ∧ Below w.heap.size w w') := hide hC
    show Calls Tryz.prog 121 #[.slice av n cap, .int .i64 who, .int .i64 deed, tv] w fun e w' => e = .returned (.tuple #[.bool (M.mayR L who deed t), .nilIface]) ∧ Below w.heap.size w w'
    obtain ⟨e1, e2, e3⟩ := M.mayE_ok hE
    have h8 : n ≤ 8 := by rw [hn]; exact (M.rulE_ok e1).1
    have hF : ∀ wx, Below w.heap.size w wx → Calls Tryz.prog 153 #[.slice av n cap, .int .i64 who, .int .i64 deed, tv] wx fun e w' => e = .returned (.int .i64 (M.placeR L who deed t)) ∧ Below wx.heap.size wx w' := fun wx hb => by
      obtain ⟨ta, tn, tc, rfl⟩ := ht.isSlice
      exact findR av n cap L who deed ta tn tc t wx hn h8 (hl.stays hb (Nat.le_refl _)) (M.rulE_like e1) (ht.stays hb (Nat.le_refl _)) e3
    clear hC ht
    by_cases hs : M.spotR L who deed t < L.length
    · have hp : M.placeR L who deed t = (M.spotR L who deed t : Int) := by unfold M.placeR; rw [if_pos hs]
      rw [hp] at hF
      have hR := M.mayR_hit hE hs
      rw [hR]
      obtain ⟨b, off, rfl, hlie⟩ := hl (by omega)
      have hc : ∀ wx, Below w.heap.size w wx → wx.cell? ⟨b, off + M.spotR L who deed t * 4 + 3, none⟩ = some (.bool L[M.spotR L who deed t].may) := fun wx hb => ((hlie.stays hb (Nat.le_refl _)) _ hs).2.2.2
      have hsn : M.spotR L who deed t < n := by omega
      generalize L[M.spotR L who deed t].may = my at *
      generalize M.spotR L who deed t = p at *
      have HF := hide hF
      have HCE := hide hc
      have p0 : (0 : Int) ≤ (p : Int) := by omega
      have pn : (p : Int) < (n : Int) := by omega
      clear hF hc hlie hR hp hs hE e1 e2 e3 hl hn hm
      go_enter Tryz.func121, Tryz.ntmps121
      go_wp2_with fail
      refine (unhide HC).mono ?_
      rintro e w1 ⟨rfl, hb1⟩
      have HB1 := hide hb1
      clear hb1
      go_wp2_with fail
      refine (HF.out _ HB1.out).mono ?_
      rintro e w2 ⟨rfl, hb2⟩
      have hb := HB1.out.trans (hb2.mono HB1.out.size)
      have c1 := HCE.out _ hb
      have HB2 := hide hb
      clear hb hb2
      go_wp2_with fail
      go_ret2
      exact ⟨rfl, HB2.out⟩
    · have hp : M.placeR L who deed t = -1 := by unfold M.placeR; rw [if_neg hs]
      rw [hp] at hF
      rw [M.mayR_none hE hs]
      have HF := hide hF
      clear hF hp hs hE e1 e2 e3 hl hn hm
      go_enter Tryz.func121, Tryz.ntmps121
      go_wp2_with fail
      refine (unhide HC).mono ?_
      rintro e w1 ⟨rfl, hb1⟩
      have HB1 := hide hb1
      clear hb1
      go_wp2_with fail
      refine (HF.out _ HB1.out).mono ?_
      rintro e w2 ⟨rfl, hb2⟩
      have HB2 := hide (HB1.out.trans (hb2.mono HB1.out.size))
      clear hb2
      go_wp2_with fail
      go_ret2
      exact ⟨rfl, HB2.out⟩
  · rw [M.mayR_bad hE, errV_bad hE]
    rw [errV_bad hE] at hC
    have HC := hide hC
    clear hC hE hl ht hn hm
    generalize M.mayE L who deed t = E at *
    go_enter Tryz.func121, Tryz.ntmps121
    go_wp2_with fail
    refine (unhide HC).mono ?_
    rintro e w1 ⟨rfl, hb1⟩
    go_wp2_with fail
    go_ret2
    exact ⟨rfl, hb1⟩


end Go.Proofs.YtlefhfmckimlaakGreatDoor
