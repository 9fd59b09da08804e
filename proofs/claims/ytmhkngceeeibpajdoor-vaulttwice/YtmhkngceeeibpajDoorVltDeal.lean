/-
  What deal of package vault does (what is kept of a secret), as one law of its call.
-/
import Derived.Test.YtmhkngceeeibpajDoorVltWalks
import Derived.Test.YtmhkngceeeibpajDoorJShare
import Derived.Test.YtmhkngceeeibpajDoorJProof
import Derived.Test.YtmhkngceeeibpajDoorAppTidy
set_option linter.unusedVariables false
namespace Go.Proofs.YtmhkngceeeibpajDoor
open Go.RowKit Go.WideMaps Go.Maps

/-- a box of what is kept, made ahead of a call -/
abbrev zeroK : Obj := .cells #[nilS, nilS] 57
theorem zeroK_kept {w w' : World} (h : Below (w.alloc zeroK).heap.size (w.alloc zeroK) w') : w'.cell? ⟨w.heap.size, 0, none⟩ = some nilS ∧ w'.cell? ⟨w.heap.size, 1, none⟩ = some nilS ∧ w'.frozen? ⟨w.heap.size, 0, none⟩ = false ∧ w'.frozen? ⟨w.heap.size, 1, none⟩ = false ∧ w.heap.size < w'.heap.size := by
  have hz : w.heap.size < (w.alloc zeroK).heap.size := by simp
  have hb := h.block w.heap.size hz
  have hh : w'.heap[w.heap.size]? = some zeroK := by rw [hb]; exact heap_alloc_new w zeroK
  refine ⟨?_, ?_, ?_, ?_, Nat.lt_of_lt_of_le hz h.size⟩
  · rw [cellV_of w' w.heap.size 0 _ _ hh]; rfl
  · rw [cellV_of w' w.heap.size 1 _ _ hh]; rfl
  · simp [World.frozen?, hh]
  · simp [World.frozen?, hh]
section
variable {w : World} {s : Int} {ra : Option Addr} {rn rc m : Nat} {r : List Int}
set_option maxRecDepth 100000 in
theorem vDeal_bad (hn : rn = r.length) (hm : rn ≤ maxLen) (hl : AtI w ra r) (ht : Tidy ra rn rc) (h4 : M.dealE s r m ≠ 0) :
    Calls Tryd.prog 18 #[.int .i64 s, .slice ra rn rc, .int .i64 m] w fun e w' => e = .returned (.tuple #[aggK nilS nilS, .iface 52 (.int .i64 (M.dealE s r m))]) ∧ Below w.heap.size w w' := by
  have HB1 : Hid (Below w.heap.size w (w.alloc (.cells #[nilS, nilS] 57))) := hide ((Below.refl _ _).alloc (Nat.le_refl _) _)
  have HD : Hid (Calls Tryd.prog 31 #[.int .i64 s, .slice ra rn rc, .int .i64 m] (w.alloc (.cells #[nilS, nilS] 57)) fun e w' => (∃ u k c, e = .returned (.tuple #[.slice u k c, .iface 52 (.int .i64 (M.dealE s r m))])) ∧ Below (w.alloc (.cells #[nilS, nilS] 57)).heap.size (w.alloc (.cells #[nilS, nilS] 57)) w') := hide (by
    refine (sDeal s ra rn rc r m (w.alloc (.cells #[nilS, nilS] 57)) hn hm (hl.stays HB1.out (Nat.le_refl _)) ht).mono ?_
    rintro e w' ⟨⟨u, k, c, rfl, _⟩, hb⟩
    rw [errV_bad h4]
    exact ⟨⟨u, k, c, rfl⟩, hb⟩)
  generalize M.dealE s r m = E at *
  clear hn h4 hl ht
  go_enter Tryd.func18, Tryd.ntmps18
  go_wp2_with fail
  refine (unhide HD).mono ?_
  rintro e w1 ⟨⟨u, k, c, rfl⟩, hb1⟩
  have HB2 := hide (HB1.out.trans (hb1.mono HB1.out.size))
  obtain ⟨c0, c1, f0, f1, cn⟩ := zeroK_kept hb1
  clear hb1
  go_wp2_with fail
  refine bodyPost_ret (v := .tuple #[aggK nilS nilS, .iface 52 (.int .i64 E)]) (by simp [results, Tryd.results18, go_sem, c0, c1]) rfl ⟨rfl, ?_⟩
  exact (HB2.out.setCell (p := ⟨w.heap.size, 0, none⟩) (Nat.le_refl _) _).setCell (p := ⟨w.heap.size, 1, none⟩) (Nat.le_refl _) _
set_option maxRecDepth 100000 in
set_option maxHeartbeats 1000000 in
theorem vDeal_ok (hn : rn = r.length) (hm : rn ≤ maxLen) (hl : AtI w ra r) (ht : Tidy ra rn rc) (h7 : m ≤ 7) (h4 : M.dealE s r m = 0) :
    Calls Tryd.prog 18 #[.int .i64 s, .slice ra rn rc, .int .i64 m] w fun e w' => ∃ g g2, e = .returned (.tuple #[aggK (.slice (some ⟨g, 0, none⟩) m m) (.slice (some ⟨g2, 0, none⟩) (1 + rn) (1 + rn)), .nilIface]) ∧ KeptOf w.heap.size w' m (s :: r) (.slice (some ⟨g, 0, none⟩) m m) (.slice (some ⟨g2, 0, none⟩) (1 + rn) (1 + rn)) ∧ Below w.heap.size w w' := by
  have HB1 : Hid (Below w.heap.size w (w.alloc zeroK)) := hide ((Below.refl _ _).alloc (Nat.le_refl _) _)
  obtain ⟨e1, e2, e3, e4, e5⟩ := M.dealE_ok h4
  have hs : M.secE s r = 0 := by
    by_cases q : M.secE s r = 0
    · exact q
    · rw [M.dealE_sec q] at h4; exact absurd h4 q
  have HD : Hid (Calls Tryd.prog 31 #[.int .i64 s, .slice ra rn rc, .int .i64 m] (w.alloc (.cells #[nilS, nilS] 57)) fun e w' => ∃ g, e = .returned (.tuple #[.slice (some ⟨g, 0, none⟩) m m, .nilIface]) ∧ w'.ownsRow (w.alloc zeroK).heap.size 31 2 (.slice (some ⟨g, 0, none⟩) m m) m (flatP (M.deal (s :: r) m)) ∧ Below (w.alloc zeroK).heap.size (w.alloc zeroK) w') := hide (by
    refine (dealOkO s ra rn rc r m (w.alloc zeroK) hn hm (hl.stays HB1.out (Nat.le_refl _)) ht hs (by omega) h7 (by omega)).mono ?_
    rintro e w' ⟨⟨g, rfl, ho⟩, hb⟩
    exact ⟨g, rfl, ho, hb⟩)
  have HCM : Hid (∀ wx av nv cv, nv = (s :: r).length → AtI wx av (s :: r) → Calls Tryd.prog 32 #[.slice av nv cv] wx fun e w' => ∃ g, e = .returned (.tuple #[.slice (some ⟨g, 0, none⟩) nv nv, .nilIface]) ∧ w'.ownsRow wx.heap.size 3 1 (.slice (some ⟨g, 0, none⟩) nv nv) nv (cellsI (M.commits (s :: r))) ∧ Below wx.heap.size wx w') := hide fun wx av nv cv hnv hat => by
    refine (comOkO av nv cv (s :: r) wx hnv hat (by rw [hnv]; simp) (M.facE_cons e1.1 e1.2 e2 e3)).mono ?_
    rintro e w' ⟨⟨g, rfl, ho⟩, hb⟩
    exact ⟨g, rfl, ho, hb⟩
  obtain ⟨i0, hi, hz0, hz1, hz2⟩ := info_parts infoInt
  have HI := hide (And.intro hi (And.intro hz0 (And.intro hz1 hz2)))
  have HLR := hide hl
  have HTI := hide ht
  have HRN := hide hn
  have HLE : Hid ((cellsI r).length = rn * 1) := hide (by rw [cellsI_len, ← hn, Nat.mul_one])
  have hr6 : rn ≤ 6 := by omega
  have HW1 : Hid ((w.alloc zeroK).heap.size = w.heap.size + 1) := hide (by simp)
  clear hn hm hl ht h4 hs e1 e2 e3 e4 e5 hi hz0 hz1 hz2
  go_enter Tryd.func18, Tryd.ntmps18
  go_wp2_with fail
  refine (unhide HD).mono ?_
  rintro e w1 ⟨g, rfl, ho, hb1⟩
  have HA1 := hide hb1
  have HB2 := hide (HB1.out.trans (hb1.mono HB1.out.size))
  have HSH := hide ho
  clear hb1 ho
  have HLIT : Hid ((w1.alloc (.cells #[.int .i64 s] 3)).ownsRow w1.heap.size 3 1 (.slice (some ⟨w1.heap.size, 0, none⟩) 1 1) 1 (#[Value.int .i64 s] : Array Value).toList) := hide (World.ownsRow_lit w1 #[.int .i64 s] 1 (Nat.le_refl _) (by unfold maxLen; decide) rfl)
  have HB3 : Hid (Below w.heap.size w (w1.alloc (.cells #[.int .i64 s] 3))) := hide (HB2.out.alloc HB2.out.size _)
  have HNEW : Hid (∀ ad', ra = some ad' → ∀ j u, (cellsI r)[j]? = some u → (w1.alloc (.cells #[.int .i64 s] 3)).cell? (ad'.add j) = some u) := hide (fun ad' e => by subst e; exact (HLR.out.stays HB3.out (Nat.le_refl _)).news)
  go_wp2_with (at_builtin; refine append_tidy _ rfl (.tmp 24) (.tmp 25) 22 rfl w1.heap.size 3 i0 (.int .i64 0) 1 8 Tryd.underlying22 HI.out.1 HI.out.2.1 HI.out.2.2.1 HI.out.2.2.2 rfl (by decide) (.slice (some ⟨w1.heap.size, 0, none⟩) 1 1) 1 _ rfl HLIT.out ra rn rc (cellsI r) rfl HTI.out HLE.out HNEW.out (cellsI_oneCell r) (by unfold maxLen; omega) (by omega) (by simp) ?_)
  intro v2 w2 hown hgrow
  have HB24 : Hid (Below w1.heap.size w1 w2) := hide (((Below.refl _ _).alloc (Nat.le_refl _) _).grown hgrow (by simp) (fun j hj => (HLIT.out.lt j hj).1))
  obtain ⟨a2, c2', hv2', _, _, hat2⟩ := atI_own (l := s :: r) (by rw [HRN.out, List.length_cons]; omega) hown
  subst hv2'
  have HCA := hide (HCM.out w2 a2 (1 + rn) c2' (by rw [HRN.out, List.length_cons]; omega) hat2)
  clear hown hgrow hat2
  go_wp2_with fail
  refine (unhide HCA).mono ?_
  rintro e w3 ⟨g2, rfl, ho3, hb3⟩
  have HA2 : Hid (Below w1.heap.size w1 w3) := hide (HB24.out.trans (hb3.mono HB24.out.size))
  have HA3 : Hid (Below (w.alloc zeroK).heap.size (w.alloc zeroK) w3) := hide (HA1.out.trans (HA2.out.mono HA1.out.size))
  have HR1 : Hid (w3.ownsRow (w.alloc zeroK).heap.size 31 2 (.slice (some ⟨g, 0, none⟩) m m) m (flatP (M.deal (s :: r) m))) := hide (rowV_at HSH.out (fun i hi => by
    obtain ⟨_, cc, fr, hh⟩ := rowV_tag HSH.out hi
    exact HA2.out.block i (heapV_lt hh)))
  have HR2 : Hid (w3.ownsRow (w.alloc zeroK).heap.size 3 1 (.slice (some ⟨g2, 0, none⟩) (1 + rn) (1 + rn)) (1 + rn) (cellsI (M.commits (s :: r)))) := hide (rowV_mono ho3 (Nat.le_trans HA1.out.size HB24.out.size))
  have HEND : Hid (∀ u1 u2 : Value, KeptOf w.heap.size ((w3.setCell ⟨w.heap.size, 0, none⟩ u1).setCell ⟨w.heap.size, 1, none⟩ u2) m (s :: r) (.slice (some ⟨g, 0, none⟩) m m) (.slice (some ⟨g2, 0, none⟩) (1 + rn) (1 + rn)) ∧ Below w.heap.size w ((w3.setCell ⟨w.heap.size, 0, none⟩ u1).setCell ⟨w.heap.size, 1, none⟩ u2)) := hide fun u1 u2 => by
    have hk : ∀ i, (w.alloc zeroK).heap.size ≤ i → ((w3.setCell ⟨w.heap.size, 0, none⟩ u1).setCell ⟨w.heap.size, 1, none⟩ u2).heap[i]? = w3.heap[i]? := fun i hi => by
      have hne : i ≠ w.heap.size := by have := HW1.out; omega
      rw [Below.heap_setCell _ _ _ _ hne, Below.heap_setCell _ _ _ _ hne]
    refine ⟨⟨rowV_mono (rowV_at HR1.out (fun i hi => hk i (rowV_tag HR1.out hi).1)) (by have := HW1.out; omega), ?_⟩, ((HB1.out.trans (HA3.out.mono HB1.out.size)).setCell (p := ⟨w.heap.size, 0, none⟩) (Nat.le_refl _) _).setCell (p := ⟨w.heap.size, 1, none⟩) (Nat.le_refl _) _⟩
    have e : (s :: r).length = 1 + rn := by rw [HRN.out, List.length_cons]; omega
    rw [e]
    exact rowV_mono (rowV_at HR2.out (fun i hi => hk i (rowV_tag HR2.out hi).1)) (by have := HW1.out; omega)
  obtain ⟨c0, c1, f0, f1, cn⟩ := zeroK_kept HA3.out
  clear ho3 hb3 HCA
  go_wp2_with fail
  refine bodyPost_ret (v := .tuple #[aggK (.slice (some ⟨g, 0, none⟩) m m) (.slice (some ⟨g2, 0, none⟩) (1 + rn) (1 + rn)), .nilIface]) (by simp [results, Tryd.results18, go_sem, c0, c1]) rfl ⟨g, g2, rfl, (HEND.out _ _).1, (HEND.out _ _).2⟩
end

end Go.Proofs.YtmhkngceeeibpajDoor
