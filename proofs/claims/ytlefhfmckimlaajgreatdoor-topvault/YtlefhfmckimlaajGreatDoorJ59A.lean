/-
  A row of the call's own, to which a slice that came in is appended, be it nil or not: as one law for the walk.
  What deal of package vault does (what is kept of a secret), as one law of its call.
  What Put of package vault does, as one law of its call.
-/
import Derived.Laws.AppendOwnNone
import Derived.Laws.AppendOwn
import Derived.Test.YtlefhfmckimlaajGreatDoorJ55A
import Derived.Test.YtlefhfmckimlaajGreatDoorJ58A
import Derived.Test.YtlefhfmckimlaajGreatDoorShelf
import Derived.Deep.RegionHeld3
import Derived.Deep.CutRange
set_option linter.unusedVariables false
namespace Go.Proofs.YtlefhfmckimlaajGreatDoor
open Go

theorem append_tidy {P : Program} (w : World) {ops : Array Oper} {rest : List Oper} {o : Oper} {a : Act} {Q : Exit → Act → World → Prop} (hgd : o.guard = none) (s x : Operand) (t : TypeId)
    (ho : o.op = .call { callee := .builtin .append, args := #[s, x], argTypes := #[t, t] })
    (base : Nat) (e : TypeId) (i : TypeInfo) (z : Value) (size bytes : Nat) (ht : P.underlying t = some (.slice e)) (hi : P.info? e = some i) (hz : i.zero = some z)
    (hsize : i.size = size) (hby : i.bytes = bytes) (hzs : z.cells.size = size) (hsz : 0 < size)
    (v : Value) (n : Nat) (xs : List Value) (hs : a.eval s = v) (hown : w.ownsRow base e size v n xs)
    (ad : Option Addr) (m c : Nat) (news : List Value) (hx : a.eval x = .slice ad m c) (htidy : ad = none → m = 0 ∧ c = 0) (hl : news.length = m * size) (hnews : ∀ ad', ad = some ad' → ∀ j u, news[j]? = some u → w.cell? (ad'.add j) = some u) (h1 : ∀ u ∈ news, u.oneCell' = true)
    (h63 : n + m ≤ maxLen) (hbytes : (n + m) * bytes ≤ 140737488355328) (hbase : base ≤ w.heap.size)
    (h : ∀ v' w', w'.ownsRow base e size v' (n + m) (xs ++ news) → w.grownBy w' v.ownBlock → wpList P ops Q rest (a.put o.dst v') w') : wpList P ops Q (o :: rest) a w := by
  cases ad with
  | none =>
    obtain ⟨rfl, rfl⟩ := htidy rfl
    have hnil : news = [] := List.length_eq_zero_iff.1 (by rw [hl, Nat.zero_mul])
    subst hnil
    exact wpList_append_own_none hgd s x t ho base e i size ht hi v n xs hs hown hx (h v w (by rw [List.append_nil]; exact hown) ⟨rfl, rfl, rfl, Nat.le_refl _, fun _ _ _ => rfl⟩)
  | some ad' =>
    exact wpList_append_own w hgd s x t ho base e i z size bytes ht hi hz hsize hby hzs hsz v n xs hs hown ad' m c news hx hl (hnews ad' rfl) h1 h63 hbytes hbase fun v' w' g1 g2 _ => h v' w' g1 g2

end Go.Proofs.YtlefhfmckimlaajGreatDoor

set_option linter.unusedVariables false
namespace Go.Proofs.YtlefhfmckimlaajGreatDoor
open Go.RowKit Go.WideMaps Go.Maps

/-- a box of what is kept, made ahead of a call -/
abbrev zeroK : Obj := .cells #[nilS, nilS] 73
theorem zeroK_kept {w w' : World} (h : Below (w.alloc zeroK).heap.size (w.alloc zeroK) w') : w'.cell? ⟨w.heap.size, 0, none⟩ = some nilS ∧ w'.cell? ⟨w.heap.size, 1, none⟩ = some nilS ∧ w'.frozen? ⟨w.heap.size, 0, none⟩ = false ∧ w'.frozen? ⟨w.heap.size, 1, none⟩ = false ∧ w.heap.size < w'.heap.size := by
  have hz : w.heap.size < (w.alloc zeroK).heap.size := by simp
  have hb := h.block w.heap.size hz
  have hh : w'.heap[w.heap.size]? = some zeroK := by rw [hb]; exact heap_alloc_new w zeroK
  refine ⟨?_, ?_, ?_, ?_, Nat.lt_of_lt_of_le hz h.size⟩
  · rw [cellV_of w' w.heap.size 0 _ _ hh]; rfl
  · rw [cellV_of w' w.heap.size 1 _ _ hh]; rfl
  · simp [World.frozen?, hh]
  · simp [World.frozen?, hh]
section
variable {w : World} {s : Int} {ra : Option Addr} {rn rc m : Nat} {r : List Int}
set_option maxRecDepth 100000 in
theorem vDeal_bad (hn : rn = r.length) (hm : rn ≤ maxLen) (hl : AtI w ra r) (ht : Tidy ra rn rc) (h4 : M.dealE s r m ≠ 0) :
    Calls Tryz.prog 25 #[.int .i64 s, .slice ra rn rc, .int .i64 m] w fun e w' => e = .returned (.tuple #[aggK nilS nilS, .iface 66 (.int .i64 (M.dealE s r m))]) ∧ Below w.heap.size w w' := by
  have HB1 : Hid (Below w.heap.size w (w.alloc (.cells #[nilS, nilS] 73))) := hide ((Below.refl _ _).alloc (Nat.le_refl _) _)
  have HD : Hid (Calls Tryz.prog 52 #[.int .i64 s, .slice ra rn rc, .int .i64 m] (w.alloc (.cells #[nilS, nilS] 73)) fun e w' => (∃ u k c, e = .returned (.tuple #[.slice u k c, .iface 66 (.int .i64 (M.dealE s r m))])) ∧ Below (w.alloc (.cells #[nilS, nilS] 73)).heap.size (w.alloc (.cells #[nilS, nilS] 73)) w') := hide (by
    refine (sDeal s ra rn rc r m (w.alloc (.cells #[nilS, nilS] 73)) hn hm (hl.stays HB1.out (Nat.le_refl _)) ht).mono ?_
    rintro e w' ⟨⟨u, k, c, rfl, _⟩, hb⟩
    rw [errV_bad h4]
    exact ⟨⟨u, k, c, rfl⟩, hb⟩)
  generalize M.dealE s r m = E at *
  clear hn h4 hl ht
  go_enter Tryz.func25, Tryz.ntmps25
  go_wp2_with fail
  refine (unhide HD).mono ?_
  rintro e w1 ⟨⟨u, k, c, rfl⟩, hb1⟩
  have HB2 := hide (HB1.out.trans (hb1.mono HB1.out.size))
  obtain ⟨c0, c1, f0, f1, cn⟩ := zeroK_kept hb1
  clear hb1
  go_wp2_with fail
  refine bodyPost_ret (v := .tuple #[aggK nilS nilS, .iface 66 (.int .i64 E)]) (by simp [results, Tryz.results25, go_sem, c0, c1]) rfl ⟨rfl, ?_⟩
  exact (HB2.out.setCell (p := ⟨w.heap.size, 0, none⟩) (Nat.le_refl _) _).setCell (p := ⟨w.heap.size, 1, none⟩) (Nat.le_refl _) _
set_option maxRecDepth 100000 in
set_option maxHeartbeats 1000000 in
theorem vDeal_ok (hn : rn = r.length) (hm : rn ≤ maxLen) (hl : AtI w ra r) (ht : Tidy ra rn rc) (h7 : m ≤ 7) (h4 : M.dealE s r m = 0) :
    Calls Tryz.prog 25 #[.int .i64 s, .slice ra rn rc, .int .i64 m] w fun e w' => ∃ g g2, e = .returned (.tuple #[aggK (.slice (some ⟨g, 0, none⟩) m m) (.slice (some ⟨g2, 0, none⟩) (1 + rn) (1 + rn)), .nilIface]) ∧ KeptOf w.heap.size w' m (s :: r) (.slice (some ⟨g, 0, none⟩) m m) (.slice (some ⟨g2, 0, none⟩) (1 + rn) (1 + rn)) ∧ Below w.heap.size w w' := by
  have HB1 : Hid (Below w.heap.size w (w.alloc zeroK)) := hide ((Below.refl _ _).alloc (Nat.le_refl _) _)
  obtain ⟨e1, e2, e3, e4, e5⟩ := M.dealE_ok h4
  have hs : M.secE s r = 0 := by
    by_cases q : M.secE s r = 0
    · exact q
    · rw [M.dealE_sec q] at h4; exact absurd h4 q
  have HD : Hid (Calls Tryz.prog 52 #[.int .i64 s, .slice ra rn rc, .int .i64 m] (w.alloc (.cells #[nilS, nilS] 73)) fun e w' => ∃ g, e = .returned (.tuple #[.slice (some ⟨g, 0, none⟩) m m, .nilIface]) ∧ w'.ownsRow (w.alloc zeroK).heap.size 37 2 (.slice (some ⟨g, 0, none⟩) m m) m (flatP (M.deal (s :: r) m)) ∧ Below (w.alloc zeroK).heap.size (w.alloc zeroK) w') := hide (by
    refine (dealOkO s ra rn rc r m (w.alloc zeroK) hn hm (hl.stays HB1.out (Nat.le_refl _)) ht hs (by omega) h7 (by omega)).mono ?_
    rintro e w' ⟨⟨g, rfl, ho⟩, hb⟩
    exact ⟨g, rfl, ho, hb⟩)
  have HCM : Hid (∀ wx av nv cv, nv = (s :: r).length → AtI wx av (s :: r) → Calls Tryz.prog 53 #[.slice av nv cv] wx fun e w' => ∃ g, e = .returned (.tuple #[.slice (some ⟨g, 0, none⟩) nv nv, .nilIface]) ∧ w'.ownsRow wx.heap.size 3 1 (.slice (some ⟨g, 0, none⟩) nv nv) nv (cellsI (M.commits (s :: r))) ∧ Below wx.heap.size wx w') := hide fun wx av nv cv hnv hat => by
    refine (comOkO av nv cv (s :: r) wx hnv hat (by rw [hnv]; simp) (M.facE_cons e1.1 e1.2 e2 e3)).mono ?_
    rintro e w' ⟨⟨g, rfl, ho⟩, hb⟩
    exact ⟨g, rfl, ho, hb⟩
  obtain ⟨i0, hi, hz0, hz1, hz2⟩ := info_parts infoInt
  have HI := hide (And.intro hi (And.intro hz0 (And.intro hz1 hz2)))
  have HLR := hide hl
  have HTI := hide ht
  have HRN := hide hn
  have HLE : Hid ((cellsI r).length = rn * 1) := hide (by rw [cellsI_len, ← hn, Nat.mul_one])
  have hr6 : rn ≤ 6 := by omega
  have HW1 : Hid ((w.alloc zeroK).heap.size = w.heap.size + 1) := hide (by simp)
  clear hn hm hl ht h4 hs e1 e2 e3 e4 e5 hi hz0 hz1 hz2
  go_enter Tryz.func25, Tryz.ntmps25
  go_wp2_with fail
  refine (unhide HD).mono ?_
  rintro e w1 ⟨g, rfl, ho, hb1⟩
  have HA1 := hide hb1
  have HB2 := hide (HB1.out.trans (hb1.mono HB1.out.size))
  have HSH := hide ho
  clear hb1 ho
  have HLIT : Hid ((w1.alloc (.cells #[.int .i64 s] 3)).ownsRow w1.heap.size 3 1 (.slice (some ⟨w1.heap.size, 0, none⟩) 1 1) 1 (#[Value.int .i64 s] : Array Value).toList) := hide (World.ownsRow_lit w1 #[.int .i64 s] 1 (Nat.le_refl _) (by unfold maxLen; decide) rfl)
  have HB3 : Hid (Below w.heap.size w (w1.alloc (.cells #[.int .i64 s] 3))) := hide (HB2.out.alloc HB2.out.size _)
  have HNEW : Hid (∀ ad', ra = some ad' → ∀ j u, (cellsI r)[j]? = some u → (w1.alloc (.cells #[.int .i64 s] 3)).cell? (ad'.add j) = some u) := hide (fun ad' e => by subst e; exact (HLR.out.stays HB3.out (Nat.le_refl _)).news)
  go_wp2_with (at_builtin; refine append_tidy _ rfl (.tmp 24) (.tmp 25) 23 rfl w1.heap.size 3 i0 (.int .i64 0) 1 8 Tryz.underlying23 HI.out.1 HI.out.2.1 HI.out.2.2.1 HI.out.2.2.2 rfl (by decide) (.slice (some ⟨w1.heap.size, 0, none⟩) 1 1) 1 _ rfl HLIT.out ra rn rc (cellsI r) rfl HTI.out HLE.out HNEW.out (cellsI_oneCell r) (by unfold maxLen; omega) (by omega) (by simp) ?_)
  intro v2 w2 hown hgrow
  have HB24 : Hid (Below w1.heap.size w1 w2) := hide (((Below.refl _ _).alloc (Nat.le_refl _) _).grown hgrow (by simp) (fun j hj => (HLIT.out.lt j hj).1))
  obtain ⟨a2, c2', hv2', _, _, hat2⟩ := atI_own (l := s :: r) (by rw [HRN.out, List.length_cons]; omega) hown
  subst hv2'
  have HCA := hide (HCM.out w2 a2 (1 + rn) c2' (by rw [HRN.out, List.length_cons]; omega) hat2)
  clear hown hgrow hat2
  go_wp2_with fail
  refine (unhide HCA).mono ?_
  rintro e w3 ⟨g2, rfl, ho3, hb3⟩
  have HA2 : Hid (Below w1.heap.size w1 w3) := hide (HB24.out.trans (hb3.mono HB24.out.size))
  have HA3 : Hid (Below (w.alloc zeroK).heap.size (w.alloc zeroK) w3) := hide (HA1.out.trans (HA2.out.mono HA1.out.size))
  have HR1 : Hid (w3.ownsRow (w.alloc zeroK).heap.size 37 2 (.slice (some ⟨g, 0, none⟩) m m) m (flatP (M.deal (s :: r) m))) := hide (rowV_at HSH.out (fun i hi => by
    obtain ⟨_, cc, fr, hh⟩ := rowV_tag HSH.out hi
    exact HA2.out.block i (heapV_lt hh)))
  have HR2 : Hid (w3.ownsRow (w.alloc zeroK).heap.size 3 1 (.slice (some ⟨g2, 0, none⟩) (1 + rn) (1 + rn)) (1 + rn) (cellsI (M.commits (s :: r)))) := hide (rowV_mono ho3 (Nat.le_trans HA1.out.size HB24.out.size))
  have HEND : Hid (∀ u1 u2 : Value, KeptOf w.heap.size ((w3.setCell ⟨w.heap.size, 0, none⟩ u1).setCell ⟨w.heap.size, 1, none⟩ u2) m (s :: r) (.slice (some ⟨g, 0, none⟩) m m) (.slice (some ⟨g2, 0, none⟩) (1 + rn) (1 + rn)) ∧ Below w.heap.size w ((w3.setCell ⟨w.heap.size, 0, none⟩ u1).setCell ⟨w.heap.size, 1, none⟩ u2)) := hide fun u1 u2 => by
    have hk : ∀ i, (w.alloc zeroK).heap.size ≤ i → ((w3.setCell ⟨w.heap.size, 0, none⟩ u1).setCell ⟨w.heap.size, 1, none⟩ u2).heap[i]? = w3.heap[i]? := fun i hi => by
      have hne : i ≠ w.heap.size := by have := HW1.out; omega
      rw [Below.heap_setCell _ _ _ _ hne, Below.heap_setCell _ _ _ _ hne]
    refine ⟨⟨rowV_mono (rowV_at HR1.out (fun i hi => hk i (rowV_tag HR1.out hi).1)) (by have := HW1.out; omega), ?_⟩, ((HB1.out.trans (HA3.out.mono HB1.out.size)).setCell (p := ⟨w.heap.size, 0, none⟩) (Nat.le_refl _) _).setCell (p := ⟨w.heap.size, 1, none⟩) (Nat.le_refl _) _⟩
    have e : (s :: r).length = 1 + rn := by rw [HRN.out, List.length_cons]; omega
    rw [e]
    exact rowV_mono (rowV_at HR2.out (fun i hi => hk i (rowV_tag HR2.out hi).1)) (by have := HW1.out; omega)
  obtain ⟨c0, c1, f0, f1, cn⟩ := zeroK_kept HA3.out
  clear ho3 hb3 HCA
  go_wp2_with fail
  refine bodyPost_ret (v := .tuple #[aggK (.slice (some ⟨g, 0, none⟩) m m) (.slice (some ⟨g2, 0, none⟩) (1 + rn) (1 + rn)), .nilIface]) (by simp [results, Tryz.results25, go_sem, c0, c1]) rfl ⟨g, g2, rfl, (HEND.out _ _).1, (HEND.out _ _).2⟩
end

end Go.Proofs.YtlefhfmckimlaajGreatDoor

set_option linter.unusedVariables false
namespace Go.Proofs.YtlefhfmckimlaajGreatDoor
open Go.RowKit Go.WideMaps Go.Maps

theorem cloneN (s : ByteArray) (w : World) (hs : s.size ≤ 281474976710656) : Calls Tryz.prog 26 #[.string s] w fun e w' => e = .returned (.string s) ∧ Below w.heap.size w w' := by
  go_enter Tryz.func26, Tryz.ntmps26
  go_wp2_with fail
  refine (Tryz.stringslite_Clone s _ hs).mono ?_
  rintro e w1 ⟨rfl, hb⟩
  go_wp2_with fail
  go_ret
  exact ⟨rfl, hb⟩

section
variable {base : Nat} {w : World} {F : Nat → Prop} {V : Nat} {v : M.Vlt} {a : ByteArray} {s : Int} {ra : Option Addr} {rn rc : Nat} {r : List Int}
theorem vPut_long (h : VtIs base w F V v) (ha : a.size ≤ maxLen) (h1 : 12 < a.size) :
    Calls Tryz.prog 8 #[.pointer (some ⟨V, 0, none⟩), .string a, .int .i64 s, .slice ra rn rc] w fun e w' => e = .returned (errV 4) ∧ Below w.heap.size w w' := by
  rw [errV_bad (by decide)]
  have i1 : (12 : Int) < (a.size : Int) := by omega
  unfold maxLen at ha
  clear h h1
  go_enter Tryz.func8, Tryz.ntmps8
  go_wp2_with fail
  go_ret
  exact ⟨rfl, Below.refl _ _⟩
theorem vPut_there (h : VtIs base w F V v) (h1 : ¬ 12 < a.size) (h2 : (v.g a).isSome = true) :
    Calls Tryz.prog 8 #[.pointer (some ⟨V, 0, none⟩), .string a, .int .i64 s, .slice ra rn rc] w fun e w' => e = .returned (errV 7) ∧ Below w.heap.size w w' := by
  obtain ⟨B, K, rfl, hc⟩ := h.is
  obtain ⟨p, hg⟩ := Option.isSome_iff_exists.1 h2
  obtain ⟨sa, sc, ca, cc, hlk, _, _⟩ := hc.lookYes a (by unfold maxLen; omega) hg
  obtain ⟨c0, c1, c2, cn⟩ := hc.cells
  rw [errV_bad (by decide)]
  have i1 : ¬ (12 : Int) < (a.size : Int) := by omega
  clear h h1 h2 hc hg
  go_enter Tryz.func8, Tryz.ntmps8
  go_wp2_with fail
  go_ret
  exact ⟨rfl, (Below.refl _ _).alloc (Nat.le_refl _) _⟩
set_option maxRecDepth 100000 in
theorem vPut_shape (h : VtIs base w F V v) (h1 : ¬ 12 < a.size) (h2 : v.g a = none) (hn : rn = r.length) (hm : rn ≤ maxLen) (h3 : r.length + 1 ≠ v.need) :
    Calls Tryz.prog 8 #[.pointer (some ⟨V, 0, none⟩), .string a, .int .i64 s, .slice ra rn rc] w fun e w' => e = .returned (errV 3) ∧ Below w.heap.size w w' := by
  obtain ⟨B, K, rfl, hc⟩ := h.is
  have hlk := hc.lookNo a (by unfold maxLen; omega) h2
  obtain ⟨c0, c1, c2, cn⟩ := hc.cells
  have HB1 : Hid (Below w.heap.size w (w.alloc (.cells #[nilS, nilS] 73))) := hide ((Below.refl _ _).alloc (Nat.le_refl _) _)
  have HV1 := hide (hc.quiet HB1.out)
  obtain ⟨d0, d1, d2, dn⟩ := HV1.out.cells
  have i1 : ¬ (12 : Int) < (a.size : Int) := by omega
  have hv1 := h.ok.one
  have hv2 := h.ok.le
  have hv3 := h.ok.seven
  rw [errV_bad (by decide)]
  obtain ⟨q, hq⟩ : ∃ q : Nat, v.need = q + 1 := ⟨v.need - 1, by omega⟩
  rw [hq] at c1 d1
  have c1' : w.cell? ⟨V, 1, none⟩ = some (.int .i64 ((q : Int) + 1)) := c1
  have d1' : (w.alloc (.cells #[nilS, nilS] 73)).cell? ⟨V, 1, none⟩ = some (.int .i64 ((q : Int) + 1)) := d1
  have i2 : ((rn : Int) == (q : Int)) = false := by simp; omega
  have i4 : q ≤ 7 := by omega
  unfold maxLen at hm
  clear h h1 h2 hc hn h3 HV1 hq c1 d1 hv1 hv2 hv3
  go_enter Tryz.func8, Tryz.ntmps8
  go_wp2_with fail
  go_ret
  exact ⟨rfl, HB1.out⟩
theorem vPut_deal (h : VtIs base w F V v) (h1 : ¬ 12 < a.size) (h2 : v.g a = none) (hn : rn = r.length) (hm : rn ≤ maxLen) (hl : AtI w ra r) (ht : Tidy ra rn rc) (h3 : r.length + 1 = v.need) (h4 : M.dealE s r v.many ≠ 0) :
    Calls Tryz.prog 8 #[.pointer (some ⟨V, 0, none⟩), .string a, .int .i64 s, .slice ra rn rc] w fun e w' => e = .returned (errV (M.dealE s r v.many)) ∧ Below w.heap.size w w' := by
  obtain ⟨B, K, rfl, hc⟩ := h.is
  have hlk := hc.lookNo a (by unfold maxLen; omega) h2
  obtain ⟨c0, c1, c2, cn⟩ := hc.cells
  have HB1 : Hid (Below w.heap.size w (w.alloc (.cells #[nilS, nilS] 73))) := hide ((Below.refl _ _).alloc (Nat.le_refl _) _)
  have HV1 := hide (hc.quiet HB1.out)
  obtain ⟨d0, d1, d2, dn⟩ := HV1.out.cells
  have i1 : ¬ (12 : Int) < (a.size : Int) := by omega
  have hv1 := h.ok.one
  have hv2 := h.ok.le
  have hv3 := h.ok.seven
  have HD : Hid (Calls Tryz.prog 25 #[.int .i64 s, .slice ra rn rc, .int .i64 v.many] (w.alloc (.cells #[nilS, nilS] 73)) fun e w' => e = .returned (.tuple #[aggK nilS nilS, .iface 66 (.int .i64 (M.dealE s r v.many))]) ∧ Below w.heap.size w w') := hide (by
    refine (vDeal_bad hn hm (hl.stays HB1.out (Nat.le_refl _)) ht h4).mono ?_
    rintro e w' ⟨rfl, hb⟩
    exact ⟨rfl, HB1.out.trans (hb.mono HB1.out.size)⟩)
  rw [errV_bad h4]
  have i2 : (rn : Int) = (v.need : Int) - 1 := by omega
  have i3 : ((rn : Int) == (v.need : Int) - 1) = true := by simp; omega
  generalize M.dealE s r v.many = E at *
  unfold maxLen at hm
  generalize v.need = nd at *
  generalize v.many = mn at *
  clear h h1 h2 hc hn h3 h4 hl ht HV1
  go_enter Tryz.func8, Tryz.ntmps8
  go_wp2_with fail
  refine (unhide HD).mono ?_
  rintro e w1 ⟨rfl, hb1⟩
  have HB2 := hide hb1
  clear hb1
  go_wp2_with fail
  go_ret
  exact ⟨rfl, HB2.out.alloc HB2.out.size _⟩
theorem dealN (h : VtIs base w F V v) (hn : rn = r.length) (hm : rn ≤ maxLen) (hl : AtI w ra r) (ht : Tidy ra rn rc) (h4 : M.dealE s r v.many = 0) :
    Calls Tryz.prog 25 #[.int .i64 s, .slice ra rn rc, .int .i64 v.many] (w.alloc (.cells #[nilS, nilS] 73)) fun e w' => ∃ g g2, e = .returned (.tuple #[aggK (.slice (some ⟨g, 0, none⟩) v.many v.many) (.slice (some ⟨g2, 0, none⟩) (1 + rn) (1 + rn)), .nilIface]) ∧ KeptOf w.heap.size w' v.many (s :: r) (.slice (some ⟨g, 0, none⟩) v.many v.many) (.slice (some ⟨g2, 0, none⟩) (1 + rn) (1 + rn)) ∧ Below w.heap.size w w' := by
  have hb1 : Below w.heap.size w (w.alloc (.cells #[nilS, nilS] 73)) := (Below.refl _ _).alloc (Nat.le_refl _) _
  refine (vDeal_ok hn hm (hl.stays hb1 (Nat.le_refl _)) ht h.ok.seven h4).mono ?_
  rintro e w' ⟨g, g2, rfl, hk, hb⟩
  exact ⟨g, g2, rfl, ⟨rowV_mono hk.shares hb1.size, rowV_mono hk.commits hb1.size⟩, hb1.trans (hb.mono hb1.size)⟩
theorem vPut_full (h : VtIs base w F V v) (h1 : ¬ 12 < a.size) (h2 : v.g a = none) (hn : rn = r.length) (hm : rn ≤ maxLen) (hl : AtI w ra r) (ht : Tidy ra rn rc) (h3 : r.length + 1 = v.need) (h4 : M.dealE s r v.many = 0) (h5 : 20 ≤ v.n) :
    Calls Tryz.prog 8 #[.pointer (some ⟨V, 0, none⟩), .string a, .int .i64 s, .slice ra rn rc] w fun e w' => e = .returned (errV 4) ∧ Below w.heap.size w w' := by
  obtain ⟨B, K, rfl, hc⟩ := h.is
  have hlk := hc.lookNo a (by unfold maxLen; omega) h2
  obtain ⟨c0, c1, c2, cn⟩ := hc.cells
  have HB1 : Hid (Below w.heap.size w (w.alloc (.cells #[nilS, nilS] 73))) := hide ((Below.refl _ _).alloc (Nat.le_refl _) _)
  have HV1 := hide (hc.quiet HB1.out)
  obtain ⟨d0, d1, d2, dn⟩ := HV1.out.cells
  have i1 : ¬ (12 : Int) < (a.size : Int) := by omega
  have hv1 := h.ok.one
  have hv2 := h.ok.le
  have hv3 := h.ok.seven
  have HD := hide (dealN h hn hm hl ht h4)
  rw [errV_bad (by decide)]
  have i2 : (rn : Int) = (v.need : Int) - 1 := by omega
  have i3 : ((rn : Int) == (v.need : Int) - 1) = true := by simp; omega
  have i4 : (20 : Int) ≤ (v.n : Int) := by omega
  have h20 := h.ok.twenty
  have HVB : Hid (∀ wx, Below w.heap.size w wx → Vt base wx V B v K) := hide fun wx hb => hc.quiet hb
  unfold maxLen at hm
  clear h h1 h2 hn h3 h4 hl ht HV1 h5 hc
  have HAL : Hid (∀ wx o, Below w.heap.size w wx → Below w.heap.size w (wx.alloc o)) := hide fun wx o hb => hb.alloc hb.size o
  go_enter Tryz.func8, Tryz.ntmps8
  go_wp2_with fail
  refine (unhide HD).mono ?_
  rintro e w1 ⟨g, g2, rfl, ho, hb1⟩
  have HB2 := hide (HAL.out w1 (.cells #[.slice (some ⟨g, 0, none⟩) v.many v.many, .slice (some ⟨g2, 0, none⟩) (1 + rn) (1 + rn)] 73) hb1)
  have HV2 := hide (HVB.out _ HB2.out)
  clear hb1 ho
  obtain ⟨f0, f1, f2, fn⟩ := HV2.out.cells
  have hlen := HV2.out.len
  go_wp2_with fail
  go_ret
  exact ⟨rfl, HB2.out⟩
set_option maxRecDepth 100000 in
set_option maxHeartbeats 1000000 in
theorem vPut_did (h : VtIs base w F V v) (h1 : ¬ 12 < a.size) (h2 : v.g a = none) (hn : rn = r.length) (hm : rn ≤ maxLen) (hl : AtI w ra r) (ht : Tidy ra rn rc) (h3 : r.length + 1 = v.need) (h4 : M.dealE s r v.many = 0) (h5 : ¬ 20 ≤ v.n) :
    Calls Tryz.prog 8 #[.pointer (some ⟨V, 0, none⟩), .string a, .int .i64 s, .slice ra rn rc] w fun e w' => e = .returned .nilIface ∧ ∃ F', VtIs base w' F' V (M.vputV v a s r) ∧ Tc F w w' ∧ Gr w F F' := by
  have hE := M.vputE_0 (s := s) (r := r) h1 h2 h3 h4 h5
  have HOK : Hid ((M.vputV v a s r).Ok) := hide h.ok.put
  have HVV : Hid (M.vputV v a s r = ⟨v.many, v.need, fun b => if b = a then some (s :: r) else v.g b, v.n + 1⟩) := hide (by unfold M.vputV; rw [if_pos hE])
  obtain ⟨B, K, rfl, hc⟩ := h.is
  have hlk := hc.lookNo a (by unfold maxLen; omega) h2
  obtain ⟨c0, c1, c2, cn⟩ := hc.cells
  have HB1 : Hid (Below w.heap.size w (w.alloc (.cells #[nilS, nilS] 73))) := hide ((Below.refl _ _).alloc (Nat.le_refl _) _)
  have HV1 := hide (hc.quiet HB1.out)
  obtain ⟨d0, d1, d2, dn⟩ := HV1.out.cells
  have i1 : ¬ (12 : Int) < (a.size : Int) := by omega
  have hv1 := h.ok.one
  have hv2 := h.ok.le
  have hv3 := h.ok.seven
  have HD := hide (dealN h hn hm hl ht h4)
  have i2 : (rn : Int) = (v.need : Int) - 1 := by omega
  have i3 : ((rn : Int) == (v.need : Int) - 1) = true := by simp; omega
  have i4 : ¬ (20 : Int) ≤ (v.n : Int) := by omega
  have h20 := h.ok.twenty
  have HVB : Hid (∀ wx, Below w.heap.size w wx → Vt base wx V B v K) := hide fun wx hb => hc.quiet hb
  have HFO : Hid (∀ b, vtF V B v K b → b < w.heap.size) := hide hc.highs
  have HNO := hide h2
  have HBASE := hide hc.base_le
  have HNX : Hid (v.n < maxLen) := hide (by unfold maxLen; omega)
  have HCL : Hid (∀ wx, Calls Tryz.prog 26 #[.string a] wx fun e w' => e = .returned (.string a) ∧ Below wx.heap.size wx w') := hide fun wx => cloneN _ wx (by omega)
  have HA12 : Hid (a.size ≤ maxLen) := hide (by unfold maxLen; omega)
  have HAL : Hid (∀ wx o, Below w.heap.size w wx → Below w.heap.size w (wx.alloc o)) := hide fun wx o hb => hb.alloc hb.size o
  unfold maxLen at hm
  clear h h1 h2 hn h3 h4 hl ht HV1 h5 hc hE
  go_enter Tryz.func8, Tryz.ntmps8
  go_wp2_with fail
  refine (unhide HD).mono ?_
  rintro e w1 ⟨g, g2, rfl, ho, hb1⟩
  obtain ⟨w3, hw3⟩ : ∃ w3, w3 = w1.alloc (.cells #[.slice (some ⟨g, 0, none⟩) v.many v.many, .slice (some ⟨g2, 0, none⟩) (1 + rn) (1 + rn)] 73) := ⟨_, rfl⟩
  have hb13 : Below w1.heap.size w1 w3 := by rw [hw3]; exact (Below.refl _ _).alloc (Nat.le_refl _) _
  have HB5 : Hid (Below w.heap.size w w3) := hide (hb1.trans (hb13.mono hb1.size))
  have HV3 := hide (HVB.out _ HB5.out)
  have HKO : Hid (∀ wx, Below w3.heap.size w3 wx → KeptOf base wx v.many (s :: r) (.slice (some ⟨g, 0, none⟩) v.many v.many) (.slice (some ⟨g2, 0, none⟩) (1 + rn) (1 + rn))) := hide fun wx hbx => by
    have hx := hb13.trans (hbx.mono hb13.size)
    refine ⟨rowV_mono (rowV_at ho.shares (fun i hi => ?_)) HBASE.out, rowV_mono (rowV_at ho.commits (fun i hi => ?_)) HBASE.out⟩
    · obtain ⟨_, cc, fr, hh⟩ := rowV_tag ho.shares hi
      exact hx.block i (heapV_lt hh)
    · obtain ⟨_, cc, fr, hh⟩ := rowV_tag ho.commits hi
      exact hx.block i (heapV_lt hh)
  have HNW : Hid (w.heap.size ≤ g ∧ w.heap.size ≤ g2) := hide ⟨(rowV_tag ho.shares (g := g) rfl).1, (rowV_tag ho.commits (g := g2) rfl).1⟩
  have HBX : Hid (∀ wx, Below w3.heap.size w3 wx → wx.cell? ⟨w1.heap.size, 0, none⟩ = some (.slice (some ⟨g, 0, none⟩) v.many v.many) ∧ wx.cell? ⟨w1.heap.size, 1, none⟩ = some (.slice (some ⟨g2, 0, none⟩) (1 + rn) (1 + rn)) ∧ w1.heap.size < wx.heap.size) := hide fun wx hb => by
    have e0 : w3.heap.size = w1.heap.size + 1 := by rw [hw3]; simp
    have e1 : w3.cell? ⟨w1.heap.size, 0, none⟩ = some (.slice (some ⟨g, 0, none⟩) v.many v.many) := by rw [hw3]; simp [go_sem]
    have e2 : w3.cell? ⟨w1.heap.size, 1, none⟩ = some (.slice (some ⟨g2, 0, none⟩) (1 + rn) (1 + rn)) := by rw [hw3]; simp [go_sem]
    have := hb.size
    exact ⟨(hb.cell (p := ⟨w1.heap.size, 0, none⟩) (by simp; omega)).trans e1, (hb.cell (p := ⟨w1.heap.size, 1, none⟩) (by simp; omega)).trans e2, by omega⟩
  have HUP : Hid (∀ wx, Below w3.heap.size w3 wx → ∃ w4, (Instr.mapUpdate 67 (.map (some B)) (.string a) (aggK (.slice (some ⟨g, 0, none⟩) v.many v.many) (.slice (some ⟨g2, 0, none⟩) (1 + rn) (1 + rn)))).run Tryz.prog wx = .ok () w4 ∧ Vt base w4 V B ⟨v.many, v.need, fun b => if b = a then some (s :: r) else v.g b, v.n + 1⟩ (fun b => if b = a then (.slice (some ⟨g, 0, none⟩) v.many v.many, .slice (some ⟨g2, 0, none⟩) (1 + rn) (1 + rn)) else K b) ∧ Tc (vtF V B v K) wx w4) := hide fun wx hbx => (HV3.out.quiet hbx).put HA12.out HNX.out HNO.out (HKO.out wx hbx)
  have HOFF : Hid (∀ wx w4, w1.heap.size < wx.heap.size → Tc (vtF V B v K) wx w4 → ∀ j, w4.cell? ⟨w1.heap.size, j, none⟩ = wx.cell? ⟨w1.heap.size, j, none⟩) := hide fun wx w4 hlt ht j => World.cell?_of_block (w := wx) (a := ⟨w1.heap.size, j, none⟩) (ht.block w1.heap.size hlt (fun hF => by have := HFO.out _ hF; have := hb1.size; omega))
  obtain ⟨f0, f1, f2, fn⟩ := HV3.out.cells
  obtain ⟨b0, b1, bn⟩ := HBX.out w3 (Below.refl _ _)
  have hlen := HV3.out.len
  have HW3 := hide hw3
  clear hb1 ho hb13 c0 c1 c2 cn d0 d1 d2 dn hw3
  go_upto_region 11 with fail
  rw [← HW3.out]
  clear HW3
  go_wp2_with fail
  go_region_held3 (fun w' => w'.cell? ⟨V, 2, none⟩ = some (.map (some B)) ∧ w'.cell? ⟨w1.heap.size, 0, none⟩ = some (.slice (some ⟨g, 0, none⟩) v.many v.many) ∧ w'.cell? ⟨w1.heap.size, 1, none⟩ = some (.slice (some ⟨g2, 0, none⟩) (1 + rn) (1 + rn))) (first | go_keep | assumption)
    (first
      | (go_at_call 26; refine (HCL.out _).mono ?_; rintro e w5 ⟨rfl, hb5⟩; have HB6 := hide (((Below.refl w3.heap.size w3).drew).trans (show Below w3.heap.size w3.drew w5 from hb5)); obtain ⟨t0, t1, t2, tn⟩ := (HV3.out.quiet HB6.out).cells; obtain ⟨t3, t4, t5⟩ := HBX.out w5 HB6.out; obtain ⟨w4, hr4, hc4, ht4⟩ := HUP.out w5 HB6.out; have HC4 := hide hc4; have HT4 := hide (ht4.after (HB5.out.trans (HB6.out.mono HB5.out.size))); have u2 := hc4.cells.2.2.1; have u3 := (HOFF.out w5 w4 t5 ht4 0).trans t3; have u4 := (HOFF.out w5 w4 t5 ht4 1).trans t4; clear hb5 hc4 ht4))
  go_wp2_with fail
  go_ret
  refine ⟨rfl, _, ⟨HOK.out, B, _, rfl, by rw [HVV.out]; exact HC4.out⟩, HT4.out, fun i hi => ?_⟩
  rw [HVV.out] at hi
  rcases hi with rfl | rfl | ⟨b, p, hp, hi⟩
  · exact Or.inl (Or.inl rfl)
  · exact Or.inl (Or.inr (Or.inl rfl))
  · by_cases e : b = a
    · subst e
      simp only [if_pos] at hi
      rcases hi with hi | hi
      · have e2 : g = i := by simpa [Value.ownBlock] using hi
        exact Or.inr (by rw [← e2]; exact HNW.out.1)
      · have e2 : g2 = i := by simpa [Value.ownBlock] using hi
        exact Or.inr (by rw [← e2]; exact HNW.out.2)
    · simp only [if_neg e] at hp hi
      exact Or.inl (Or.inr (Or.inr ⟨b, p, hp, hi⟩))
end

end Go.Proofs.YtlefhfmckimlaajGreatDoor
