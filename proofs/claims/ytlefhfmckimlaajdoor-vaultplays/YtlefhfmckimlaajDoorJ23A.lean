/-
  What Commit of package proof does, as one law of its call.
  A row of the call's own, to which a slice that came in is appended, be it nil or not: as one law for the walk.
  What deal of package vault does (what is kept of a secret), as one law of its call.
-/
import Derived.Test.YtlefhfmckimlaajDoorProofCheck
import Derived.Laws.AppendOwnNone
import Derived.Laws.AppendOwn
import Derived.Test.YtlefhfmckimlaajDoorJ17A
import Derived.Test.YtlefhfmckimlaajDoorShareDeal2
set_option linter.unusedVariables false
namespace Go.Proofs.YtlefhfmckimlaajDoor
open Go.RowKit

theorem made_ints : ∀ m : Nat, m ≤ 7 → (madeCells #[.int .i64 0] m).toList = cellsI (List.replicate m 0)
  | 0, _ => by kernel_rfl
  | 1, _ => by kernel_rfl
  | 2, _ => by kernel_rfl
  | 3, _ => by kernel_rfl
  | 4, _ => by kernel_rfl
  | 5, _ => by kernel_rfl
  | 6, _ => by kernel_rfl
  | 7, _ => by kernel_rfl
  | m + 8, h => absurd h (by omega)
/-- what is committed to so far, and nothing behind it -/
def halfC (p : List Int) (k : Nat) : List Int := M.commits (p.take k) ++ List.replicate (p.length - k) 0
theorem halfC_len (p : List Int) {k : Nat} (h : k ≤ p.length) : (halfC p k).length = p.length := by
  unfold halfC; rw [List.length_append, M.commits_len, List.length_replicate, List.length_take]; omega
theorem halfC_zero (p : List Int) : halfC p 0 = List.replicate p.length 0 := rfl
theorem halfC_all (p : List Int) : halfC p p.length = M.commits p := by
  unfold halfC; rw [Nat.sub_self, List.replicate_zero, List.append_nil, List.take_of_length_le (Nat.le_refl _)]
theorem halfC_next (p : List Int) {k : Nat} (h : k < p.length) : (halfC p k).set k (M.gI p[k]) = halfC p (k + 1) := by
  unfold halfC
  have e : p.length - k = (p.length - (k + 1)) + 1 := by omega
  have hl : (M.commits (p.take k)).length = k := by rw [M.commits_len, List.length_take]; omega
  rw [e, List.replicate_succ, List.set_append_right _ _ (by rw [hl]; exact Nat.le_refl _), hl, Nat.sub_self, List.set_cons_zero, List.take_succ_eq_append_getElem h, M.commits_snoc, List.append_assoc, List.singleton_append]
theorem cellsI_set (l : List Int) (i : Nat) (z : Int) : (cellsI l).set i (.int .i64 z) = cellsI (l.set i z) := by
  unfold cellsI; rw [List.map_set]

theorem comNone (a : Option Addr) (cap : Nat) (w : World) :
    Calls Tryd.prog 43 #[.slice a 0 cap] w fun e w' => e = .returned (.tuple #[.slice none 0 0, .iface 66 (.int .i64 5)]) ∧ Below w.heap.size w w' := by
  go_enter Tryd.func43, Tryd.ntmps43
  go_wp2
  go_ret2
  exact ⟨rfl, Below.refl _ _⟩

theorem comFac (a : Option Addr) (n cap : Nat) (p : List Int) (w : World) (hn : n = p.length) (hm : n ≤ maxLen) (hl : AtI w a p) (h0 : n ≠ 0) (hf : M.facE p ≠ 0) :
    Calls Tryd.prog 43 #[.slice a n cap] w fun e w' => e = .returned (.tuple #[.slice none 0 0, .iface 66 (.int .i64 (M.facE p))]) ∧ Below w.heap.size w w' := by
  have HA : Hid (Calls Tryd.prog 66 #[.slice a n cap, .int .i64 0] w fun e w' => e = .returned (.tuple #[.int .i64 (M.atR p 0), .iface 66 (.int .i64 (M.facE p))]) ∧ Below w.heap.size w w') := hide (by
    have := pAt a n cap p 0 w hn hm hl
    rwa [M.atE_fac hf, errV_bad hf] at this)
  have hz : ¬ (n : Int) = 0 := by omega
  unfold maxLen at hm
  clear hn hl hf h0
  go_enter Tryd.func43, Tryd.ntmps43
  go_wp2_with fail
  refine (unhide HA).mono ?_
  rintro e w1 ⟨rfl, hb1⟩
  go_wp2_with fail
  go_ret2
  exact ⟨rfl, hb1⟩

set_option maxRecDepth 100000 in
set_option maxHeartbeats 2000000 in
theorem comOkO (a : Option Addr) (n cap : Nat) (p : List Int) (w : World) (hn : n = p.length) (hl : AtI w a p) (h0 : n ≠ 0) (hf : M.facE p = 0) :
    Calls Tryd.prog 43 #[.slice a n cap] w fun e w' => (∃ g, e = .returned (.tuple #[.slice (some ⟨g, 0, none⟩) n n, .nilIface]) ∧ w'.ownsRow w.heap.size 3 1 (.slice (some ⟨g, 0, none⟩) n n) n (cellsI (M.commits p))) ∧ Below w.heap.size w w' := by
  obtain ⟨i0, hi, hz0, hz1, hz2⟩ := info_parts infoInt
  have HI := hide (And.intro hi (And.intro hz0 (And.intro hz1 hz2)))
  obtain ⟨h7, hr⟩ := M.facE_ok hf
  have hn7 : n ≤ 7 := by omega
  have HA : Hid (Calls Tryd.prog 66 #[.slice a n cap, .int .i64 0] w fun e w' => e = .returned (.tuple #[.int .i64 (M.atR p 0), .nilIface]) ∧ Below w.heap.size w w') := hide (by
    have := pAt a n cap p 0 w hn (by unfold maxLen; omega) hl
    rwa [M.atE_0 hf (by decide)] at this)
  have hz : ¬ (n : Int) = 0 := by omega
  obtain ⟨b, off, rfl, hlie⟩ := hl (by omega)
  have HL := hide hlie
  have HN := hide hn
  have HR := hide hr
  clear hi hz0 hz1 hz2 hlie hn hr hl hf h7
  go_enter Tryd.func43, Tryd.ntmps43
  go_wp2_with fail
  refine (unhide HA).mono ?_
  rintro e w0 ⟨rfl, hb0⟩
  have HB0 := hide hb0
  clear hb0 HA
  go_wp2_with (at_make; refine wpList_make_full _ rfl (.tmp 24) (.tmp 24) 22 rfl w0.heap.size 3 i0 (.int .i64 0) 1 Tryd.underlying22 HI.out.1 HI.out.2.1 HI.out.2.2.1 .i64 .i64 _ _ n rfl rfl rfl rfl (by rw [HI.out.2.2.2]; omega) (by unfold maxLen; omega) (Nat.le_refl _) ?_)
  intro w1 hown hgrow
  rw [made_ints n hn7, show cellsI (List.replicate n 0) = cellsI (halfC p 0) by rw [halfC_zero, HN.out]] at hown
  have HO := hide hown
  have HB := hide ((Below.refl w0.heap.size w0).grown hgrow (Nat.le_refl _) (fun k hk => by cases hk))
  clear hown hgrow
  go_wp2
  go_loopw [28] (fun si wr => ∃ k : Nat, si = .int .i64 k ∧ k ≤ n ∧ Hid (wr.ownsRow w0.heap.size 3 1 (.slice (some ⟨w0.heap.size, 0, none⟩) n n) n (cellsI (halfC p k))) ∧ Hid (Below w0.heap.size w0 wr)) (fun si _ => n - (intOf si).toNat)
  case atStart => exact ⟨0, rfl, Nat.zero_le _, HO, HB⟩
  case round =>
    obtain ⟨k, rfl, hk, hrow, hbel⟩ := hrel
    by_cases hlt : k < n
    · have hkl : k < p.length := by have := HN.out; omega
      have d1 := ((HL.out.stays HB0.out (Nat.le_refl _)).stays hbel.out (Nat.le_refl _)) k hkl
      obtain ⟨z0, z1⟩ := HR.out k hkl
      have HX := hide (halfC_next p hkl)
      generalize p[k] = z at d1 z0 z1 HX
      have HC : Hid (Calls Tryd.prog 50 #[.int .i64 z] wr fun e w' => e = .returned (.tuple #[.int .i64 (M.gI z), .nilIface]) ∧ w' = wr) := hide (commitTo z wr z0 z1)
      generalize M.gI z = y at HC HX
      have hkh : k < (halfC p k).length := by rw [halfC_len p (by omega)]; exact hkl
      have c1 : wr.cell? ⟨w0.heap.size, k, none⟩ = some (.int .i64 (halfC p k)[k]) := by rw [hrow.out.cellAt k (by omega), cellsI_at hkh]
      have f1 : wr.frozen? ⟨w0.heap.size, k, none⟩ = false := hrow.out.frozenAt _
      generalize (halfC p k)[k] = o1 at c1
      have hg : w0.heap.size < wr.heap.size := World.block_lt_of_cell? wr _ c1
      clear z0 z1 hkh
      go_wp2_with fail
      refine (unhide HC).mono ?_
      rintro e w2 ⟨rfl, hw⟩
      obtain rfl := hw.symm
      go_wp2_with fail
      go_roundw
      case rel => exact ⟨k + 1, by go_num, by omega, hide (by rw [← HX.out, ← cellsI_set]; exact (hrow.out.stored k (.int .i64 y)).1), hide (hbel.out.setCell (p := ⟨w0.heap.size, k, none⟩) (Nat.le_refl _) _)⟩
      case measure => simp [intOf]; omega
    · have hkm : k = p.length := by have := HN.out; omega
      rw [hkm, halfC_all] at hrow
      clear hkm
      go_wp2_with fail
      go_ret2
      refine ⟨⟨_, rfl, hrow.out.1, ?_⟩, HB0.out.trans (hbel.out.mono HB0.out.size)⟩
      rcases hrow.out.2 with q | ⟨g, cap, cur, hv, hg, hh, r⟩
      · exact Or.inl q
      · exact Or.inr ⟨g, cap, cur, hv, Nat.le_trans HB0.out.size hg, hh, r⟩
theorem comOk (a : Option Addr) (n cap : Nat) (p : List Int) (w : World) (hn : n = p.length) (hl : AtI w a p) (h0 : n ≠ 0) (hf : M.facE p = 0) :
    Calls Tryd.prog 43 #[.slice a n cap] w fun e w' => (∃ g, e = .returned (.tuple #[.slice (some ⟨g, 0, none⟩) n n, .nilIface]) ∧ AtI w' (some ⟨g, 0, none⟩) (M.commits p)) ∧ Below w.heap.size w w' := by
  refine (comOkO a n cap p w hn hl h0 hf).mono ?_
  rintro e w' ⟨⟨g, rfl, hrow⟩, hb⟩
  refine ⟨⟨g, rfl, ?_⟩, hb⟩
  obtain ⟨av, cv, hv, _, _, hat⟩ := atI_own (by rw [M.commits_len]; exact hn) hrow
  cases hv
  exact hat

/-- Commit, whatever comes in -/
theorem pCommit (a : Option Addr) (n cap : Nat) (p : List Int) (w : World) (hn : n = p.length) (hm : n ≤ maxLen) (hl : AtI w a p) :
    Calls Tryd.prog 43 #[.slice a n cap] w fun e w' => (∃ v k c, e = .returned (.tuple #[.slice v k c, errV (M.comE p)]) ∧ k = (M.comR p).length ∧ k ≤ c ∧ c ≤ maxLen ∧ AtI w' v (M.comR p)) ∧ Below w.heap.size w w' := by
  have bad : ∀ {E : Int} {w' : World}, E ≠ 0 → M.comE p = E → ∃ v k c, Ending.returned (.tuple #[.slice none 0 0, .iface 66 (.int .i64 E)]) = .returned (.tuple #[.slice v k c, errV (M.comE p)]) ∧ k = (M.comR p).length ∧ k ≤ c ∧ c ≤ maxLen ∧ AtI w' v (M.comR p) := fun {E w'} hE h => by
    rw [M.comR_bad (by rw [h]; exact hE), h, errV_bad hE]
    exact ⟨none, 0, 0, rfl, rfl, Nat.le_refl _, Nat.zero_le _, fun h0 => absurd h0 (by decide)⟩
  by_cases h0 : n = 0
  · subst h0
    refine (comNone a cap w).mono ?_
    rintro e w' ⟨rfl, hb⟩
    exact ⟨bad (by decide) (M.comE_none hn.symm), hb⟩
  · have hE := M.comE_some (p := p) (by omega)
    by_cases hf : M.facE p = 0
    · have e0 : M.comE p = 0 := by rw [hE]; exact hf
      rw [e0, M.comR_ok e0]
      have h7 := (M.facE_ok hf).1
      refine (comOk a n cap p w hn hl h0 hf).mono ?_
      rintro e w' ⟨⟨g, rfl, hat⟩, hb⟩
      exact ⟨⟨some ⟨g, 0, none⟩, n, n, rfl, by rw [M.commits_len]; exact hn, Nat.le_refl _, by unfold maxLen; omega, hat⟩, hb⟩
    · refine (comFac a n cap p w hn hm hl h0 hf).mono ?_
      rintro e w' ⟨rfl, hb⟩
      exact ⟨bad hf hE, hb⟩

end Go.Proofs.YtlefhfmckimlaajDoor

set_option linter.unusedVariables false
namespace Go.Proofs.YtlefhfmckimlaajDoor
open Go

theorem append_tidy {P : Program} (w : World) {ops : Array Oper} {rest : List Oper} {o : Oper} {a : Act} {Q : Exit → Act → World → Prop} (hgd : o.guard = none) (s x : Operand) (t : TypeId)
    (ho : o.op = .call { callee := .builtin .append, args := #[s, x], argTypes := #[t, t] })
    (base : Nat) (e : TypeId) (i : TypeInfo) (z : Value) (size bytes : Nat) (ht : P.underlying t = some (.slice e)) (hi : P.info? e = some i) (hz : i.zero = some z)
    (hsize : i.size = size) (hby : i.bytes = bytes) (hzs : z.cells.size = size) (hsz : 0 < size)
    (v : Value) (n : Nat) (xs : List Value) (hs : a.eval s = v) (hown : w.ownsRow base e size v n xs)
    (ad : Option Addr) (m c : Nat) (news : List Value) (hx : a.eval x = .slice ad m c) (htidy : ad = none → m = 0 ∧ c = 0) (hl : news.length = m * size) (hnews : ∀ ad', ad = some ad' → ∀ j u, news[j]? = some u → w.cell? (ad'.add j) = some u) (h1 : ∀ u ∈ news, u.oneCell' = true)
    (h63 : n + m ≤ maxLen) (hbytes : (n + m) * bytes ≤ 140737488355328) (hbase : base ≤ w.heap.size)
    (h : ∀ v' w', w'.ownsRow base e size v' (n + m) (xs ++ news) → w.grownBy w' v.ownBlock → wpList P ops Q rest (a.put o.dst v') w') : wpList P ops Q (o :: rest) a w := by
  cases ad with
  | none =>
    obtain ⟨rfl, rfl⟩ := htidy rfl
    have hnil : news = [] := List.length_eq_zero_iff.1 (by rw [hl, Nat.zero_mul])
    subst hnil
    exact wpList_append_own_none hgd s x t ho base e i size ht hi v n xs hs hown hx (h v w (by rw [List.append_nil]; exact hown) ⟨rfl, rfl, rfl, Nat.le_refl _, fun _ _ _ => rfl⟩)
  | some ad' =>
    exact wpList_append_own w hgd s x t ho base e i z size bytes ht hi hz hsize hby hzs hsz v n xs hs hown ad' m c news hx hl (hnews ad' rfl) h1 h63 hbytes hbase fun v' w' g1 g2 _ => h v' w' g1 g2

end Go.Proofs.YtlefhfmckimlaajDoor

set_option linter.unusedVariables false
namespace Go.Proofs.YtlefhfmckimlaajDoor
open Go.RowKit Go.WideMaps Go.Maps

/-- a box of what is kept, made ahead of a call -/
abbrev zeroK : Obj := .cells #[nilS, nilS] 71
theorem zeroK_kept {w w' : World} (h : Below (w.alloc zeroK).heap.size (w.alloc zeroK) w') : w'.cell? ⟨w.heap.size, 0, none⟩ = some nilS ∧ w'.cell? ⟨w.heap.size, 1, none⟩ = some nilS ∧ w'.frozen? ⟨w.heap.size, 0, none⟩ = false ∧ w'.frozen? ⟨w.heap.size, 1, none⟩ = false ∧ w.heap.size < w'.heap.size := by
  have hz : w.heap.size < (w.alloc zeroK).heap.size := by simp
  have hb := h.block w.heap.size hz
  have hh : w'.heap[w.heap.size]? = some zeroK := by rw [hb]; exact heap_alloc_new w zeroK
  refine ⟨?_, ?_, ?_, ?_, Nat.lt_of_lt_of_le hz h.size⟩
  · rw [cellV_of w' w.heap.size 0 _ _ hh]; rfl
  · rw [cellV_of w' w.heap.size 1 _ _ hh]; rfl
  · simp [World.frozen?, hh]
  · simp [World.frozen?, hh]
section
variable {w : World} {s : Int} {ra : Option Addr} {rn rc m : Nat} {r : List Int}
set_option maxRecDepth 100000 in
theorem vDeal_bad (hn : rn = r.length) (hm : rn ≤ maxLen) (hl : AtI w ra r) (ht : Tidy ra rn rc) (h4 : M.dealE s r m ≠ 0) :
    Calls Tryd.prog 23 #[.int .i64 s, .slice ra rn rc, .int .i64 m] w fun e w' => e = .returned (.tuple #[aggK nilS nilS, .iface 66 (.int .i64 (M.dealE s r m))]) ∧ Below w.heap.size w w' := by
  have HB1 : Hid (Below w.heap.size w (w.alloc (.cells #[nilS, nilS] 71))) := hide ((Below.refl _ _).alloc (Nat.le_refl _) _)
  have HD : Hid (Calls Tryd.prog 42 #[.int .i64 s, .slice ra rn rc, .int .i64 m] (w.alloc (.cells #[nilS, nilS] 71)) fun e w' => (∃ u k c, e = .returned (.tuple #[.slice u k c, .iface 66 (.int .i64 (M.dealE s r m))])) ∧ Below (w.alloc (.cells #[nilS, nilS] 71)).heap.size (w.alloc (.cells #[nilS, nilS] 71)) w') := hide (by
    refine (sDeal s ra rn rc r m (w.alloc (.cells #[nilS, nilS] 71)) hn hm (hl.stays HB1.out (Nat.le_refl _)) ht).mono ?_
    rintro e w' ⟨⟨u, k, c, rfl, _⟩, hb⟩
    rw [errV_bad h4]
    exact ⟨⟨u, k, c, rfl⟩, hb⟩)
  generalize M.dealE s r m = E at *
  clear hn h4 hl ht
  go_enter Tryd.func23, Tryd.ntmps23
  go_wp2_with fail
  refine (unhide HD).mono ?_
  rintro e w1 ⟨⟨u, k, c, rfl⟩, hb1⟩
  have HB2 := hide (HB1.out.trans (hb1.mono HB1.out.size))
  obtain ⟨c0, c1, f0, f1, cn⟩ := zeroK_kept hb1
  clear hb1
  go_wp2_with fail
  refine bodyPost_ret (v := .tuple #[aggK nilS nilS, .iface 66 (.int .i64 E)]) (by simp [results, Tryd.results23, go_sem, c0, c1]) rfl ⟨rfl, ?_⟩
  exact (HB2.out.setCell (p := ⟨w.heap.size, 0, none⟩) (Nat.le_refl _) _).setCell (p := ⟨w.heap.size, 1, none⟩) (Nat.le_refl _) _
set_option maxRecDepth 100000 in
set_option maxHeartbeats 1000000 in
theorem vDeal_ok (hn : rn = r.length) (hm : rn ≤ maxLen) (hl : AtI w ra r) (ht : Tidy ra rn rc) (h7 : m ≤ 7) (h4 : M.dealE s r m = 0) :
    Calls Tryd.prog 23 #[.int .i64 s, .slice ra rn rc, .int .i64 m] w fun e w' => ∃ g g2, e = .returned (.tuple #[aggK (.slice (some ⟨g, 0, none⟩) m m) (.slice (some ⟨g2, 0, none⟩) (1 + rn) (1 + rn)), .nilIface]) ∧ KeptOf w.heap.size w' m (s :: r) (.slice (some ⟨g, 0, none⟩) m m) (.slice (some ⟨g2, 0, none⟩) (1 + rn) (1 + rn)) ∧ Below w.heap.size w w' := by
  have HB1 : Hid (Below w.heap.size w (w.alloc zeroK)) := hide ((Below.refl _ _).alloc (Nat.le_refl _) _)
  obtain ⟨e1, e2, e3, e4, e5⟩ := M.dealE_ok h4
  have hs : M.secE s r = 0 := by
    by_cases q : M.secE s r = 0
    · exact q
    · rw [M.dealE_sec q] at h4; exact absurd h4 q
  have HD : Hid (Calls Tryd.prog 42 #[.int .i64 s, .slice ra rn rc, .int .i64 m] (w.alloc (.cells #[nilS, nilS] 71)) fun e w' => ∃ g, e = .returned (.tuple #[.slice (some ⟨g, 0, none⟩) m m, .nilIface]) ∧ w'.ownsRow (w.alloc zeroK).heap.size 31 2 (.slice (some ⟨g, 0, none⟩) m m) m (flatP (M.deal (s :: r) m)) ∧ Below (w.alloc zeroK).heap.size (w.alloc zeroK) w') := hide (by
    refine (dealOkO s ra rn rc r m (w.alloc zeroK) hn hm (hl.stays HB1.out (Nat.le_refl _)) ht hs (by omega) h7 (by omega)).mono ?_
    rintro e w' ⟨⟨g, rfl, ho⟩, hb⟩
    exact ⟨g, rfl, ho, hb⟩)
  have HCM : Hid (∀ wx av nv cv, nv = (s :: r).length → AtI wx av (s :: r) → Calls Tryd.prog 43 #[.slice av nv cv] wx fun e w' => ∃ g, e = .returned (.tuple #[.slice (some ⟨g, 0, none⟩) nv nv, .nilIface]) ∧ w'.ownsRow wx.heap.size 3 1 (.slice (some ⟨g, 0, none⟩) nv nv) nv (cellsI (M.commits (s :: r))) ∧ Below wx.heap.size wx w') := hide fun wx av nv cv hnv hat => by
    refine (comOkO av nv cv (s :: r) wx hnv hat (by rw [hnv]; simp) (M.facE_cons e1.1 e1.2 e2 e3)).mono ?_
    rintro e w' ⟨⟨g, rfl, ho⟩, hb⟩
    exact ⟨g, rfl, ho, hb⟩
  obtain ⟨i0, hi, hz0, hz1, hz2⟩ := info_parts infoInt
  have HI := hide (And.intro hi (And.intro hz0 (And.intro hz1 hz2)))
  have HLR := hide hl
  have HTI := hide ht
  have HRN := hide hn
  have HLE : Hid ((cellsI r).length = rn * 1) := hide (by rw [cellsI_len, ← hn, Nat.mul_one])
  have hr6 : rn ≤ 6 := by omega
  have HW1 : Hid ((w.alloc zeroK).heap.size = w.heap.size + 1) := hide (by simp)
  clear hn hm hl ht h4 hs e1 e2 e3 e4 e5 hi hz0 hz1 hz2
  go_enter Tryd.func23, Tryd.ntmps23
  go_wp2_with fail
  refine (unhide HD).mono ?_
  rintro e w1 ⟨g, rfl, ho, hb1⟩
  have HA1 := hide hb1
  have HB2 := hide (HB1.out.trans (hb1.mono HB1.out.size))
  have HSH := hide ho
  clear hb1 ho
  have HLIT : Hid ((w1.alloc (.cells #[.int .i64 s] 3)).ownsRow w1.heap.size 3 1 (.slice (some ⟨w1.heap.size, 0, none⟩) 1 1) 1 (#[Value.int .i64 s] : Array Value).toList) := hide (World.ownsRow_lit w1 #[.int .i64 s] 1 (Nat.le_refl _) (by unfold maxLen; decide) rfl)
  have HB3 : Hid (Below w.heap.size w (w1.alloc (.cells #[.int .i64 s] 3))) := hide (HB2.out.alloc HB2.out.size _)
  have HNEW : Hid (∀ ad', ra = some ad' → ∀ j u, (cellsI r)[j]? = some u → (w1.alloc (.cells #[.int .i64 s] 3)).cell? (ad'.add j) = some u) := hide (fun ad' e => by subst e; exact (HLR.out.stays HB3.out (Nat.le_refl _)).news)
  go_wp2_with (at_builtin; refine append_tidy _ rfl (.tmp 24) (.tmp 25) 22 rfl w1.heap.size 3 i0 (.int .i64 0) 1 8 Tryd.underlying22 HI.out.1 HI.out.2.1 HI.out.2.2.1 HI.out.2.2.2 rfl (by decide) (.slice (some ⟨w1.heap.size, 0, none⟩) 1 1) 1 _ rfl HLIT.out ra rn rc (cellsI r) rfl HTI.out HLE.out HNEW.out (cellsI_oneCell r) (by unfold maxLen; omega) (by omega) (by simp) ?_)
  intro v2 w2 hown hgrow
  have HB24 : Hid (Below w1.heap.size w1 w2) := hide (((Below.refl _ _).alloc (Nat.le_refl _) _).grown hgrow (by simp) (fun j hj => (HLIT.out.lt j hj).1))
  obtain ⟨a2, c2', hv2', _, _, hat2⟩ := atI_own (l := s :: r) (by rw [HRN.out, List.length_cons]; omega) hown
  subst hv2'
  have HCA := hide (HCM.out w2 a2 (1 + rn) c2' (by rw [HRN.out, List.length_cons]; omega) hat2)
  clear hown hgrow hat2
  go_wp2_with fail
  refine (unhide HCA).mono ?_
  rintro e w3 ⟨g2, rfl, ho3, hb3⟩
  have HA2 : Hid (Below w1.heap.size w1 w3) := hide (HB24.out.trans (hb3.mono HB24.out.size))
  have HA3 : Hid (Below (w.alloc zeroK).heap.size (w.alloc zeroK) w3) := hide (HA1.out.trans (HA2.out.mono HA1.out.size))
  have HR1 : Hid (w3.ownsRow (w.alloc zeroK).heap.size 31 2 (.slice (some ⟨g, 0, none⟩) m m) m (flatP (M.deal (s :: r) m))) := hide (rowV_at HSH.out (fun i hi => by
    obtain ⟨_, cc, fr, hh⟩ := rowV_tag HSH.out hi
    exact HA2.out.block i (heapV_lt hh)))
  have HR2 : Hid (w3.ownsRow (w.alloc zeroK).heap.size 3 1 (.slice (some ⟨g2, 0, none⟩) (1 + rn) (1 + rn)) (1 + rn) (cellsI (M.commits (s :: r)))) := hide (rowV_mono ho3 (Nat.le_trans HA1.out.size HB24.out.size))
  have HEND : Hid (∀ u1 u2 : Value, KeptOf w.heap.size ((w3.setCell ⟨w.heap.size, 0, none⟩ u1).setCell ⟨w.heap.size, 1, none⟩ u2) m (s :: r) (.slice (some ⟨g, 0, none⟩) m m) (.slice (some ⟨g2, 0, none⟩) (1 + rn) (1 + rn)) ∧ Below w.heap.size w ((w3.setCell ⟨w.heap.size, 0, none⟩ u1).setCell ⟨w.heap.size, 1, none⟩ u2)) := hide fun u1 u2 => by
    have hk : ∀ i, (w.alloc zeroK).heap.size ≤ i → ((w3.setCell ⟨w.heap.size, 0, none⟩ u1).setCell ⟨w.heap.size, 1, none⟩ u2).heap[i]? = w3.heap[i]? := fun i hi => by
      have hne : i ≠ w.heap.size := by have := HW1.out; omega
      rw [Below.heap_setCell _ _ _ _ hne, Below.heap_setCell _ _ _ _ hne]
    refine ⟨⟨rowV_mono (rowV_at HR1.out (fun i hi => hk i (rowV_tag HR1.out hi).1)) (by have := HW1.out; omega), ?_⟩, ((HB1.out.trans (HA3.out.mono HB1.out.size)).setCell (p := ⟨w.heap.size, 0, none⟩) (Nat.le_refl _) _).setCell (p := ⟨w.heap.size, 1, none⟩) (Nat.le_refl _) _⟩
    have e : (s :: r).length = 1 + rn := by rw [HRN.out, List.length_cons]; omega
    rw [e]
    exact rowV_mono (rowV_at HR2.out (fun i hi => hk i (rowV_tag HR2.out hi).1)) (by have := HW1.out; omega)
  obtain ⟨c0, c1, f0, f1, cn⟩ := zeroK_kept HA3.out
  clear ho3 hb3 HCA
  go_wp2_with fail
  refine bodyPost_ret (v := .tuple #[aggK (.slice (some ⟨g, 0, none⟩) m m) (.slice (some ⟨g2, 0, none⟩) (1 + rn) (1 + rn)), .nilIface]) (by simp [results, Tryd.results23, go_sem, c0, c1]) rfl ⟨g, g2, rfl, (HEND.out _ _).1, (HEND.out _ _).2⟩
end

end Go.Proofs.YtlefhfmckimlaajDoor
