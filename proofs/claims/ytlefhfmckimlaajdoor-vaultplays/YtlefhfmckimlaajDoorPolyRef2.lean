/-
  What the document's own Next does with points that are right (Neville's table, in a row of its own), as one law of its call.
-/
import Derived.Test.YtlefhfmckimlaajDoorJ33A
import Derived.Test.YtlefhfmckimlaajDoorJ12A
import Derived.Laws.OwnMore
import Derived.Deep.RegionWith
import Derived.Deep.RegionHeld3
import Derived.Deep.DrawnRows
set_option linter.unusedVariables false
namespace Go.Proofs.YtlefhfmckimlaajDoor
open Go.RowKit
attribute [local go_sem ↓] Go.wp_at_zero Go.wp_at_succ

/-- the cells of some numbers, in a row -/
def rowI (l : List Int) : List Value := l.map fun x => .int .i64 x
theorem rowI_at {l : List Int} {j : Nat} (h : j < l.length) : (rowI l)[j]? = some (.int .i64 l[j]) := by simp [rowI, h]
theorem rowI_snoc (l : List Int) (x : Int) : rowI (l ++ [x]) = rowI l ++ [.int .i64 x] := by simp [rowI]
theorem rowI_set (l : List Int) (j : Nat) (x : Int) : rowI (l.set j x) = (rowI l).set j (.int .i64 x) := by simp [rowI, List.map_set]
theorem infoI : (Tryd.prog.info? 3).map (fun i => (i.zero, i.size, i.bytes)) = some (some (.int .i64 0), 1, 8) := by kernel_rfl

/-- the table's row while its K-th round is at i -/
def Tab (l : List (Int × Int)) (x : Int) (K i : Nat) (c : List Int) : Prop :=
  c.length = l.length ∧ (∀ j (h : j < c.length), 0 ≤ c[j] ∧ c[j] < 257) ∧ (∀ j (h : j < c.length), j < i → c[j] = M.nevI l x K j) ∧ ∀ j (h : j < c.length), i ≤ j → j + K ≤ l.length → c[j] = M.nevI l x (K - 1) j
theorem nev_stepK (l : List (Int × Int)) (x : Int) {K i : Nat} (hK : 1 ≤ K) (h : i + K < l.length) :
    M.nevI l x K i = ((x - l[i + K].1 + 257) % 257 * M.nevI l x (K - 1) i + (l[i].1 - x + 257) % 257 * M.nevI l x (K - 1) (i + 1)) % 257 * M.pwI ((l[i].1 - l[i + K].1 + 257) % 257) 255 257 % 257 := by
  obtain ⟨κ, rfl⟩ : ∃ κ, K = κ + 1 := ⟨K - 1, by omega⟩
  exact M.nevI_step l x h
theorem Tab.start {l : List (Int × Int)} (h : M.Right l) (x : Int) : Tab l x 1 0 (l.map (·.2)) := by
  refine ⟨by simp, fun j hj => ?_, fun j hj h0 => by omega, fun j hj _ _ => ?_⟩
  · have hj' : j < l.length := by simpa using hj
    have := (h.1 j hj').2
    simpa using this
  · have hj' : j < l.length := by simpa using hj
    have := M.nevI_zero h x hj'
    simp [this]
theorem Tab.next {l : List (Int × Int)} {x : Int} {K i : Nat} {c : List Int} (h : Tab l x K i c) (hK : 1 ≤ K) (hi : l.length ≤ i + K) : Tab l x (K + 1) 0 c := by
  refine ⟨h.1, h.2.1, fun j hj h0 => by omega, fun j hj _ h1 => ?_⟩
  rw [h.2.2.1 j hj (by omega)]; rfl
theorem Tab.step {l : List (Int × Int)} {x : Int} {K i : Nat} {c : List Int} (h : Tab l x K i c) (hi : i < c.length) {v : Int} (hv : v = M.nevI l x K i) : Tab l x K (i + 1) (c.set i v) := by
  refine ⟨by rw [List.length_set]; exact h.1, fun j hj => ?_, fun j hj h0 => ?_, fun j hj h0 h1 => ?_⟩
  · rw [List.length_set] at hj
    rw [List.getElem_set]
    split
    · rw [hv]; exact M.nevI_range l x K i
    · exact h.2.1 j hj
  · rw [List.length_set] at hj
    rw [List.getElem_set]
    split
    · rename_i e; rw [hv, e]
    · exact h.2.2.1 j hj (by omega)
  · rw [List.length_set] at hj
    rw [List.getElem_set, if_neg (by omega)]
    exact h.2.2.2 j hj (by omega) h1
theorem Tab.last {l : List (Int × Int)} {x : Int} {K : Nat} {c : List Int} (h : Tab l x K 0 c) (h0 : 0 < c.length) (hK : K = l.length) : c[0] = M.next l x := by
  rw [h.2.2.2 0 h0 (Nat.le_refl _) (by omega), hK]; rfl

theorem wrap_small {z : Int} (h0 : 0 ≤ z) (h1 : z ≤ 100000000) : IntKind.i64.wrap z = z := IntWalk.i64_in z ⟨by omega, by omega⟩

set_option maxRecDepth 100000 in
set_option maxHeartbeats 4000000 in
theorem rNext (b off n cap : Nat) (l : List (Int × Int)) (x : Int) (w : World) (hn : n = l.length) (h0 : 0 < n) (h7 : n ≤ 7) (hR : M.Right l) (hx0 : 0 ≤ x) (hx1 : x < 257) (hl : LieP w b off l) :
    Calls Tryd.prog 18 #[.slice (some ⟨b, off, none⟩) n cap, .int .i64 x] w fun e w' => e = .returned (.int .i64 (M.next l x)) ∧ Below w.heap.size w w' := by
  obtain ⟨i0, hi, hz0, hz1, hz2⟩ := info_parts infoI
  have HI := hide (And.intro hi (And.intro hz0 (And.intro hz1 hz2)))
  clear hi hz0 hz1 hz2
  have HL := hide hl
  have HN := hide hn
  have HR := hide hR
  clear hl hn hR
  go_enter Tryd.func18, Tryd.ntmps18
  go_wp2_with fail
  go_loopw [5, 6] (fun sv si wr => ∃ (v : Value) (k : Nat), v = sv ∧ si = .int .i64 k ∧ k ≤ n ∧ Hid (wr.ownsRow w.heap.size 3 1 v k (rowI ((l.map (·.2)).take k))) ∧ Hid (Below w.heap.size w wr)) (fun _ si _ => n - (intOf si).toNat)
  case atStart => exact ⟨_, 0, rfl, rfl, Nat.zero_le _, hide (World.ownsRow_nil _ _ _ _), hide (Below.refl _ _)⟩
  case round =>
    obtain ⟨v, k, rfl, rfl, hk, hown, hbel⟩ := hrel
    by_cases hlt : k < n
    · have hkl : k < l.length := by have := HN.out; omega
      obtain ⟨c1, c2⟩ := (HL.out.stays hbel.out (Nat.le_refl _)) k hkl
      have HT : Hid ((l.map (·.2)).take (k + 1) = (l.map (·.2)).take k ++ [l[k].2]) := hide (by rw [List.take_succ_eq_append_getElem (by simpa using hkl)]; simp)
      clear c1
      generalize l[k].2 = z at c2 HT
      have hsz : w.heap.size ≤ wr.heap.size := hbel.out.size
      have HROW : Hid ((wr.alloc (.cells #[.int .i64 z] 3)).ownsRow w.heap.size 3 1 v k (rowI ((l.map (·.2)).take k))) := hide (hown.out.alloc _)
      have HNEW : Hid (∀ j u, [Value.int .i64 z][j]? = some u → (wr.alloc (.cells #[.int .i64 z] 3)).cell? ((⟨wr.heap.size, 0, none⟩ : Addr).add j) = some u) := hide (World.news_of_block (heap_alloc_new wr _))
      go_wp2_with (at_builtin; (refine wpList_append_own _ rfl (.tmp 18) (.tmp 24) 22 rfl w.heap.size 3 i0 (.int .i64 0) 1 8 Tryd.underlying22 HI.out.1 HI.out.2.1 HI.out.2.2.1 HI.out.2.2.2 rfl (by decide) v k (rowI ((l.map (·.2)).take k)) rfl HROW.out ⟨wr.heap.size, 0, none⟩ 1 1 [.int .i64 z] rfl rfl HNEW.out (by simp [Value.oneCell']) (by unfold maxLen; omega) (by omega) (Nat.le_trans hsz (by simp)) ?_))
      intro v' w3 hown' hgrow _
      have HO := hide hown'
      have HB3 := hide ((hbel.out.alloc hsz _).grown hgrow (Nat.le_trans hsz (by simp)) (fun j hj => (HROW.out.lt j hj).1))
      clear hown' hgrow
      go_wp2_with fail
      go_roundw
      case rel => exact ⟨_, k + 1, rfl, by go_num, by omega, hide (by rw [HT.out, rowI_snoc]; exact HO.out), HB3⟩
      case measure => simp [intOf]; omega
    · have hkn : k = n := by omega
      subst hkn
      have hfull : (l.map (·.2)).take k = l.map (·.2) := List.take_of_length_le (by have := HN.out; simp; omega)
      rw [hfull] at hown
      rcases hown.out.2 with ⟨_, hz⟩ | ⟨g, cp, cur, rfl, _⟩
      · omega
      have HST := hide (Tab.start HR.out x)
      clear hfull hlt hk
      go_wp2_with fail
      go_loopw [7] (fun sk wy => ∃ (K : Nat) (c : List Int), sk = .int .i64 K ∧ 1 ≤ K ∧ K ≤ k ∧ Hid (Tab l x K 0 c) ∧ Hid (wy.ownsRow w.heap.size 3 1 (.slice (some ⟨g, 0, none⟩) k cp) k (rowI c)) ∧ Hid (Below w.heap.size w wy)) (fun sk _ => k - (intOf sk).toNat)
      case atStart => exact ⟨1, _, rfl, Nat.le_refl _, h0, HST, hown, hbel⟩
      case round =>
        clear hown hbel HST
        obtain ⟨K, c, rfl, hK1, hKn, hT, hown, hbel⟩ := hrel
        by_cases hlt : K < k
        · go_wp2_with fail
          go_loopw [8] (fun si wz => ∃ (i : Nat) (c : List Int), si = .int .i64 i ∧ i + K ≤ k ∧ Hid (Tab l x K i c) ∧ Hid (wz.ownsRow w.heap.size 3 1 (.slice (some ⟨g, 0, none⟩) k cp) k (rowI c)) ∧ Hid (Below w.heap.size w wz)) (fun si _ => k - (intOf si).toNat)
          case atStart => exact ⟨0, c, rfl, by omega, hT, hown, hbel⟩
          case round =>
            clear hT hown hbel c
            obtain ⟨i, c, rfl, hiK, hT, hown, hbel⟩ := hrel
            obtain ⟨m, hm⟩ : ∃ m : Nat, m = i + K := ⟨_, rfl⟩
            have hs : (i : Int) + (K : Int) = (m : Int) := by omega
            by_cases hmk : m < k
            · have hml : m < l.length := by have := HN.out; omega
              have hil : i < l.length := by omega
              have hik : i < k := by omega
              have hlc := hT.out.1
              have hic : i < c.length := by omega
              have hi1c : i + 1 < c.length := by omega
              have hbx := HL.out.stays hbel.out (Nat.le_refl _)
              have ci := (hbx i hil).1
              have cm := (hbx m hml).1
              obtain ⟨a0, a1⟩ := (HR.out.1 i hil).1
              obtain ⟨m0, m1⟩ := (HR.out.1 m hml).1
              have hstep : M.nevI l x K i = ((x - l[m].1 + 257) % 257 * M.nevI l x (K - 1) i + (l[i].1 - x + 257) % 257 * M.nevI l x (K - 1) (i + 1)) % 257 * M.pwI ((l[i].1 - l[m].1 + 257) % 257) 255 257 % 257 := by
                subst hm; exact nev_stepK l x hK1 hml
              rw [← hT.out.2.2.2 i hic (Nat.le_refl _) (by omega), ← hT.out.2.2.2 (i + 1) hi1c (by omega) (by omega)] at hstep
              have ri : wr.cell? ⟨g, i, none⟩ = some (.int .i64 c[i]) := by rw [hown.out.cellAt i (by omega)]; exact rowI_at hic
              have ri1 : wr.cell? ⟨g, i + 1, none⟩ = some (.int .i64 c[i + 1]) := by rw [hown.out.cellAt (i + 1) (by omega)]; exact rowI_at hi1c
              have rf : wr.frozen? ⟨g, i, none⟩ = false := hown.out.frozenAt i
              obtain ⟨u0, u1⟩ := hT.out.2.1 i hic
              obtain ⟨v0, v1⟩ := hT.out.2.1 (i + 1) hi1c
              generalize l[i].1 = ai at ci a0 a1 hstep
              generalize l[m].1 = am at cm m0 m1 hstep
              generalize c[i] = u at ri u0 u1 hstep
              generalize c[i + 1] = v at ri1 v0 v1 hstep
              obtain ⟨i1, hi1⟩ : ∃ i1 : Nat, i1 = i + 1 := ⟨_, rfl⟩
              rw [← hi1] at ri1
              have hw1 : IntKind.i64.wrap ((i : Int) + 1) = (i1 : Int) := by rw [wrap_small (by omega) (by omega)]; omega
              obtain ⟨A, hA⟩ : ∃ A, (x - am + 257) % 257 = A := ⟨_, rfl⟩
              obtain ⟨B, hB⟩ : ∃ B, (ai - x + 257) % 257 = B := ⟨_, rfl⟩
              obtain ⟨D, hD⟩ : ∃ D, (ai - am + 257) % 257 = D := ⟨_, rfl⟩
              rw [hA, hB, hD] at hstep
              have A0 : 0 ≤ A := by omega
              have A1 : A < 257 := by omega
              have B0 : 0 ≤ B := by omega
              have B1 : B < 257 := by omega
              have D0 : 0 ≤ D := by omega
              have D1 : D < 257 := by omega
              have hpw := fun w => Md.refPowerI D 255 257 w ⟨by decide, by decide, D0, D1, by decide, by decide⟩
              have hpr := M.pwI_range D 255 (b := 257) (by decide)
              generalize M.pwI D 255 257 = P at hpw hpr hstep
              obtain ⟨P0, P1⟩ := hpr
              obtain ⟨q0, q1⟩ := prod_range A0 A1 u0 u1
              obtain ⟨q2, q3⟩ := prod_range B0 B1 v0 v1
              obtain ⟨s0, s1⟩ : 0 ≤ (A * u + B * v) % 257 ∧ (A * u + B * v) % 257 < 257 := by omega
              obtain ⟨q4, q5⟩ := prod_range s0 s1 P0 P1
              obtain ⟨X1, hw2⟩ : ∃ X, IntKind.i64.wrap (A * u) = X := ⟨_, rfl⟩
              obtain ⟨X2, hw3⟩ : ∃ X, IntKind.i64.wrap (B * v) = X := ⟨_, rfl⟩
              obtain ⟨X3, hw4⟩ : ∃ X, IntKind.i64.wrap (X1 + X2) = X := ⟨_, rfl⟩
              obtain ⟨X4, hw5⟩ : ∃ X, X3.tmod 257 = X := ⟨_, rfl⟩
              obtain ⟨X5, hw6⟩ : ∃ X, IntKind.i64.wrap (X4 * P) = X := ⟨_, rfl⟩
              obtain ⟨V, hw7⟩ : ∃ X, X5.tmod 257 = X := ⟨_, rfl⟩
              have hV : V = M.nevI l x K i := by
                rw [wrap_small q0 (by omega)] at hw2
                rw [wrap_small q2 (by omega)] at hw3
                subst hw2 hw3
                rw [wrap_small (by omega) (by omega)] at hw4
                subst hw4
                rw [Int.tmod_eq_emod_of_nonneg (by omega)] at hw5
                subst hw5
                rw [wrap_small q4 (by omega)] at hw6
                subst hw6
                rw [Int.tmod_eq_emod_of_nonneg q4] at hw7
                rw [← hw7]; exact hstep.symm
              have HST := hide (hT.out.step hic hV)
              have HFIN : Hid (∀ d : Nat, ((wr.drewN d).setCell ⟨g, i, none⟩ (.int .i64 V)).ownsRow w.heap.size 3 1 (.slice (some ⟨g, 0, none⟩) k cp) k (rowI (c.set i V)) ∧ Below w.heap.size w ((wr.drewN d).setCell ⟨g, i, none⟩ (.int .i64 V))) := hide fun d => by
                have hr := row_stays hown.out (Go.below_drewN (Below.refl _ wr) d)
                obtain ⟨r1, r2⟩ := hr.stored i (.int .i64 V)
                exact ⟨by rw [rowI_set]; exact r1, (Go.below_drewN hbel.out d).grown r2 (Go.below_drewN hbel.out d).size (fun j hj => by cases hj; exact (hr.lt g rfl).1)⟩
              have HPW := hide hpw
              have im : (m : Int) < (k : Int) := by omega
              have ii : (i : Int) < (k : Int) := by omega
              have ii1 : (i1 : Int) < (k : Int) := by omega
              have hgl : g < wr.heap.size := World.block_lt_of_cell? wr _ ri
              have hbl : b < wr.heap.size := World.block_lt_of_cell? wr _ ci
              have HM := hide hm
              have HI1 := hide hi1
              clear hpw hstep hbx hm hi1 hlc hic hi1c hil hml hT hV q0 q1 q2 q3 q4 q5 s0 s1
              go_wp2_with fail
              go_quiet (fail)
              go_wp2_with fail
              go_region_with ((go_at_call 35; refine (HPW.out _).mono ?_; rintro e w1 ⟨rfl, rfl⟩))
              all_goals
                go_wp2_with fail
                go_roundw
                case rel => exact ⟨i1, c.set i V, rfl, by have := HI1.out; have := HM.out; omega, hide (by rw [HI1.out]; exact HST.out), hide (HFIN.out _).1, hide (HFIN.out _).2⟩
                case measure => have := HI1.out; simp [intOf]; omega
            · have HNXT := hide (hT.out.next hK1 (by have := HN.out; omega))
              have im : ¬ (m : Int) < (k : Int) := by omega
              have im7 : m ≤ 7 := by omega
              clear hm
              go_wp2_with fail
              go_roundw
              case rel => exact ⟨K + 1, c, by go_num, by omega, by omega, HNXT, hown, hbel⟩
              case measure => simp [intOf]; omega
        · have hKn' : K = l.length := by have := HN.out; omega
          have h0c : 0 < c.length := by have := hT.out.1; have := HN.out; omega
          have hlast := hT.out.last h0c hKn'
          have r0 : wr.cell? ⟨g, 0, none⟩ = some (.int .i64 c[0]) := by rw [hown.out.cellAt 0 (by omega)]; exact rowI_at h0c
          generalize c[0] = r at r0 hlast
          have HLAST := hide hlast
          clear hlast h0c hKn'
          go_wp2_with fail
          go_ret
          exact ⟨by rw [← HLAST.out]; rfl, hbel.out⟩

end Go.Proofs.YtlefhfmckimlaajDoor
