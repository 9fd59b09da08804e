/-
  What the document's own Commit and True do, and tuplesame.Ints at lists that are the same: each as one law of its call.
  Texts that lie in memory behind a slice: what a walk is told of some that came in, that they stay while only new memory is written, and a row of them that a call puts together itself. For any program.
-/
import Derived.Test.YtlefhfmckimlaajDoorJ23A
import Derived.Test.YtlefhfmckimlaajDoorJ33A
import Derived.Laws.AppendOwn
import Derived.Deep.Slices
import Derived.Deep.Strs
import Derived.ChangeSame
import Derived.Below
import Derived.WideShapes
import Derived.ProofKit
import Derived.Laws.OwnMore
import Derived.OwnWalk
import Derived.SizedLaws
set_option linter.unusedVariables false
namespace Go.Proofs.YtlefhfmckimlaajDoor
open Go.RowKit


set_option maxRecDepth 100000 in
set_option maxHeartbeats 2000000 in
/-- .. and whose the row is -/
theorem rCommitO (a : Option Addr) (n cap : Nat) (p : List Int) (w : World) (hn : n = p.length) (hl : AtI w a p) (hf : M.facE p = 0) :
    Calls Tryd.prog 15 #[.slice a n cap] w fun e w' => (∃ v c, e = .returned (.slice v n c) ∧ w'.ownsRow w.heap.size 3 1 (.slice v n c) n (cellsI (M.commits p))) ∧ Below w.heap.size w w' := by
  obtain ⟨i0, hi, hz0, hz1, hz2⟩ := info_parts infoInt
  have HI := hide (And.intro hi (And.intro hz0 (And.intro hz1 hz2)))
  obtain ⟨h7, hr⟩ := M.facE_ok hf
  have hn7 : n ≤ 7 := by omega
  have HL := hide hl
  have HN := hide hn
  have HR := hide hr
  clear hi hz0 hz1 hz2 hn hl hf hr h7
  go_enter Tryd.func15, Tryd.ntmps15
  go_wp2
  go_loopw [3, 4] (fun sv si wr => ∃ (v : Value) (k : Nat), v = sv ∧ si = .int .i64 k ∧ k ≤ n ∧ Hid (wr.ownsRow w.heap.size 3 1 v k (cellsI (M.commits (p.take k)))) ∧ Hid (Below w.heap.size w wr)) (fun _ si _ => n - (intOf si).toNat)
  case atStart => exact ⟨_, 0, rfl, rfl, Nat.zero_le _, hide (World.ownsRow_nil _ _ _ _), hide (Below.refl _ _)⟩
  case round =>
    obtain ⟨v, k, rfl, rfl, hk, hown, hbel⟩ := hrel
    by_cases hlt : k < n
    · have hkl : k < p.length := by have := HN.out; omega
      obtain ⟨b, off, rfl, hlie⟩ := HL.out (by omega)
      have d1 := (hlie.stays hbel.out (Nat.le_refl _)) k hkl
      obtain ⟨z0, z1⟩ := HR.out k hkl
      have HD : Hid (M.commits (p.take (k + 1)) = M.commits (p.take k) ++ [M.gI p[k]]) := hide (by rw [List.take_succ_eq_append_getElem hkl, M.commits_snoc])
      have hz2 : w.heap.size ≤ wr.heap.size := hbel.out.size
      clear hlie
      generalize p[k] = z at d1 z0 z1 HD
      have HP : Hid (∀ wx, Calls Tryd.prog 35 #[.int .i64 64, .int .i64 z, .int .i64 1543] wx fun e w' => e = .returned (.int .i64 (M.gI z)) ∧ w' = wx) := hide fun wx => Md.refPowerI 64 z 1543 wx (pow64 z0 z1)
      generalize M.gI z = y at HP HD
      clear z0 z1
      go_wp2_with fail
      refine (HP.out _).mono ?_
      rintro e w3 ⟨rfl, hw⟩
      obtain rfl := hw.symm
      have HROW : Hid ((wr.alloc (.cells #[.int .i64 y] 3)).ownsRow w.heap.size 3 1 v k (cellsI (M.commits (p.take k)))) := hide (hown.out.alloc _)
      have HNEW : Hid (∀ j u, [Value.int .i64 y][j]? = some u → (wr.alloc (.cells #[.int .i64 y] 3)).cell? ((⟨wr.heap.size, 0, none⟩ : Addr).add j) = some u) := hide (World.news_of_block (World.alloc_heap_new wr _))
      go_wp2_with (at_builtin; (refine wpList_append_own _ rfl (.tmp 17) (.tmp 19) 22 rfl w.heap.size 3 i0 (.int .i64 0) 1 8 Tryd.underlying22 HI.out.1 HI.out.2.1 HI.out.2.2.1 HI.out.2.2.2 rfl (by decide) v k (cellsI (M.commits (p.take k))) rfl HROW.out ⟨wr.heap.size, 0, none⟩ 1 1 [.int .i64 y] rfl rfl HNEW.out (cellsI_oneCell [y]) (by unfold maxLen; omega) (by omega) (Nat.le_trans hz2 (by simp)) ?_))
      intro v' w3 hown' hgrow _
      have HO := hide hown'
      have HB3 := hide ((hbel.out.alloc hz2 _).grown hgrow (Nat.le_trans hz2 (by simp)) (fun j hj => (HROW.out.lt j hj).1))
      clear hown' hgrow
      go_wp2
      go_roundw
      case rel => exact ⟨_, k + 1, rfl, by go_num, by omega, hide (by rw [HD.out]; unfold cellsI; rw [List.map_append]; exact HO.out), HB3⟩
      case measure => simp [intOf]; omega
    · have hkm : k = n := by omega
      subst hkm
      have hall : p.take k = p := List.take_of_length_le (by have := HN.out; omega)
      rw [hall] at hown
      obtain ⟨av, cv, rfl, _⟩ := atI_own (by rw [M.commits_len]; exact HN.out) hown.out
      go_wp2_with fail
      go_ret
      exact ⟨⟨_, _, rfl, hown.out⟩, hbel.out⟩
theorem rCommit (a : Option Addr) (n cap : Nat) (p : List Int) (w : World) (hn : n = p.length) (hl : AtI w a p) (hf : M.facE p = 0) :
    Calls Tryd.prog 15 #[.slice a n cap] w fun e w' => (∃ v c, e = .returned (.slice v n c) ∧ n ≤ c ∧ c ≤ maxLen ∧ AtI w' v (M.commits p)) ∧ Below w.heap.size w w' := by
  refine (rCommitO a n cap p w hn hl hf).mono ?_
  rintro e w' ⟨⟨v, c, rfl, ho⟩, hb⟩
  obtain ⟨av, cv, e1, h1, h2, h3⟩ := atI_own (by rw [M.commits_len]; exact hn) ho
  cases e1
  exact ⟨⟨_, _, rfl, h1, h2, h3⟩, hb⟩

set_option maxHeartbeats 1000000 in
theorem rTrue (a : Option Addr) (n cap : Nat) (c : List Int) (x y : Int) (w : World) (hn : n = c.length) (hl : AtI w a c) (hc : M.cmtE c = 0) (x0 : 0 ≤ x) (x1 : x < 257) (y0 : 0 ≤ y) (y1 : y < 257) :
    Calls Tryd.prog 17 #[.slice a n cap, .agg #[.int .i64 x, .int .i64 y]] w fun e w' => e = .returned (.bool (M.trueB c x y)) ∧ Below w.heap.size w w' := by
  obtain ⟨_, h7, hr⟩ := M.cmtE_ok hc
  have hn7 : n ≤ 7 := by omega
  have HL : Hid (∀ wx, Below w.heap.size w wx → AtI wx a c) := hide fun wx hb => hl.stays hb (Nat.le_refl _)
  have HN := hide hn
  have HR := hide hr
  have HY : Hid (∀ wx, Calls Tryd.prog 35 #[.int .i64 64, .int .i64 y, .int .i64 1543] wx fun e w' => e = .returned (.int .i64 (M.gI y)) ∧ w' = wx) := hide fun wx => Md.refPowerI 64 y 1543 wx (pow64 y0 y1)
  clear hl hn hr hc h7 y0 y1
  go_enter Tryd.func17, Tryd.ntmps17
  go_wp2
  go_loop [5, 6, 7] (fun ss st si => ∃ (k : Nat) (s t : Int), ss = .int .i64 s ∧ st = .int .i64 t ∧ si = .int .i64 k ∧ k ≤ n ∧ (0 ≤ s ∧ s < 1543) ∧ (0 ≤ t ∧ t < 257) ∧ Hid (s = M.mul c x k) ∧ Hid (t = M.upI x k)) (fun _ _ si => n - (intOf si).toNat)
  case atStart => exact ⟨0, 1, 1, rfl, rfl, rfl, Nat.zero_le _, by decide, by decide, hide rfl, hide rfl⟩
  case round =>
    obtain ⟨k, s, t, rfl, rfl, rfl, hk, ⟨s0, s1⟩, ⟨t0, t1⟩, hs, ht⟩ := hrel
    by_cases hlt : k < n
    · have hkl : k < c.length := by have := HN.out; omega
      obtain ⟨b, off, rfl, hlie⟩ := HL.out (w.alloc (.cells #[.int .i64 x, .int .i64 y] 31)) ((Below.refl _ w).alloc (Nat.le_refl _) _) (by omega)
      have c1 := hlie k hkl
      obtain ⟨z0, z1⟩ := HR.out k hkl
      have HS := hide (M.mul_step x hkl)
      have HT := hide (M.upI_succ x k)
      clear hlie
      generalize c[k] = z at c1 z0 z1 HS
      have HP : Hid (∀ wx, Calls Tryd.prog 35 #[.int .i64 z, .int .i64 t, .int .i64 1543] wx fun e w' => e = .returned (.int .i64 (M.pwI z t 1543)) ∧ w' = wx) := hide fun wx => Md.refPowerI z t 1543 wx (powG z0 z1 t0 t1)
      obtain ⟨r0, r1⟩ := M.pwI_range z t (b := 1543) (by decide)
      have HZ : Hid (M.mul c x (k + 1) = s * M.pwI z t 1543 % 1543) := hide (by rw [HS.out, hs.out, ht.out])
      generalize M.pwI z t 1543 = r at HP r0 r1 HZ
      obtain ⟨p0, p1⟩ := prodG s0 s1 r0 r1
      obtain ⟨q0, q1⟩ := prod_range t0 t1 x0 x1
      clear z0 z1 HS
      go_wp2_with fail
      refine (HP.out _).mono ?_
      rintro e w1 ⟨rfl, hw⟩
      obtain rfl := hw.symm
      go_wp2_with fail
      go_round
      case rel => exact ⟨k + 1, s * r % 1543, t * x % 257, rfl, rfl, by go_num, by omega, by omega, by omega, hide HZ.out.symm, hide (by rw [HT.out, ht.out])⟩
      case measure => simp [intOf]; omega
    · have hfin : Hid (s = M.mul c x c.length) := hide (by rw [hs.out, ← HN.out, show n = k by omega])
      clear hs
      go_wp2_with fail
      refine (HY.out _).mono ?_
      rintro e w1 ⟨rfl, hw⟩
      obtain rfl := hw.symm
      go_wp2_with fail
      go_ret
      exact ⟨by rw [hfin.out]; rfl, (Below.refl _ _).alloc (Nat.le_refl _) _⟩

end Go.Proofs.YtlefhfmckimlaajDoor

namespace Go.Proofs.YtlefhfmckimlaajDoor
open Go.RowKit Go.Deep

/-- the texts l lie in w from cell off of block b on -/
def LieS (w : World) (b off : Nat) (l : List ByteArray) : Prop := ∀ i (h : i < l.length), w.cell? ⟨b, off + i, none⟩ = some (.string l[i]) ∧ l[i].size ≤ reachBytes
/-- where a slice has its texts: nowhere, if there are none -/
def AtS (w : World) (a : Option Addr) (l : List ByteArray) : Prop := 0 < l.length → ∃ b off, a = some ⟨b, off, none⟩ ∧ LieS w b off l
theorem LieS.stays {w w' : World} {b off B : Nat} {l : List ByteArray} (h : LieS w b off l) (hb : Below B w w') (hB : w.heap.size ≤ B) : LieS w' b off l := fun i hi => by
  obtain ⟨g, g2⟩ := h i hi
  exact ⟨(hb.cell (p := ⟨b, off + i, none⟩) (Nat.lt_of_lt_of_le (World.block_lt_of_cell? w _ g) hB)).trans g, g2⟩
theorem AtS.stays {w w' : World} {a : Option Addr} {B : Nat} {l : List ByteArray} (h : AtS w a l) (hb : Below B w w') (hB : w.heap.size ≤ B) : AtS w' a l := fun h0 => by
  obtain ⟨b, off, e, g⟩ := h h0
  exact ⟨b, off, e, g.stays hb hB⟩

theorem weightsAll_mem {H : Type} {P : Program} {e : TypeId} : ∀ {L : List (DataW H)} {d : DataW H}, d ∈ L → ∀ m ∈ d.weights P e, m ∈ DataW.weightsAll P e L
  | d0 :: L, d, h, m, hm => by
    simp only [DataW.weightsAll, List.mem_append]
    rcases List.mem_cons.1 h with rfl | h
    · exact Or.inl hm
    · exact Or.inr (weightsAll_mem h m hm)
  | [], _, h, _, _ => by cases h
/-- an argument's own sizes, out of all of them -/
theorem sized_at {H : Type} {P : Program} {ts : List TypeId} {ds : List (DataW H)} (h : (DataW.weightsEach P ts ds).all (· ≤ reachBytes) = true) {j : Nat} {t : TypeId} {d : DataW H} (ht : ts[j]? = some t) (hd : ds[j]? = some d) : ∀ m ∈ d.weights P t, m ≤ reachBytes := fun m hm => by
  simpa using List.all_eq_true.1 h m (DataW.weights_mem_each ht hd m hm)
/-- an argument of type []string -/
theorem open_strs {H : Type} {enc : TypeId × Value → H} {P : Program} {w : World} {tt t : TypeId} {a : Option Addr} {len cap : Nat} {d : DataW H} {p : List MemPlace}
    (htt : P.underlying tt = some (.slice t)) (ct : P.cellsOf t = 1) (ht : P.underlying t = some .string) (h : DataW.Trod enc P w 0 (fun _ => true) true tt (.slice a len cap) d p) (hw : ∀ m ∈ d.weights P tt, m ≤ reachBytes) :
    ∃ l : List ByteArray, len = l.length ∧ len ≤ cap ∧ cap ≤ maxLen ∧ AtS w a l ∧ (a = none → len = 0 ∧ cap = 0) := by
  obtain ⟨fuel, hf⟩ := h
  rcases open_slice1 htt ct hf with ⟨hcs, hd⟩ | ⟨x, len', cap', m, n, V, D, Pl, hcs, _, hl, hm, hmm, hd, hx⟩
  · simp [Value.cells] at hcs
    obtain ⟨rfl, rfl, rfl⟩ := hcs
    exact ⟨[], rfl, Nat.zero_le _, Nat.zero_le _, fun h => absurd h (by decide), fun _ => ⟨rfl, rfl⟩⟩
  · simp [Value.cells] at hcs
    obtain ⟨rfl, rfl, rfl⟩ := hcs
    have hmc : m = cap := by rw [hmm]; simp
    have each : ∀ i, i < len → ∃ z : ByteArray, w.cell? (x.add i) = some (.string z) ∧ z.size ≤ reachBytes := by
      intro i hi
      obtain ⟨h1, h2⟩ := hx i (by omega)
      obtain ⟨z, hz, hdz, _⟩ := DataW.trod_string ht h2
      simp at hz
      rw [hz] at h1
      have hdi : D i = .lit (.string z.data.toList) := by simpa using congrArg Prod.fst hdz
      refine ⟨z, h1, hw _ ?_⟩
      rw [(Prod.mk.inj hd).1]
      simp only [DataW.weights, htt, List.mem_cons, List.mem_append]
      refine Or.inr (Or.inl (weightsAll_mem (d := D i) (List.mem_map.2 ⟨i, List.mem_range.2 hi, rfl⟩) _ ?_))
      rw [hdi]
      simp [DataW.weights]
    rcases Nat.eq_zero_or_pos len with h0 | h0
    · subst h0; exact ⟨[], rfl, hl, by omega, fun h => absurd h (by simp), fun e => by cases e⟩
    haveI : Inhabited ByteArray := ⟨⟨#[]⟩⟩
    obtain ⟨f, hfe⟩ := choose_lt each
    obtain ⟨b, off, spot⟩ := x
    have hspot : spot = none := by simpa [Addr.add] using World.cell?_spot (hfe 0 h0).1
    subst hspot
    have hll : ((List.range len).map f).length = len := by simp
    refine ⟨(List.range len).map f, hll.symm, hl, by omega, fun _ => ⟨b, off, rfl, fun i hi => ?_⟩, fun e => by cases e⟩
    have hi' : i < len := by rw [hll] at hi; exact hi
    have e : ((List.range len).map f)[i] = f i := by simp
    rw [e]
    have g := hfe i hi'
    rw [WideShapes.add_plain] at g
    exact g

/-- the cells of some texts, in a row -/
def cellsS (l : List ByteArray) : List Value := l.map fun z => .string z
theorem cellsS_len (l : List ByteArray) : (cellsS l).length = l.length := by simp [cellsS]
theorem cellsS_at {l : List ByteArray} {j : Nat} (h : j < l.length) : (cellsS l)[j]? = some (.string l[j]) := by simp [cellsS, h]
theorem cellsS_oneCell (l : List ByteArray) : ∀ u ∈ cellsS l, u.oneCell' = true := fun u h => by
  simp only [cellsS, List.mem_map] at h
  obtain ⟨z, _, rfl⟩ := h
  rfl
theorem cellsS_set (l : List ByteArray) (j : Nat) (x : ByteArray) : cellsS (l.set j x) = (cellsS l).set j (.string x) := by unfold cellsS; rw [List.map_set]
/-- texts that a call has put together itself -/
theorem atS_own {w : World} {base : Nat} {e : TypeId} {v : Value} {m : Nat} {l : List ByteArray} (hm : m = l.length) (hs : ∀ x ∈ l, x.size ≤ reachBytes) (h : w.ownsRow base e 1 v m (cellsS l)) : ∃ a cap, v = .slice a m cap ∧ m ≤ cap ∧ cap ≤ maxLen ∧ AtS w a l := by
  have hc := h
  rcases h.2 with ⟨hv, hn⟩ | ⟨g, cap, cur, hv, _, _, hn, hcm, _⟩
  · exact ⟨none, 0, by rw [hv, hn], by omega, Nat.zero_le _, fun h0 => by omega⟩
  · refine ⟨some ⟨g, 0, none⟩, cap, hv, hn, hcm, fun _ => ⟨g, 0, rfl, fun i hi => ?_⟩⟩
    have g1 := hc.cells (g := g) (by rw [hv]; rfl) _ _ (cellsS_at hi)
    rw [WideShapes.add_plain] at g1
    exact ⟨g1, hs _ (List.getElem_mem hi)⟩
/-- the cells of texts that lie somewhere -/
theorem AtS.news {w : World} {ad : Addr} {l : List ByteArray} (h : AtS w (some ad) l) : ∀ j u, (cellsS l)[j]? = some u → w.cell? (ad.add j) = some u := fun j u hu => by
  have hj : j < l.length := by
    have := (List.getElem?_eq_some_iff.1 hu).1
    rwa [cellsS_len] at this
  obtain ⟨b, off, e, g⟩ := h (by omega)
  cases e
  rw [cellsS_at hj] at hu
  cases hu
  rw [WideShapes.add_plain]
  exact (g j hj).1

end Go.Proofs.YtlefhfmckimlaajDoor
