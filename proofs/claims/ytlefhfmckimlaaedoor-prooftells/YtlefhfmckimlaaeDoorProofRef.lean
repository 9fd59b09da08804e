/-
  What the document's own Commit and True do, and tuplesame.Ints at lists that are the same: each as one law of its call.
-/
import Derived.Test.YtlefhfmckimlaaeDoorProofCommit
import Derived.Test.YtlefhfmckimlaaeDoorPolyRef
import Derived.Laws.AppendOwn
set_option linter.unusedVariables false
namespace Go.Proofs.YtlefhfmckimlaaeDoor
open Go.RowKit

theorem sameInts (a1 a2 : Option Addr) (n c1 c2 : Nat) (l : List Int) (w : World) (hn : n = l.length) (hm : n ≤ maxLen) (h1 : AtI w a1 l) (h2 : AtI w a2 l) :
    Calls Tryd.prog 15 #[.slice a1 n c1, .slice a2 n c2] w fun e w' => e = .returned (.bool true) ∧ Below w.heap.size w w' := by
  unfold maxLen at hm
  have HL1 := hide h1
  have HL2 := hide h2
  have HN := hide hn
  clear h1 h2 hn
  go_enter Tryd.func15, Tryd.ntmps15
  go_wp2
  go_loopw [5] (fun i wr => ∃ k : Nat, k ≤ n ∧ i = .int .i64 k ∧ Hid (Below w.heap.size w wr)) (fun i _ => n - (intOf i).toNat)
  case atStart => exact ⟨0, Nat.zero_le _, rfl, hide (Below.refl _ _)⟩
  case round =>
    obtain ⟨k, hk, rfl, hbel⟩ := hrel
    by_cases hlt : k < n
    · have hkl : k < l.length := HN.out ▸ hlt
      have ik0 : (0 : Int) ≤ (k : Int) := by omega
      have ikn : (k : Int) < (n : Int) := by omega
      obtain ⟨b1, off1, rfl, g1⟩ := HL1.out (by omega)
      obtain ⟨b2, off2, rfl, g2⟩ := HL2.out (by omega)
      have d1 := (g1.stays hbel.out (Nat.le_refl _)) k hkl
      have d2 := (g2.stays hbel.out (Nat.le_refl _)) k hkl
      generalize l[k] = x at d1 d2
      clear g1 g2
      go_wp2_with fail
      go_quiet (fail)
      go_wp2
      go_roundw
      case rel => exact ⟨k + 1, by omega, by go_num, hide (Go.below_drewN hbel.out _)⟩
      case measure => simp [intOf]; omega
    · go_wp2
      go_ret
      exact ⟨rfl, hbel.out⟩

set_option maxRecDepth 100000 in
set_option maxHeartbeats 2000000 in
/-- .. and whose the row is -/
theorem rCommitO (a : Option Addr) (n cap : Nat) (p : List Int) (w : World) (hn : n = p.length) (hl : AtI w a p) (hf : M.facE p = 0) :
    Calls Tryd.prog 13 #[.slice a n cap] w fun e w' => (∃ v c, e = .returned (.slice v n c) ∧ w'.ownsRow w.heap.size 3 1 (.slice v n c) n (cellsI (M.commits p))) ∧ Below w.heap.size w w' := by
  obtain ⟨i0, hi, hz0, hz1, hz2⟩ := info_parts infoInt
  have HI := hide (And.intro hi (And.intro hz0 (And.intro hz1 hz2)))
  obtain ⟨h7, hr⟩ := M.facE_ok hf
  have hn7 : n ≤ 7 := by omega
  have HL := hide hl
  have HN := hide hn
  have HR := hide hr
  clear hi hz0 hz1 hz2 hn hl hf hr h7
  go_enter Tryd.func13, Tryd.ntmps13
  go_wp2
  go_loopw [3, 4] (fun sv si wr => ∃ (v : Value) (k : Nat), v = sv ∧ si = .int .i64 k ∧ k ≤ n ∧ Hid (wr.ownsRow w.heap.size 3 1 v k (cellsI (M.commits (p.take k)))) ∧ Hid (Below w.heap.size w wr)) (fun _ si _ => n - (intOf si).toNat)
  case atStart => exact ⟨_, 0, rfl, rfl, Nat.zero_le _, hide (World.ownsRow_nil _ _ _ _), hide (Below.refl _ _)⟩
  case round =>
    obtain ⟨v, k, rfl, rfl, hk, hown, hbel⟩ := hrel
    by_cases hlt : k < n
    · have hkl : k < p.length := by have := HN.out; omega
      obtain ⟨b, off, rfl, hlie⟩ := HL.out (by omega)
      have d1 := (hlie.stays hbel.out (Nat.le_refl _)) k hkl
      obtain ⟨z0, z1⟩ := HR.out k hkl
      have HD : Hid (M.commits (p.take (k + 1)) = M.commits (p.take k) ++ [M.gI p[k]]) := hide (by rw [List.take_succ_eq_append_getElem hkl, M.commits_snoc])
      have hz2 : w.heap.size ≤ wr.heap.size := hbel.out.size
      clear hlie
      generalize p[k] = z at d1 z0 z1 HD
      have HP : Hid (∀ wx, Calls Tryd.prog 27 #[.int .i64 64, .int .i64 z, .int .i64 1543] wx fun e w' => e = .returned (.int .i64 (M.gI z)) ∧ w' = wx) := hide fun wx => Md.refPowerI 64 z 1543 wx (pow64 z0 z1)
      generalize M.gI z = y at HP HD
      clear z0 z1
      go_wp2_with fail
      refine (HP.out _).mono ?_
      rintro e w3 ⟨rfl, hw⟩
      obtain rfl := hw.symm
      have HROW : Hid ((wr.alloc (.cells #[.int .i64 y] 3)).ownsRow w.heap.size 3 1 v k (cellsI (M.commits (p.take k)))) := hide (hown.out.alloc _)
      have HNEW : Hid (∀ j u, [Value.int .i64 y][j]? = some u → (wr.alloc (.cells #[.int .i64 y] 3)).cell? ((⟨wr.heap.size, 0, none⟩ : Addr).add j) = some u) := hide (World.news_of_block (World.alloc_heap_new wr _))
      go_wp2_with (at_builtin; (refine wpList_append_own _ rfl (.tmp 17) (.tmp 19) 22 rfl w.heap.size 3 i0 (.int .i64 0) 1 8 Tryd.underlying22 HI.out.1 HI.out.2.1 HI.out.2.2.1 HI.out.2.2.2 rfl (by decide) v k (cellsI (M.commits (p.take k))) rfl HROW.out ⟨wr.heap.size, 0, none⟩ 1 1 [.int .i64 y] rfl rfl HNEW.out (cellsI_oneCell [y]) (by unfold maxLen; omega) (by omega) (Nat.le_trans hz2 (by simp)) ?_))
      intro v' w3 hown' hgrow _
      have HO := hide hown'
      have HB3 := hide ((hbel.out.alloc hz2 _).grown hgrow (Nat.le_trans hz2 (by simp)) (fun j hj => (HROW.out.lt j hj).1))
      clear hown' hgrow
      go_wp2
      go_roundw
      case rel => exact ⟨_, k + 1, rfl, by go_num, by omega, hide (by rw [HD.out]; unfold cellsI; rw [List.map_append]; exact HO.out), HB3⟩
      case measure => simp [intOf]; omega
    · have hkm : k = n := by omega
      subst hkm
      have hall : p.take k = p := List.take_of_length_le (by have := HN.out; omega)
      rw [hall] at hown
      obtain ⟨av, cv, rfl, _⟩ := atI_own (by rw [M.commits_len]; exact HN.out) hown.out
      go_wp2_with fail
      go_ret
      exact ⟨⟨_, _, rfl, hown.out⟩, hbel.out⟩
theorem rCommit (a : Option Addr) (n cap : Nat) (p : List Int) (w : World) (hn : n = p.length) (hl : AtI w a p) (hf : M.facE p = 0) :
    Calls Tryd.prog 13 #[.slice a n cap] w fun e w' => (∃ v c, e = .returned (.slice v n c) ∧ n ≤ c ∧ c ≤ maxLen ∧ AtI w' v (M.commits p)) ∧ Below w.heap.size w w' := by
  refine (rCommitO a n cap p w hn hl hf).mono ?_
  rintro e w' ⟨⟨v, c, rfl, ho⟩, hb⟩
  obtain ⟨av, cv, e1, h1, h2, h3⟩ := atI_own (by rw [M.commits_len]; exact hn) ho
  cases e1
  exact ⟨⟨_, _, rfl, h1, h2, h3⟩, hb⟩

set_option maxHeartbeats 1000000 in
theorem rTrue (a : Option Addr) (n cap : Nat) (c : List Int) (x y : Int) (w : World) (hn : n = c.length) (hl : AtI w a c) (hc : M.cmtE c = 0) (x0 : 0 ≤ x) (x1 : x < 257) (y0 : 0 ≤ y) (y1 : y < 257) :
    Calls Tryd.prog 17 #[.slice a n cap, .agg #[.int .i64 x, .int .i64 y]] w fun e w' => e = .returned (.bool (M.trueB c x y)) ∧ Below w.heap.size w w' := by
  obtain ⟨_, h7, hr⟩ := M.cmtE_ok hc
  have hn7 : n ≤ 7 := by omega
  have HL : Hid (∀ wx, Below w.heap.size w wx → AtI wx a c) := hide fun wx hb => hl.stays hb (Nat.le_refl _)
  have HN := hide hn
  have HR := hide hr
  have HY : Hid (∀ wx, Calls Tryd.prog 27 #[.int .i64 64, .int .i64 y, .int .i64 1543] wx fun e w' => e = .returned (.int .i64 (M.gI y)) ∧ w' = wx) := hide fun wx => Md.refPowerI 64 y 1543 wx (pow64 y0 y1)
  clear hl hn hr hc h7 y0 y1
  go_enter Tryd.func17, Tryd.ntmps17
  go_wp2
  go_loop [5, 6, 7] (fun ss st si => ∃ (k : Nat) (s t : Int), ss = .int .i64 s ∧ st = .int .i64 t ∧ si = .int .i64 k ∧ k ≤ n ∧ (0 ≤ s ∧ s < 1543) ∧ (0 ≤ t ∧ t < 257) ∧ Hid (s = M.mul c x k) ∧ Hid (t = M.upI x k)) (fun _ _ si => n - (intOf si).toNat)
  case atStart => exact ⟨0, 1, 1, rfl, rfl, rfl, Nat.zero_le _, by decide, by decide, hide rfl, hide rfl⟩
  case round =>
    obtain ⟨k, s, t, rfl, rfl, rfl, hk, ⟨s0, s1⟩, ⟨t0, t1⟩, hs, ht⟩ := hrel
    by_cases hlt : k < n
    · have hkl : k < c.length := by have := HN.out; omega
      obtain ⟨b, off, rfl, hlie⟩ := HL.out (w.alloc (.cells #[.int .i64 x, .int .i64 y] 38)) ((Below.refl _ w).alloc (Nat.le_refl _) _) (by omega)
      have c1 := hlie k hkl
      obtain ⟨z0, z1⟩ := HR.out k hkl
      have HS := hide (M.mul_step x hkl)
      have HT := hide (M.upI_succ x k)
      clear hlie
      generalize c[k] = z at c1 z0 z1 HS
      have HP : Hid (∀ wx, Calls Tryd.prog 27 #[.int .i64 z, .int .i64 t, .int .i64 1543] wx fun e w' => e = .returned (.int .i64 (M.pwI z t 1543)) ∧ w' = wx) := hide fun wx => Md.refPowerI z t 1543 wx (powG z0 z1 t0 t1)
      obtain ⟨r0, r1⟩ := M.pwI_range z t (b := 1543) (by decide)
      have HZ : Hid (M.mul c x (k + 1) = s * M.pwI z t 1543 % 1543) := hide (by rw [HS.out, hs.out, ht.out])
      generalize M.pwI z t 1543 = r at HP r0 r1 HZ
      obtain ⟨p0, p1⟩ := prodG s0 s1 r0 r1
      obtain ⟨q0, q1⟩ := prod_range t0 t1 x0 x1
      clear z0 z1 HS
      go_wp2_with fail
      refine (HP.out _).mono ?_
      rintro e w1 ⟨rfl, hw⟩
      obtain rfl := hw.symm
      go_wp2_with fail
      go_round
      case rel => exact ⟨k + 1, s * r % 1543, t * x % 257, rfl, rfl, by go_num, by omega, by omega, by omega, hide HZ.out.symm, hide (by rw [HT.out, ht.out])⟩
      case measure => simp [intOf]; omega
    · have hfin : Hid (s = M.mul c x c.length) := hide (by rw [hs.out, ← HN.out, show n = k by omega])
      clear hs
      go_wp2_with fail
      refine (HY.out _).mono ?_
      rintro e w1 ⟨rfl, hw⟩
      obtain rfl := hw.symm
      go_wp2_with fail
      go_ret
      exact ⟨by rw [hfin.out]; rfl, (Below.refl _ _).alloc (Nat.le_refl _) _⟩

end Go.Proofs.YtlefhfmckimlaaeDoor
