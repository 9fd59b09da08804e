/-
  What do of package run makes of a line's words, as one law of its call.
-/
import Derived.Test.YtlefhfmckimlaakGreatDoorRunMap
import Derived.Test.YtlefhfmckimlaakGreatDoorRunPut
import Derived.Test.YtlefhfmckimlaakGreatDoorRunFind
import Derived.Test.YtlefhfmckimlaakGreatDoorRunDeal
set_option linter.unusedVariables false
namespace Go.Proofs.YtlefhfmckimlaakGreatDoor
open Go.RowKit

/-- what a line's words answer, and the space behind it -/
def M.deedR (L : List (List M.Val)) (k : List UInt8) : List (List UInt8) → List UInt8 × List (List M.Val)
  | [a] => if k = M.wOnce ∨ k = M.wDeal then (M.wBad, L) else M.one1 L k a
  | [a, b] => if k = M.wOnce then M.two1 L a b else (M.wBad, L)
  | [a, b, c] => if k = M.wDeal then (M.three1 a b c, L) else (M.wBad, L)
  | _ => (M.wBad, L)
theorem M.line_deed {L : List (List M.Val)} {s k : List UInt8} {ws : List (List UInt8)} (h : M.cutB 32 s = k :: ws) : M.lineR L s = M.deedR L k ws := by
  unfold M.lineR
  rw [h]
  match ws with
  | [] => rfl
  | [a] => rfl
  | [a, b] => rfl
  | [a, b, c] =>
    show (if k = M.wDeal then ((if M.numB a = true ∧ M.numB b = true ∧ M.numB c = true then M.dealT (M.numI a) (M.numI b) (M.numI c) else M.wBad), L) else (M.wBad, L)) = _
    rfl
  | _ :: _ :: _ :: _ :: _ => rfl
theorem M.deed_bad {L : List (List M.Val)} {k : List UInt8} {ws : List (List UInt8)} (h1 : ws.length = 1 → k ≠ M.wPut ∧ k ≠ M.wRead ∧ k ≠ M.wTake ∧ k ≠ M.wCount ∧ k ≠ M.wPrint) (h2 : ws.length = 2 → k ≠ M.wOnce) (h3 : ws.length = 3 → k ≠ M.wDeal) : M.deedR L k ws = (M.wBad, L) := by
  match ws with
  | [] => rfl
  | [a] =>
    obtain ⟨g1, g2, g3, g4, g5⟩ := h1 rfl
    show (if k = M.wOnce ∨ k = M.wDeal then (M.wBad, L) else M.one1 L k a) = _
    split
    · rfl
    · unfold M.one1 M.oneR
      rw [if_neg g1, if_neg g2, if_neg g3, if_neg g4, if_neg g5]
      split <;> rfl
  | [a, b] => exact if_neg (h2 rfl)
  | [a, b, c] => exact if_neg (h3 rfl)
  | _ :: _ :: _ :: _ :: _ => rfl
def lists (ws : List ByteArray) : List (List UInt8) := ws.map fun s => s.data.toList
theorem data_own {a b : ByteArray} (h : a.data.toList = b.data.toList) : a = b := by
  obtain ⟨a⟩ := a
  obtain ⟨b⟩ := b
  have : a = b := Array.toList_inj.1 h
  rw [this]

section
variable {base D S H b off cap n : Nat} {v : Value} {L : List (List M.Val)} {w : World} {k : ByteArray} {ws : List ByteArray}

set_option maxRecDepth 100000 in
set_option maxHeartbeats 1000000 in
/-- a word that is found, with as many words as it wants: its deed is done -/
theorem doHit {F : FuncId} (m : Nat) (hk : deedOf k = some (deedV m F)) (hd : Dk w D S H) (hs : Space base w S v L) (hz : k.size ≤ 3000) (hE : Enters Tryz.prog F) (R : List UInt8 × List (List M.Val))
    (hC : ∀ wx, Below w.heap.size w wx → Calls Tryz.prog F #[.pointer (some ⟨D, 0, none⟩), .slice (some ⟨b, off, none⟩) m cap] wx fun e w' => (∃ r, e = .returned r ∧ Out R.1 r) ∧ Then base wx w' S v R.2) :
    Calls Tryz.prog 114 #[.pointer (some ⟨D, 0, none⟩), .string k, .slice (some ⟨b, off, none⟩) m cap] w fun e w' => (∃ r, e = .returned r ∧ Out R.1 r) ∧ Then base w w' S v R.2 := by
  have hl := hd.map.look hz
  rw [hk] at hl
  have hl : (Instr.lookup 138 (.map (some H)) (.string k) true).run Tryz.prog w = .ok (.tuple #[.agg #[.int .i64 m, .func (.func F) #[] #[]], .bool true]) w := hl
  have hst : (store ⟨w.heap.size, 1, none⟩ (.func (.func F) #[] #[])).run Tryz.prog (w.alloc (.cells #[.int .i64 m, .nilFunc] 173)) = .ok () (w.alloc (.cells #[.int .i64 m, .func (.func F) #[] #[]] 173)) := by
    rw [run_store _ _ _ _ _ rfl]
    simp [go_sem]
  obtain ⟨d0, d1, dn⟩ := hd.cells
  have HB : Hid (∀ o, Below w.heap.size w (w.alloc o)) := hide fun o => (Below.refl _ _).alloc (Nat.le_refl _) o
  have HC := hide hC
  have hE2 : ∀ args wx, (callFunc F args).run Tryz.prog wx = .ok (.enter F args) wx := hE
  clear hd hs hz hC hk hE
  go_enter Tryz.func114, Tryz.ntmps114
  go_wp2_with fail
  refine (HC.out _ (HB.out _)).mono ?_
  rintro e w1 ⟨⟨r, rfl, hr⟩, hn⟩
  have HN := hide (Then.after (HB.out _) hn)
  clear hn
  rcases hr with rfl | ⟨ht, n, rfl⟩ | ⟨E, h1, h8, ht, rfl⟩
  · dsimp only
    go_wp2_with fail
    go_ret2
    exact ⟨⟨_, rfl, Or.inl rfl⟩, HN.out⟩
  · dsimp only
    go_wp2_with fail
    go_ret2
    exact ⟨⟨_, rfl, Or.inr (Or.inl ⟨by first | exact ht | rfl, n, rfl⟩)⟩, HN.out⟩
  · dsimp only
    go_wp2_with fail
    go_ret2
    exact ⟨⟨_, rfl, Or.inr (Or.inr ⟨E, h1, h8, by first | exact ht | rfl, rfl⟩)⟩, HN.out⟩

set_option maxRecDepth 100000 in
set_option maxHeartbeats 1000000 in
/-- a word that is found, with another number of words -/
theorem doMiss {F : FuncId} (m : Nat) (hk : deedOf k = some (deedV m F)) (hd : Dk w D S H) (hs : Space base w S v L) (hz : k.size ≤ 3000) (hn : n ≠ m) :
    Calls Tryz.prog 114 #[.pointer (some ⟨D, 0, none⟩), .string k, .slice (some ⟨b, off, none⟩) n cap] w fun e w' => (∃ r, e = .returned r ∧ Out M.wBad r) ∧ Then base w w' S v L := by
  have hl := hd.map.look hz
  rw [hk] at hl
  have hl2 : (Instr.lookup 138 (.map (some H)) (.string k) true).run Tryz.prog w = .ok (.tuple #[.agg #[.int .i64 m, .func (.func F) #[] #[]], .bool true]) w := hl
  have hst : (store ⟨w.heap.size, 1, none⟩ (.func (.func F) #[] #[])).run Tryz.prog (w.alloc (.cells #[.int .i64 m, .nilFunc] 173)) = .ok () (w.alloc (.cells #[.int .i64 m, .func (.func F) #[] #[]] 173)) := by
    rw [run_store _ _ _ _ _ rfl]
    simp [go_sem]
  obtain ⟨d0, d1, dn⟩ := hd.cells
  have HB : Hid (∀ o, Below w.heap.size w (w.alloc o)) := hide fun o => (Below.refl _ _).alloc (Nat.le_refl _) o
  have hne : ((n : Int) == (m : Int)) = false := beq_eq_false_iff_ne.2 (by omega)
  have HS := hide hs
  clear hd hs hz hk hl hn
  go_enter Tryz.func114, Tryz.ntmps114
  go_wp2_with fail
  go_ret2
  exact ⟨⟨_, rfl, Or.inr (Or.inl ⟨rfl, 2, rfl⟩)⟩, Then.still HS.out (HB.out _)⟩

set_option maxRecDepth 100000 in
set_option maxHeartbeats 1000000 in
/-- a word that is not found -/
theorem doNone (hk : deedOf k = none) (hd : Dk w D S H) (hs : Space base w S v L) (hz : k.size ≤ 3000) :
    Calls Tryz.prog 114 #[.pointer (some ⟨D, 0, none⟩), .string k, .slice (some ⟨b, off, none⟩) n cap] w fun e w' => (∃ r, e = .returned r ∧ Out M.wBad r) ∧ Then base w w' S v L := by
  have hl := hd.map.look hz
  rw [hk] at hl
  have hl2 : (Instr.lookup 138 (.map (some H)) (.string k) true).run Tryz.prog w = .ok (.tuple #[.agg #[.int .i64 0, .nilFunc], .bool false]) w := hl
  have hst : (store ⟨w.heap.size, 1, none⟩ .nilFunc).run Tryz.prog (w.alloc (.cells #[.int .i64 0, .nilFunc] 173)) = .ok () (w.alloc (.cells #[.int .i64 0, .nilFunc] 173)) := by
    rw [run_store _ _ _ _ _ rfl]
    simp [go_sem]
  obtain ⟨d0, d1, dn⟩ := hd.cells
  have HB : Hid (∀ o, Below w.heap.size w (w.alloc o)) := hide fun o => (Below.refl _ _).alloc (Nat.le_refl _) o
  have HS := hide hs
  clear hd hs hz hk hl
  go_enter Tryz.func114, Tryz.ntmps114
  go_wp2_with fail
  go_ret2
  exact ⟨⟨_, rfl, Or.inr (Or.inl ⟨rfl, 2, rfl⟩)⟩, Then.still HS.out (HB.out _)⟩

theorem one_of {ws : List ByteArray} (h : ws.length = 1) : ∃ s, ws = [s] := by
  match ws, h with
  | [s], _ => exact ⟨s, rfl⟩
theorem two_of {ws : List ByteArray} (h : ws.length = 2) : ∃ s t, ws = [s, t] := by
  match ws, h with
  | [s, t], _ => exact ⟨s, t, rfl⟩
theorem three_of {ws : List ByteArray} (h : ws.length = 3) : ∃ s t u, ws = [s, t, u] := by
  match ws, h with
  | [s, t, u], _ => exact ⟨s, t, u, rfl⟩
theorem deed_one {k : List UInt8} {s : ByteArray} (h : k ≠ M.wOnce) (h2 : k ≠ M.wDeal) : M.deedR L k (lists [s]) = M.one1 L k s.data.toList := if_neg (by simp [h, h2])

/-- what a line's words come to -/
theorem dDo (hd : Dk w D S H) (hs : Space base w S v L) (hL : M.Fine L) (hv : EnvFrom base w) (hn : n = ws.length) (hl : Wds w b off ws) (hk : k.size ≤ 3000) (hz : ∀ s ∈ ws, s.size ≤ 3000) :
    Calls Tryz.prog 114 #[.pointer (some ⟨D, 0, none⟩), .string k, .slice (some ⟨b, off, none⟩) n cap] w fun e w' => (∃ r, e = .returned r ∧ Out (M.deedR L k.data.toList (lists ws)).1 r) ∧ Then base w w' S v (M.deedR L k.data.toList (lists ws)).2 := by
  subst hn
  have hlen : (lists ws).length = ws.length := by simp [lists]
  have st : ∀ wx, Below w.heap.size w wx → EnvFrom base wx := fun wx hb => hv.next (hb.mono hs.room)
  have ke : ∀ {x : ByteArray} {l : List UInt8}, x.data.toList = l → k ≠ x → k.data.toList ≠ l := fun {x l} e h h2 => h (data_own (h2.trans e.symm))
  by_cases h1 : k = bDeal
  · have hD : deedOf k = some (deedV 3 111) := by unfold deedOf; rw [if_pos h1]
    have hkl : k.data.toList = M.wDeal := by rw [h1]; rfl
    by_cases hw : ws.length = 3
    · obtain ⟨s, t, u, rfl⟩ := three_of hw
      have e : M.deedR L k.data.toList (lists [s, t, u]) = (M.three1 s.data.toList t.data.toList u.data.toList, L) := by rw [hkl]; rfl
      rw [e]
      exact doHit 3 hD hd hs hk (enters_of Tryz.func111 (by kernel_rfl) rfl) _ fun wx hb => (dDeal (cap := cap) (hl.stays hb (Nat.le_refl _)) hz (st wx hb).env).mono fun e w' ⟨h, h2⟩ => ⟨h, Then.still (hs.stays hb) h2⟩
    · rw [M.deed_bad (fun _ => by rw [hkl]; decide) (fun _ => by rw [hkl]; decide) (fun h => absurd (hlen ▸ h) hw)]
      exact doMiss 3 hD hd hs hk hw
  by_cases h2 : k = bPrint
  · have hD : deedOf k = some (deedV 1 110) := by unfold deedOf; rw [if_neg h1, if_pos h2]
    have hkl : k.data.toList = M.wPrint := by rw [h2]; rfl
    by_cases hw : ws.length = 1
    · obtain ⟨s, rfl⟩ := one_of hw
      rw [deed_one (by rw [hkl]; decide) (by rw [hkl]; decide), hkl]
      exact doHit 1 hD hd hs hk (enters_of Tryz.func110 (by kernel_rfl) rfl) _ fun wx hb => dPrint (cap := cap) (hs.stays hb) (hl.stays hb (Nat.le_refl _)) (hz s (by simp)) (st wx hb)
    · rw [M.deed_bad (fun h => absurd (hlen ▸ h) hw) (fun _ => by rw [hkl]; decide) (fun _ => by rw [hkl]; decide)]
      exact doMiss 1 hD hd hs hk hw
  by_cases h3 : k = bCount
  · have hD : deedOf k = some (deedV 1 109) := by unfold deedOf; rw [if_neg h1, if_neg h2, if_pos h3]
    have hkl : k.data.toList = M.wCount := by rw [h3]; rfl
    by_cases hw : ws.length = 1
    · obtain ⟨s, rfl⟩ := one_of hw
      rw [deed_one (by rw [hkl]; decide) (by rw [hkl]; decide), hkl]
      exact doHit 1 hD hd hs hk (enters_of Tryz.func109 (by kernel_rfl) rfl) _ fun wx hb => dCount (cap := cap) (hd.quiet hb).desk (hs.stays hb) hL (hl.stays hb (Nat.le_refl _)) (hz s (by simp)) (st wx hb)
    · rw [M.deed_bad (fun h => absurd (hlen ▸ h) hw) (fun _ => by rw [hkl]; decide) (fun _ => by rw [hkl]; decide)]
      exact doMiss 1 hD hd hs hk hw
  by_cases h4 : k = bOnce
  · have hD : deedOf k = some (deedV 2 108) := by unfold deedOf; rw [if_neg h1, if_neg h2, if_neg h3, if_pos h4]
    have hkl : k.data.toList = M.wOnce := by rw [h4]; rfl
    by_cases hw : ws.length = 2
    · obtain ⟨s, t, rfl⟩ := two_of hw
      have e : M.deedR L k.data.toList (lists [s, t]) = M.two1 L s.data.toList t.data.toList := by rw [hkl]; rfl
      rw [e]
      exact doHit 2 hD hd hs hk (enters_of Tryz.func108 (by kernel_rfl) rfl) _ fun wx hb => dOnce (cap := cap) (hd.quiet hb).desk (hs.stays hb) hL (hl.stays hb (Nat.le_refl _)) (hz s (by simp)) (hz t (by simp))
    · rw [M.deed_bad (fun _ => by rw [hkl]; decide) (fun h => absurd (hlen ▸ h) hw) (fun _ => by rw [hkl]; decide)]
      exact doMiss 2 hD hd hs hk hw
  by_cases h5 : k = bTake
  · have hD : deedOf k = some (deedV 1 107) := by unfold deedOf; rw [if_neg h1, if_neg h2, if_neg h3, if_neg h4, if_pos h5]
    have hkl : k.data.toList = M.wTake := by rw [h5]; rfl
    by_cases hw : ws.length = 1
    · obtain ⟨s, rfl⟩ := one_of hw
      rw [deed_one (by rw [hkl]; decide) (by rw [hkl]; decide), hkl]
      exact doHit 1 hD hd hs hk (enters_of Tryz.func107 (by kernel_rfl) rfl) _ fun wx hb => dTake (cap := cap) (hd.quiet hb).desk (hs.stays hb) hL (hl.stays hb (Nat.le_refl _)) (hz s (by simp)) (st wx hb)
    · rw [M.deed_bad (fun h => absurd (hlen ▸ h) hw) (fun _ => by rw [hkl]; decide) (fun _ => by rw [hkl]; decide)]
      exact doMiss 1 hD hd hs hk hw
  by_cases h6 : k = bRead
  · have hD : deedOf k = some (deedV 1 106) := by unfold deedOf; rw [if_neg h1, if_neg h2, if_neg h3, if_neg h4, if_neg h5, if_pos h6]
    have hkl : k.data.toList = M.wRead := by rw [h6]; rfl
    by_cases hw : ws.length = 1
    · obtain ⟨s, rfl⟩ := one_of hw
      rw [deed_one (by rw [hkl]; decide) (by rw [hkl]; decide), hkl]
      exact doHit 1 hD hd hs hk (enters_of Tryz.func106 (by kernel_rfl) rfl) _ fun wx hb => dRead (cap := cap) (hd.quiet hb).desk (hs.stays hb) hL (hl.stays hb (Nat.le_refl _)) (hz s (by simp)) (st wx hb)
    · rw [M.deed_bad (fun h => absurd (hlen ▸ h) hw) (fun _ => by rw [hkl]; decide) (fun _ => by rw [hkl]; decide)]
      exact doMiss 1 hD hd hs hk hw
  by_cases h7 : k = bPut
  · have hD : deedOf k = some (deedV 1 105) := by unfold deedOf; rw [if_neg h1, if_neg h2, if_neg h3, if_neg h4, if_neg h5, if_neg h6, if_pos h7]
    have hkl : k.data.toList = M.wPut := by rw [h7]; rfl
    by_cases hw : ws.length = 1
    · obtain ⟨s, rfl⟩ := one_of hw
      rw [deed_one (by rw [hkl]; decide) (by rw [hkl]; decide), hkl]
      exact doHit 1 hD hd hs hk (enters_of Tryz.func105 (by kernel_rfl) rfl) _ fun wx hb => dPut (cap := cap) (hd.quiet hb).desk (hs.stays hb) (hl.stays hb (Nat.le_refl _)) (hz s (by simp))
    · rw [M.deed_bad (fun h => absurd (hlen ▸ h) hw) (fun _ => by rw [hkl]; decide) (fun _ => by rw [hkl]; decide)]
      exact doMiss 1 hD hd hs hk hw
  · have hD : deedOf k = none := by unfold deedOf; rw [if_neg h1, if_neg h2, if_neg h3, if_neg h4, if_neg h5, if_neg h6, if_neg h7]
    rw [M.deed_bad (fun _ => ⟨ke (x := bPut) rfl h7, ke (x := bRead) rfl h6, ke (x := bTake) rfl h5, ke (x := bCount) rfl h3, ke (x := bPrint) rfl h2⟩) (fun _ => ke (x := bOnce) rfl h4) (fun _ => ke (x := bDeal) rfl h1)]
    exact doNone hD hd hs hk
end
end Go.Proofs.YtlefhfmckimlaakGreatDoor
