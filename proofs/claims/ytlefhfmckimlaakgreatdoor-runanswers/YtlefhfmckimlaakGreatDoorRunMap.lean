/-
  The desk of a session with its map of deeds: what is in it, that it stays, and what do of package run makes of a line's words.
-/
import Derived.Test.YtlefhfmckimlaakGreatDoorRunDesk
import Derived.Maps.Views
import Derived.Maps.Own
import Derived.Maps.OwnOps
import Derived.Maps.OwnSet
import Derived.Carry
set_option linter.unusedVariables false
namespace Go.Proofs.YtlefhfmckimlaakGreatDoor
open Go.RowKit Go.WideMaps Go.Maps

/-- a text as a key -/
def keyT (s : ByteArray) : Lit := .string s.data.toList
theorem keyT_own {a b : ByteArray} (h : keyT a = keyT b) : a = b := by
  obtain ⟨a⟩ := a
  obtain ⟨b⟩ := b
  have h1 : a.toList = b.toList := by simpa [keyT] using h
  rw [Array.toList_inj.1 h1]
/-- how an element of whatever type reads: as itself -/
def heldV (v : Value) : Option (DataW Value × List MemPlace) := some (.held v, [])
/-- a deed: how many words, and the function -/
abbrev deedV (n : Int) (f : FuncId) : Value := .agg #[.int .i64 n, .func (.func f) #[] #[]]
abbrev noDeed : Value := .agg #[.int .i64 0, .nilFunc]
def bPut : ByteArray := ⟨#[112, 117, 116]⟩
def bRead : ByteArray := ⟨#[114, 101, 97, 100]⟩
def bTake : ByteArray := ⟨#[116, 97, 107, 101]⟩
def bOnce : ByteArray := ⟨#[111, 110, 99, 101]⟩
def bCount : ByteArray := ⟨#[99, 111, 117, 110, 116]⟩
def bPrint : ByteArray := ⟨#[112, 114, 105, 110, 116]⟩
def bDeal : ByteArray := ⟨#[100, 101, 97, 108]⟩
/-- what the map holds -/
def deedsD : DataW Value := ((((((((DataW.map []).put (keyT bPut) (.held (deedV 1 105))).put (keyT bRead) (.held (deedV 1 106))).put (keyT bTake) (.held (deedV 1 107))).put (keyT bOnce) (.held (deedV 2 108))).put (keyT bCount) (.held (deedV 1 109))).put (keyT bPrint) (.held (deedV 1 110))).put (keyT bDeal) (.held (deedV 3 111)))
theorem put_at {D : DataW Value} (hD : IsMap D) (n s : ByteArray) (d z : DataW Value) : (D.put (keyT n) d).atKey (keyT s) z = (if s = n then d else D.atKey (keyT s) z) ∧ Maps.has (D.put (keyT n) d) (keyT s) = (if s = n then true else Maps.has D (keyT s)) := by
  by_cases e : s = n
  · subst e
    rw [if_pos rfl, if_pos rfl]
    exact ⟨atKey_put_same hD (by simp [keyT, WideAt.IsKeyLit]) _ _, has_put_same hD (by simp [keyT, WideAt.IsKeyLit]) _⟩
  · rw [if_neg e, if_neg e]
    exact ⟨atKey_put_other (fun g => e (keyT_own g)) _ _, has_put_other (fun g => e (keyT_own g)) _⟩
/-- what is found by a word -/
def deedOf (s : ByteArray) : Option Value :=
  if s = bDeal then some (deedV 3 111) else if s = bPrint then some (deedV 1 110) else if s = bCount then some (deedV 1 109) else if s = bOnce then some (deedV 2 108)
  else if s = bTake then some (deedV 1 107) else if s = bRead then some (deedV 1 106) else if s = bPut then some (deedV 1 105) else none
theorem deeds_at (s : ByteArray) : deedsD.atKey (keyT s) (.held noDeed) = .held ((deedOf s).getD noDeed) ∧ Maps.has deedsD (keyT s) = (deedOf s).isSome := by
  unfold deedsD deedOf
  have m0 : IsMap (DataW.map [] : DataW Value) := isMap_empty
  have m1 := m0.put (keyT bPut) (.held (deedV 1 105))
  have m2 := m1.put (keyT bRead) (.held (deedV 1 106))
  have m3 := m2.put (keyT bTake) (.held (deedV 1 107))
  have m4 := m3.put (keyT bOnce) (.held (deedV 2 108))
  have m5 := m4.put (keyT bCount) (.held (deedV 1 109))
  have m6 := m5.put (keyT bPrint) (.held (deedV 1 110))
  rw [(put_at m6 _ s _ _).1, (put_at m6 _ s _ (.held noDeed)).2]
  by_cases h : s = bDeal
  · rw [if_pos h, if_pos h, if_pos h]; exact ⟨rfl, rfl⟩
  rw [if_neg h, if_neg h, if_neg h, (put_at m5 _ s _ _).1, (put_at m5 _ s _ (.held noDeed)).2]
  by_cases h : s = bPrint
  · rw [if_pos h, if_pos h, if_pos h]; exact ⟨rfl, rfl⟩
  rw [if_neg h, if_neg h, if_neg h, (put_at m4 _ s _ _).1, (put_at m4 _ s _ (.held noDeed)).2]
  by_cases h : s = bCount
  · rw [if_pos h, if_pos h, if_pos h]; exact ⟨rfl, rfl⟩
  rw [if_neg h, if_neg h, if_neg h, (put_at m3 _ s _ _).1, (put_at m3 _ s _ (.held noDeed)).2]
  by_cases h : s = bOnce
  · rw [if_pos h, if_pos h, if_pos h]; exact ⟨rfl, rfl⟩
  rw [if_neg h, if_neg h, if_neg h, (put_at m2 _ s _ _).1, (put_at m2 _ s _ (.held noDeed)).2]
  by_cases h : s = bTake
  · rw [if_pos h, if_pos h, if_pos h]; exact ⟨rfl, rfl⟩
  rw [if_neg h, if_neg h, if_neg h, (put_at m1 _ s _ _).1, (put_at m1 _ s _ (.held noDeed)).2]
  by_cases h : s = bRead
  · rw [if_pos h, if_pos h, if_pos h]; exact ⟨rfl, rfl⟩
  rw [if_neg h, if_neg h, if_neg h, (put_at m0 _ s _ _).1, (put_at m0 _ s _ (.held noDeed)).2]
  by_cases h : s = bPut
  · rw [if_pos h, if_pos h, if_pos h]; exact ⟨rfl, rfl⟩
  rw [if_neg h, if_neg h, if_neg h]
  exact ⟨rfl, rfl⟩

theorem keyedT : Keyed Tryz.prog 9 := string_keyed Tryz.underlying9
theorem keyT_mk {s : ByteArray} (h : s.size ≤ 3000) : keyOf Tryz.prog 9 (.string s) = some (keyT s) := keyOf_string_mk Tryz.underlying9 (by unfold maxLen; omega)
theorem zero_deed (w : World) : (zeroValue 173).run Tryz.prog w = .ok noDeed w := by kernel_rfl
/-- the map of deeds in block H -/
def Deeds (w : World) (H : Nat) : Prop := ∃ n, w.ownsMap Tryz.prog 9 heldV H n deedsD
theorem Deeds.look {w : World} {H : Nat} (h : Deeds w H) {s : ByteArray} (hs : s.size ≤ 3000) : (Instr.lookup 138 (.map (some H)) (.string s) true).run Tryz.prog w = .ok (.tuple #[(deedOf s).getD noDeed, .bool (deedOf s).isSome]) w := by
  obtain ⟨n, h⟩ := h
  obtain ⟨v, ps, hr, hv⟩ := h.look_ok keyedT Tryz.underlying138 (zero_deed w) (zd := .held noDeed) (zp := []) rfl (keyT_mk hs)
  rw [(deeds_at s).1] at hv
  have e : v = (deedOf s).getD noDeed := by
    unfold heldV at hv
    simp only [Option.some.injEq, Prod.mk.injEq, DataW.held.injEq] at hv
    exact hv.1
  rw [e, (deeds_at s).2] at hr
  exact hr
theorem Deeds.kept {w w' : World} {H : Nat} (h : Deeds w H) (hk : w'.heap[H]? = w.heap[H]?) : Deeds w' H := by
  obtain ⟨n, es, c, hb, r⟩ := h
  exact ⟨n, es, c, hk.trans hb, r⟩
theorem Deeds.heap {w : World} {H : Nat} (h : Deeds w H) : ∃ es c, w.heap[H]? = some (.map es c) := by
  obtain ⟨n, es, c, hb, r⟩ := h
  exact ⟨es, c, hb⟩

/-- the desk: it leads to the space and to the deeds -/
structure Dk (w : World) (D S H : Nat) : Prop where
  heap : w.heap[D]? = some (.cells #[.pointer (some ⟨S, 0, none⟩), .map (some H)] 141 (0, 0))
  map : Deeds w H
section
variable {base D S H : Nat} {v v' x : Value} {L L' : List (List M.Val)} {w w' w1 : World}
theorem Dk.desk (h : Dk w D S H) : DeskAt w D S := ⟨_, h.heap⟩
theorem Dk.cells (h : Dk w D S H) : w.cell? ⟨D, 0, none⟩ = some (.pointer (some ⟨S, 0, none⟩)) ∧ w.cell? ⟨D, 1, none⟩ = some (.map (some H)) ∧ D < w.heap.size := by
  refine ⟨?_, ?_, heap_lt h.heap⟩
  · rw [cell_of_row w D 0 _ _ (0, 0) h.heap]; rfl
  · rw [cell_of_row w D 1 _ _ (0, 0) h.heap]; rfl
theorem Dk.quiet (h : Dk w D S H) (hb : Below w.heap.size w w') : Dk w' D S H := by
  obtain ⟨es, c, hh⟩ := h.map.heap
  exact ⟨(hb.block D (heap_lt h.heap)).trans h.heap, h.map.kept (hb.block H (heap_lt hh))⟩
theorem Dk.touch (h : Dk w D S H) (hs : Space base w S v L) (ht : Touch S v w w') : Dk w' D S H := by
  obtain ⟨es, c, hh⟩ := h.map.heap
  refine ⟨hs.off h.heap (by decide) (by decide) ht, h.map.kept (ht.block H (heap_lt hh) (fun e => ?_) (fun e => ?_))⟩
  · rw [e, hs.heap] at hh; cases hh
  · obtain ⟨xs, h1, _⟩ := hs.row
    rcases h1.2 with ⟨hv, _⟩ | ⟨g, cap, cur, hv, _, hg, _⟩
    · rw [hv] at e; cases e
    · rw [hv] at e
      have : g = H := by simpa [Value.ownBlock] using e
      subst this
      rw [hg] at hh
      cases hh
end

set_option maxRecDepth 100000 in
set_option maxHeartbeats 1000000 in
/-- the map is made -/
theorem rDeeds (w : World) : Calls Tryz.prog 68 #[] w fun e w' => e = .returned (.map (some w.heap.size)) ∧ Deeds w' w.heap.size ∧ Below w.heap.size w w' := by
  have h0 := World.ownsMap_made (H := Value) w Tryz.prog 9 heldV
  have hm := Tryz.underlying138
  have kk : ∀ {s : ByteArray}, s.size ≤ 3000 → keyOf Tryz.prog 9 (.string s) = some (keyT s) := keyT_mk
  obtain ⟨w1, r1, o1, g1⟩ := h0.update keyedT hm (by unfold maxLen; decide) (kk (s := bPut) (by decide)) (val := deedV 1 105) (d := .held (deedV 1 105)) (ps := []) rfl
  obtain ⟨w2, r2, o2, g2⟩ := o1.update keyedT hm (by unfold maxLen; decide) (kk (s := bRead) (by decide)) (val := deedV 1 106) (d := .held (deedV 1 106)) (ps := []) rfl
  obtain ⟨w3, r3, o3, g3⟩ := o2.update keyedT hm (by unfold maxLen; decide) (kk (s := bTake) (by decide)) (val := deedV 1 107) (d := .held (deedV 1 107)) (ps := []) rfl
  obtain ⟨w4, r4, o4, g4⟩ := o3.update keyedT hm (by unfold maxLen; decide) (kk (s := bOnce) (by decide)) (val := deedV 2 108) (d := .held (deedV 2 108)) (ps := []) rfl
  obtain ⟨w5, r5, o5, g5⟩ := o4.update keyedT hm (by unfold maxLen; decide) (kk (s := bCount) (by decide)) (val := deedV 1 109) (d := .held (deedV 1 109)) (ps := []) rfl
  obtain ⟨w6, r6, o6, g6⟩ := o5.update keyedT hm (by unfold maxLen; decide) (kk (s := bPrint) (by decide)) (val := deedV 1 110) (d := .held (deedV 1 110)) (ps := []) rfl
  obtain ⟨w7, r7, o7, g7⟩ := o6.update keyedT hm (by unfold maxLen; decide) (kk (s := bDeal) (by decide)) (val := deedV 3 111) (d := .held (deedV 3 111)) (ps := []) rfl
  have HO := hide o7
  have HB : Hid (Below w.heap.size w w7) := hide (by
    have b0 : Below w.heap.size w (w.alloc (.map #[] 0)) := (Below.refl _ _).alloc (Nat.le_refl _) _
    have st : ∀ {a b : World}, Below w.heap.size w a → a.grownBy b (some w.heap.size) → Below w.heap.size w b := fun {a b} ha hg => ha.grown hg ha.size (fun j hj => by cases hj; exact Nat.le_refl _)
    exact st (st (st (st (st (st (st b0 g1) g2) g3) g4) g5) g6) g7)
  unfold bPut at r1
  unfold bRead at r2
  unfold bTake at r3
  unfold bOnce at r4
  unfold bCount at r5
  unfold bPrint at r6
  unfold bDeal at r7
  clear h0 o1 o2 o3 o4 o5 o6 o7 g1 g2 g3 g4 g5 g6 g7 kk
  have hmm := @run_makeMap Tryz.prog
  go_enter Tryz.func68, Tryz.ntmps68
  go_wp2_with fail
  go_ret
  exact ⟨rfl, ⟨_, HO.out⟩, HB.out⟩

end Go.Proofs.YtlefhfmckimlaakGreatDoor
