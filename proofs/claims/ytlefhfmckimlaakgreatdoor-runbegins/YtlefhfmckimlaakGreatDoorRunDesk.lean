/-
  The desk of a session: what stays while its space is written; what put and once of package run do with their words, each as one law of its call.
-/
import Derived.Test.YtlefhfmckimlaakGreatDoorRunRead
import Derived.Test.YtlefhfmckimlaakGreatDoorRunName
import Derived.Test.YtlefhfmckimlaakGreatDoorRunSize
import Derived.Test.YtlefhfmckimlaakGreatDoorJOnce
import Derived.Test.YtlefhfmckimlaakGreatDoorJPrint
import Derived.Test.YtlefhfmckimlaakGreatDoorJSpace
set_option linter.unusedVariables false
namespace Go.Proofs.YtlefhfmckimlaakGreatDoor
open Go.RowKit

/-- a line's deed with one word, with two, with three -/
def M.one1 (L : List (List M.Val)) (k a : List UInt8) : List UInt8 × List (List M.Val) := if M.readE a ≠ 0 then (M.wBad, L) else M.oneR L k (M.readV a)
def M.two1 (L : List (List M.Val)) (a b : List UInt8) : List UInt8 × List (List M.Val) := if M.readE a ≠ 0 ∨ M.readE b ≠ 0 then (M.wBad, L) else M.onceR L (M.readV a) (M.readV b)
def M.three1 (a b c : List UInt8) : List UInt8 := if M.numB a = true ∧ M.numB b = true ∧ M.numB c = true then M.dealT (M.numI a) (M.numI b) (M.numI c) else M.wBad
theorem M.one1_bad {L : List (List M.Val)} {k a : List UInt8} (h : M.readE a ≠ 0) : M.one1 L k a = (M.wBad, L) := if_pos h
theorem M.one1_put {L : List (List M.Val)} {a : List UInt8} (h : M.readE a = 0) : M.one1 L M.wPut a = (if M.putF L (M.readV a) ≠ 0 then M.errN (M.putF L (M.readV a)) else M.wOk, M.putL L (M.readV a)) := by
  unfold M.one1 M.oneR
  rw [if_neg (by simpa using h), if_pos rfl]
theorem M.one1_read {L : List (List M.Val)} {a : List UInt8} (h : M.readE a = 0) : M.one1 L M.wRead a = (if M.getF (M.readV a) L ≠ 0 then M.errN (M.getF (M.readV a) L) else (M.line (M.getV (M.readV a) L)).data.toList, L) := by
  unfold M.one1 M.oneR
  rw [if_neg (by simpa using h), if_neg (by decide), if_pos rfl]
theorem M.one1_take {L : List (List M.Val)} {a : List UInt8} (h : M.readE a = 0) : M.one1 L M.wTake a = (if M.getF (M.readV a) L ≠ 0 then M.errN (M.getF (M.readV a) L) else (M.line (M.getV (M.readV a) L)).data.toList, M.lessL (M.readV a) L) := by
  unfold M.one1 M.oneR
  rw [if_neg (by simpa using h), if_neg (by decide), if_neg (by decide), if_pos rfl]
theorem M.one1_count {L : List (List M.Val)} {a : List UInt8} (h : M.readE a = 0) : M.one1 L M.wCount a = (Lib.decDigits (M.many (M.readV a) L), L) := by
  unfold M.one1 M.oneR
  rw [if_neg (by simpa using h), if_neg (by decide), if_neg (by decide), if_neg (by decide), if_pos rfl]
theorem M.one1_print {L : List (List M.Val)} {a : List UInt8} (h : M.readE a = 0) : M.one1 L M.wPrint a = (Lib.decDigits (M.hash (M.line (M.readV a))).toNat, L) := by
  unfold M.one1 M.oneR
  rw [if_neg (by simpa using h), if_neg (by decide), if_neg (by decide), if_neg (by decide), if_neg (by decide), if_pos rfl]

/-- which errors there are -/
theorem M.firstF_range : ∀ (l : List M.Val), 0 ≤ M.firstF l ∧ M.firstF l ≤ 8
  | [] => by simp [M.firstF]
  | v :: r => by
    have h1 := M.fault_range v.k v.n v.s
    have h2 := M.firstF_range r
    unfold M.firstF
    split
    · show 0 ≤ M.fault v.k v.n v.s ∧ M.fault v.k v.n v.s ≤ 8
      omega
    · exact h2
theorem M.likeF_range (l : List M.Val) : 0 ≤ M.likeF l ∧ M.likeF l ≤ 8 := by
  have := M.firstF_range l
  unfold M.likeF
  repeat' split
  all_goals omega
theorem M.tupF_range (l : List M.Val) : 0 ≤ M.tupF l ∧ M.tupF l ≤ 8 := by
  have := M.likeF_range l
  unfold M.tupF
  repeat' split
  all_goals omega
theorem M.putF_range (L : List (List M.Val)) (t : List M.Val) : 0 ≤ M.putF L t ∧ M.putF L t ≤ 8 := by
  have := M.tupF_range t
  unfold M.putF
  repeat' split
  all_goals omega
theorem M.getF_range (a : List M.Val) (L : List (List M.Val)) : 0 ≤ M.getF a L ∧ M.getF a L ≤ 8 := by
  have := M.likeF_range a
  unfold M.getF
  repeat' split
  all_goals omega
theorem M.onceF_range (a : List M.Val) (L : List (List M.Val)) (t : List M.Val) : 0 ≤ M.onceF a L t ∧ M.onceF a L t ≤ 8 := by
  have := M.likeF_range a
  have := M.tupF_range t
  have := M.putF_range L t
  unfold M.onceF
  repeat' split
  all_goals omega
/-- what can be read may be asked for -/
theorem M.read_like {l : List UInt8} (h : M.readE l = 0) : M.likeF (M.readV l) = 0 := by
  have hl : l.length ≠ 0 := fun e => by unfold M.readE at h; rw [if_pos e] at h; exact absurd h (by decide)
  have hf : M.firstP (M.cutL l) = 0 := by
    unfold M.readE at h
    rw [if_neg hl] at h
    by_cases e : M.firstP (M.cutL l) = 0
    · exact e
    · rw [if_pos e] at h; exact absurd h e
  have h5 : ¬ 5 < (M.cutL l).length := fun e => by
    unfold M.readE at h
    rw [if_neg hl, if_neg (by simpa using hf), if_pos e] at h
    exact absurd h (by decide)
  have hne : (M.cutL l).length ≠ 0 := fun e => M.cutL_ne l (List.length_eq_zero_iff.1 e)
  have ok : ∀ (ps : List (List UInt8)), M.firstP ps = 0 → ∀ v ∈ ps.map M.pVal, v.fault = 0 := by
    intro ps
    induction ps with
    | nil => intro _ v hv; simp at hv
    | cons p r ih =>
      intro hp v hv
      have h1 : M.pErrL p = 0 ∧ M.firstP r = 0 := by
        have hp' : (if M.pErrL p ≠ 0 then M.pErrL p else M.firstP r) = 0 := hp
        by_cases e : M.pErrL p = 0
        · rw [if_neg (by simpa using e)] at hp'; exact ⟨e, hp'⟩
        · rw [if_pos e] at hp'; exact absurd hp' e
      rw [List.map_cons] at hv
      rcases List.mem_cons.1 hv with rfl | hv
      · exact (M.back_text (s := ⟨p.toArray⟩) h1.1).1
      · exact ih h1.2 v hv
  unfold M.likeF
  have hr : M.readV l = (M.cutL l).map M.pVal := by unfold M.readV; rw [if_neg (by simpa using h)]
  rw [hr, List.length_map, if_neg hne, if_neg h5]
  exact firstF_ok (ok _ hf)

/-- what a deed gives: a text, or an error that is told by it -/
def Out (t : List UInt8) (r : Value) : Prop :=
  r = .tuple #[.string ⟨t.toArray⟩, .nilIface] ∨ (t = M.wBad ∧ ∃ n, r = .tuple #[.string ⟨#[]⟩, lineV n]) ∨ ∃ e, 1 ≤ e ∧ e ≤ 8 ∧ t = M.errN e ∧ r = .tuple #[.string ⟨#[]⟩, .iface 87 (.int .i64 e)]
/-- the space behind a deed -/
def Then (base : Nat) (w w' : World) (S : Nat) (v : Value) (L' : List (List M.Val)) : Prop := ∃ v', Space base w' S v' L' ∧ Touch S v w w' ∧ Near w v v'
/-- the desk leads to the space -/
def DeskAt (w : World) (D S : Nat) : Prop := ∃ m, w.heap[D]? = some (.cells #[.pointer (some ⟨S, 0, none⟩), m] 141 (0, 0))
/-- what the program's text lays stays, whatever is written from base on -/
def EnvFrom (base : Nat) (w : World) : Prop := ∀ w', Below base w w' → Env w'
section
variable {base D S : Nat} {v v' x : Value} {L L' : List (List M.Val)} {w w' w1 : World}
theorem Then.still (hs : Space base w S v L) (hb : Below w.heap.size w w') : Then base w w' S v L := ⟨v, hs.stays hb, Touch.of_below hb, Near.refl _ _⟩
theorem Then.after (hb : Below w.heap.size w w1) (h : Then base w1 w' S v L') : Then base w w' S v L' := by
  obtain ⟨v', h1, h2, h3⟩ := h
  exact ⟨v', h1, h2.after hb, h3.mono hb.size⟩
theorem Then.then {w2 : World} (h : Then base w w1 S v L') (hb : Below w1.heap.size w1 w2) : Then base w w2 S v L' := by
  obtain ⟨v', h1, h2, h3⟩ := h
  exact ⟨v', h1.stays hb, h2.then hb, h3⟩
theorem DeskAt.cells (h : DeskAt w D S) : w.cell? ⟨D, 0, none⟩ = some (.pointer (some ⟨S, 0, none⟩)) ∧ D < w.heap.size := by
  obtain ⟨m, h⟩ := h
  exact ⟨by rw [cell_of_row w D 0 _ _ (0, 0) h]; rfl, heap_lt h⟩
theorem DeskAt.quiet (h : DeskAt w D S) (hb : Below w.heap.size w w') : DeskAt w' D S := by
  obtain ⟨m, h⟩ := h
  exact ⟨m, (hb.block D (heap_lt h)).trans h⟩
theorem Space.off {cs : Array Value} {T : TypeId} {fr : Nat × Nat} (hs : Space base w S v L) (h : w.heap[D]? = some (.cells cs T fr)) (h1 : T ≠ 162) (h2 : T ≠ 32) (ht : Touch S v w w') : w'.heap[D]? = some (.cells cs T fr) := by
  refine (ht.block D (heap_lt h) (fun e => ?_) (Sp.off hs h h2)).trans h
  subst e
  rw [hs.heap] at h
  exact h1 (tag_eq h).symm
theorem DeskAt.touch (h : DeskAt w D S) (hs : Space base w S v L) (ht : Touch S v w w') : DeskAt w' D S := by
  obtain ⟨m, h⟩ := h
  exact ⟨m, hs.off h (by decide) (by decide) ht⟩
theorem EnvFrom.env (h : EnvFrom base w) : Env w := h w (Below.refl _ _)
theorem EnvFrom.next (h : EnvFrom base w) (hb : Below base w w1) : EnvFrom base w1 := fun w' h' => h w' (hb.trans h')
/-- a cell above all that the space had stays while the space is written -/
theorem Space.high {g j : Nat} (hs : Space base w S v L) (hb : Below w.heap.size w w1) (hg : w.heap.size ≤ g) (hx : w1.cell? ⟨g, j, none⟩ = some x) (ht : Touch S v w1 w') : w'.cell? ⟨g, j, none⟩ = some x := by
  have hlt := World.block_lt_of_cell? _ _ hx
  have e : w'.heap[g]? = w1.heap[g]? := ht.block g hlt (fun e => by have := heap_lt hs.heap; omega) (fun e => by have := (hs.row.lt g e).2; omega)
  rw [← hx]
  unfold World.cell?
  simp only [e]
end

/-- one word that can be read -/
theorem tup1 {b off cap : Nat} {s : ByteArray} {w : World} (hl : Wds w b off [s]) (hz : s.size ≤ 3000) (he : M.readE s.data.toList = 0) :
    Calls Tryz.prog 141 #[.slice (some ⟨b, off, none⟩) 1 cap] w fun e w' => ∃ g c x, e = .returned (.tuple #[.slice (some ⟨g, 0, none⟩) 1 c, .nilIface]) ∧ w.heap.size ≤ g ∧ w'.cell? ⟨g, 0, none⟩ = some x ∧ OwnT w.heap.size w' x (M.readV s.data.toList) ∧ Below w.heap.size w w' := by
  refine (rTuples b off cap 1 [s] w rfl (by decide) hl (by simpa using hz)).mono ?_
  rintro e w' ⟨⟨n, rfl, s', hs', hbad⟩ | ⟨ao, c, rfl, _, hrow⟩, hb⟩
  · rw [List.mem_singleton.1 hs'] at hbad; exact absurd he hbad
  · obtain ⟨xs, h1, h2⟩ := hrow
    obtain ⟨g, cp, e1, _⟩ := h1.form (by simp [readAll])
    have e2 : ao = some ⟨g, 0, none⟩ := by cases e1; rfl
    subst e2
    have hlen : xs.length = 1 := by have := h1.1; simpa [readAll] using this
    refine ⟨g, c, xs[0], rfl, (h1.lt g (by rfl)).1, ?_, h2 0 (by omega) (by simp [readAll]), hb⟩
    have e3 : cp = c := by cases e1; rfl
    subst e3
    rw [h1.cellAt 0 (by omega), List.getElem?_eq_getElem (by omega)]
/-- two words that can be read -/
theorem tup2 {b off cap : Nat} {s t : ByteArray} {w : World} (hl : Wds w b off [s, t]) (hz : s.size ≤ 3000) (hz2 : t.size ≤ 3000) (he : M.readE s.data.toList = 0) (he2 : M.readE t.data.toList = 0) :
    Calls Tryz.prog 141 #[.slice (some ⟨b, off, none⟩) 2 cap] w fun e w' => ∃ g c x y, e = .returned (.tuple #[.slice (some ⟨g, 0, none⟩) 2 c, .nilIface]) ∧ w.heap.size ≤ g ∧ w'.cell? ⟨g, 0, none⟩ = some x ∧ w'.cell? ⟨g, 1, none⟩ = some y ∧ OwnT w.heap.size w' x (M.readV s.data.toList) ∧ OwnT w.heap.size w' y (M.readV t.data.toList) ∧ Below w.heap.size w w' := by
  refine (rTuples b off cap 2 [s, t] w rfl (by decide) hl (fun x hx => by rcases List.mem_cons.1 hx with rfl | hx; exact hz; rw [List.mem_singleton.1 hx]; exact hz2)).mono ?_
  rintro e w' ⟨⟨n, rfl, s', hs', hbad⟩ | ⟨ao, c, rfl, _, hrow⟩, hb⟩
  · rcases List.mem_cons.1 hs' with rfl | hs'
    · exact absurd he hbad
    · rw [List.mem_singleton.1 hs'] at hbad; exact absurd he2 hbad
  · obtain ⟨xs, h1, h2⟩ := hrow
    obtain ⟨g, cp, e1, _⟩ := h1.form (by simp [readAll])
    have e2 : ao = some ⟨g, 0, none⟩ := by cases e1; rfl
    subst e2
    have hlen : xs.length = 2 := by have := h1.1; simpa [readAll] using this
    have e3 : cp = c := by cases e1; rfl
    subst e3
    refine ⟨g, cp, xs[0], xs[1], rfl, (h1.lt g (by rfl)).1, ?_, ?_, h2 0 (by omega) (by simp [readAll]), h2 1 (by omega) (by simp [readAll]), hb⟩
    · rw [h1.cellAt 0 (by omega), List.getElem?_eq_getElem (by omega)]
    · rw [h1.cellAt 1 (by omega), List.getElem?_eq_getElem (by omega)]
/-- some that cannot -/
theorem tupBad {b off cap n : Nat} {ws : List ByteArray} {w : World} (hn : n = ws.length) (h3 : n ≤ 3) (hl : Wds w b off ws) (hz : ∀ s ∈ ws, s.size ≤ 3000) (he : ∃ s ∈ ws, M.readE s.data.toList ≠ 0) :
    Calls Tryz.prog 141 #[.slice (some ⟨b, off, none⟩) n cap] w fun e w' => ∃ m, e = .returned (.tuple #[.slice none 0 0, lineV m]) ∧ Below w.heap.size w w' := by
  refine (rTuples b off cap n ws w hn h3 hl hz).mono ?_
  rintro e w' ⟨⟨m, rfl, _⟩ | ⟨ao, c, rfl, hok, _⟩, hb⟩
  · exact ⟨m, rfl, hb⟩
  · obtain ⟨s, hs, h⟩ := he
    exact absurd (hok s hs) h

end Go.Proofs.YtlefhfmckimlaakGreatDoor
