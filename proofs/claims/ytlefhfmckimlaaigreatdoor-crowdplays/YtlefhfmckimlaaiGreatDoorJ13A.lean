/-
  What Print of package value does, as one law of its call.
  Plain functions on tuples: one as text and a text as one; and that a tuple that is right is read from its text as it was. No program is walked here.
  What a strings.Builder that a call has made itself does: WriteString as one law of its call.
-/
import Derived.Test.YtlefhfmckimlaaiGreatDoorJ3A
import Derived.Test.YtlefhfmckimlaaiGreatDoorNumMath
import Derived.Test.YtlefhfmckimlaaiGreatDoorShelf
import Derived.Lib.SmallJoins
import Derived.Test.YtlefhfmckimlaaiGreatDoorJ0A
import Derived.Lib.AppendStr
import Derived.Lib.Builder
import Derived.Laws.Externs
set_option linter.unusedSimpArgs false
namespace Go.Proofs.YtlefhfmckimlaaiGreatDoor
open Go.RowKit

/-- the library's table of powers of ten reads as its text lays it -/
def Tab (w : World) : Prop := Lib.TabIs Tryz.prog w "internal/strconv.uint64pow10" .u64 Lib.pow10Tab
theorem Tab.stays {w w' : World} {B : Nat} (h : Tab w) (hb : Below B w w') (hB : w.heap.size ≤ B) : Tab w' :=
  Joins.tab_stays (g := 1) (by kernel_rfl) h hb hB

theorem grown (w : World) (k : Nat) (os : Array Obj) : Below w.heap.size w (Sort.grow (w.drewN k) os) :=
  ⟨rfl, rfl, rfl, by simp [Sort.grow], fun i hi => by
    show ((w.drewN k).heap ++ os)[i]? = _
    rw [Array.getElem?_append_left (show i < (w.drewN k).heap.size from hi)]
    rfl⟩

theorem itoaB (n : Int) (w : World) (h0 : -1000000 ≤ n) (h1 : n ≤ 1000000) (ht : Tab w) : Calls Tryz.prog 88 #[.int .i64 n] w fun e w' => e = .returned (.string ⟨(Lib.itoa n).toArray⟩) ∧ Below w.heap.size w w' := by
  refine (Tryz.strconv_Itoa n (by omega) (by omega) w ht).mono ?_
  rintro e w' ⟨rfl, k, os, rfl⟩
  exact ⟨rfl, grown _ _ _⟩

/-- a value as text -/
def M.word (k n : Int) (s : ByteArray) : ByteArray := if k = 0 then ⟨(Lib.itoa n).toArray⟩ else if k = 1 then ⟨#[58]⟩ ++ s else ⟨#[42]⟩

theorem printBad (k n : Int) (s : ByteArray) (w : World) (hs : s.size ≤ maxLen) (h : M.fault k n s ≠ 0) :
    Calls Tryz.prog 77 #[.agg #[.int .i64 k, .int .i64 n, .string s]] w fun e w' => e = .returned (.tuple #[.string ⟨#[]⟩, .iface 74 (.int .i64 (M.fault k n s))]) ∧ Below w.heap.size w w' := by
  have H := hide h
  clear h
  go_enter Tryz.func77, Tryz.ntmps77
  go_wp2_with fail
  refine (checkBad k n s _ hs H.out).mono ?_
  rintro e w1 ⟨rfl, hb⟩
  obtain ⟨hc, hf⟩ := bcell hb
  go_wp2_with fail
  go_ret2
  exact ⟨rfl, ((Below.refl _ _).alloc (Nat.le_refl _) _).trans (hb.mono (by simp))⟩

theorem fault_kind {k n : Int} {s : ByteArray} (h : M.fault k n s = 0) : k = 0 ∨ k = 1 ∨ k = 2 := by
  unfold M.fault at h
  by_cases e0 : k = 0
  · exact Or.inl e0
  · rw [if_neg e0] at h
    by_cases e1 : k = 1
    · exact Or.inr (Or.inl e1)
    · rw [if_neg e1] at h
      by_cases e2 : k = 2
      · exact Or.inr (Or.inr e2)
      · rw [if_neg e2] at h; exact absurd h (by decide)
theorem fault_num {n : Int} {s : ByteArray} (h : M.fault 0 n s = 0) : -1000000 ≤ n ∧ n ≤ 1000000 ∧ s.size = 0 := by
  unfold M.fault M.faultN at h
  rw [if_pos rfl] at h
  by_cases e : n < -1000000 ∨ 1000000 < n
  · rw [if_pos e] at h; exact absurd h (by decide)
  · rw [if_neg e] at h
    by_cases e2 : s.size = 0
    · exact ⟨by omega, by omega, e2⟩
    · rw [if_neg e2] at h; exact absurd h (by decide)
theorem fault_text {n : Int} {s : ByteArray} (h : M.fault 1 n s = 0) : n = 0 ∧ s.size ≤ 12 ∧ M.bad s = false := by
  unfold M.fault M.faultT at h
  rw [if_neg (by decide), if_pos rfl] at h
  by_cases e : 12 < s.size
  · rw [if_pos e] at h; exact absurd h (by decide)
  · rw [if_neg e] at h
    by_cases e2 : n = 0
    · rw [if_pos e2] at h
      cases hb : M.bad s
      · exact ⟨e2, by omega, rfl⟩
      · rw [hb] at h; exact absurd h (by decide)
    · rw [if_neg e2] at h; exact absurd h (by decide)
theorem fault_star {n : Int} {s : ByteArray} (h : M.fault 2 n s = 0) : n = 0 ∧ s.size = 0 := by
  unfold M.fault M.faultA at h
  rw [if_neg (by decide), if_neg (by decide), if_pos rfl] at h
  by_cases e : n = 0 ∧ s.size = 0
  · exact e
  · rw [if_neg e] at h; exact absurd h (by decide)

theorem printOk (k n : Int) (s : ByteArray) (w : World) (hs : s.size ≤ maxLen) (h : M.fault k n s = 0) (ht : Tab w) :
    Calls Tryz.prog 77 #[.agg #[.int .i64 k, .int .i64 n, .string s]] w fun e w' => e = .returned (.tuple #[.string (M.word k n s), .nilIface]) ∧ Below w.heap.size w w' := by
  rcases fault_kind h with rfl | rfl | rfl
  · obtain ⟨n1, n2, _⟩ := fault_num h
    have H := hide h
    have HT := hide ht
    clear h ht
    go_enter Tryz.func77, Tryz.ntmps77
    go_wp2_with fail
    refine (checkOk 0 n s _ hs H.out).mono ?_
    rintro e w1 ⟨rfl, hb⟩
    obtain ⟨hc, hf⟩ := bcell hb
    have B1 : Below w.heap.size w w1 := ((Below.refl _ _).alloc (Nat.le_refl _) _).trans (hb.mono (by simp))
    have HT1 : Hid (Tab w1) := HT.out.stays B1 (Nat.le_refl _)
    go_wp2_with fail
    refine (itoaB n _ n1 n2 HT1.out).mono ?_
    rintro e w2 ⟨rfl, hb2⟩
    go_wp2_with fail
    go_ret2
    exact ⟨rfl, B1.trans (hb2.mono B1.size)⟩
  · obtain ⟨rfl, n2, _⟩ := fault_text h
    have H := hide h
    clear h
    have hadd : ∀ w, (Op.stringOp .add ⟨#[58]⟩ s).run Tryz.prog w = .ok (.string (⟨#[58]⟩ ++ s)) w := fun w => run_string_add_sum w _ _ (by show 1 + s.size ≤ _; omega)
    go_enter Tryz.func77, Tryz.ntmps77
    go_wp2_with fail
    refine (checkOk 1 0 s _ hs H.out).mono ?_
    rintro e w1 ⟨rfl, hb⟩
    obtain ⟨hc, hf⟩ := bcell hb
    go_wp2_with fail
    go_ret2
    exact ⟨rfl, ((Below.refl _ _).alloc (Nat.le_refl _) _).trans (hb.mono (by simp))⟩
  · have H := hide h
    clear h
    go_enter Tryz.func77, Tryz.ntmps77
    go_wp2_with fail
    refine (checkOk 2 n s _ hs H.out).mono ?_
    rintro e w1 ⟨rfl, hb⟩
    obtain ⟨hc, hf⟩ := bcell hb
    go_wp2_with fail
    go_ret2
    exact ⟨rfl, ((Below.refl _ _).alloc (Nat.le_refl _) _).trans (hb.mono (by simp))⟩

end Go.Proofs.YtlefhfmckimlaaiGreatDoor

namespace Go.Proofs.YtlefhfmckimlaaiGreatDoor.M

def Val.word (v : Val) : ByteArray := M.word v.k v.n v.s

/-- fields as text, a comma between -/
def joinL : List (List UInt8) → List UInt8
  | [] => []
  | [p] => p
  | p :: q :: r => p ++ 44 :: joinL (q :: r)
def line (l : List Val) : ByteArray := ⟨(joinL (l.map fun v => v.word.data.toList)).toArray⟩

end Go.Proofs.YtlefhfmckimlaaiGreatDoor.M

namespace Go.Proofs.YtlefhfmckimlaaiGreatDoor
open Go.RowKit

/-- the builder in block b, from block B on, holds the bytes bs -/
def Blt (B b : Nat) (bs : List Value) (w : World) : Prop := Lib.IsBuilder 94 5 B b bs w

theorem sizeB : (Tryz.prog.info? 94).map (·.size) = some 2 := by kernel_rfl
theorem liesB : liesAt Tryz.prog Tryz.prog.depth 94 (2 / Tryz.prog.cellsOf 94) 0 94 1 = true := by kernel_rfl
theorem infoByte : (Tryz.prog.info? 5).map (fun i => (i.zero, i.size, i.bytes)) = some (some (.int .u8 0), 1, 1) := by kernel_rfl

set_option maxRecDepth 100000 in
set_option maxHeartbeats 1000000 in
/-- a builder that was written before is let by -/
theorem checkUsed (b : Nat) (w : World) (h0 : w.cell? ⟨b, 0, none⟩ = some (.pointer (some ⟨b, 0, none⟩))) :
    Calls Tryz.prog 59 #[.pointer (some ⟨b, 0, none⟩)] w fun e w' => e = .returned (.tuple #[]) ∧ w' = w := by
  obtain ⟨j, hj, _⟩ := Option.map_eq_some_iff.1 sizeB
  have same := Lib.run_neq_ptr_same w ⟨b, 0, none⟩ Tryz.underlying91 hj
  go_enter Tryz.func59, Tryz.ntmps59
  go_wp2
  go_end0
  exact ⟨rfl, rfl⟩

set_option maxRecDepth 100000 in
set_option maxHeartbeats 1000000 in
/-- one that was not keeps its own address -/
theorem checkFresh (b : Nat) (w : World) (h0 : w.cell? ⟨b, 0, none⟩ = some (.pointer none)) (hsh : w.shape? b = some (94, 2)) (hfz : w.frozen? ⟨b, 0, none⟩ = false) :
    Calls Tryz.prog 59 #[.pointer (some ⟨b, 0, none⟩)] w fun e w' => e = .returned (.tuple #[]) ∧ w' = w.setCell ⟨b, 0, none⟩ (.pointer (some ⟨b, 0, none⟩)) := by
  obtain ⟨j, hj, hjs⟩ := Option.map_eq_some_iff.1 sizeB
  have there := Lib.run_to_unsafe w ⟨b, 0, none⟩ Tryz.underlying91 Tryz.underlying126 hj (by omega) hsh (show 0 < 2 by decide)
  have through := Lib.run_noEscape (P := Tryz.prog) w (.pointer (some ⟨b, 0, none⟩))
  have call : (callFunc 76 #[.pointer (some ⟨b, 0, none⟩)]).run Tryz.prog w = .ok (.value (.pointer (some ⟨b, 0, none⟩))) w := by
    rw [run_callFunc_extern Tryz.func76 (by kernel_rfl) (by kernel_rfl) (by kernel_rfl) (e := Extern.AbiNoEscape.same) (by kernel_rfl), through]; rfl
  have back := Lib.run_from_unsafe w ⟨b, 0, none⟩ Tryz.underlying126 Tryz.underlying91 hj hsh liesB
  clear through hj hjs
  go_enter Tryz.func59, Tryz.ntmps59
  go_wp2
  go_end0
  exact ⟨rfl, rfl⟩

/-- either way its own address is there behind it, and its bytes are as they were -/
theorem copyCheck (B b : Nat) (bs : List Value) (w : World) (h : Blt B b bs w) :
    Calls Tryz.prog 59 #[.pointer (some ⟨b, 0, none⟩)] w fun e w' => e = .returned (.tuple #[]) ∧ Lib.BuilderAt 94 5 B b (.pointer (some ⟨b, 0, none⟩)) bs w' ∧ Below B w w' :=
  h.elim (fun f => (checkFresh b w f.cell0 f.shape f.frozen0).mono fun _ _ ⟨he, hw⟩ => ⟨he, hw ▸ f.used _, hw ▸ (Below.refl B w).setCell (p := ⟨b, 0, none⟩) f.1 _⟩)
    (fun u => (checkUsed b w u.cell0).mono fun _ _ ⟨he, hw⟩ => ⟨he, hw ▸ u, hw ▸ Below.refl B w⟩)

/-- its two cells, wherever its bytes have gone -/
theorem two_cells {w w' : World} {b : Nat} {p v : Value} (h : w.heap[b]? = some (.cells #[p, v] 94 (0, 0))) (hg : w.grownBy w' v.ownBlock) (hne : v.ownBlock ≠ some b) : w'.heap[b]? = some (.cells #[p, v] 94 (0, 0)) :=
  (hg.block b (Array.getElem?_eq_some_iff.1 h).1 hne.symm).trans h
theorem slice_own {w : World} {B : Nat} {e : TypeId} {v : Value} {n : Nat} {xs : List Value} (h : w.ownsRow B e 1 v n xs) : ∃ ao cap, v = .slice ao n cap :=
  h.2.elim (fun ⟨hv, hn⟩ => ⟨none, 0, by rw [hv, hn]⟩) (fun ⟨_, cap, _, hv, _⟩ => ⟨_, cap, hv⟩)

set_option maxHeartbeats 1000000 in
theorem writeS (B b : Nat) (bs : List Value) (s : ByteArray) (w : World) (h : Blt B b bs w) (hlen : bs.length + s.size ≤ 1000000) (hBw : B ≤ w.heap.size) :
    Calls Tryz.prog 35 #[.pointer (some ⟨b, 0, none⟩), .string s] w fun e w' => e = .returned (.tuple #[.int .i64 s.size, .nilIface]) ∧ Blt B b (bs ++ Lib.strCells s) w' ∧ Below B w w' := by
  obtain ⟨i0, hi, hz0, hz1, hz2⟩ := info_parts infoByte
  go_enter Tryz.func35, Tryz.ntmps35
  go_wp2_with fail
  refine (copyCheck B b bs _ h).mono ?_
  rintro e w1 ⟨rfl, ⟨hB, v, hbk, hown, hne⟩, hb1⟩
  have hsz : B ≤ w1.heap.size := Nat.le_trans hBw hb1.size
  have at0 : w1.cell? ⟨b, 0, none⟩ = some (.pointer (some ⟨b, 0, none⟩)) := (Lib.cell_of_heap hbk 0).trans rfl
  have at1 : w1.cell? ⟨b, 1, none⟩ = some v := (Lib.cell_of_heap hbk 1).trans rfl
  go_wp2_with (at_builtin; refine Lib.wpList_append_own_string _ rfl (.tmp 12) (.tmp 13) 92 9 rfl B 5 i0 Tryz.underlying92 Tryz.underlying9 hi hz0 hz1 hz2 v bs.length bs rfl hown s rfl (by unfold maxLen; omega) (by omega) hsz ?_)
  intro v' w2 hown' hgrow _
  have HB2 := hide (hb1.grown hgrow hsz (fun k hk => (hown.lt k hk).1))
  have hbk2 := two_cells hbk hgrow hne
  have to0 : w2.cell? ⟨b, 0, none⟩ = some (.pointer (some ⟨b, 0, none⟩)) := (Lib.cell_of_heap hbk2 0).trans rfl
  have to1 : w2.cell? ⟨b, 1, none⟩ = some v := (Lib.cell_of_heap hbk2 1).trans rfl
  have free1 := Lib.frozen_of_heap hbk2 1
  obtain ⟨ao, cap, rfl⟩ := slice_own hown'
  have HP := hide (Lib.BuilderAt.put (T := 94) (e := 5) (bs' := bs ++ Lib.strCells s) hB hbk2 (by rw [List.length_append, Lib.strCells_length]; exact hown') (by decide))
  clear hown hown' hgrow hbk hbk2 hb1 hne
  go_wp2
  go_ret2
  exact ⟨rfl, Or.inr HP.out, HB2.out.setCell (p := ⟨b, 1, none⟩) hB _⟩

end Go.Proofs.YtlefhfmckimlaaiGreatDoor
