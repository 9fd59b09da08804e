/-
  Plain functions on tuples: one as text and a text as one; and that a tuple that is right is read from its text as it was. No program is walked here.
  What a strings.Builder that a call has made itself does: WriteString as one law of its call.
-/
import Derived.Test.YtlefhfmckimlaajDoorPrintWalks
import Derived.Test.YtlefhfmckimlaajDoorJ1A
import Derived.Test.YtlefhfmckimlaajDoorShelf
import Derived.Lib.AppendStr
import Derived.Lib.Builder
import Derived.Laws.Externs
namespace Go.Proofs.YtlefhfmckimlaajDoor.M

def Val.word (v : Val) : ByteArray := M.word v.k v.n v.s

/-- fields as text, a comma between -/
def joinL : List (List UInt8) → List UInt8
  | [] => []
  | [p] => p
  | p :: q :: r => p ++ 44 :: joinL (q :: r)
def line (l : List Val) : ByteArray := ⟨(joinL (l.map fun v => v.word.data.toList)).toArray⟩

end Go.Proofs.YtlefhfmckimlaajDoor.M

namespace Go.Proofs.YtlefhfmckimlaajDoor
open Go.RowKit

/-- the builder in block b, from block B on, holds the bytes bs -/
def Blt (B b : Nat) (bs : List Value) (w : World) : Prop := Lib.IsBuilder 153 5 B b bs w

theorem sizeB : (Tryd.prog.info? 153).map (·.size) = some 2 := by kernel_rfl
theorem liesB : liesAt Tryd.prog Tryd.prog.depth 153 (2 / Tryd.prog.cellsOf 153) 0 153 1 = true := by kernel_rfl
theorem infoByte : (Tryd.prog.info? 5).map (fun i => (i.zero, i.size, i.bytes)) = some (some (.int .u8 0), 1, 1) := by kernel_rfl

set_option maxRecDepth 100000 in
set_option maxHeartbeats 1000000 in
/-- a builder that was written before is let by -/
theorem checkUsed (b : Nat) (w : World) (h0 : w.cell? ⟨b, 0, none⟩ = some (.pointer (some ⟨b, 0, none⟩))) :
    Calls Tryd.prog 111 #[.pointer (some ⟨b, 0, none⟩)] w fun e w' => e = .returned (.tuple #[]) ∧ w' = w := by
  obtain ⟨j, hj, _⟩ := Option.map_eq_some_iff.1 sizeB
  have same := Lib.run_neq_ptr_same w ⟨b, 0, none⟩ Tryd.underlying151 hj
  go_enter Tryd.func111, Tryd.ntmps111
  go_wp2
  go_end0
  exact ⟨rfl, rfl⟩

set_option maxRecDepth 100000 in
set_option maxHeartbeats 1000000 in
/-- one that was not keeps its own address -/
theorem checkFresh (b : Nat) (w : World) (h0 : w.cell? ⟨b, 0, none⟩ = some (.pointer none)) (hsh : w.shape? b = some (153, 2)) (hfz : w.frozen? ⟨b, 0, none⟩ = false) :
    Calls Tryd.prog 111 #[.pointer (some ⟨b, 0, none⟩)] w fun e w' => e = .returned (.tuple #[]) ∧ w' = w.setCell ⟨b, 0, none⟩ (.pointer (some ⟨b, 0, none⟩)) := by
  obtain ⟨j, hj, hjs⟩ := Option.map_eq_some_iff.1 sizeB
  have there := Lib.run_to_unsafe w ⟨b, 0, none⟩ Tryd.underlying151 Tryd.underlying129 hj (by omega) hsh (show 0 < 2 by decide)
  have through := Lib.run_noEscape (P := Tryd.prog) w (.pointer (some ⟨b, 0, none⟩))
  have call : (callFunc 133 #[.pointer (some ⟨b, 0, none⟩)]).run Tryd.prog w = .ok (.value (.pointer (some ⟨b, 0, none⟩))) w := by
    rw [run_callFunc_extern Tryd.func133 (by kernel_rfl) (by kernel_rfl) (by kernel_rfl) (e := Extern.AbiNoEscape.same) (by kernel_rfl), through]; rfl
  have back := Lib.run_from_unsafe w ⟨b, 0, none⟩ Tryd.underlying129 Tryd.underlying151 hj hsh liesB
  clear through hj hjs
  go_enter Tryd.func111, Tryd.ntmps111
  go_wp2
  go_end0
  exact ⟨rfl, rfl⟩

/-- either way its own address is there behind it, and its bytes are as they were -/
theorem copyCheck (B b : Nat) (bs : List Value) (w : World) (h : Blt B b bs w) :
    Calls Tryd.prog 111 #[.pointer (some ⟨b, 0, none⟩)] w fun e w' => e = .returned (.tuple #[]) ∧ Lib.BuilderAt 153 5 B b (.pointer (some ⟨b, 0, none⟩)) bs w' ∧ Below B w w' :=
  h.elim (fun f => (checkFresh b w f.cell0 f.shape f.frozen0).mono fun _ _ ⟨he, hw⟩ => ⟨he, hw ▸ f.used _, hw ▸ (Below.refl B w).setCell (p := ⟨b, 0, none⟩) f.1 _⟩)
    (fun u => (checkUsed b w u.cell0).mono fun _ _ ⟨he, hw⟩ => ⟨he, hw ▸ u, hw ▸ Below.refl B w⟩)

/-- its two cells, wherever its bytes have gone -/
theorem two_cells {w w' : World} {b : Nat} {p v : Value} (h : w.heap[b]? = some (.cells #[p, v] 153 (0, 0))) (hg : w.grownBy w' v.ownBlock) (hne : v.ownBlock ≠ some b) : w'.heap[b]? = some (.cells #[p, v] 153 (0, 0)) :=
  (hg.block b (Array.getElem?_eq_some_iff.1 h).1 hne.symm).trans h
theorem slice_own {w : World} {B : Nat} {e : TypeId} {v : Value} {n : Nat} {xs : List Value} (h : w.ownsRow B e 1 v n xs) : ∃ ao cap, v = .slice ao n cap :=
  h.2.elim (fun ⟨hv, hn⟩ => ⟨none, 0, by rw [hv, hn]⟩) (fun ⟨_, cap, _, hv, _⟩ => ⟨_, cap, hv⟩)

set_option maxHeartbeats 1000000 in
theorem writeS (B b : Nat) (bs : List Value) (s : ByteArray) (w : World) (h : Blt B b bs w) (hlen : bs.length + s.size ≤ 1000000) (hBw : B ≤ w.heap.size) :
    Calls Tryd.prog 88 #[.pointer (some ⟨b, 0, none⟩), .string s] w fun e w' => e = .returned (.tuple #[.int .i64 s.size, .nilIface]) ∧ Blt B b (bs ++ Lib.strCells s) w' ∧ Below B w w' := by
  obtain ⟨i0, hi, hz0, hz1, hz2⟩ := info_parts infoByte
  go_enter Tryd.func88, Tryd.ntmps88
  go_wp2_with fail
  refine (copyCheck B b bs _ h).mono ?_
  rintro e w1 ⟨rfl, ⟨hB, v, hbk, hown, hne⟩, hb1⟩
  have hsz : B ≤ w1.heap.size := Nat.le_trans hBw hb1.size
  have at0 : w1.cell? ⟨b, 0, none⟩ = some (.pointer (some ⟨b, 0, none⟩)) := (Lib.cell_of_heap hbk 0).trans rfl
  have at1 : w1.cell? ⟨b, 1, none⟩ = some v := (Lib.cell_of_heap hbk 1).trans rfl
  go_wp2_with (at_builtin; refine Lib.wpList_append_own_string _ rfl (.tmp 12) (.tmp 13) 125 9 rfl B 5 i0 Tryd.underlying125 Tryd.underlying9 hi hz0 hz1 hz2 v bs.length bs rfl hown s rfl (by unfold maxLen; omega) (by omega) hsz ?_)
  intro v' w2 hown' hgrow _
  have HB2 := hide (hb1.grown hgrow hsz (fun k hk => (hown.lt k hk).1))
  have hbk2 := two_cells hbk hgrow hne
  have to0 : w2.cell? ⟨b, 0, none⟩ = some (.pointer (some ⟨b, 0, none⟩)) := (Lib.cell_of_heap hbk2 0).trans rfl
  have to1 : w2.cell? ⟨b, 1, none⟩ = some v := (Lib.cell_of_heap hbk2 1).trans rfl
  have free1 := Lib.frozen_of_heap hbk2 1
  obtain ⟨ao, cap, rfl⟩ := slice_own hown'
  have HP := hide (Lib.BuilderAt.put (T := 153) (e := 5) (bs' := bs ++ Lib.strCells s) hB hbk2 (by rw [List.length_append, Lib.strCells_length]; exact hown') (by decide))
  clear hown hown' hgrow hbk hbk2 hb1 hne
  go_wp2
  go_ret2
  exact ⟨rfl, Or.inr HP.out, HB2.out.setCell (p := ⟨b, 1, none⟩) hB _⟩

end Go.Proofs.YtlefhfmckimlaajDoor
