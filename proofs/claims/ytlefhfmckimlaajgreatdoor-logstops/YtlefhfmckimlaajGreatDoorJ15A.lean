/-
  Plain functions on tuples: one as text and a text as one; and that a tuple that is right is read from its text as it was. No program is walked here.
  What a strings.Builder that a call has made itself does: WriteString as one law of its call.
-/
import Derived.Test.YtlefhfmckimlaajGreatDoorBackMath
import Derived.Test.YtlefhfmckimlaajGreatDoorJ1A
import Derived.Test.YtlefhfmckimlaajGreatDoorShelf
import Derived.Test.YtlefhfmckimlaajGreatDoorPrintWalks
import Derived.Lib.AppendStr
import Derived.Lib.Builder
import Derived.Laws.Externs
namespace Go.Proofs.YtlefhfmckimlaajGreatDoor.M

def Val.word (v : Val) : ByteArray := M.word v.k v.n v.s

/-- fields as text, a comma between -/
def joinL : List (List UInt8) → List UInt8
  | [] => []
  | [p] => p
  | p :: q :: r => p ++ 44 :: joinL (q :: r)
def line (l : List Val) : ByteArray := ⟨(joinL (l.map fun v => v.word.data.toList)).toArray⟩
/-- a text cut at each comma -/
def cutL : List UInt8 → List (List UInt8)
  | [] => [[]]
  | c :: r => if c = 44 then [] :: cutL r else match cutL r with
    | [] => [[c]]
    | p :: ps => (c :: p) :: ps

def pVal (l : List UInt8) : Val := ⟨pK ⟨l.toArray⟩, pN ⟨l.toArray⟩, pS ⟨l.toArray⟩⟩
def pErrL (l : List UInt8) : Int := pErr ⟨l.toArray⟩
/-- the first part's fault that has one -/
def firstP : List (List UInt8) → Int
  | [] => 0
  | p :: r => if pErrL p ≠ 0 then pErrL p else firstP r
def readE (l : List UInt8) : Int := if l.length = 0 then 5 else if firstP (cutL l) ≠ 0 then firstP (cutL l) else if 5 < (cutL l).length then 4 else 0
def readV (l : List UInt8) : List Val := if readE l ≠ 0 then [] else (cutL l).map pVal

theorem cutL_ne (l : List UInt8) : cutL l ≠ [] := by
  cases l with
  | nil => simp [cutL]
  | cons c r => unfold cutL; split
                · simp
                · split <;> simp

theorem cutL_none : ∀ (l : List UInt8), 44 ∉ l → cutL l = [l]
  | [], _ => rfl
  | c :: r, h => by
    have hc : ¬ c = 44 := fun e => h (by simp [e])
    have hr : 44 ∉ r := fun e => h (by simp [e])
    unfold cutL; rw [if_neg hc, cutL_none r hr]

theorem cutL_append : ∀ (p r : List UInt8), 44 ∉ p → cutL (p ++ 44 :: r) = p :: cutL r
  | [], r, _ => by simp [cutL]
  | c :: p, r, h => by
    have hc : ¬ c = 44 := fun e => h (by simp [e])
    have hp : 44 ∉ p := fun e => h (by simp [e])
    rw [List.cons_append]
    have e : cutL (c :: (p ++ 44 :: r)) = match cutL (p ++ 44 :: r) with
        | [] => [[c]]
        | p :: ps => (c :: p) :: ps := if_neg hc
    rw [e, cutL_append p r hp]

/-- parts without a comma come back -/
theorem cut_join : ∀ (ps : List (List UInt8)), ps ≠ [] → (∀ p ∈ ps, 44 ∉ p) → cutL (joinL ps) = ps
  | [], h, _ => absurd rfl h
  | [p], _, h => cutL_none p (h p (by simp))
  | p :: q :: r, _, h => by
    unfold joinL
    rw [cutL_append p _ (h p (by simp)), cut_join (q :: r) (by simp) (fun x hx => h x (by simp [hx]))]
theorem join_cut : ∀ (l : List UInt8), joinL (cutL l) = l
  | [] => rfl
  | c :: r => by
    have ih := join_cut r
    unfold cutL
    by_cases hc : c = 44
    · rw [if_pos hc]
      cases hr : cutL r with
      | nil => exact absurd hr (cutL_ne r)
      | cons p ps => rw [hr] at ih; unfold joinL; rw [ih, hc]; rfl
    · rw [if_neg hc]
      cases hr : cutL r with
      | nil => exact absurd hr (cutL_ne r)
      | cons p ps =>
        rw [hr] at ih
        cases ps with
        | nil => simp only [joinL] at ih ⊢; rw [ih]
        | cons q qs => simp only [joinL] at ih ⊢; rw [List.cons_append, ih]

theorem word_no_comma {v : Val} (h : v.fault = 0) : 44 ∉ v.word.data.toList := by
  obtain ⟨k, n, s⟩ := v
  simp only [Val.fault] at h
  simp only [Val.word]
  intro hm
  rcases fault_kind h with rfl | rfl | rfl
  · obtain ⟨n1, n2, _⟩ := fault_num h
    obtain ⟨i1, i2⟩ := num_itoa n n1 n2
    obtain ⟨_, _, h3, _⟩ := isNum_parts i1
    have hd : (word 0 n s).data.toList = Lib.itoa n := by show (⟨(Lib.itoa n).toArray⟩ : ByteArray).data.toList = _; simp
    rw [hd] at hm
    have key : ∀ l : List UInt8, l.all digC = true → 44 ∉ l := fun l ha hx => absurd (List.all_eq_true.1 ha _ hx) (by decide)
    cases hl : Lib.itoa n with
    | nil => rw [hl] at hm; simp at hm
    | cons a r =>
      rw [hl] at hm h3
      by_cases e : a = 45
      · subst e
        have : digs (45 :: r) = r := rfl
        rw [this] at h3
        rcases List.mem_cons.1 hm with hx | hx
        · exact absurd hx (by decide)
        · exact key r h3 hx
      · have em : isMinus (a :: r) = false := by simpa [isMinus] using e
        have : digs (a :: r) = a :: r := by unfold digs; rw [em]; rfl
        rw [this] at h3
        exact key _ h3 hm
  · obtain ⟨_, _, hb⟩ := fault_text h
    have hd : (word 1 n s).data.toList = 58 :: s.data.toList := by
      show ((⟨#[58]⟩ : ByteArray) ++ s).data.toList = _
      simp [ByteArray.data_append]
    rw [hd] at hm
    rcases List.mem_cons.1 hm with hx | hx
    · exact absurd hx (by decide)
    · have : bad s = true := by
        unfold bad; rw [List.any_eq_true]; exact ⟨44, hx, by decide⟩
      rw [hb] at this; exact absurd this (by decide)
  · have hd : (word 2 n s).data.toList = [42] := rfl
    rw [hd] at hm; simp at hm

/-- what is right is read from its text as it was -/
theorem read_line {l : List Val} (h : likeF l = 0) : readE (line l).data.toList = 0 ∧ readV (line l).data.toList = l := by
  unfold likeF at h
  by_cases h0 : l.length = 0
  · rw [if_pos h0] at h; exact absurd h (by decide)
  rw [if_neg h0] at h
  by_cases h5 : 5 < l.length
  · rw [if_pos h5] at h; exact absurd h (by decide)
  rw [if_neg h5] at h
  have hall := firstF_zero h
  have hd : (line l).data.toList = joinL (l.map fun v => v.word.data.toList) := by simp [line]
  have hcut : cutL (line l).data.toList = l.map fun v => v.word.data.toList := by
    rw [hd]
    refine cut_join _ (by intro e; exact h0 (by have := congrArg List.length e; simpa using this)) fun p hp => ?_
    obtain ⟨v, hv, rfl⟩ := List.mem_map.1 hp
    exact word_no_comma (hall v hv)
  have hval : ∀ v ∈ l, pErrL v.word.data.toList = 0 ∧ pVal v.word.data.toList = v := fun v hv => by
    have e : (⟨v.word.data.toList.toArray⟩ : ByteArray) = v.word := by cases v.word; simp
    obtain ⟨g1, g2, g3, g4⟩ := back_value (hall v hv)
    unfold pErrL pVal
    rw [e]
    refine ⟨g1, ?_⟩
    show Val.mk (pK (word v.k v.n v.s)) (pN (word v.k v.n v.s)) (pS (word v.k v.n v.s)) = v
    rw [g2, g3, g4]
  have hfp : ∀ l' : List Val, (∀ v ∈ l', v ∈ l) → firstP (l'.map fun v => v.word.data.toList) = 0 := fun l' => by
    induction l' with
    | nil => intro _; rfl
    | cons a r ih =>
      intro hs
      simp only [List.map_cons, firstP]
      rw [if_neg (by have := (hval a (hs a (by simp))).1; simpa using this)]
      exact ih fun v hv => hs v (by simp [hv])
  have hne : (line l).data.toList.length ≠ 0 := by
    intro e
    have e1 := List.length_eq_zero_iff.1 e
    have : cutL (line l).data.toList = [[]] := by rw [e1]; rfl
    rw [hcut] at this
    cases l with
    | nil => exact h0 rfl
    | cons a r =>
      cases r with
      | cons b c => simp at this
      | nil =>
        simp only [List.map_cons, List.map_nil, List.cons.injEq, and_true] at this
        have hv := (hval a (by simp)).1
        rw [this] at hv
        revert hv
        unfold pErrL pErr
        rw [ByteArray.toList_eq]
        decide
  have he : readE (line l).data.toList = 0 := by
    unfold readE
    rw [if_neg hne, hcut, hfp l (fun _ hv => hv), if_neg (by decide), if_neg (by rw [List.length_map]; exact h5)]
  refine ⟨he, ?_⟩
  unfold readV
  rw [if_neg (by rw [he]; decide), hcut, List.map_map]
  have : ∀ l' : List Val, (∀ v ∈ l', v ∈ l) → l'.map (pVal ∘ fun v => v.word.data.toList) = l' := fun l' => by
    induction l' with
    | nil => intro _; rfl
    | cons a r ih =>
      intro hs
      rw [List.map_cons, ih fun v hv => hs v (by simp [hv])]
      congr 1
      exact (hval a (hs a (by simp))).2
  exact this l fun _ hv => hv

end Go.Proofs.YtlefhfmckimlaajGreatDoor.M

namespace Go.Proofs.YtlefhfmckimlaajGreatDoor
open Go.RowKit

/-- the builder in block b, from block B on, holds the bytes bs -/
def Blt (B b : Nat) (bs : List Value) (w : World) : Prop := Lib.IsBuilder 105 5 B b bs w

theorem sizeB : (Tryz.prog.info? 105).map (·.size) = some 2 := by kernel_rfl
theorem liesB : liesAt Tryz.prog Tryz.prog.depth 105 (2 / Tryz.prog.cellsOf 105) 0 105 1 = true := by kernel_rfl
theorem infoByte : (Tryz.prog.info? 5).map (fun i => (i.zero, i.size, i.bytes)) = some (some (.int .u8 0), 1, 1) := by kernel_rfl

set_option maxRecDepth 100000 in
set_option maxHeartbeats 1000000 in
/-- a builder that was written before is let by -/
theorem checkUsed (b : Nat) (w : World) (h0 : w.cell? ⟨b, 0, none⟩ = some (.pointer (some ⟨b, 0, none⟩))) :
    Calls Tryz.prog 80 #[.pointer (some ⟨b, 0, none⟩)] w fun e w' => e = .returned (.tuple #[]) ∧ w' = w := by
  obtain ⟨j, hj, _⟩ := Option.map_eq_some_iff.1 sizeB
  have same := Lib.run_neq_ptr_same w ⟨b, 0, none⟩ Tryz.underlying102 hj
  go_enter Tryz.func80, Tryz.ntmps80
  go_wp2
  go_end0
  exact ⟨rfl, rfl⟩

set_option maxRecDepth 100000 in
set_option maxHeartbeats 1000000 in
/-- one that was not keeps its own address -/
theorem checkFresh (b : Nat) (w : World) (h0 : w.cell? ⟨b, 0, none⟩ = some (.pointer none)) (hsh : w.shape? b = some (105, 2)) (hfz : w.frozen? ⟨b, 0, none⟩ = false) :
    Calls Tryz.prog 80 #[.pointer (some ⟨b, 0, none⟩)] w fun e w' => e = .returned (.tuple #[]) ∧ w' = w.setCell ⟨b, 0, none⟩ (.pointer (some ⟨b, 0, none⟩)) := by
  obtain ⟨j, hj, hjs⟩ := Option.map_eq_some_iff.1 sizeB
  have there := Lib.run_to_unsafe w ⟨b, 0, none⟩ Tryz.underlying102 Tryz.underlying147 hj (by omega) hsh (show 0 < 2 by decide)
  have through := Lib.run_noEscape (P := Tryz.prog) w (.pointer (some ⟨b, 0, none⟩))
  have call : (callFunc 113 #[.pointer (some ⟨b, 0, none⟩)]).run Tryz.prog w = .ok (.value (.pointer (some ⟨b, 0, none⟩))) w := by
    rw [run_callFunc_extern Tryz.func113 (by kernel_rfl) (by kernel_rfl) (by kernel_rfl) (e := Extern.AbiNoEscape.same) (by kernel_rfl), through]; rfl
  have back := Lib.run_from_unsafe w ⟨b, 0, none⟩ Tryz.underlying147 Tryz.underlying102 hj hsh liesB
  clear through hj hjs
  go_enter Tryz.func80, Tryz.ntmps80
  go_wp2
  go_end0
  exact ⟨rfl, rfl⟩

/-- either way its own address is there behind it, and its bytes are as they were -/
theorem copyCheck (B b : Nat) (bs : List Value) (w : World) (h : Blt B b bs w) :
    Calls Tryz.prog 80 #[.pointer (some ⟨b, 0, none⟩)] w fun e w' => e = .returned (.tuple #[]) ∧ Lib.BuilderAt 105 5 B b (.pointer (some ⟨b, 0, none⟩)) bs w' ∧ Below B w w' :=
  h.elim (fun f => (checkFresh b w f.cell0 f.shape f.frozen0).mono fun _ _ ⟨he, hw⟩ => ⟨he, hw ▸ f.used _, hw ▸ (Below.refl B w).setCell (p := ⟨b, 0, none⟩) f.1 _⟩)
    (fun u => (checkUsed b w u.cell0).mono fun _ _ ⟨he, hw⟩ => ⟨he, hw ▸ u, hw ▸ Below.refl B w⟩)

/-- its two cells, wherever its bytes have gone -/
theorem two_cells {w w' : World} {b : Nat} {p v : Value} (h : w.heap[b]? = some (.cells #[p, v] 105 (0, 0))) (hg : w.grownBy w' v.ownBlock) (hne : v.ownBlock ≠ some b) : w'.heap[b]? = some (.cells #[p, v] 105 (0, 0)) :=
  (hg.block b (Array.getElem?_eq_some_iff.1 h).1 hne.symm).trans h
theorem slice_own {w : World} {B : Nat} {e : TypeId} {v : Value} {n : Nat} {xs : List Value} (h : w.ownsRow B e 1 v n xs) : ∃ ao cap, v = .slice ao n cap :=
  h.2.elim (fun ⟨hv, hn⟩ => ⟨none, 0, by rw [hv, hn]⟩) (fun ⟨_, cap, _, hv, _⟩ => ⟨_, cap, hv⟩)

set_option maxHeartbeats 1000000 in
theorem writeS (B b : Nat) (bs : List Value) (s : ByteArray) (w : World) (h : Blt B b bs w) (hlen : bs.length + s.size ≤ 1000000) (hBw : B ≤ w.heap.size) :
    Calls Tryz.prog 50 #[.pointer (some ⟨b, 0, none⟩), .string s] w fun e w' => e = .returned (.tuple #[.int .i64 s.size, .nilIface]) ∧ Blt B b (bs ++ Lib.strCells s) w' ∧ Below B w w' := by
  obtain ⟨i0, hi, hz0, hz1, hz2⟩ := info_parts infoByte
  go_enter Tryz.func50, Tryz.ntmps50
  go_wp2_with fail
  refine (copyCheck B b bs _ h).mono ?_
  rintro e w1 ⟨rfl, ⟨hB, v, hbk, hown, hne⟩, hb1⟩
  have hsz : B ≤ w1.heap.size := Nat.le_trans hBw hb1.size
  have at0 : w1.cell? ⟨b, 0, none⟩ = some (.pointer (some ⟨b, 0, none⟩)) := (Lib.cell_of_heap hbk 0).trans rfl
  have at1 : w1.cell? ⟨b, 1, none⟩ = some v := (Lib.cell_of_heap hbk 1).trans rfl
  go_wp2_with (at_builtin; refine Lib.wpList_append_own_string _ rfl (.tmp 12) (.tmp 13) 103 9 rfl B 5 i0 Tryz.underlying103 Tryz.underlying9 hi hz0 hz1 hz2 v bs.length bs rfl hown s rfl (by unfold maxLen; omega) (by omega) hsz ?_)
  intro v' w2 hown' hgrow _
  have HB2 := hide (hb1.grown hgrow hsz (fun k hk => (hown.lt k hk).1))
  have hbk2 := two_cells hbk hgrow hne
  have to0 : w2.cell? ⟨b, 0, none⟩ = some (.pointer (some ⟨b, 0, none⟩)) := (Lib.cell_of_heap hbk2 0).trans rfl
  have to1 : w2.cell? ⟨b, 1, none⟩ = some v := (Lib.cell_of_heap hbk2 1).trans rfl
  have free1 := Lib.frozen_of_heap hbk2 1
  obtain ⟨ao, cap, rfl⟩ := slice_own hown'
  have HP := hide (Lib.BuilderAt.put (T := 105) (e := 5) (bs' := bs ++ Lib.strCells s) hB hbk2 (by rw [List.length_append, Lib.strCells_length]; exact hown') (by decide))
  clear hown hown' hgrow hbk hbk2 hb1 hne
  go_wp2
  go_ret2
  exact ⟨rfl, Or.inr HP.out, HB2.out.setCell (p := ⟨b, 1, none⟩) hB _⟩

end Go.Proofs.YtlefhfmckimlaajGreatDoor
