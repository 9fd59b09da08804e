/-
  What Print of package value does, as one law of its call.
  Plain functions on tuples: one as text and a text as one; and that a tuple that is right is read from its text as it was. No program is walked here.
  What a strings.Builder that a call has made itself does: WriteString as one law of its call.
  What Print of package tuple does, as one law of its call.
-/
import Derived.Test.YtlidoefbonklcajDoorJVal
import Derived.Test.YtlidoefbonklcajDoorJHash
import Derived.Test.YtlidoefbonklcajDoorShelf
import Derived.Lib.SmallJoins
import Derived.Test.YtlidoefbonklcajDoorJTup
import Derived.Lib.AppendStr
import Derived.Lib.Builder
import Derived.Laws.Externs
set_option linter.unusedSimpArgs false
namespace Go.Proofs.YtlidoefbonklcajDoor
open Go.RowKit

/-- the library's table of powers of ten reads as its text lays it -/
def Tab (w : World) : Prop := Lib.TabIs Tryd.prog w "internal/strconv.uint64pow10" .u64 Lib.pow10Tab
theorem Tab.stays {w w' : World} {B : Nat} (h : Tab w) (hb : Below B w w') (hB : w.heap.size ≤ B) : Tab w' :=
  Joins.tab_stays (g := 2) (by kernel_rfl) h hb hB

theorem grown (w : World) (k : Nat) (os : Array Obj) : Below w.heap.size w (Sort.grow (w.drewN k) os) :=
  ⟨rfl, rfl, rfl, by simp [Sort.grow], fun i hi => by
    show ((w.drewN k).heap ++ os)[i]? = _
    rw [Array.getElem?_append_left (show i < (w.drewN k).heap.size from hi)]
    rfl⟩

theorem itoaB (n : Int) (w : World) (h0 : -1000000 ≤ n) (h1 : n ≤ 1000000) (ht : Tab w) : Calls Tryd.prog 62 #[.int .i64 n] w fun e w' => e = .returned (.string ⟨(Lib.itoa n).toArray⟩) ∧ Below w.heap.size w w' := by
  refine (Tryd.strconv_Itoa n (by omega) (by omega) w ht).mono ?_
  rintro e w' ⟨rfl, k, os, rfl⟩
  exact ⟨rfl, grown _ _ _⟩

/-- a value as text -/
def M.word (k n : Int) (s : ByteArray) : ByteArray := if k = 0 then ⟨(Lib.itoa n).toArray⟩ else if k = 1 then ⟨#[58]⟩ ++ s else ⟨#[42]⟩

theorem printBad (k n : Int) (s : ByteArray) (w : World) (hs : s.size ≤ maxLen) (h : M.fault k n s ≠ 0) :
    Calls Tryd.prog 87 #[.agg #[.int .i64 k, .int .i64 n, .string s]] w fun e w' => e = .returned (.tuple #[.string ⟨#[]⟩, .iface 66 (.int .i64 (M.fault k n s))]) ∧ Below w.heap.size w w' := by
  have H := hide h
  clear h
  go_enter Tryd.func87, Tryd.ntmps87
  go_wp2_with fail
  refine (checkBad k n s _ hs H.out).mono ?_
  rintro e w1 ⟨rfl, hb⟩
  obtain ⟨hc, hf⟩ := bcell hb
  go_wp2_with fail
  go_ret2
  exact ⟨rfl, ((Below.refl _ _).alloc (Nat.le_refl _) _).trans (hb.mono (by simp))⟩

theorem fault_kind {k n : Int} {s : ByteArray} (h : M.fault k n s = 0) : k = 0 ∨ k = 1 ∨ k = 2 := by
  unfold M.fault at h
  by_cases e0 : k = 0
  · exact Or.inl e0
  · rw [if_neg e0] at h
    by_cases e1 : k = 1
    · exact Or.inr (Or.inl e1)
    · rw [if_neg e1] at h
      by_cases e2 : k = 2
      · exact Or.inr (Or.inr e2)
      · rw [if_neg e2] at h; exact absurd h (by decide)
theorem fault_num {n : Int} {s : ByteArray} (h : M.fault 0 n s = 0) : -1000000 ≤ n ∧ n ≤ 1000000 ∧ s.size = 0 := by
  unfold M.fault M.faultN at h
  rw [if_pos rfl] at h
  by_cases e : n < -1000000 ∨ 1000000 < n
  · rw [if_pos e] at h; exact absurd h (by decide)
  · rw [if_neg e] at h
    by_cases e2 : s.size = 0
    · exact ⟨by omega, by omega, e2⟩
    · rw [if_neg e2] at h; exact absurd h (by decide)
theorem fault_text {n : Int} {s : ByteArray} (h : M.fault 1 n s = 0) : n = 0 ∧ s.size ≤ 12 ∧ M.bad s = false := by
  unfold M.fault M.faultT at h
  rw [if_neg (by decide), if_pos rfl] at h
  by_cases e : 12 < s.size
  · rw [if_pos e] at h; exact absurd h (by decide)
  · rw [if_neg e] at h
    by_cases e2 : n = 0
    · rw [if_pos e2] at h
      cases hb : M.bad s
      · exact ⟨e2, by omega, rfl⟩
      · rw [hb] at h; exact absurd h (by decide)
    · rw [if_neg e2] at h; exact absurd h (by decide)
theorem fault_star {n : Int} {s : ByteArray} (h : M.fault 2 n s = 0) : n = 0 ∧ s.size = 0 := by
  unfold M.fault M.faultA at h
  rw [if_neg (by decide), if_neg (by decide), if_pos rfl] at h
  by_cases e : n = 0 ∧ s.size = 0
  · exact e
  · rw [if_neg e] at h; exact absurd h (by decide)

theorem printOk (k n : Int) (s : ByteArray) (w : World) (hs : s.size ≤ maxLen) (h : M.fault k n s = 0) (ht : Tab w) :
    Calls Tryd.prog 87 #[.agg #[.int .i64 k, .int .i64 n, .string s]] w fun e w' => e = .returned (.tuple #[.string (M.word k n s), .nilIface]) ∧ Below w.heap.size w w' := by
  rcases fault_kind h with rfl | rfl | rfl
  · obtain ⟨n1, n2, _⟩ := fault_num h
    have H := hide h
    have HT := hide ht
    clear h ht
    go_enter Tryd.func87, Tryd.ntmps87
    go_wp2_with fail
    refine (checkOk 0 n s _ hs H.out).mono ?_
    rintro e w1 ⟨rfl, hb⟩
    obtain ⟨hc, hf⟩ := bcell hb
    have B1 : Below w.heap.size w w1 := ((Below.refl _ _).alloc (Nat.le_refl _) _).trans (hb.mono (by simp))
    have HT1 : Hid (Tab w1) := HT.out.stays B1 (Nat.le_refl _)
    go_wp2_with fail
    refine (itoaB n _ n1 n2 HT1.out).mono ?_
    rintro e w2 ⟨rfl, hb2⟩
    go_wp2_with fail
    go_ret2
    exact ⟨rfl, B1.trans (hb2.mono B1.size)⟩
  · obtain ⟨rfl, n2, _⟩ := fault_text h
    have H := hide h
    clear h
    have hadd : ∀ w, (Op.stringOp .add ⟨#[58]⟩ s).run Tryd.prog w = .ok (.string (⟨#[58]⟩ ++ s)) w := fun w => run_string_add_sum w _ _ (by show 1 + s.size ≤ _; omega)
    go_enter Tryd.func87, Tryd.ntmps87
    go_wp2_with fail
    refine (checkOk 1 0 s _ hs H.out).mono ?_
    rintro e w1 ⟨rfl, hb⟩
    obtain ⟨hc, hf⟩ := bcell hb
    go_wp2_with fail
    go_ret2
    exact ⟨rfl, ((Below.refl _ _).alloc (Nat.le_refl _) _).trans (hb.mono (by simp))⟩
  · have H := hide h
    clear h
    go_enter Tryd.func87, Tryd.ntmps87
    go_wp2_with fail
    refine (checkOk 2 n s _ hs H.out).mono ?_
    rintro e w1 ⟨rfl, hb⟩
    obtain ⟨hc, hf⟩ := bcell hb
    go_wp2_with fail
    go_ret2
    exact ⟨rfl, ((Below.refl _ _).alloc (Nat.le_refl _) _).trans (hb.mono (by simp))⟩

end Go.Proofs.YtlidoefbonklcajDoor

namespace Go.Proofs.YtlidoefbonklcajDoor.M

def Val.word (v : Val) : ByteArray := M.word v.k v.n v.s

/-- fields as text, a comma between -/
def joinL : List (List UInt8) → List UInt8
  | [] => []
  | [p] => p
  | p :: q :: r => p ++ 44 :: joinL (q :: r)
def line (l : List Val) : ByteArray := ⟨(joinL (l.map fun v => v.word.data.toList)).toArray⟩

end Go.Proofs.YtlidoefbonklcajDoor.M

namespace Go.Proofs.YtlidoefbonklcajDoor
open Go.RowKit

/-- the builder in block b, from block B on, holds the bytes bs -/
def Blt (B b : Nat) (bs : List Value) (w : World) : Prop := Lib.IsBuilder 153 5 B b bs w

theorem sizeB : (Tryd.prog.info? 153).map (·.size) = some 2 := by kernel_rfl
theorem liesB : liesAt Tryd.prog Tryd.prog.depth 153 (2 / Tryd.prog.cellsOf 153) 0 153 1 = true := by kernel_rfl
theorem infoByte : (Tryd.prog.info? 5).map (fun i => (i.zero, i.size, i.bytes)) = some (some (.int .u8 0), 1, 1) := by kernel_rfl

set_option maxRecDepth 100000 in
set_option maxHeartbeats 1000000 in
/-- a builder that was written before is let by -/
theorem checkUsed (b : Nat) (w : World) (h0 : w.cell? ⟨b, 0, none⟩ = some (.pointer (some ⟨b, 0, none⟩))) :
    Calls Tryd.prog 111 #[.pointer (some ⟨b, 0, none⟩)] w fun e w' => e = .returned (.tuple #[]) ∧ w' = w := by
  obtain ⟨j, hj, _⟩ := Option.map_eq_some_iff.1 sizeB
  have same := Lib.run_neq_ptr_same w ⟨b, 0, none⟩ Tryd.underlying151 hj
  go_enter Tryd.func111, Tryd.ntmps111
  go_wp2
  go_end0
  exact ⟨rfl, rfl⟩

set_option maxRecDepth 100000 in
set_option maxHeartbeats 1000000 in
/-- one that was not keeps its own address -/
theorem checkFresh (b : Nat) (w : World) (h0 : w.cell? ⟨b, 0, none⟩ = some (.pointer none)) (hsh : w.shape? b = some (153, 2)) (hfz : w.frozen? ⟨b, 0, none⟩ = false) :
    Calls Tryd.prog 111 #[.pointer (some ⟨b, 0, none⟩)] w fun e w' => e = .returned (.tuple #[]) ∧ w' = w.setCell ⟨b, 0, none⟩ (.pointer (some ⟨b, 0, none⟩)) := by
  obtain ⟨j, hj, hjs⟩ := Option.map_eq_some_iff.1 sizeB
  have there := Lib.run_to_unsafe w ⟨b, 0, none⟩ Tryd.underlying151 Tryd.underlying129 hj (by omega) hsh (show 0 < 2 by decide)
  have through := Lib.run_noEscape (P := Tryd.prog) w (.pointer (some ⟨b, 0, none⟩))
  have call : (callFunc 133 #[.pointer (some ⟨b, 0, none⟩)]).run Tryd.prog w = .ok (.value (.pointer (some ⟨b, 0, none⟩))) w := by
    rw [run_callFunc_extern Tryd.func133 (by kernel_rfl) (by kernel_rfl) (by kernel_rfl) (e := Extern.AbiNoEscape.same) (by kernel_rfl), through]; rfl
  have back := Lib.run_from_unsafe w ⟨b, 0, none⟩ Tryd.underlying129 Tryd.underlying151 hj hsh liesB
  clear through hj hjs
  go_enter Tryd.func111, Tryd.ntmps111
  go_wp2
  go_end0
  exact ⟨rfl, rfl⟩

/-- either way its own address is there behind it, and its bytes are as they were -/
theorem copyCheck (B b : Nat) (bs : List Value) (w : World) (h : Blt B b bs w) :
    Calls Tryd.prog 111 #[.pointer (some ⟨b, 0, none⟩)] w fun e w' => e = .returned (.tuple #[]) ∧ Lib.BuilderAt 153 5 B b (.pointer (some ⟨b, 0, none⟩)) bs w' ∧ Below B w w' :=
  h.elim (fun f => (checkFresh b w f.cell0 f.shape f.frozen0).mono fun _ _ ⟨he, hw⟩ => ⟨he, hw ▸ f.used _, hw ▸ (Below.refl B w).setCell (p := ⟨b, 0, none⟩) f.1 _⟩)
    (fun u => (checkUsed b w u.cell0).mono fun _ _ ⟨he, hw⟩ => ⟨he, hw ▸ u, hw ▸ Below.refl B w⟩)

/-- its two cells, wherever its bytes have gone -/
theorem two_cells {w w' : World} {b : Nat} {p v : Value} (h : w.heap[b]? = some (.cells #[p, v] 153 (0, 0))) (hg : w.grownBy w' v.ownBlock) (hne : v.ownBlock ≠ some b) : w'.heap[b]? = some (.cells #[p, v] 153 (0, 0)) :=
  (hg.block b (Array.getElem?_eq_some_iff.1 h).1 hne.symm).trans h
theorem slice_own {w : World} {B : Nat} {e : TypeId} {v : Value} {n : Nat} {xs : List Value} (h : w.ownsRow B e 1 v n xs) : ∃ ao cap, v = .slice ao n cap :=
  h.2.elim (fun ⟨hv, hn⟩ => ⟨none, 0, by rw [hv, hn]⟩) (fun ⟨_, cap, _, hv, _⟩ => ⟨_, cap, hv⟩)

set_option maxHeartbeats 1000000 in
theorem writeS (B b : Nat) (bs : List Value) (s : ByteArray) (w : World) (h : Blt B b bs w) (hlen : bs.length + s.size ≤ 1000000) (hBw : B ≤ w.heap.size) :
    Calls Tryd.prog 88 #[.pointer (some ⟨b, 0, none⟩), .string s] w fun e w' => e = .returned (.tuple #[.int .i64 s.size, .nilIface]) ∧ Blt B b (bs ++ Lib.strCells s) w' ∧ Below B w w' := by
  obtain ⟨i0, hi, hz0, hz1, hz2⟩ := info_parts infoByte
  go_enter Tryd.func88, Tryd.ntmps88
  go_wp2_with fail
  refine (copyCheck B b bs _ h).mono ?_
  rintro e w1 ⟨rfl, ⟨hB, v, hbk, hown, hne⟩, hb1⟩
  have hsz : B ≤ w1.heap.size := Nat.le_trans hBw hb1.size
  have at0 : w1.cell? ⟨b, 0, none⟩ = some (.pointer (some ⟨b, 0, none⟩)) := (Lib.cell_of_heap hbk 0).trans rfl
  have at1 : w1.cell? ⟨b, 1, none⟩ = some v := (Lib.cell_of_heap hbk 1).trans rfl
  go_wp2_with (at_builtin; refine Lib.wpList_append_own_string _ rfl (.tmp 12) (.tmp 13) 125 9 rfl B 5 i0 Tryd.underlying125 Tryd.underlying9 hi hz0 hz1 hz2 v bs.length bs rfl hown s rfl (by unfold maxLen; omega) (by omega) hsz ?_)
  intro v' w2 hown' hgrow _
  have HB2 := hide (hb1.grown hgrow hsz (fun k hk => (hown.lt k hk).1))
  have hbk2 := two_cells hbk hgrow hne
  have to0 : w2.cell? ⟨b, 0, none⟩ = some (.pointer (some ⟨b, 0, none⟩)) := (Lib.cell_of_heap hbk2 0).trans rfl
  have to1 : w2.cell? ⟨b, 1, none⟩ = some v := (Lib.cell_of_heap hbk2 1).trans rfl
  have free1 := Lib.frozen_of_heap hbk2 1
  obtain ⟨ao, cap, rfl⟩ := slice_own hown'
  have HP := hide (Lib.BuilderAt.put (T := 153) (e := 5) (bs' := bs ++ Lib.strCells s) hB hbk2 (by rw [List.length_append, Lib.strCells_length]; exact hown') (by decide))
  clear hown hown' hgrow hbk hbk2 hb1 hne
  go_wp2
  go_ret2
  exact ⟨rfl, Or.inr HP.out, HB2.out.setCell (p := ⟨b, 1, none⟩) hB _⟩

end Go.Proofs.YtlidoefbonklcajDoor

namespace Go.Proofs.YtlidoefbonklcajDoor
open Go.RowKit

theorem join_snoc : ∀ (ps : List (List UInt8)) (p : List UInt8), ps ≠ [] → M.joinL (ps ++ [p]) = M.joinL ps ++ 44 :: p
  | [], _, h => absurd rfl h
  | [a], p, _ => rfl
  | a :: b :: r, p, _ => by
    have ih : M.joinL (b :: (r ++ [p])) = M.joinL (b :: r) ++ 44 :: p := join_snoc (b :: r) p (by simp)
    show a ++ 44 :: M.joinL (b :: (r ++ [p])) = (a ++ 44 :: M.joinL (b :: r)) ++ 44 :: p
    rw [ih]; simp
def words (l : List M.Val) : List (List UInt8) := l.map fun v => v.word.data.toList
theorem line_eq (l : List M.Val) : M.line l = ⟨(M.joinL (words l)).toArray⟩ := rfl

theorem word_size {v : M.Val} (h : v.fault = 0) : v.word.data.toList.length ≤ 13 := by
  obtain ⟨k, n, s⟩ := v
  simp only [M.Val.fault] at h
  simp only [M.Val.word]
  rcases fault_kind h with rfl | rfl | rfl
  · obtain ⟨n1, n2, _⟩ := fault_num h
    obtain ⟨i1, _⟩ := M.num_itoa n n1 n2
    obtain ⟨_, h2, _, _⟩ := M.isNum_parts i1
    have hd : (M.word 0 n s).data.toList = Lib.itoa n := by show (⟨(Lib.itoa n).toArray⟩ : ByteArray).data.toList = _; simp
    rw [hd]
    unfold M.digs at h2
    split at h2
    · rw [List.length_tail] at h2; omega
    · omega
  · obtain ⟨_, h2, _⟩ := fault_text h
    have hd : (M.word 1 n s).data.toList = 58 :: s.data.toList := by
      show ((⟨#[58]⟩ : ByteArray) ++ s).data.toList = _
      simp [ByteArray.data_append]
    rw [hd]
    have : s.data.toList.length = s.size := by simp
    simp only [List.length_cons]; omega
  · have hd : (M.word 2 n s).data.toList = [42] := rfl
    rw [hd]; decide
theorem join_len : ∀ (ps : List (List UInt8)), (∀ p ∈ ps, p.length ≤ 13) → (M.joinL ps).length ≤ ps.length * 14
  | [], _ => Nat.le_refl _
  | [p], h => by have := h p (by simp); simp only [M.joinL, List.length_cons, List.length_nil]; omega
  | p :: q :: r, h => by
    have ih := join_len (q :: r) (fun x hx => h x (by simp [hx]))
    have := h p (by simp)
    simp only [M.joinL, List.length_append, List.length_cons] at ih ⊢
    omega
theorem words_len {l : List M.Val} (h : ∀ v ∈ l, v.fault = 0) : (M.joinL (words l)).length ≤ l.length * 14 := by
  have := join_len (words l) (fun p hp => by obtain ⟨v, hv, rfl⟩ := List.mem_map.1 hp; exact word_size (h v hv))
  simpa [words] using this
theorem words_take {l : List M.Val} {k : Nat} (h : k < l.length) : words (l.take (k + 1)) = words (l.take k) ++ [l[k].word.data.toList] := by
  unfold words
  rw [List.take_succ_eq_append_getElem h, List.map_append]; rfl

theorem Blt.stays {B b : Nat} {bs : List Value} {w w' : World} (h : Blt B b bs w) (hb : Below w.heap.size w w') : Blt B b bs w' := by
  have key : ∀ p, Lib.BuilderAt 153 5 B b p bs w → Lib.BuilderAt 153 5 B b p bs w' := fun p hp => by
    have hlt := hp.lt
    obtain ⟨hB, v, hv, hown, hne⟩ := hp
    refine ⟨hB, v, (hb.block b hlt).trans hv, ?_, hne⟩
    obtain ⟨h1, h2⟩ := hown
    refine ⟨h1, ?_⟩
    rcases h2 with h2 | ⟨g, cap, cur, e1, e2, e3, e4⟩
    · exact Or.inl h2
    · have hg : g < w.heap.size := by
        rcases Nat.lt_or_ge g w.heap.size with h' | h'
        · exact h'
        · simp [Array.getElem?_eq_none h'] at e3
      exact Or.inr ⟨g, cap, cur, e1, e2, (hb.block g hg).trans e3, e4⟩
  rcases h with h | h
  · exact Or.inl (key _ h)
  · exact Or.inr (key _ h)

theorem tprint_bad (v : Value) (l : List M.Val) (w : World) (h : IsVals w v l) (hf : M.likeF l ≠ 0) :
    Calls Tryd.prog 61 #[v] w fun e w' => e = .returned (.tuple #[.string ⟨#[]⟩, errV (M.likeF l)]) ∧ Below w.heap.size w w' := by
  have HL : Hid (Calls Tryd.prog 81 #[v] w fun e w' => e = .returned (.iface 66 (.int .i64 (M.likeF l))) ∧ Below w.heap.size w w') := hide (by rw [← errV_bad hf]; exact like v l w h)
  have HF := hide hf
  clear hf h
  go_enter Tryd.func61, Tryd.ntmps61
  go_wp2_with fail
  refine (unhide HL).mono ?_
  rintro e w1 ⟨rfl, hb1⟩
  go_wp2_with fail
  go_ret2
  exact ⟨by rw [errV_bad HF.out]; rfl, hb1⟩

theorem likeF_each' {l : List M.Val} (h : M.likeF l = 0) : ∀ v ∈ l, v.fault = 0 := by
  obtain ⟨h0, h5⟩ := likeF_len h
  unfold M.likeF at h
  rw [if_neg (by omega), if_neg (by omega)] at h
  exact M.firstF_zero h

theorem cells_comma (l : List UInt8) : Lib.byteCells l ++ Lib.strCells ⟨#[44]⟩ = Lib.byteCells (l ++ [44]) := by simp [Lib.byteCells, Lib.strCells]
theorem cells_word (l : List UInt8) (s : ByteArray) : Lib.byteCells l ++ Lib.strCells s = Lib.byteCells (l ++ s.data.toList) := by simp [Lib.byteCells, Lib.strCells]

set_option maxHeartbeats 1000000 in
theorem tprint_walk (b off cap : Nat) (l : List M.Val) (w : World) (hl : Lie w b off l) (hc : l.length ≤ cap) (hcm : cap ≤ maxLen) (hf : M.likeF l = 0) (ht : Tab w) :
    Calls Tryd.prog 61 #[.slice (some ⟨b, off, none⟩) l.length cap] w fun e w' => e = .returned (.tuple #[.string (M.line l), .nilIface]) ∧ Below w.heap.size w w' := by
  obtain ⟨h0, h5⟩ := likeF_len hf
  have hv : IsVals w (.slice (.some ⟨b, off, none⟩) l.length cap) l := Or.inr (Or.inr ⟨b, off, cap, h0, rfl, hc, hcm, hl⟩)
  have HL : Hid (Calls Tryd.prog 81 #[.slice (some ⟨b, off, none⟩) l.length cap] w fun e w' => e = .returned .nilIface ∧ Below w.heap.size w w') := hide (by have := like _ l w hv; rwa [hf] at this)
  have HE := hide (likeF_each' hf)
  have HLI := hide hl
  have HT := hide ht
  clear hv hf hl ht hc hcm
  obtain ⟨n, hn⟩ : ∃ n, n = l.length := ⟨_, rfl⟩
  rw [← hn] at h0 h5 HL ⊢
  have HN := hide hn
  clear hn
  go_enter Tryd.func61, Tryd.ntmps61
  go_wp2_with fail
  refine (unhide HL).mono ?_
  rintro e w1 ⟨rfl, hb1⟩
  have hw1 := hb1.size
  go_wp2_with fail
  go_loopw [17] (fun i wr => ∃ k : Nat, k ≤ n ∧ i = .int .i64 k ∧ Hid (Blt w1.heap.size w1.heap.size (Lib.byteCells (M.joinL (words (l.take k)))) wr) ∧ Hid (Below w1.heap.size w1 wr)) (fun i _ => n - (intOf i).toNat)
  case atStart => exact ⟨0, Nat.zero_le _, rfl, hide (Lib.fresh_isBuilder _ _ _), hide ((Below.refl _ _).alloc (Nat.le_refl _) _)⟩
  case round =>
    obtain ⟨k, hk, rfl, hblt, hbel⟩ := hrel
    by_cases hlt : k < n
    · have hkl : k < l.length := HN.out ▸ hlt
      have hbw : Hid (Below w.heap.size w wr) := hide (hb1.trans (hbel.out.mono hw1))
      obtain ⟨c1, c2, c3, c4⟩ := ((unhide HLI).stays (by omega) hbw.out (Nat.le_refl _)) k hkl
      have HC4 := hide c4
      clear c4
      have hfk : Hid (M.fault l[k].k l[k].n l[k].s = 0) := hide (HE.out _ (List.getElem_mem hkl))
      have HSZ : Hid ((M.joinL (words (l.take k))).length ≤ 70) := hide (by
        have := words_len (l := l.take k) (fun v hv => HE.out v (List.mem_of_mem_take hv))
        rw [List.length_take] at this; omega)
      have HWZ : Hid ((M.word l[k].k l[k].n l[k].s).size ≤ 13) := hide (by have := word_size (v := l[k]) (HE.out _ (List.getElem_mem hkl)); simpa [M.Val.word] using this)
      have HTR : Hid (∀ o, Tab (wr.alloc o)) := hide fun o => (HT.out.stays (hbw.out.alloc hbw.out.size o) (Nat.le_refl _))
      have hws := hbel.out.size
      go_wp2_with fail
      refine (printOk _ _ _ _ HC4.out hfk.out (HTR.out _)).mono ?_
      rintro e w2 ⟨rfl, hb2⟩
      have HB2 : Hid (Below wr.heap.size wr w2) := hide (((Below.refl _ _).alloc (Nat.le_refl _) _).trans (hb2.mono (by simp)))
      have hblt2 := hide (hblt.out.stays HB2.out)
      have hz2 := HB2.out.size
      clear hb2
      by_cases hk0 : k = 0
      · subst hk0
        have HW0 : Hid (M.joinL (words (l.take 0)) = []) := hide rfl
        go_wp2_with fail
        refine (writeS w1.heap.size w1.heap.size _ _ _ hblt2.out (by rw [Lib.byteCells_length]; have := HSZ.out; have := HWZ.out; omega) (by omega)).mono ?_
        rintro e w3 ⟨rfl, hblt3, hb3⟩
        have HB3 := hide (hbel.out.trans ((HB2.out.mono hws).trans hb3))
        have HBL3 := hide hblt3
        clear hb3 hblt3
        go_wp2_with fail
        go_roundw
        case rel =>
          refine ⟨1, by omega, by go_num, hide ?_, HB3⟩
          have := HBL3.out
          rw [cells_word] at this
          rw [words_take hkl]
          exact this
        case measure => simp [intOf]; omega
      · have hk1 : (0 : Int) < (k : Int) := by omega
        go_wp2_with fail
        refine (writeS w1.heap.size w1.heap.size _ _ _ hblt2.out (by rw [Lib.byteCells_length]; have := HSZ.out; show _ + 1 ≤ _; omega) (by omega)).mono ?_
        rintro e w3 ⟨rfl, hblt3, hb3⟩
        have hz3 := hb3.size
        have HB3 := hide ((HB2.out.mono hws).trans hb3)
        have HBL3 : Hid (Blt w1.heap.size w1.heap.size (Lib.byteCells (M.joinL (words (l.take k)) ++ [44])) w3) := hide (by have := hblt3; rwa [cells_comma] at this)
        clear hb3 hblt3
        go_wp2_with fail
        refine (writeS w1.heap.size w1.heap.size _ _ _ HBL3.out (by rw [Lib.byteCells_length, List.length_append]; have := HSZ.out; have := HWZ.out; show _ + 1 + _ ≤ _; omega) (by omega)).mono ?_
        rintro e w4 ⟨rfl, hblt4, hb4⟩
        have HB4 := hide (hbel.out.trans (HB3.out.trans hb4))
        have HBL4 := hide hblt4
        clear hb4 hblt4
        go_wp2_with fail
        go_roundw
        case rel =>
          refine ⟨k + 1, by omega, by go_num, hide ?_, HB4⟩
          have := HBL4.out
          rw [cells_word, List.append_assoc] at this
          rw [words_take hkl, join_snoc _ _ (by
            intro e
            have := congrArg List.length e
            unfold words at this
            rw [List.length_map, List.length_take] at this
            simp only [List.length_nil] at this
            omega)]
          exact this
        case measure => simp [intOf]; omega
    · have hfin : Hid (l.take k = l) := hide (List.take_of_length_le (by have := HN.out; omega))
      have hblt' : Hid (Blt w1.heap.size w1.heap.size (Lib.byteCells (M.joinL (words l))) wr) := hide (by have := hblt.out; rwa [hfin.out] at this)
      have hws := hbel.out.size
      go_wp2_with fail
      refine (Tryd.Builder_String_any w1.heap.size w1.heap.size _ _ hblt'.out hws).mono ?_
      rintro e w2 ⟨rfl, hb2⟩
      go_wp2_with fail
      go_ret2
      exact ⟨by rw [line_eq]; rfl, hb1.trans ((hbel.out.trans hb2).mono hw1)⟩

theorem tprint (v : Value) (l : List M.Val) (w : World) (h : IsVals w v l) (ht : Tab w) :
    Calls Tryd.prog 61 #[v] w fun e w' => e = .returned (.tuple #[.string (if M.likeF l = 0 then M.line l else ⟨#[]⟩), errV (M.likeF l)]) ∧ Below w.heap.size w w' := by
  by_cases hf : M.likeF l = 0
  · obtain ⟨b, off, cap, rfl, h1, h2, h3⟩ := h.some (likeF_len hf).1
    rw [if_pos hf, hf]
    exact tprint_walk b off cap l w h3 h1 h2 hf ht
  · rw [if_neg hf]
    exact tprint_bad v l w h hf

end Go.Proofs.YtlidoefbonklcajDoor
