/-
  What Parse of package tuple does, as one law of its call.
-/
import Derived.Test.YtlefhfmckimlaajGreatDoorTupCut
import Derived.Test.YtlefhfmckimlaajGreatDoorTupWalks
import Derived.Test.YtlefhfmckimlaajGreatDoorParseWalks2
import Derived.RangeFuncBox
import Derived.Maps.AppendAt
import Derived.Deep.AppendLies
namespace Go.Proofs.YtlefhfmckimlaajGreatDoor
open Go.RowKit Go.Shelf
attribute [local go_sem] Oper.semAt_some

/-- what has been put together of the fields that came -/
def vals (pre : List Str) : List M.Val := ((lst pre).map M.pVal).take 6
def okS (pre : List Str) : Prop := ∀ x ∈ pre, M.pErr x.1 = 0

theorem bytes_eq (x : ByteArray) : (⟨x.data.toList.toArray⟩ : ByteArray) = x := by cases x; simp
theorem pErrL_eq (x : ByteArray) : M.pErrL x.data.toList = M.pErr x := by unfold M.pErrL; rw [bytes_eq]
theorem pVal_eq (x : ByteArray) : M.pVal x.data.toList = ⟨M.pK x, M.pN x, M.pS x⟩ := by unfold M.pVal; rw [bytes_eq]
theorem vals_room {pre : List Str} (x : Str) (h : (vals pre).length ≤ 5) : vals (pre ++ [x]) = vals pre ++ [⟨M.pK x.1, M.pN x.1, M.pS x.1⟩] := by
  have hl : ((lst pre).map M.pVal).length ≤ 5 := by unfold vals at h; rw [List.length_take] at h; omega
  unfold vals
  rw [lst_snoc, List.map_append, List.take_of_length_le (by rw [List.length_append]; simp only [List.map_cons, List.map_nil, List.length_cons, List.length_nil]; omega), List.take_of_length_le (by omega)]
  simp [pVal_eq]
theorem vals_full {pre : List Str} (x : Str) (h : 5 < (vals pre).length) : vals (pre ++ [x]) = vals pre := by
  have hl : 6 ≤ ((lst pre).map M.pVal).length := by unfold vals at h; rw [List.length_take] at h; omega
  unfold vals
  rw [lst_snoc, List.map_append, List.take_append_of_le_length hl]
theorem vals_le (pre : List Str) : (vals pre).length ≤ 6 := by unfold vals; rw [List.length_take]; omega
theorem vals_ok {pre : List Str} (h : okS pre) : ∀ v ∈ vals pre, v.fault = 0 := fun v hv => by
  obtain ⟨p, hp, rfl⟩ := List.mem_map.1 (List.mem_of_mem_take hv)
  obtain ⟨x, hx, rfl⟩ := List.mem_map.1 hp
  rw [pVal_eq]
  exact (M.back_text (h x hx)).1
theorem fault_size {v : M.Val} (h : v.fault = 0) : v.s.size ≤ 12 := by
  obtain ⟨k, n, s⟩ := v
  simp only [M.Val.fault] at h
  rcases fault_kind h with rfl | rfl | rfl
  · have := (fault_num h).2.2; simp only; omega
  · exact (fault_text h).2.1
  · unfold M.fault M.faultA at h
    rw [if_neg (by decide), if_neg (by decide), if_pos rfl] at h
    by_cases e : n = 0 ∧ s.size = 0
    · simp only; omega
    · rw [if_neg e] at h; exact absurd h (by decide)
theorem vals_size {pre : List Str} (h : okS pre) : ∀ v ∈ vals pre, v.s.size ≤ maxLen := fun v hv => by
  have := fault_size (vals_ok h v hv); unfold maxLen; omega

theorem firstP_append : ∀ (a b : List (List UInt8)), (∀ p ∈ a, M.pErrL p = 0) → M.firstP (a ++ b) = M.firstP b
  | [], _, _ => rfl
  | p :: a, b, h => by
    show (if M.pErrL p ≠ 0 then M.pErrL p else M.firstP (a ++ b)) = _
    rw [if_neg (by have := h p (by simp); simpa using this)]
    exact firstP_append a b fun q hq => h q (by simp [hq])
theorem lst_ok {pre : List Str} (h : okS pre) : ∀ p ∈ lst pre, M.pErrL p = 0 := fun p hp => by
  obtain ⟨x, hx, rfl⟩ := List.mem_map.1 hp
  rw [pErrL_eq]; exact h x hx
theorem firstF_ok : ∀ {l : List M.Val}, (∀ v ∈ l, v.fault = 0) → M.firstF l = 0
  | [], _ => rfl
  | a :: l, h => by
    unfold M.firstF
    rw [if_neg (by have := h a (by simp); simpa using this)]
    exact firstF_ok fun v hv => h v (by simp [hv])

/-- a field that cannot be read -/
theorem parse_stop {l : List UInt8} {front : List Str} {x : Str} (h : lst (front ++ [x]) <+: M.cutL l) (hok : okS front) (hx : M.pErr x.1 ≠ 0) (hl : l.length ≠ 0) : M.readE l = M.pErr x.1 ∧ M.readV l = [] := by
  obtain ⟨r, hr⟩ := h
  have hf : M.firstP (M.cutL l) = M.pErr x.1 := by
    rw [← hr, lst_snoc, List.append_assoc, firstP_append _ _ (lst_ok hok)]
    show (if M.pErrL x.1.data.toList ≠ 0 then M.pErrL x.1.data.toList else M.firstP ([] ++ r)) = _
    rw [pErrL_eq, if_pos hx]
  have he : M.readE l = M.pErr x.1 := by unfold M.readE; rw [if_neg hl, hf, if_pos hx]
  exact ⟨he, by unfold M.readV; rw [he, if_pos hx]⟩
/-- all fields are read -/
theorem parse_done {l : List UInt8} {ys : List Str} (h : lst ys = M.cutL l) (hok : okS ys) (hl : l.length ≠ 0) :
    (M.readE l = 4 ∧ M.likeF (vals ys) = 4 ∧ M.readV l = []) ∨ (M.readE l = 0 ∧ M.likeF (vals ys) = 0 ∧ M.readV l = vals ys) := by
  have hf : M.firstP (M.cutL l) = 0 := by
    have := firstP_append (lst ys) [] (lst_ok hok)
    rw [List.append_nil] at this
    rw [← h, this]; rfl
  have hne : (M.cutL l).length ≠ 0 := fun e => M.cutL_ne l (List.length_eq_zero_iff.1 e)
  have hlen : (vals ys).length = min 6 (M.cutL l).length := by unfold vals; rw [List.length_take, List.length_map, h]
  by_cases h5 : 5 < (M.cutL l).length
  · refine Or.inl ?_
    have he : M.readE l = 4 := by unfold M.readE; rw [if_neg hl, hf, if_neg (by decide), if_pos h5]
    refine ⟨he, ?_, by unfold M.readV; rw [he, if_pos (by decide)]⟩
    unfold M.likeF
    rw [if_neg (by omega), if_pos (by omega)]
  · refine Or.inr ?_
    have he : M.readE l = 0 := by unfold M.readE; rw [if_neg hl, hf, if_neg (by decide), if_neg h5]
    refine ⟨he, ?_, ?_⟩
    · unfold M.likeF
      rw [if_neg (by omega), if_neg (by omega)]
      exact firstF_ok (vals_ok hok)
    · unfold M.readV
      rw [he, if_neg (by decide)]
      unfold vals
      rw [h, List.take_of_length_le (by rw [List.length_map]; omega)]

theorem below_others {w w' : World} (h : Below w.heap.size w w') : KeepsOthers w w' := ⟨h.size, fun k _ hk _ => (h.block k (Array.getElem?_eq_some_iff.1 hk).1).trans hk⟩
theorem boxed_below {w w' : World} {B : Nat} {t : TypeId} {v : Value} (h : Boxed w B t v) (hb : Below w.heap.size w w') : Boxed w' B t v := (hb.block B h.lt).trans h
theorem owns_below {w w' : World} {base : Nat} {e : TypeId} {size : Nat} {v : Value} {n : Nat} {xs : List Value} (h : w.ownsRow base e size v n xs) (hb : Below w.heap.size w w') : w'.ownsRow base e size v n xs := by
  refine h.kept (below_grown hb) ?_
  cases hv : v.ownBlock with
  | none => exact Or.inl rfl
  | some g => exact Or.inr (by simp)

def lastE (pre : List Str) : Int := match pre.getLast? with
  | some x => M.pErr x.1
  | none => 0
theorem lastE_snoc (pre : List Str) (x : Str) : lastE (pre ++ [x]) = M.pErr x.1 := by simp [lastE]
def Bad (pre : List Str) : Prop := ∃ front x, pre = front ++ [x] ∧ okS front ∧ M.pErr x.1 ≠ 0

theorem infoV : (Tryz.prog.info? 47).map (fun i => (i.zero, i.size, i.bytes)) = some (some (.agg #[.int .i64 0, .int .i64 0, .string ⟨#[]⟩]), 3, 32) := by kernel_rfl

/-- what holds between two rounds, and behind one that left -/
def InvI (w : World) (pre : List Str) (W : World) : Prop :=
  ((∃ v, Boxed W (w.heap.size + 1 + 1) 33 v ∧ W.ownsRow w.heap.size 47 3 v (vals pre).length (flat (vals pre)) ∧ True) ∧ (Boxed W w.heap.size 33 (.slice none 0 0) ∧ (Boxed W (w.heap.size + 1) 27 .nilIface ∧ okS pre))) ∧ Below w.heap.size w W
def InvX (w : World) (c : Code) (pre : List Str) (W : World) : Prop :=
  ((c = .ret ∧ Bad pre) ∧ (Boxed W w.heap.size 33 (.slice none 0 0) ∧ Boxed W (w.heap.size + 1) 27 (errV (lastE pre)))) ∧ Below w.heap.size w W
def cellsV (x : Str) : Obj := .cells #[.int .i64 (M.pK x.1), .int .i64 (M.pN x.1), .string (M.pS x.1)] 47

theorem okS_snoc {pre : List Str} {x : Str} (h : okS pre) (hx : M.pErr x.1 = 0) : okS (pre ++ [x]) := fun y hy => by
  rcases List.mem_append.1 hy with hy | hy
  · exact h y hy
  · simp at hy; subst hy; exact hx

theorem step_room {w W w1 w2 : World} {pre : List Str} {x : Str} {v v' : Value} {m : Nat} (hv : Boxed W (w.heap.size + 1 + 1) 33 v) (hR : Boxed W w.heap.size 33 (.slice none 0 0)) (hE : Boxed W (w.heap.size + 1) 27 .nilIface)
    (hrow : W.ownsRow w.heap.size 47 3 v (vals pre).length (flat (vals pre))) (hB : Below w.heap.size w W) (hok : okS pre) (hx : M.pErr x.1 = 0) (hm : m = (vals pre).length) (hr : m ≤ 5) (hb1 : Below W.heap.size W w1)
    (hown' : w2.ownsRow w.heap.size 47 3 v' (m + 1) (flat (vals pre) ++ [.int .i64 (M.pK x.1), .int .i64 (M.pN x.1), .string (M.pS x.1)])) (hgrow : ((w1.alloc (cellsV x)).alloc (cellsV x)).grownBy w2 v.ownBlock) :
    Boxed w2 (w.heap.size + 1 + 1) 33 v ∧ KeepsOthers W (w2.setCell ⟨w.heap.size + 1 + 1, 0, none⟩ v') ∧ InvI w (pre ++ [x]) (w2.setCell ⟨w.heap.size + 1 + 1, 0, none⟩ v') := by
  have hs1 := hb1.size
  have hs0 := hB.size
  have v1 := (boxed_below hv hb1).alloc (cellsV x)
  have r1 := (owns_below hrow hb1).alloc (cellsV x)
  have hle : w.heap.size ≤ (w1.alloc (cellsV x)).heap.size := by rw [World.size_alloc]; omega
  obtain ⟨a1, a2, a3, a4, a5⟩ := v1.appended (by decide) r1 hle (by omega) hown' hgrow
  have R2 := ((((boxed_below hR hb1).alloc (cellsV x)).alloc (cellsV x)).kept hgrow (((boxed_below hR hb1).alloc (cellsV x)).not_row (by decide) r1)).other (B' := w.heap.size + 1 + 1) (by omega) v'
  have E2 := ((((boxed_below hE hb1).alloc (cellsV x)).alloc (cellsV x)).kept hgrow (((boxed_below hE hb1).alloc (cellsV x)).not_row (by decide) r1)).other (B' := w.heap.size + 1 + 1) (by omega) v'
  have hvr := vals_room (pre := pre) x (by omega)
  refine ⟨a1, (below_others hb1).trans ((KeepsOthers.alloc w1 _).trans a4), ⟨⟨v', a2, ?_, trivial⟩, R2, E2, okS_snoc hok hx⟩, hB.trans ((hb1.mono hs0).trans (((Below.refl _ w1).alloc (by omega) _).trans a5))⟩
  rw [hvr, flat_append, List.length_append, ← hm]
  exact a3

theorem news_two (w1 : World) (x : Str) : ∀ j u, [Value.int .i64 (M.pK x.1), .int .i64 (M.pN x.1), .string (M.pS x.1)][j]? = some u → ((w1.alloc (cellsV x)).alloc (cellsV x)).cell? ((⟨w1.heap.size + 1, 0, none⟩ : Addr).add j) = some u := by
  have := World.news_of_block (heap_alloc_new (w1.alloc (cellsV x)) (cellsV x))
  rwa [World.size_alloc] at this
theorem row_at {W w1 : World} {B : Nat} {v : Value} {pre : List Str} {m : Nat} (h : W.ownsRow B 47 3 v (vals pre).length (flat (vals pre))) (hm : m = (vals pre).length) (hb : Below W.heap.size W w1) (x : Str) : ((w1.alloc (cellsV x)).alloc (cellsV x)).ownsRow B 47 3 v m (flat (vals pre)) := by
  rw [hm]; exact ((owns_below h hb).alloc _).alloc _

theorem step_full {w W w1 : World} {pre : List Str} {x : Str} {v : Value} (hv : Boxed W (w.heap.size + 1 + 1) 33 v) (hR : Boxed W w.heap.size 33 (.slice none 0 0)) (hE : Boxed W (w.heap.size + 1) 27 .nilIface)
    (hrow : W.ownsRow w.heap.size 47 3 v (vals pre).length (flat (vals pre))) (hB : Below w.heap.size w W) (hok : okS pre) (hx : M.pErr x.1 = 0) (hr : 5 < (vals pre).length) (hb1 : Below W.heap.size W w1) :
    KeepsOthers W (w1.alloc (cellsV x)) ∧ InvI w (pre ++ [x]) (w1.alloc (cellsV x)) := by
  have hs1 := hb1.size
  have hs0 := hB.size
  have hvr := vals_full (pre := pre) x hr
  refine ⟨(below_others hb1).trans (KeepsOthers.alloc w1 _), ⟨⟨v, (boxed_below hv hb1).alloc _, ?_, trivial⟩, (boxed_below hR hb1).alloc _, (boxed_below hE hb1).alloc _, okS_snoc hok hx⟩, hB.trans ((hb1.mono hs0).trans ((Below.refl _ w1).alloc (by omega) _))⟩
  rw [hvr]
  exact (owns_below hrow hb1).alloc _

theorem step_bad {w W w1 : World} {pre : List Str} {x : Str} (hR : Boxed W w.heap.size 33 (.slice none 0 0)) (hE : Boxed W (w.heap.size + 1) 27 .nilIface)
    (hB : Below w.heap.size w W) (hok : okS pre) (hx : M.pErr x.1 ≠ 0) (hb1 : Below W.heap.size W w1) :
    KeepsOthers W (((w1.setCell ⟨w.heap.size, 0, none⟩ (.slice none 0 0)).setCell ⟨w.heap.size + 1, 0, none⟩ (.iface 66 (.int .i64 (M.pErr x.1)))).alloc (cellsV x)) ∧
    InvX w .ret (pre ++ [x]) (((w1.setCell ⟨w.heap.size, 0, none⟩ (.slice none 0 0)).setCell ⟨w.heap.size + 1, 0, none⟩ (.iface 66 (.int .i64 (M.pErr x.1)))).alloc (cellsV x)) := by
  have hs1 := hb1.size
  have hs0 := hB.size
  have R1 := boxed_below hR hb1
  have E1 := boxed_below hE hb1
  have hz : w.heap.size ≤ ((w1.setCell ⟨w.heap.size, 0, none⟩ (.slice none 0 0)).setCell ⟨w.heap.size + 1, 0, none⟩ (.iface 66 (.int .i64 (M.pErr x.1)))).heap.size := by
    have h1 := (KeepsOthers.setCell w1 ⟨w.heap.size, 0, none⟩ (.slice none 0 0)).size
    have h2 := (KeepsOthers.setCell (w1.setCell ⟨w.heap.size, 0, none⟩ (.slice none 0 0)) ⟨w.heap.size + 1, 0, none⟩ (.iface 66 (.int .i64 (M.pErr x.1)))).size
    omega
  refine ⟨(below_others hb1).trans (((KeepsOthers.setCell _ _ _).trans (KeepsOthers.setCell _ _ _)).trans (KeepsOthers.alloc _ _)), ⟨⟨rfl, ⟨pre, x, rfl, hok, hx⟩⟩, ((R1.set _).other (by omega) _).alloc _, ?_⟩, ?_⟩
  · rw [lastE_snoc, errV_bad hx]
    exact ((E1.other (B' := w.heap.size) (by omega) _).set _).alloc _
  · exact hB.trans ((hb1.mono hs0).trans ((((Below.refl w.heap.size w1).setCell (p := ⟨w.heap.size, 0, none⟩) (Nat.le_refl _) _).setCell (p := ⟨w.heap.size + 1, 0, none⟩) (by simp) _).alloc hz _))

/-- the world behind the two stores of a return -/
def stored (w w2 : World) (r e : Value) : World := (w2.setCell ⟨w.heap.size, 0, none⟩ r).setCell ⟨w.heap.size + 1, 0, none⟩ e
theorem fin {w W w2 : World} {D : Nat} {r0 e0 : Value} (hR : Boxed W w.heap.size 33 r0) (hE : Boxed W (w.heap.size + 1) 27 e0) (hB : Below w.heap.size w W) (hb2 : Below W.heap.size W w2) (hK : W.heap[D]? = some (.deferred (some []))) (hD : w.heap.size ≤ D) (r e : Value) :
    (stored w w2 r e).heap[D]? = some (.deferred (some [])) ∧ ((stored w w2 r e).putObj D (.deferred none)).cell? ⟨w.heap.size, 0, none⟩ = some r ∧ ((stored w w2 r e).putObj D (.deferred none)).cell? ⟨w.heap.size + 1, 0, none⟩ = some e ∧ Below w.heap.size w ((stored w w2 r e).putObj D (.deferred none)) := by
  have hs2 := hb2.size
  have hs0 := hB.size
  have hK2 : (stored w w2 r e).heap[D]? = some (.deferred (some [])) := ((KeepsOthers.setCell _ _ _).trans (KeepsOthers.setCell _ _ _)).same D _ ((hb2.block D (Array.getElem?_eq_some_iff.1 hK).1).trans hK) rfl
  have R2 : Boxed (stored w w2 r e) w.heap.size 33 r := ((boxed_below hR hb2).set r).other (by omega) e
  have E2 : Boxed (stored w w2 r e) (w.heap.size + 1) 27 e := ((boxed_below hE hb2).other (B' := w.heap.size) (by omega) r).set e
  refine ⟨hK2, cell_kept R2.cell (grownBy_putObj' _ D _) (fun k hk => by cases hk; exact ⟨_, hK2, rfl⟩), cell_kept E2.cell (grownBy_putObj' _ D _) (fun k hk => by cases hk; exact ⟨_, hK2, rfl⟩), ?_⟩
  have b1 : Below w.heap.size w (stored w w2 r e) := hB.trans ((hb2.mono hs0).trans (((Below.refl w.heap.size w2).setCell (p := ⟨w.heap.size, 0, none⟩) (Nat.le_refl _) _).setCell (p := ⟨w.heap.size + 1, 0, none⟩) (by simp) _))
  exact b1.trans (belowK_b (w := w) (Nat.le_refl _) _ D _ _ hD hK2 rfl rfl)
theorem fin_row {w W w2 : World} {D : Nat} {v r e r0 e0 : Value} {n : Nat} {xs : List Value} (hrow : W.ownsRow w.heap.size 47 3 v n xs) (hR : Boxed W w.heap.size 33 r0) (hE : Boxed W (w.heap.size + 1) 27 e0) (hb2 : Below W.heap.size W w2) (hK : (stored w w2 r e).heap[D]? = some (.deferred (some []))) :
    ((stored w w2 r e).putObj D (.deferred none)).ownsRow w.heap.size 47 3 v n xs := by
  have r2 := owns_below hrow hb2
  have R2 := boxed_below hR hb2
  have E2 := boxed_below hE hb2
  have r3 := r2.kept (grownBy_setCell' w2 w.heap.size r) (.inr (R2.not_row (by decide) r2).symm)
  have E3 := E2.other (B' := w.heap.size) (by omega) r
  have r4 := r3.kept (grownBy_setCell' _ (w.heap.size + 1) e) (.inr (E3.not_row (by decide) r3).symm)
  exact ownsRow_putObj r4 _ hK rfl

set_option maxRecDepth 100000 in
set_option maxHeartbeats 4000000 in
theorem tparse_some (s : ByteArray) (w : World) (hs : s.size ≤ maxLen) (h0 : s.size ≠ 0) :
    Calls Tryz.prog 70 #[.string s] w fun e w' => (∃ v, e = .returned (.tuple #[v, errV (M.readE s.data.toList)]) ∧ w'.ownsRow w.heap.size 47 3 v (M.readV s.data.toList).length (flat (M.readV s.data.toList)) ∧ ∀ x ∈ M.readV s.data.toList, x.s.size ≤ maxLen) ∧ Below w.heap.size w w' := by
  obtain ⟨hn1, hn2⟩ := empty_of h0
  have HL0 : Hid (s.data.toList.length ≠ 0) := hide (by simpa using h0)
  clear h0
  obtain ⟨i0, hi, hz0, hz1, hz2⟩ := info_parts infoV
  have HI := hide (And.intro hi (And.intro hz0 (And.intro hz1 hz2)))
  clear hi hz0 hz1 hz2
  refine (callsIn_wide (n := 3)).1 ?_
  refine callsIn_of_wp_marks Tryz.func70 rfl trivial ?_ rfl
  simp only [Tryz.ntmps70, List.size_toArray, List.length_cons, List.length_nil, Nat.reduceAdd, Nat.reduceSub, Array.replicate_succ, Array.replicate_zero, List.push_toArray, List.append_toArray, List.nil_append, List.cons_append]
  gi_wp2_with (refine ⟨trivial, ?_⟩; gi_at_call 104; refine (callsIn_wide.2 (fields s _)).mono ?_; rintro e w' ⟨rfl, rfl⟩)
  have b0 := Boxed.new w 33 (.slice none 0 0)
  have b1 := Boxed.new (w.alloc (.cells #[.slice none 0 0] 33)) 27 .nilIface
  have b2 := Boxed.new ((w.alloc (.cells #[.slice none 0 0] 33)).alloc (.cells #[.nilIface] 27)) 33 (.slice none 0 0)
  have b3 := Boxed.new (((w.alloc (.cells #[.slice none 0 0] 33)).alloc (.cells #[.nilIface] 27)).alloc (.cells #[.slice none 0 0] 33)) 9 (.string s)
  simp only [World.size_alloc] at b1 b2 b3
  have hB0 : Below w.heap.size w ((((w.alloc (.cells #[.slice none 0 0] 33)).alloc (.cells #[.nilIface] 27)).alloc (.cells #[.slice none 0 0] 33)).alloc (.cells #[.string s] 9)) := ((((Below.refl _ w).alloc (Nat.le_refl _) _).alloc (by simp) _).alloc (by simp; omega) _).alloc (by simp; omega) _
  refine wpIn_rangeFunc_ownF rfl (by omega) (gf := 129) (lb := #[.pointer (some ⟨w.heap.size + 1 + 1 + 1, 0, none⟩)]) rfl trivial (enters_of Tryz.func129 (by kernel_rfl) rfl)
    (fields_stops _ (by omega) (w.heap.size + 1 + 1 + 1) s hs _ (by simp) b3.cell) (fun _ _ => trivial) (fun _ _ _ _ _ _ _ _ => trivial) (Below.refl _ _) (fun _ => rfl)
    (InvI w) (InvX w)
    (OwnFrom.and (OwnFrom.and (Own.from (holdsRow_own w.heap.size (w.heap.size + 1 + 1) 33 47 3 (fun pre => (vals pre).length) (fun pre => flat (vals pre)) (fun _ _ => True)) _) (OwnFrom.and (Own.from (boxed_own _ _ (fun _ => .slice none 0 0)) _) (OwnFrom.and (Own.from (boxed_own _ _ (fun _ => .nilIface)) _) (ownFrom_pure _ _)))) (ownFrom_below (Nat.le_refl _) (by simp; omega)))
    (fun c => OwnFrom.and (OwnFrom.and (ownFrom_pure _ _) (OwnFrom.and (Own.from (boxed_own _ _ (fun _ => .slice none 0 0)) _) (Own.from (boxed_own _ _ (fun pre => errV (lastE pre))) _))) (ownFrom_below (Nat.le_refl _) (by simp; omega)))
    ⟨⟨⟨_, b2.alloc _, World.ownsRow_nil _ _ _ _, trivial⟩, ((b0.alloc _).alloc _).alloc _, (b1.alloc _).alloc _, fun x hx => by simp at hx⟩, hB0⟩
    (fun x => { tmps := #[.string s, undef, .pointer (some ⟨w.heap.size, 0, none⟩), .pointer (some ⟨w.heap.size + 1, 0, none⟩), .pointer (some ⟨w.heap.size + 1 + 1, 0, none⟩), .string x.1, undef, undef, undef, .string s, .bool false, undef, .string s, .func (.func 129) #[] #[.pointer (some ⟨w.heap.size + 1 + 1 + 1, 0, none⟩)], .string x.1, undef, undef, undef, undef, undef, undef, undef, undef, undef, undef, undef, undef, undef, undef, undef, undef, undef, undef, undef, undef, undef], defers := [] }) ?assign ?body ?done ?stop
  case assign =>
    intro l x W K hK
    gi_wp2
    exact hK
  case body =>
    rintro l pre x W ⟨⟨⟨v, hv, hrow, _⟩, hbR, hbE, hok⟩, hB⟩ _
    have HOK := hide hok
    have HB := hide hB
    have HBR := hide hbR
    have HBE := hide hbE
    have HV := hide hv
    have HROW := hide hrow
    clear hok hB hbR hbE b0 b1 b2 b3 hB0
    have hln := HBR.out.lt
    have hln1 := HBE.out.lt
    by_cases hx : M.pErr x.1 = 0
    · have HP : Hid (∀ w, Calls Tryz.prog 105 #[.string x.1] w fun e w' => e = .returned (.tuple #[.agg #[.int .i64 (M.pK x.1), .int .i64 (M.pN x.1), .string (M.pS x.1)], .nilIface]) ∧ Below w.heap.size w w') := hide fun w => by have := parse x.1 w x.2; rwa [hx] at this
      have HX := hide hx
      clear hx
      obtain ⟨m, hm⟩ : ∃ m, m = (vals pre).length := ⟨_, rfl⟩
      have hm6 : m ≤ 6 := by have := vals_le pre; omega
      obtain ⟨ao, cap, hvs⟩ : ∃ ao cap, v = .slice ao m cap := by
        rcases hrow.2 with ⟨h1, h2⟩ | ⟨g, cap, _, h1, _⟩
        · exact ⟨none, 0, by rw [h1, hm, h2]⟩
        · exact ⟨_, cap, by rw [h1, hm]⟩
      subst hvs
      clear hrow hv
      have HM := hide hm
      clear hm
      by_cases hr : m ≤ 5
      · have hr' : (m : Int) ≤ 5 := by omega
        gi_wp2_with (first
          | (refine ⟨trivial, ?_⟩; gi_at_call 105; (refine (CallsIn.inRound l (callsIn_wide.2 (HP.out _))).mono ?_; rintro e w1 ⟨rfl, hb1⟩; have hv1 := boxed_below HV.out hb1; have hc1 := hv1.cell; have hl1 := hv1.lt; have HB1 := hide hb1; have HSZ : Hid (w.heap.size ≤ w1.heap.size) := hide (Nat.le_trans HB.out.size hb1.size); have HROW1 := hide (row_at HROW.out HM.out hb1 x); have HNEW := hide (news_two w1 x); clear hv1 hb1))
          | (gi_at_builtin; (refine wpListIn_append_own _ rfl _ _ 33 rfl w.heap.size 47 i0 (.agg #[.int .i64 0, .int .i64 0, .string ⟨#[]⟩]) 3 32 Tryz.underlying33 HI.out.1 HI.out.2.1 HI.out.2.2.1 HI.out.2.2.2 rfl (by decide) _ m (flat (vals pre)) rfl HROW1.out ⟨w1.heap.size + 1, 0, none⟩ 1 1 [.int .i64 (M.pK x.1), .int .i64 (M.pN x.1), .string (M.pS x.1)] rfl rfl HNEW.out (flat_oneCell [⟨M.pK x.1, M.pN x.1, M.pS x.1⟩]) (by unfold maxLen; omega) (by omega) (by have := HSZ.out; simp; omega) ?_); intro v' w2 hown' hgrow _; have HST := hide (step_room HV.out HBR.out HBE.out HROW.out HB.out HOK.out HX.out HM.out hr HB1.out hown' hgrow); obtain ⟨g', cap', rfl⟩ := ownsRow_succ hown'; have hc2 := HST.out.1.cell; have hf2 := HST.out.1.frozen; clear hown' hgrow))
        exact ⟨HST.out.2.1, trivial, HST.out.2.2⟩
      · have hr' : ¬ (m : Int) ≤ 5 := by omega
        gi_wp2_with (refine ⟨trivial, ?_⟩; gi_at_call 105; refine (CallsIn.inRound l (callsIn_wide.2 (HP.out _))).mono ?_; rintro e w1 ⟨rfl, hb1⟩; have hv1 := boxed_below HV.out hb1; have hc1 := hv1.cell; have hl1 := hv1.lt; have HST := hide (step_full HV.out HBR.out HBE.out HROW.out HB.out HOK.out HX.out (by have := HM.out; omega) hb1); clear hv1 hb1)
        exact ⟨HST.out.1, trivial, HST.out.2⟩
    · have HP : Hid (∀ w, Calls Tryz.prog 105 #[.string x.1] w fun e w' => e = .returned (.tuple #[.agg #[.int .i64 (M.pK x.1), .int .i64 (M.pN x.1), .string (M.pS x.1)], .iface 66 (.int .i64 (M.pErr x.1))]) ∧ Below w.heap.size w w') := hide fun w => by have := parse x.1 w x.2; rwa [errV_bad hx] at this
      have HX := hide hx
      clear hx hrow hv
      gi_wp2_with (refine ⟨trivial, ?_⟩; gi_at_call 105; refine (CallsIn.inRound l (callsIn_wide.2 (HP.out _))).mono ?_; rintro e w1 ⟨rfl, hb1⟩; have hR1 := boxed_below HBR.out hb1; have hcR := hR1.cell; have hfR := hR1.frozen; have hlR := hR1.lt; have hE1 := boxed_below HBE.out hb1; have hcE := hE1.cell; have hfE := hE1.frozen; have hlE := hE1.lt; have HST := hide (step_bad HBR.out HBE.out HB.out HOK.out HX.out hb1); clear hR1 hE1 hb1)
      exact ⟨HST.out.1, HST.out.2⟩
  case done =>
    rintro D ys W hD hys ⟨⟨⟨v, hv, hrow, _⟩, hbR, hbE, hok⟩, hB⟩ hK
    have hD' : w.heap.size ≤ D := by simp at hD; omega
    have hc := hv.cell
    have hl2 := hv.lt
    have hIs : IsVals W v (vals ys) := isVals_own (vals_size hok) hrow
    obtain ⟨m, hm⟩ : ∃ m, m = (vals ys).length := ⟨_, rfl⟩
    obtain ⟨ao, cap, hvs⟩ : ∃ ao cap, v = .slice ao m cap := by
      rcases hrow.2 with ⟨h1, h2⟩ | ⟨g, cap, _, h1, _⟩
      · exact ⟨none, 0, by rw [h1, hm, h2]⟩
      · exact ⟨_, cap, by rw [h1, hm]⟩
    subst hvs
    have HROW := hide hrow
    have HBR := hide hbR
    have HBE := hide hbE
    have HB := hide hB
    have HK := hide hK
    have HD := hide hD'
    have HOK := hide hok
    have HIS := hide hIs
    rcases parse_done hys hok HL0.out with ⟨e1, e2, e3⟩ | ⟨e1, e2, e3⟩
    · have HLk : Hid (Calls Tryz.prog 48 #[.slice ao m cap] W fun e w' => e = .returned (.iface 66 (.int .i64 4)) ∧ Below W.heap.size W w') := hide (by have := like _ (vals ys) W hIs; rwa [e2] at this)
      have H1 := hide e1
      have H3 := hide e3
      clear hrow hbR hbE hB hK hok hIs e1 e2 e3 hys hv hD hm b0 b1 b2 b3 hB0 hD'
      gi_wp2_with (refine ⟨trivial, ?_⟩; gi_at_call 48; refine (callsIn_wide.2 HLk.out).mono ?_; rintro e w2 ⟨rfl, hb2⟩; have hR1 := boxed_below HBR.out hb2; have hcR := hR1.cell; have hfR := hR1.frozen; have hE1 := boxed_below HBE.out hb2; have hcE := hE1.cell; have hfE := hE1.frozen; have HF := hide (fin HBR.out HBE.out HB.out hb2 HK.out HD.out (.slice none 0 0) (.iface 66 (.int .i64 4))); clear hR1 hE1 hb2)
      refine ⟨by simp, .inl ⟨_, _, rfl, run_takeDeferred HF.out.1, ?_⟩⟩
      have q1 := HF.out.2.1
      have q2 := HF.out.2.2.1
      refine ⟨.tuple #[.slice none 0 0, .iface 66 (.int .i64 4)], ?_, ⟨.slice none 0 0, by rw [H1.out]; rfl, by rw [H3.out]; exact ⟨World.ownsRow_nil _ _ _ _, fun x hx => by simp at hx⟩⟩, HF.out.2.2.2⟩
      unfold stored at q1 q2
      simp [results, Tryz.f70, go_sem, q1, q2]
    · have HLk : Hid (Calls Tryz.prog 48 #[.slice ao m cap] W fun e w' => e = .returned .nilIface ∧ Below W.heap.size W w') := hide (by have := like _ (vals ys) W hIs; rwa [e2] at this)
      have H1 := hide e1
      have H3 := hide e3
      clear hrow hbR hbE hB hK hok hIs e1 e2 e3 hys hv hD hm b0 b1 b2 b3 hB0 hD'
      gi_wp2_with (refine ⟨trivial, ?_⟩; gi_at_call 48; refine (callsIn_wide.2 HLk.out).mono ?_; rintro e w2 ⟨rfl, hb2⟩; have hc2 := (hb2.cell (p := ⟨w.heap.size + 1 + 1, 0, none⟩) hl2).trans hc; have hR1 := boxed_below HBR.out hb2; have hcR := hR1.cell; have hfR := hR1.frozen; have hE1 := boxed_below HBE.out hb2; have hcE := hE1.cell; have hfE := hE1.frozen; have HF := hide (fin HBR.out HBE.out HB.out hb2 HK.out HD.out (.slice ao m cap) .nilIface); have HFR := hide (fin_row HROW.out HBR.out HBE.out hb2 HF.out.1); clear hR1 hE1 hb2)
      refine ⟨by simp, .inl ⟨_, _, rfl, run_takeDeferred HF.out.1, ?_⟩⟩
      have q1 := HF.out.2.1
      have q2 := HF.out.2.2.1
      refine ⟨.tuple #[.slice ao m cap, .nilIface], ?_, ⟨.slice ao m cap, by rw [H1.out]; rfl, by rw [H3.out]; exact ⟨HFR.out, vals_size HOK.out⟩⟩, HF.out.2.2.2⟩
      unfold stored at q1 q2
      simp [results, Tryz.f70, go_sem, q1, q2]
  case stop =>
    rintro D c pre W hD hpre ⟨⟨⟨rfl, front, x, rfl, hok, hx⟩, hbR, hbE⟩, hB⟩ hK
    obtain ⟨e1, e2⟩ := parse_stop hpre hok hx HL0.out
    rw [lastE_snoc] at hbE
    have hD' : w.heap.size ≤ D := by simp at hD; omega
    have q1 := cell_kept hbR.cell (grownBy_putObj' _ D (.deferred none)) (fun r e => by cases e; exact ⟨_, hK, rfl⟩)
    have q2 := cell_kept hbE.cell (grownBy_putObj' _ D (.deferred none)) (fun r e => by cases e; exact ⟨_, hK, rfl⟩)
    have q3 : Below w.heap.size w (W.putObj D (.deferred none)) := hB.trans (belowK_b (w := w) (Nat.le_refl _) W D _ _ hD' hK rfl rfl)
    gi_wp2
    refine ⟨by simp, .inl ⟨_, _, rfl, run_takeDeferred hK, ?_⟩⟩
    refine ⟨.tuple #[.slice none 0 0, errV (M.pErr x.1)], ?_, ⟨.slice none 0 0, by rw [e1], by rw [e2]; exact ⟨World.ownsRow_nil _ _ _ _, fun x hx => by simp at hx⟩⟩, q3⟩
    simp [results, Tryz.f70, go_sem, q1, q2]

theorem tparse_none (w : World) : Calls Tryz.prog 70 #[.string ⟨#[]⟩] w fun e w' => e = .returned (.tuple #[.slice none 0 0, .iface 66 (.int .i64 5)]) ∧ Below w.heap.size w w' := by
  go_enter Tryz.func70, Tryz.ntmps70
  go_wp2
  exact bodyPost_ret (v := .tuple #[.slice none 0 0, .iface 66 (.int .i64 5)]) (by simp [results, Tryz.results70, go_sem]) rfl ⟨rfl, ((Below.refl _ _).alloc (Nat.le_refl _) _).alloc (by simp) _⟩

/-- .. in memory of its own -/
theorem tparseO (s : ByteArray) (w : World) (hs : s.size ≤ maxLen) :
    Calls Tryz.prog 70 #[.string s] w fun e w' => (∃ v, e = .returned (.tuple #[v, errV (M.readE s.data.toList)]) ∧ w'.ownsRow w.heap.size 47 3 v (M.readV s.data.toList).length (flat (M.readV s.data.toList)) ∧ ∀ x ∈ M.readV s.data.toList, x.s.size ≤ maxLen) ∧ Below w.heap.size w w' := by
  by_cases h : s.size = 0
  · have := size0 h; subst this
    refine (tparse_none w).mono ?_
    rintro e w' ⟨rfl, hb⟩
    exact ⟨⟨_, rfl, World.ownsRow_nil _ _ _ _, fun x hx => by exact absurd hx (by simp [M.readV, M.readE])⟩, hb⟩
  · exact tparse_some s w hs h
theorem tparse (s : ByteArray) (w : World) (hs : s.size ≤ maxLen) :
    Calls Tryz.prog 70 #[.string s] w fun e w' => (∃ v, e = .returned (.tuple #[v, errV (M.readE s.data.toList)]) ∧ IsVals w' v (M.readV s.data.toList)) ∧ Below w.heap.size w w' := by
  refine (tparseO s w hs).mono ?_
  rintro e w' ⟨⟨v, rfl, h1, h2⟩, hb⟩
  exact ⟨⟨v, rfl, isVals_own h2 h1⟩, hb⟩

end Go.Proofs.YtlefhfmckimlaajGreatDoor
