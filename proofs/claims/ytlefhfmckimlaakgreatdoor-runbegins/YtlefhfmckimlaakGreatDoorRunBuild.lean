/-
  What a strings.Builder that a call has made itself leaves as it was: every block but a builder and a row of bytes, maps and the machine's own blocks too.
-/
import Derived.Test.YtlefhfmckimlaakGreatDoorJPrint
import Derived.Test.YtlefhfmckimlaakGreatDoorJSp
import Derived.Shelf.Strings.BuilderK
set_option linter.unusedVariables false
namespace Go.Proofs.YtlefhfmckimlaakGreatDoor
open Go.RowKit

/-- neither a builder nor a row of bytes -/
def Plain (o : Obj) : Prop := ∀ (c : Array Value) (T : TypeId) (fr : Nat × Nat), o = .cells c T fr → T ≠ 133 ∧ T ≠ 5
/-- every such block stays -/
def Clear (w w' : World) : Prop := ∀ (i : Nat) (o : Obj), Plain o → w.heap[i]? = some o → w'.heap[i]? = some o
theorem Clear.refl (w : World) : Clear w w := fun _ _ _ h => h
theorem Clear.trans {a b c : World} (h : Clear a b) (k : Clear b c) : Clear a c := fun i o h1 hh => k i o h1 (h i o h1 hh)
theorem Clear.below {w w' : World} (h : Below w.heap.size w w') : Clear w w' := fun i _ _ hh => (h.block i (heap_lt hh)).trans hh
theorem plain_cells {c : Array Value} {T : TypeId} {fr : Nat × Nat} (h1 : T ≠ 133) (h2 : T ≠ 5) : Plain (.cells c T fr) := fun c' T' fr' e => by cases e; exact ⟨h1, h2⟩
theorem Clear.solid {w w' : World} (h : Clear w w') : Solid w w' := fun i c fr hh => h i _ (plain_cells (by decide) (by decide)) hh

theorem copyCheckC (B b : Nat) (bs : List Value) (w : World) (h : Blt B b bs w) :
    Calls Tryz.prog 104 #[.pointer (some ⟨b, 0, none⟩)] w fun e w' => e = .returned (.tuple #[]) ∧ Lib.BuilderAt 133 5 B b (.pointer (some ⟨b, 0, none⟩)) bs w' ∧ Below B w w' ∧ Clear w w' := by
  refine h.elim (fun f => ?_) (fun u => ?_)
  · refine (checkFresh b w f.cell0 f.shape f.frozen0).mono fun _ _ ⟨he, hw⟩ => ⟨he, hw ▸ f.used _, hw ▸ (Below.refl B w).setCell (p := ⟨b, 0, none⟩) f.1 _, ?_⟩
    rw [hw]
    intro i o h1 hh
    refine (heap_setCell_other w ⟨b, 0, none⟩ i _ (fun e => ?_)).trans hh
    obtain ⟨hB, v, hv, _⟩ := f
    have e' : i = b := e
    rw [e', hv] at hh
    exact (h1 _ _ _ (Option.some.inj hh).symm).1 rfl
  · exact (checkUsed b w u.cell0).mono fun _ _ ⟨he, hw⟩ => ⟨he, hw ▸ u, hw ▸ Below.refl B w, hw ▸ Clear.refl w⟩

set_option maxHeartbeats 1000000 in
theorem writeC (B b : Nat) (bs : List Value) (s : ByteArray) (w : World) (h : Blt B b bs w) (hlen : bs.length + s.size ≤ 1000000) (hBw : B ≤ w.heap.size) :
    Calls Tryz.prog 64 #[.pointer (some ⟨b, 0, none⟩), .string s] w fun e w' => e = .returned (.tuple #[.int .i64 s.size, .nilIface]) ∧ Blt B b (bs ++ Lib.strCells s) w' ∧ Below B w w' ∧ Clear w w' := by
  obtain ⟨i0, hi, hz0, hz1, hz2⟩ := info_parts infoByte
  go_enter Tryz.func64, Tryz.ntmps64
  go_wp2_with fail
  refine (copyCheckC B b bs _ h).mono ?_
  rintro e w1 ⟨rfl, ⟨hB, v, hbk, hown, hne⟩, hb1, hk1⟩
  have hsz : B ≤ w1.heap.size := Nat.le_trans hBw hb1.size
  have at0 : w1.cell? ⟨b, 0, none⟩ = some (.pointer (some ⟨b, 0, none⟩)) := (Lib.cell_of_heap hbk 0).trans rfl
  have at1 : w1.cell? ⟨b, 1, none⟩ = some v := (Lib.cell_of_heap hbk 1).trans rfl
  go_wp2_with (at_builtin; refine Lib.wpList_append_own_string _ rfl (.tmp 12) (.tmp 13) 131 9 rfl B 5 i0 Tryz.underlying131 Tryz.underlying9 hi hz0 hz1 hz2 v bs.length bs rfl hown s rfl (by unfold maxLen; omega) (by omega) hsz ?_)
  intro v' w2 hown' hgrow _
  have HB2 := hide (hb1.grown hgrow hsz (fun k hk => (hown.lt k hk).1))
  have hbk2 := two_cells hbk hgrow hne
  have HK2 : Hid (∀ u, Clear w (w2.setCell ⟨b, 1, none⟩ u)) := hide fun u i o h1 hh => by
    have h3 := hk1 i o h1 hh
    refine (heap_setCell_other w2 ⟨b, 1, none⟩ i _ (fun e => ?_)).trans ((hgrow.block i (heap_lt h3) (fun e => ?_)).trans h3)
    · have e' : i = b := e
      rw [e', hbk] at h3
      exact (h1 _ _ _ (Option.some.inj h3).symm).1 rfl
    · rcases hown.2 with ⟨hv, _⟩ | ⟨g, cap, cur, hv, _, hh', _⟩
      · rw [hv] at e; cases e
      · rw [hv] at e
        have : i = g := by simpa [Value.ownBlock] using e
        subst this
        rw [hh'] at h3
        exact (h1 _ _ _ (Option.some.inj h3).symm).2 rfl
  have to0 : w2.cell? ⟨b, 0, none⟩ = some (.pointer (some ⟨b, 0, none⟩)) := (Lib.cell_of_heap hbk2 0).trans rfl
  have to1 : w2.cell? ⟨b, 1, none⟩ = some v := (Lib.cell_of_heap hbk2 1).trans rfl
  have free1 := Lib.frozen_of_heap hbk2 1
  obtain ⟨ao, cap, rfl⟩ := slice_own hown'
  have HP := hide (Lib.BuilderAt.put (T := 133) (e := 5) (bs' := bs ++ Lib.strCells s) hB hbk2 (by rw [List.length_append, Lib.strCells_length]; exact hown') (by decide))
  clear hown hown' hgrow hbk hbk2 hb1 hne hk1
  go_wp2
  go_ret2
  exact ⟨rfl, Or.inr HP.out, HB2.out.setCell (p := ⟨b, 1, none⟩) hB _, HK2.out _⟩

/-- a builder stays where its own kinds of blocks do -/
theorem Blt.kept {B b : Nat} {bs : List Value} {w w' : World} (h : Blt B b bs w) (hk : ∀ (i : Nat) (c : Array Value) (T : TypeId) (fr : Nat × Nat), (T = 133 ∨ T = 5) → w.heap[i]? = some (.cells c T fr) → w'.heap[i]? = some (.cells c T fr)) : Blt B b bs w' := by
  have key : ∀ p, Lib.BuilderAt 133 5 B b p bs w → Lib.BuilderAt 133 5 B b p bs w' := fun p hp => by
    obtain ⟨hB, v, hv, hown, hne⟩ := hp
    refine ⟨hB, v, hk _ _ _ _ (Or.inl rfl) hv, ?_, hne⟩
    obtain ⟨h1, h2⟩ := hown
    refine ⟨h1, ?_⟩
    rcases h2 with h2 | ⟨g, cap, cur, e1, e2, e3, e4⟩
    · exact Or.inl h2
    · exact Or.inr ⟨g, cap, cur, e1, e2, hk _ _ _ _ (Or.inr rfl) e3, e4⟩
  rcases h with h | h
  · exact Or.inl (key _ h)
  · exact Or.inr (key _ h)

/-- the builder's text -/
theorem stringC (B b : Nat) (l : List UInt8) (w : World) (h : Blt B b (Lib.byteCells l) w) (hBw : B ≤ w.heap.size) :
    Calls Tryz.prog 67 #[.pointer (some ⟨b, 0, none⟩)] w fun e w' => e = .returned (.string ⟨l.toArray⟩) ∧ Below B w w' ∧ Clear w w' := by
  have hF : Lib.IsBuilderF 133 5 B b (Lib.byteCells l) w := by
    rcases h with h | h
    · exact Or.inl (Lib.BuilderAtF.of h)
    · exact Or.inr (Lib.BuilderAtF.of h)
  have hb : ∃ cs, w.heap[b]? = some (.cells cs 133 (0, 0)) := by
    rcases h with ⟨_, v, hv, _⟩ | ⟨_, v, hv, _⟩
    · exact ⟨_, hv⟩
    · exact ⟨_, hv⟩
  have c : Calls Tryz.prog 67 #[.pointer (some ⟨b, 0, none⟩)] w fun e w' => e = .returned (.string ⟨l.toArray⟩) ∧ (Lib.IsBuilderF 133 5 B b (Lib.byteCells l) w' ∧ Below B w w' ∧ Lib.OthersKept 5 (some b) w w') := Any.Builder_String_any_k Tryz.lays169 Tryz.Builder_Extra_169 B b l w hF hBw
  refine c.mono ?_
  rintro e w' ⟨he, _, h1, h2⟩
  refine ⟨he, h1, fun i o ho hi => h2 i o hi (fun e => ?_) (fun c fz e => ?_)⟩
  · obtain ⟨cs, hb⟩ := hb
    rw [Option.some.inj e, hb] at hi
    exact (ho _ _ _ (Option.some.inj hi).symm).1 rfl
  · exact (ho _ _ _ e).2 rfl

end Go.Proofs.YtlefhfmckimlaakGreatDoor
