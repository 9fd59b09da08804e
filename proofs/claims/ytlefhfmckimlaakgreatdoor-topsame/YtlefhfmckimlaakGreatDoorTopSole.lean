/-
  The state of a law of the whole that has one space, what each call makes of it, and the law's closed fact: what is put is taken.
-/
import Derived.Test.YtlefhfmckimlaakGreatDoorJSpace
namespace Go.Proofs.YtlefhfmckimlaakGreatDoor
open Go.RowKit

/-- one space at S with the tuples L, of a law that came in with w -/
structure Sole (w wr : World) (S : Nat) (v : Value) (L : List (List M.Val)) : Prop where
  sp : Space w.heap.size wr S v L
  fine : M.Fine L
  bel : Below w.heap.size w wr

section
variable {w wr w1 : World} {S : Nat} {v v' x t : Value} {a l : List M.Val} {L L' : List (List M.Val)}
theorem Sole.quiet (h : Sole w wr S v L) (hb : Below wr.heap.size wr w1) : Sole w w1 S v L := ⟨Space.stays h.sp hb, h.fine, h.bel.trans (hb.mono h.bel.size)⟩
theorem Sole.on (h : Sole w wr S v L) (hs : Space w.heap.size w1 S v' L') (ht : Touch S v wr w1) (hf : M.Fine L') : Sole w w1 S v' L' ∧ Solid wr w1 :=
  ⟨⟨hs, hf, h.bel.trans (Sp.below h.sp ht (Nat.le_refl _))⟩, Sp.solid h.sp (by decide) ht⟩
theorem Sole.start (hb : Below w.heap.size w wr) : Sole w (wr.alloc (.cells #[.slice none 0 0] 162)) wr.heap.size (.slice none 0 0) [] :=
  ⟨⟨hb.size, heap_alloc_new wr _, RowOf.nil _ _ _⟩, Fine.nil, hb.alloc hb.size _⟩
theorem Sole.put (h : Sole w wr S v L) (ht : IsVals wr t l) :
    Calls Tryz.prog 53 #[.pointer (some ⟨S, 0, none⟩), t] wr fun e w' => e = .returned (errV (M.putF L l)) ∧ ∃ v', Sole w w' S v' (M.putL L l) ∧ Solid wr w' :=
  (Go.Proofs.YtlefhfmckimlaakGreatDoor.put w.heap.size S v t l L wr h.sp ht).mono fun _ _ ⟨h1, v', h2, h3, _⟩ => ⟨h1, v', h.on h2 h3 (Fine.put h.fine)⟩
theorem Sole.take (h : Sole w wr S v L) (hx : IsVals wr x a) :
    Calls Tryz.prog 54 #[.pointer (some ⟨S, 0, none⟩), x] wr fun e w' => ∃ r v', e = .returned (.tuple #[r, errV (M.getF a L)]) ∧ OwnT w.heap.size w' r (M.getV a L) ∧ Sole w w' S v' (M.lessL a L) ∧ Solid wr w' :=
  (Go.Proofs.YtlefhfmckimlaakGreatDoor.take w.heap.size S v x a L wr h.sp h.fine hx).mono fun _ _ ⟨r, v', h1, h0, h2, h3, _⟩ => ⟨r, v', h1, h0, h.on h2 h3 (Fine.less h.fine)⟩
theorem Sole.read (h : Sole w wr S v L) (hx : IsVals wr x a) :
    Calls Tryz.prog 102 #[.pointer (some ⟨S, 0, none⟩), x] wr fun e w' => ∃ r, e = .returned (.tuple #[r, errV (M.getF a L)]) ∧ OwnT wr.heap.size w' r (M.getV a L) ∧ Below wr.heap.size wr w' :=
  Go.Proofs.YtlefhfmckimlaakGreatDoor.read w.heap.size S v x a L wr h.sp h.fine hx
end

theorem lit_val (w : World) (v : M.Val) (hs : v.s.size ≤ maxLen) : IsVals (w.alloc (.cells #[.int .i64 v.k, .int .i64 v.n, .string v.s] 31)) (.slice (some ⟨w.heap.size, 0, none⟩) 1 1) [v] := by
  refine Or.inr (Or.inr ⟨w.heap.size, 0, 1, by simp, rfl, by simp, by unfold maxLen; decide, lie_of_cells (fun x hx => by simp at hx; subst hx; exact hs) fun j u hu => ?_⟩)
  exact World.news_of_block (heap_alloc_new w _) j u hu
def M.num4 : M.Val := ⟨0, 4, ⟨#[]⟩⟩
def M.all1 : M.Val := ⟨2, 0, ⟨#[]⟩⟩
theorem get_alone {a x : List M.Val} (ha : M.likeF a = 0) (h : M.fitAll a x = true) : M.getF a [x] = 0 ∧ M.getV a [x] = x ∧ M.lessL a [x] = [] := by
  have hs : M.spot a [x] = 0 := spot_hit (by simp) (fun j hj => absurd hj (by omega)) (by simpa using h)
  have hl : M.spot a [x] < [x].length := by rw [hs]; simp
  refine ⟨getF_hit ha hl, ?_, ?_⟩
  · rw [getV_hit ha hl]; simp [hs]
  · rw [lessL_hit ha hl, hs]; rfl

section
variable {w wr : World} {S : Nat} {v : Value}
theorem Sole.put4 (h : Sole w wr S v []) :
    Calls Tryz.prog 53 #[.pointer (some ⟨S, 0, none⟩), .slice (some ⟨wr.heap.size, 0, none⟩) 1 1] (wr.alloc (.cells #[.int .i64 0, .int .i64 4, .string ⟨#[]⟩] 31)) fun e w' => e = .returned .nilIface ∧ ∃ v', Sole w w' S v' [[M.num4]] := by
  have := (h.quiet ((Below.refl _ _).alloc (Nat.le_refl _) _)).put (lit_val wr M.num4 (by decide))
  have e : M.putF [] [M.num4] = 0 := by decide
  rw [putL_yes e, e] at this
  exact this.mono fun _ _ ⟨h1, v', h2, _⟩ => ⟨h1, v', h2⟩
theorem Sole.take4 (h : Sole w wr S v [[M.num4]]) :
    Calls Tryz.prog 54 #[.pointer (some ⟨S, 0, none⟩), .slice (some ⟨wr.heap.size, 0, none⟩) 1 1] (wr.alloc (.cells #[.int .i64 2, .int .i64 0, .string ⟨#[]⟩] 31)) fun e w' => ∃ g c, e = .returned (.tuple #[.slice (some ⟨g, 0, none⟩) 1 c, .nilIface]) ∧ w'.cell? ⟨g, 1, none⟩ = some (.int .i64 4) ∧ Below w.heap.size w w' := by
  have := (h.quiet ((Below.refl _ _).alloc (Nat.le_refl _) _)).take (lit_val wr M.all1 (by decide))
  obtain ⟨e1, e2, e3⟩ := get_alone (a := [M.all1]) (x := [M.num4]) (by decide) (by simp [M.fitAll, M.fit1, M.all1])
  rw [e1, e2, e3] at this
  refine this.mono ?_
  rintro e w' ⟨r, v', rfl, h1, h2, _⟩
  obtain ⟨g, c, rfl, _⟩ := h1.1.form (by decide)
  refine ⟨g, c, rfl, ?_, h2.bel⟩
  rw [h1.1.cellAt 1 (by decide)]; rfl
end

/-- the law's closed fact: what is put is taken -/
theorem tOne (w : World) : Calls Tryz.prog 22 #[] w fun e w' => e = .returned (.bool true) ∧ Below w.heap.size w w' := by
  go_enter Tryz.func22, Tryz.ntmps22
  go_wp2_with fail
  refine (new _).mono ?_
  rintro e w0 ⟨rfl, hw0⟩
  have HO0 : Hid (Sole w w0 w.heap.size (.slice none 0 0) []) := hide (by rw [hw0]; exact Sole.start (Below.refl _ _))
  clear hw0
  go_wp2_with fail
  refine (HO0.out.put4).mono ?_
  rintro e w1 ⟨rfl, v1, h1⟩
  have HO1 := hide h1
  clear h1 HO0
  go_wp2_with fail
  refine (HO1.out.take4).mono ?_
  rintro e w2 ⟨g, c, rfl, hc, hb⟩
  have HB := hide hb
  clear hb HO1
  go_wp2_with fail
  go_ret
  exact ⟨rfl, HB.out⟩

end Go.Proofs.YtlefhfmckimlaakGreatDoor
