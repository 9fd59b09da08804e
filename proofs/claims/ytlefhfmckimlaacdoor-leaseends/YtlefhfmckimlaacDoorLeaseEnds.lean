/-
  Proved: the Go function LeaseEnds returns true for every tuple and every three times, and leaves them as they were: what was put till a time is there ahead of it, and from then on no more, but if it was renewed till that.
-/
import Derived.Test.YtlefhfmckimlaacDoorLePut
import Derived.Test.YtlefhfmckimlaacDoorLeCalls
import Derived.Test.YtlefhfmckimlaacDoorLeMore
import Derived.Test.YtlefhfmckimlaacDoorTupSame
import Derived.Test.YtlefhfmckimlaacDoorErrTold
namespace Go.Proofs.YtlefhfmckimlaacDoor.leaseEnds
open Go.RowKit

theorem lit_vals (w : World) (v : M.Val) (hs : v.s.size ≤ maxLen) : IsVals (w.alloc (.cells #[.int .i64 v.k, .int .i64 v.n, .string v.s] 50)) (.slice (some ⟨w.heap.size, 0, none⟩) 1 1) [v] := by
  refine Or.inr (Or.inr ⟨w.heap.size, 0, 1, by simp, rfl, by simp, by unfold maxLen; decide, lie_of_cells (fun x hx => by simp at hx; subst hx; exact hs) fun j u hu => ?_⟩)
  exact World.news_of_block (heap_alloc_new w _) j u hu
theorem fit_self (a : M.Val) : M.fit1 a a = true := by simp [M.fit1, M.Val.same, M.same]
theorem fitAll_self : ∀ l : List M.Val, M.fitAll l l = true
  | [] => rfl
  | a :: l => by unfold M.fitAll; rw [fitAll_self l, fit_self]; rfl

theorem one_stays {x : Ent} {tm : Int} (h : tm < x.u) : M.nowE [x] tm = [x] := by simp [M.nowE, h]
theorem one_goes {x : Ent} {tm : Int} (h : ¬ tm < x.u) : M.nowE [x] tm = [] := by simp [M.nowE]; omega
theorem one_numb (x : Ent) : M.numb x.i [x] = 0 := by simp [M.numb, List.findIdx_cons]
theorem one_old {x : Ent} {a : List M.Val} (h : M.fitAll a x.t = true) : M.oldest a [x] = 0 := by simp [M.oldest, List.findIdx_cons, h]

/-- leases in which there is one at most, all else as it was -/
structure One (w0 w : World) (S : Nat) (tm gv : Int) (E : List Ent) : Prop where
  ls : ∃ v, Ls w0.heap.size w S tm gv v E
  bel : Below w0.heap.size w0 w
theorem One.quiet {w0 w w' : World} {S : Nat} {tm gv : Int} {E : List Ent} (h : One w0 w S tm gv E) (hb : Below w.heap.size w w') : One w0 w' S tm gv E := by
  obtain ⟨v, hv⟩ := h.ls
  exact ⟨⟨v, hv.below hb⟩, h.bel.trans (hb.mono h.bel.size)⟩
theorem One.new {w0 w : World} (hb : Below w0.heap.size w0 w) : Calls Tryd.prog 20 #[] w fun e w' => e = .returned (.pointer (some ⟨w.heap.size, 0, none⟩)) ∧ One w0 w' w.heap.size 0 0 [] := by
  refine (lnew w).mono ?_
  rintro e w' ⟨rfl, rfl⟩
  exact ⟨rfl, ⟨_, Ls.new w hb.size⟩, hb.alloc hb.size _⟩
section
variable {w0 w : World} {S : Nat} {tm gv : Int} {E : List Ent}
theorem One.put (h : One w0 w S tm gv []) {t : Value} {l : List M.Val} {u : Int} (hg : gv = 0) (ht : IsVals w t l) (hf : M.tupF l = 0) (hu : M.may tm u = true) :
    Calls Tryd.prog 21 #[.pointer (some ⟨S, 0, none⟩), t, .int .i64 u] w fun e w' => e = .returned (.tuple #[.int .i64 1, .nilIface]) ∧ ∃ x, One w0 w' S tm 1 [x] ∧ x.i = 1 ∧ x.u = u ∧ x.t = l := by
  subst hg
  obtain ⟨v, hv⟩ := h.ls
  obtain ⟨ao, cap, rfl⟩ := hv.shape
  refine (lput_ok w0.heap.size S 0 cap ao t l tm 0 u [] w hv rfl (by decide) (by decide) (by decide) ht hf hu).mono ?_
  rintro e w' ⟨rfl, v', x, h1, h2, h3, h4, h5, _⟩
  exact ⟨rfl, x, ⟨⟨v', h1⟩, h.bel.trans (hv.touchBelow h5 (Nat.le_refl _))⟩, h2, h3, h4⟩
theorem One.late (h : One w0 w S tm gv E) {t : Value} {l : List M.Val} {u : Int} (ht : IsVals w t l) (hf : M.tupF l = 0) (hu : M.may tm u = false) :
    Calls Tryd.prog 21 #[.pointer (some ⟨S, 0, none⟩), t, .int .i64 u] w fun e w' => e = .returned (.tuple #[.int .i64 0, .iface 69 (.int .i64 1)]) ∧ One w0 w' S tm gv E := by
  obtain ⟨v, hv⟩ := h.ls
  refine (lput_late S t l tm u w ht hf hv.c0 hu).mono ?_
  rintro e w' ⟨rfl, hb⟩
  exact ⟨rfl, h.quiet hb⟩
theorem One.bad (h : One w0 w S tm gv E) {t : Value} {l : List M.Val} {u : Int} (ht : IsVals w t l) (hf : M.tupF l ≠ 0) :
    Calls Tryd.prog 21 #[.pointer (some ⟨S, 0, none⟩), t, .int .i64 u] w fun e w' => e = .returned (.tuple #[.int .i64 0, .iface 69 (.int .i64 (M.tupF l))]) ∧ One w0 w' S tm gv E := by
  refine (lput_bad S t l u w ht hf).mono ?_
  rintro e w' ⟨rfl, hb⟩
  exact ⟨by rw [errV_bad hf], h.quiet hb⟩
theorem One.now (h : One w0 w S tm gv E) (h20 : E.length ≤ 20) {x : Int} (h1 : ¬ x < tm) (h2 : ¬ 10000 < x) {E' : List Ent} (hE : M.nowE E x = E') {g : Int} (hg : g = (E.length : Int) - (E'.length : Int)) :
    Calls Tryd.prog 22 #[.pointer (some ⟨S, 0, none⟩), .int .i64 x] w fun e w' => e = .returned (.tuple #[.int .i64 g, .nilIface]) ∧ One w0 w' S x gv E' := by
  obtain ⟨v, hv⟩ := h.ls
  subst hE
  refine (lnow_ok w0.heap.size S tm gv x v E w hv h20 h1 h2).mono ?_
  rintro e w' ⟨rfl, v', k1, k2, _⟩
  exact ⟨by rw [hg], ⟨v', k1⟩, h.bel.trans (hv.touchBelow k2 (Nat.le_refl _))⟩
theorem One.nowBad (h : One w0 w S tm gv E) {x : Int} (h1 : x < tm ∨ 10000 < x) :
    Calls Tryd.prog 22 #[.pointer (some ⟨S, 0, none⟩), .int .i64 x] w fun e w' => e = .returned (.tuple #[.int .i64 0, .iface 69 (.int .i64 1)]) ∧ One w0 w' S tm gv E := by
  obtain ⟨v, hv⟩ := h.ls
  refine (lnow_bad S tm x w hv.c0 h1).mono ?_
  rintro e w' ⟨rfl, hb⟩
  exact ⟨rfl, h.quiet hb⟩
theorem One.count (h : One w0 w S tm gv E) {n : Int} (hn : n = (E.length : Int)) :
    Calls Tryd.prog 23 #[.pointer (some ⟨S, 0, none⟩)] w fun e w' => e = .returned (.int .i64 n) ∧ One w0 w' S tm gv E := by
  obtain ⟨v, hv⟩ := h.ls
  refine (lcount hv).mono ?_
  rintro e w' ⟨rfl, hb⟩
  exact ⟨by rw [hn], h.quiet hb⟩
theorem One.renew {x : Ent} (h : One w0 w S tm gv [x]) {u : Int} (hi : x.i = 1) (hm : M.may tm u = true) (hu : x.u ≤ u) :
    Calls Tryd.prog 25 #[.pointer (some ⟨S, 0, none⟩), .int .i64 1, .int .i64 u] w fun e w' => e = .returned .nilIface ∧ One w0 w' S tm gv [x.till u] := by
  obtain ⟨v, hv⟩ := h.ls
  have hn : M.numb 1 [x] = 0 := hi ▸ one_numb x
  have := lrenew_ok w0.heap.size S tm gv 1 u v [x] w hv (by simp) (by rw [hn]; simp) hm (by simpa [hn] using hu)
  simp only [hn] at this
  refine this.mono ?_
  rintro e w' ⟨rfl, k1, k2⟩
  exact ⟨rfl, ⟨v, k1⟩, h.bel.trans (hv.touchBelow k2 (Nat.le_refl _))⟩
theorem One.renewBad {x : Ent} (h : One w0 w S tm gv [x]) {u : Int} (hi : x.i = 1) (hu : ¬ (M.may tm u = true ∧ x.u ≤ u)) :
    Calls Tryd.prog 25 #[.pointer (some ⟨S, 0, none⟩), .int .i64 1, .int .i64 u] w fun e w' => e = .returned (.iface 69 (.int .i64 1)) ∧ One w0 w' S tm gv [x] := by
  obtain ⟨v, hv⟩ := h.ls
  have hn : M.numb 1 [x] = 0 := hi ▸ one_numb x
  refine (lrenew_bad w0.heap.size S tm gv 1 u v [x] w hv (by simp) (by rw [hn]; simp) (by simpa [hn] using hu)).mono ?_
  rintro e w' ⟨rfl, hb⟩
  exact ⟨rfl, h.quiet hb⟩
theorem One.renewNone (h : One w0 w S tm gv []) (id u : Int) :
    Calls Tryd.prog 25 #[.pointer (some ⟨S, 0, none⟩), .int .i64 id, .int .i64 u] w fun e w' => e = .returned (.iface 69 (.int .i64 5)) ∧ One w0 w' S tm gv [] := by
  obtain ⟨v, hv⟩ := h.ls
  refine (lrenew_none w0.heap.size S tm gv id u v [] w hv (by simp) (by simp)).mono ?_
  rintro e w' ⟨rfl, hb⟩
  exact ⟨rfl, h.quiet hb⟩
theorem isVals_shape {w : World} {v : Value} {l : List M.Val} (h : IsVals w v l) : ∃ a n c, v = .slice a n c := by
  rcases h with ⟨h, _⟩ | ⟨a, c, h, _⟩ | ⟨b, o, c, _, h, _⟩
  · exact ⟨_, _, _, h⟩
  · exact ⟨_, _, _, h⟩
  · exact ⟨_, _, _, h⟩
theorem One.read {x : Ent} (h : One w0 w S tm gv [x]) {t : Value} {l : List M.Val} (hx : x.t = l) (ht : IsVals w t l) (hf : M.tupF l = 0) :
    Calls Tryd.prog 26 #[.pointer (some ⟨S, 0, none⟩), t] w fun e w' => ∃ r, e = .returned (.tuple #[r, .nilIface]) ∧ IsVals w' r l ∧ One w0 w' S tm gv [x] := by
  obtain ⟨v, hv⟩ := h.ls
  obtain ⟨a, n, c, rfl⟩ := isVals_shape ht
  have ho : M.oldest l [x] = 0 := one_old (by rw [hx]; exact fitAll_self l)
  refine (lread_in w0.heap.size S tm gv a n c l v [x] w hv (by simp) (fun y hy => by simp at hy; rw [hy, hx]; exact hf) ht (tupF_ok hf).1).mono ?_
  rintro e w' (⟨hk, r, rfl, h1, h2⟩ | ⟨hk, _⟩)
  · refine ⟨r, rfl, ?_, h.quiet h2⟩
    simp only [ho] at h1
    have := h1.vals
    rwa [show ([x] : List Ent)[0].t = l from hx] at this
  · exact absurd hk (by rw [ho]; simp)
theorem One.readNone (h : One w0 w S tm gv []) {t : Value} {l : List M.Val} (ht : IsVals w t l) (hf : M.tupF l = 0) :
    Calls Tryd.prog 26 #[.pointer (some ⟨S, 0, none⟩), t] w fun e w' => e = .returned (.tuple #[.slice none 0 0, .iface 69 (.int .i64 5)]) ∧ One w0 w' S tm gv [] := by
  obtain ⟨v, hv⟩ := h.ls
  obtain ⟨a, n, c, rfl⟩ := isVals_shape ht
  refine (lread_in w0.heap.size S tm gv a n c l v [] w hv (by simp) (fun y hy => by simp at hy) ht (tupF_ok hf).1).mono ?_
  rintro e w' (⟨hk, _⟩ | ⟨_, rfl, h2⟩)
  · exact absurd hk (by simp)
  · exact ⟨rfl, h.quiet h2⟩
end
theorem err5 (w : World) (hg : Hand w) : Calls Tryd.prog 13 #[.iface 69 (.int .i64 5), .int .i64 5] w fun e w' => e = .returned (.bool true) ∧ Below w.heap.size w w' := sameErr 5 5 w hg

end Go.Proofs.YtlefhfmckimlaacDoor.leaseEnds
