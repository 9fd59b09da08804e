/-
  The walk of OnceOnly.
-/
import Derived.Test.YtlefhfmckimlaabOnceOne
namespace Go.Proofs.Ytlefhfmckimlaab
open Go.RowKit

/-- what the space holds when q of those that fit have been tried -/
def OnlyL (a : List M.Val) (q : Nat) (L : List (List M.Val)) : Prop := (q = 0 ∧ L = []) ∨ (0 < q ∧ ∃ x, L = [x] ∧ M.fitAll a x = true ∧ M.tupF x = 0)
theorem many_one {a x : List M.Val} (h : M.fitAll a x = true) : M.many a [x] = 1 := by
  unfold M.many
  rw [List.countP_singleton, h]; rfl
theorem get_one {a x : List M.Val} (ha : M.likeF a = 0) (h : M.fitAll a x = true) : M.getF a [x] = 0 ∧ M.getV a [x] = x ∧ M.lessL a [x] = [] := by
  have hs : M.spot a [x] = 0 := spot_hit (by simp) (fun j hj => absurd hj (by omega)) (by simpa using h)
  have hl : M.spot a [x] < [x].length := by rw [hs]; simp
  refine ⟨getF_hit ha hl, ?_, ?_⟩
  · rw [getV_hit ha hl]; simp [hs]
  · rw [lessL_hit ha hl, hs]; rfl
theorem only_put {a l : List M.Val} {q : Nat} {L : List (List M.Val)} (h : OnlyL a q L) (ha : M.likeF a = 0) (hl : M.tupF l = 0) (hf : M.fitAll a l = true) : M.onceF a L l = 0 ∧ M.onceB a L l = decide (q = 0) ∧ ∃ x, M.onceL a L l = [x] ∧ M.fitAll a x = true ∧ M.tupF x = 0 := by
  rcases h with ⟨rfl, rfl⟩ | ⟨hq, x, rfl, hx, ht⟩
  · obtain ⟨e1, e2, e3⟩ := once_put (L := []) ha hl rfl (putF_ok hl (by decide))
    exact ⟨e1, e2, l, e3, hf, hl⟩
  · obtain ⟨e1, e2, e3⟩ := once_fit (L := [x]) ha hl (by rw [many_one hx]; decide)
    exact ⟨e1, by rw [e2]; exact (decide_eq_false (by omega)).symm, x, e3, hx, ht⟩
theorem only_ch {a l x : List M.Val} (ha : M.likeF a = 0) (hl : M.tupF l = 0) (hx : M.fitAll a x = true) : M.chF a [x] l = 0 ∧ M.chV a [x] l = x ∧ M.chL a [x] l = [l] := by
  obtain ⟨g1, g2, g3⟩ := get_one ha hx
  obtain ⟨e1, e2, e3⟩ := ch_ok ha hl g1
  exact ⟨e1, by rw [e2, g2], by rw [e3, g3]; rfl⟩
theorem fit_len {a x : List M.Val} (h : M.fitAll a x = true) : x.length = a.length := by
  by_cases e : a.length = x.length
  · exact e.symm
  · rw [fitAll_len e] at h; cases h
theorem ch_len {a l : List M.Val} {L : List (List M.Val)} : (M.chL a L l).length = L.length ∧ (M.chF a L l = 0 → 0 < L.length) := by
  by_cases ha : M.likeF a = 0
  · by_cases hl : M.tupF l = 0
    · by_cases hg : M.getF a L = 0
      · have := less_len hg
        rw [(ch_ok ha hl hg).2.2, List.length_append, List.length_singleton]
        exact ⟨this, fun _ => by omega⟩
      · obtain ⟨e1, _, e3⟩ := ch_none ha hl hg
        rw [e1, e3]; exact ⟨rfl, fun h => absurd h hg⟩
    · obtain ⟨e1, _, e3⟩ := ch_tup (L := L) ha hl
      rw [e1, e3]; exact ⟨rfl, fun h => absurd h hl⟩
  · obtain ⟨e1, _, e3⟩ := ch_like (L := L) (t := l) ha
    rw [e1, e3]; exact ⟨rfl, fun h => absurd h ha⟩

theorem any_like : M.likeF [M.any] = 0 := by decide
theorem any_fit : M.fitAll [M.any] [M.one] = true := by simp [M.fitAll, M.fit1, M.any]
theorem one_tup : M.tupF [M.one] = 0 := by decide
theorem two_tup : M.tupF [M.two] = 0 := by decide

section
variable {w wr : World} {S : Nat} {v : Value}
theorem One.lit2put {L : List (List M.Val)} (h : One w wr S v L) (x y : M.Val) (hx : x.s.size ≤ maxLen) (hy : y.s.size ≤ maxLen) :
    Calls Try.prog 10 #[.pointer (some ⟨S, 0, none⟩), .slice (some ⟨wr.heap.size, 0, none⟩) 1 1, .slice (some ⟨wr.heap.size + 1, 0, none⟩) 1 1] ((wr.alloc (.cells #[.int .i64 x.k, .int .i64 x.n, .string x.s] 24)).alloc (.cells #[.int .i64 y.k, .int .i64 y.n, .string y.s] 24)) fun e w' => e = .returned (.tuple #[.bool (M.onceB [x] L [y]), errV (M.onceF [x] L [y])]) ∧ ∃ v', One w w' S v' (M.onceL [x] L [y]) := by
  have b1 : Below wr.heap.size wr (wr.alloc (.cells #[.int .i64 x.k, .int .i64 x.n, .string x.s] 24)) := (Below.refl _ _).alloc (Nat.le_refl _) _
  have h1 := h.quiet b1
  have o1 := lit1 wr x hx
  generalize hw1 : wr.alloc (.cells #[.int .i64 x.k, .int .i64 x.n, .string x.s] 24) = wA at *
  have hsz : wA.heap.size = wr.heap.size + 1 := by rw [← hw1]; simp
  have b2 : Below wA.heap.size wA (wA.alloc (.cells #[.int .i64 y.k, .int .i64 y.n, .string y.s] 24)) := (Below.refl _ _).alloc (Nat.le_refl _) _
  have o2 := lit1 wA y hy
  rw [← hsz]
  exact ((h1.quiet b2).oput (o1.solid (Solid.below b2)).vals o2.vals).mono fun _ _ ⟨e1, v', e2, _⟩ => ⟨e1, v', e2⟩
theorem One.first (h : One w wr S v []) :
    Calls Try.prog 10 #[.pointer (some ⟨S, 0, none⟩), .slice (some ⟨wr.heap.size, 0, none⟩) 1 1, .slice (some ⟨wr.heap.size + 1, 0, none⟩) 1 1] ((wr.alloc (.cells #[.int .i64 2, .int .i64 0, .string ⟨#[]⟩] 24)).alloc (.cells #[.int .i64 0, .int .i64 1, .string ⟨#[]⟩] 24)) fun e w' => e = .returned (.tuple #[.bool true, .nilIface]) ∧ ∃ v', One w w' S v' [[M.one]] := by
  have := h.lit2put M.any M.one (by decide) (by decide)
  obtain ⟨e1, e2, e3⟩ := once_put (L := []) any_like one_tup rfl (putF_ok one_tup (by decide))
  rwa [e1, e2, e3] at this
theorem One.second (h : One w wr S v [[M.one]]) :
    Calls Try.prog 10 #[.pointer (some ⟨S, 0, none⟩), .slice (some ⟨wr.heap.size, 0, none⟩) 1 1, .slice (some ⟨wr.heap.size + 1, 0, none⟩) 1 1] ((wr.alloc (.cells #[.int .i64 2, .int .i64 0, .string ⟨#[]⟩] 24)).alloc (.cells #[.int .i64 0, .int .i64 2, .string ⟨#[]⟩] 24)) fun e w' => e = .returned (.tuple #[.bool false, .nilIface]) ∧ ∃ v', One w w' S v' [[M.one]] := by
  have := h.lit2put M.any M.two (by decide) (by decide)
  obtain ⟨e1, e2, e3⟩ := once_fit (L := [[M.one]]) any_like two_tup (by rw [many_one any_fit]; decide)
  rwa [e1, e2, e3] at this
theorem One.allOne (h : One w wr S v [[M.one]]) :
    Calls Try.prog 11 #[.pointer (some ⟨S, 0, none⟩)] wr fun e w' => ∃ ao cap, e = .returned (.slice ao 1 cap) ∧ One w w' S v [[M.one]] ∧ Hop w wr w' := h.all
end

end Go.Proofs.Ytlefhfmckimlaab
