/-
  The beginning of a law that has two spaces of the program and two of the document; one tuple more behind the document's second list; what the calls answer, case by case.
-/
import Derived.Test.YtlefhfmckimlaacDoorOnceFour
namespace Go.Proofs.YtlefhfmckimlaacDoor
open Go.RowKit

section
variable {w wr w1 wA w3 : World} {S O R K : Nat} {vs vo um uk uk' x t : Value} {Ls Lo Lm Lk L : List (List M.Val)} {a l : List M.Val} {xs : List Value}
theorem Q4.more (h : Q4 w wA S O R K vs vo um uk Ls Lo Lm Lk) (hx1 : wA.ownsRow w.heap.size 30 1 uk Lk.length xs) (hx2 : ∀ i (h1 : i < xs.length) (h2 : i < Lk.length), IsVals w xs[i] Lk[i]) (hx : IsVals w x l)
    (ho : w3.ownsRow w.heap.size 30 1 uk' (Lk.length + 1) (xs ++ [x])) (hg : wA.grownBy w3 uk.ownBlock) (hn : Near wA uk uk') (hf : M.Fine (Lk ++ [l])) : Q4 w (w3.setCell ⟨K, 0, none⟩ uk') S O R K vs vo um uk' Ls Lo Lm (Lk ++ [l]) := by
  obtain ⟨h1, h2⟩ := Sp.stored (by decide) h.k hg (RowOf.more hx1 hx2 ho hx) hn
  exact h.onK h1 h2 hn hf
theorem Q4.start {w0 wB wC wD : World} (h0 : w0 = w.alloc (.cells #[.slice none 0 0] 68)) (hB : wB = w0.alloc (.cells #[.slice none 0 0] 68)) (hC : wC = wB.alloc (.cells #[.slice none 0 0] 28)) (hD : wD = wC.alloc (.cells #[.slice none 0 0] 28)) :
    Q4 w wD w.heap.size w0.heap.size wB.heap.size wC.heap.size (.slice none 0 0) (.slice none 0 0) (.slice none 0 0) (.slice none 0 0) [] [] [] [] := by
  have z0 : w0.heap.size = w.heap.size + 1 := by rw [h0]; simp
  have zB : wB.heap.size = w0.heap.size + 1 := by rw [hB]; simp
  have zC : wC.heap.size = wB.heap.size + 1 := by rw [hC]; simp
  have b0 : Below w.heap.size w w0 := by rw [h0]; exact (Below.refl _ _).alloc (Nat.le_refl _) _
  have bB : Below w0.heap.size w0 wB := by rw [hB]; exact (Below.refl _ _).alloc (Nat.le_refl _) _
  have bC : Below wB.heap.size wB wC := by rw [hC]; exact (Below.refl _ _).alloc (Nat.le_refl _) _
  have bD : Below wC.heap.size wC wD := by rw [hD]; exact (Below.refl _ _).alloc (Nat.le_refl _) _
  have s0 : Space w.heap.size w0 w.heap.size (.slice none 0 0) [] := ⟨Nat.le_refl _, by rw [h0]; exact heap_alloc_new w _, RowOf.nil _ _ _⟩
  have sB : Space w.heap.size wB w0.heap.size (.slice none 0 0) [] := ⟨by omega, by rw [hB]; exact heap_alloc_new w0 _, RowOf.nil _ _ _⟩
  have sC : Ref w wC wB.heap.size (.slice none 0 0) [] := ⟨by omega, by rw [hC]; exact heap_alloc_new wB _, RowOf.nil _ _ _⟩
  have sD : Ref w wD wC.heap.size (.slice none 0 0) [] := ⟨by omega, by rw [hD]; exact heap_alloc_new wC _, RowOf.nil _ _ _⟩
  exact ⟨Space.stays (Space.stays (Space.stays s0 bB) bC) bD, Space.stays (Space.stays sB bC) bD, Sp.quiet sC bD, sD, by omega, by omega, Apart.nil _, Apart.nil _, Apart.nil _, Apart.nil _, Apart.nil _, Apart.nil _, Fine.nil, Fine.nil, Fine.nil, Fine.nil,
    b0.trans ((bB.trans ((bC.trans (bD.mono bC.size)).mono bB.size)).mono b0.size)⟩

/-- Put if none fits, beside the document's: the lists are the same behind it -/
theorem Q4.putStill {c : Int} (h : Q4 w wr S O R K vs vo um uk L Lo Lm Lk) (hx : IsVals w x a) (ht : IsVals w t l) (he : M.onceF a L l = c ∧ M.onceB a L l = false ∧ M.onceL a L l = L) :
    Calls Tryd.prog 17 #[.pointer (some ⟨S, 0, none⟩), x, t] wr fun e w' => e = .returned (.tuple #[.bool false, errV c]) ∧ ∃ v', Q4 w w' S O R K v' vo um uk L Lo Lm Lk := by
  have := h.oput hx ht
  rwa [he.1, he.2.1, he.2.2] at this
theorem Q4.putMore (h : Q4 w wr S O R K vs vo um uk L Lo Lm Lk) (hx : IsVals w x a) (ht : IsVals w t l) (he : M.onceF a L l = 0 ∧ M.onceB a L l = true ∧ M.onceL a L l = L ++ [l]) :
    Calls Tryd.prog 17 #[.pointer (some ⟨S, 0, none⟩), x, t] wr fun e w' => e = .returned (.tuple #[.bool true, errV 0]) ∧ ∃ v', Q4 w w' S O R K v' vo um uk (L ++ [l]) Lo Lm Lk := by
  have := h.oput hx ht
  rwa [he.1, he.2.1, he.2.2] at this
theorem Q4.chStill {c : Int} (h : Q4 w wr S O R K vs vo um uk L Lo Lm Lk) (hx : IsVals w x a) (ht : IsVals w t l) (he : M.chF a L l = c ∧ M.chV a L l = [] ∧ M.chL a L l = L) :
    Calls Tryd.prog 12 #[.pointer (some ⟨S, 0, none⟩), x, t] wr fun e w' => ∃ r v', e = .returned (.tuple #[r, errV c]) ∧ IsVals w' r [] ∧ Q4 w w' S O R K v' vo um uk L Lo Lm Lk := by
  have := h.och hx ht
  rwa [he.1, he.2.1, he.2.2] at this
theorem Q4.chMore (h : Q4 w wr S O R K vs vo um uk L Lo Lm Lk) (hx : IsVals w x a) (ht : IsVals w t l) (he : M.chF a L l = 0 ∧ M.chV a L l = M.getV a L ∧ M.chL a L l = M.lessL a L ++ [l]) :
    Calls Tryd.prog 12 #[.pointer (some ⟨S, 0, none⟩), x, t] wr fun e w' => ∃ r v', e = .returned (.tuple #[r, errV 0]) ∧ IsVals w' r (M.getV a L) ∧ Q4 w w' S O R K v' vo um uk (M.lessL a L ++ [l]) Lo Lm Lk := by
  have := h.och hx ht
  rwa [he.1, he.2.1, he.2.2] at this
theorem Q4.getNo {c : Int} (h : Q4 w wr S O R K vs vo um uk Ls Lo Lm Lk) (hx : IsVals w x a) (hg : M.getF a Lm = c) (hc : c ≠ 0) :
    Calls Tryd.prog 10 #[.pointer (some ⟨R, 0, none⟩), x, .bool true] wr fun e w' => ∃ r u', e = .returned (.tuple #[r, .int .i64 c]) ∧ IsVals w r [] ∧ Q4 w w' S O R K vs vo u' uk Ls Lo Lm Lk := by
  have := h.get hx
  rwa [hg, getV_no (by rw [hg]; exact hc), lessL_no (by rw [hg]; exact hc)] at this
theorem Q4.getYes (h : Q4 w wr S O R K vs vo um uk Ls Lo Lm Lk) (hx : IsVals w x a) (hg : M.getF a Lm = 0) :
    Calls Tryd.prog 10 #[.pointer (some ⟨R, 0, none⟩), x, .bool true] wr fun e w' => ∃ r u', e = .returned (.tuple #[r, .int .i64 0]) ∧ IsVals w r (M.getV a Lm) ∧ Q4 w w' S O R K vs vo u' uk Ls Lo (M.lessL a Lm) Lk := by
  have := h.get hx
  rwa [hg] at this
theorem Q4.putNo {c : Int} (h : Q4 w wr S O R K vs vo um uk Ls Lo Lm Lk) (hx : IsVals w x a) (hp : M.putF Lm a = c) (hc : c ≠ 0) :
    Calls Tryd.prog 11 #[.pointer (some ⟨R, 0, none⟩), x] wr fun e w' => e = .returned (.int .i64 c) ∧ ∃ u', Q4 w w' S O R K vs vo u' uk Ls Lo Lm Lk := by
  have := h.put hx
  rwa [hp, putL_no (by rw [hp]; exact hc)] at this
theorem Q4.putYes (h : Q4 w wr S O R K vs vo um uk Ls Lo Lm Lk) (hx : IsVals w x a) (hp : M.putF Lm a = 0) :
    Calls Tryd.prog 11 #[.pointer (some ⟨R, 0, none⟩), x] wr fun e w' => e = .returned (.int .i64 0) ∧ ∃ u', Q4 w w' S O R K vs vo u' uk Ls Lo (Lm ++ [a]) Lk := by
  have := h.put hx
  rwa [hp, putL_yes hp] at this
theorem Q4.likeIs {c : Int} (h : Q4 w wr S O R K vs vo um uk Ls Lo Lm Lk) (hx : IsVals w x a) (hc : M.likeF a = c) : Calls Tryd.prog 8 #[x] wr fun e w' => e = .returned (.int .i64 c) ∧ Q4 w w' S O R K vs vo um uk Ls Lo Lm Lk := by
  have := h.like hx
  rwa [hc] at this
theorem Q4.tupIs {c : Int} (h : Q4 w wr S O R K vs vo um uk Ls Lo Lm Lk) (hx : IsVals w x a) (hc : M.tupF a = c) : Calls Tryd.prog 9 #[x] wr fun e w' => e = .returned (.int .i64 c) ∧ Q4 w w' S O R K vs vo um uk Ls Lo Lm Lk := by
  have := h.tup hx
  rwa [hc] at this
theorem Q4.cntIs {q : Nat} (h : Q4 w wr S O R K vs vo um uk Ls Lo Lm Lk) (hx : IsVals w x a) (ha : M.likeF a = 0) (hq : M.many a Lm = q) : Calls Tryd.prog 16 #[.pointer (some ⟨R, 0, none⟩), x] wr fun e w' => e = .returned (.int .i64 q) ∧ Q4 w w' S O R K vs vo um uk Ls Lo Lm Lk := by
  have := h.cnt hx ha
  rwa [hq] at this
theorem Q4.moveNo {c : Int} (h : Q4 w wr S O R K vs vo um uk Ls Lo Lm Lk) (hx : IsVals w x a) (hc : M.likeF a = c) (h0 : c ≠ 0) :
    Calls Tryd.prog 15 #[.pointer (some ⟨S, 0, none⟩), .pointer (some ⟨O, 0, none⟩), x] wr fun e w' => e = .returned (.tuple #[.int .i64 0, errV c]) ∧ Q4 w w' S O R K vs vo um uk Ls Lo Lm Lk := by
  subst hc
  exact (move_like h.pair (hx.stays h.bel (Nat.le_refl _)) h0 _).mono fun _ _ ⟨h1, h2⟩ => ⟨h1, h.quiet h2⟩
theorem Q4.moveYes {m : Nat} (h : Q4 w wr S O R K vs vo um uk Ls Lo Lm Lk) (hx : IsVals w x a) (ha : M.likeF a = 0) (hm : M.movN a Ls Lo = m) :
    Calls Tryd.prog 15 #[.pointer (some ⟨S, 0, none⟩), .pointer (some ⟨O, 0, none⟩), x] wr fun e w' => e = .returned (.tuple #[.int .i64 m, errV 0]) ∧ ∃ v' u', Q4 w w' S O R K v' u' um uk (M.lessN a Ls m) (Lo ++ M.gotN a Ls m) Lm Lk := by
  have := h.move hx
  rwa [hm, ha] at this
theorem Q4.sameIs {c : Int} (h : Q4 w wr S O R K vs vo um uk Ls Lo Lm Lk) (hx : IsVals w x a) (hc : M.sameF a = c) :
    Calls Tryd.prog 15 #[.pointer (some ⟨S, 0, none⟩), .pointer (some ⟨S, 0, none⟩), x] wr fun e w' => e = .returned (.tuple #[.int .i64 0, errV c]) ∧ Q4 w w' S O R K vs vo um uk Ls Lo Lm Lk := by
  have := h.moveSame hx
  rwa [hc] at this
end

end Go.Proofs.YtlefhfmckimlaacDoor
