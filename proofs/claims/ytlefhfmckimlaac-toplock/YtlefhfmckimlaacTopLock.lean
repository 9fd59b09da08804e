/-
  The walk of TopLock, first part: the closed fact, and what each call on a lock's space does.
-/
import Derived.Test.YtlefhfmckimlaacOnceOne
namespace Go.Proofs.Ytlefhfmckimlaac
open Go.RowKit

def M.four : M.Val := ⟨0, 4, ⟨#[]⟩⟩
/-- the lock's tuple with a number, and what asks for any of them -/
def M.lock : M.Val := ⟨1, 0, ⟨#[108, 111, 99, 107]⟩⟩
def M.lockT (z : Int) : List M.Val := [M.lock, ⟨0, z, ⟨#[]⟩⟩]
def M.star : List M.Val := [M.lock, M.any]

theorem many_sole {a x : List M.Val} (h : M.fitAll a x = true) : M.many a [x] = 1 := by
  unfold M.many
  rw [List.countP_singleton, h]; rfl
theorem get_sole {a x : List M.Val} (ha : M.likeF a = 0) (h : M.fitAll a x = true) : M.getF a [x] = 0 ∧ M.getV a [x] = x ∧ M.lessL a [x] = [] := by
  have hs : M.spot a [x] = 0 := spot_hit (by simp) (fun j hj => absurd hj (by omega)) (by simpa using h)
  have hl : M.spot a [x] < [x].length := by rw [hs]; simp
  refine ⟨getF_hit ha hl, ?_, ?_⟩
  · rw [getV_hit ha hl]; simp [hs]
  · rw [lessL_hit ha hl, hs]; rfl
theorem any_like : M.likeF [M.any] = 0 := by decide
theorem four_fit : M.fitAll [M.any] [M.four] = true := by simp [M.fitAll, M.fit1, M.any]
theorem four_put : M.putF [] [M.four] = 0 := by decide
theorem star_like : M.likeF M.star = 0 := by decide
theorem lock_fit (z : Int) : M.fitAll M.star (M.lockT z) = true := by simp [M.star, M.lockT, M.fitAll, M.fit1, M.any, M.lock, M.Val.same, M.same]
theorem lock_self (z : Int) : M.fitAll (M.lockT z) (M.lockT z) = true := by simp [M.lockT, M.fitAll, M.fit1, M.lock, M.Val.same, M.same]

section
variable {w wr : World} {S : Nat} {v x : Value} {L : List (List M.Val)}
theorem One.litPut (h : One w wr S v L) (x : M.Val) (hx : x.s.size ≤ maxLen) :
    Calls Try.prog 15 #[.pointer (some ⟨S, 0, none⟩), .slice (some ⟨wr.heap.size, 0, none⟩) 1 1] (wr.alloc (.cells #[.int .i64 x.k, .int .i64 x.n, .string x.s] 27)) fun e w' => e = .returned (errV (M.putF L [x])) ∧ ∃ v', One w w' S v' (M.putL L [x]) :=
  ((h.quiet ((Below.refl _ _).alloc (Nat.le_refl _) _)).put (lit1 wr x hx).vals).mono fun _ _ ⟨h1, v', h2, _⟩ => ⟨h1, v', h2⟩
theorem One.litTake (h : One w wr S v L) (x : M.Val) (hx : x.s.size ≤ maxLen) :
    Calls Try.prog 9 #[.pointer (some ⟨S, 0, none⟩), .slice (some ⟨wr.heap.size, 0, none⟩) 1 1] (wr.alloc (.cells #[.int .i64 x.k, .int .i64 x.n, .string x.s] 27)) fun e w' => ∃ r v', e = .returned (.tuple #[r, errV (M.getF [x] L)]) ∧ OwnT w.heap.size w' r (M.getV [x] L) ∧ One w w' S v' (M.lessL [x] L) :=
  ((h.quiet ((Below.refl _ _).alloc (Nat.le_refl _) _)).take (lit1 wr x hx).vals).mono fun _ _ ⟨r, v', h1, h0, h2, _⟩ => ⟨r, v', h1, h0, h2⟩
theorem One.putFour (h : One w wr S v []) :
    Calls Try.prog 15 #[.pointer (some ⟨S, 0, none⟩), .slice (some ⟨wr.heap.size, 0, none⟩) 1 1] (wr.alloc (.cells #[.int .i64 0, .int .i64 4, .string ⟨#[]⟩] 27)) fun e w' => e = .returned .nilIface ∧ ∃ v', One w w' S v' [[M.four]] := by
  have := h.litPut M.four (by decide)
  rwa [putL_yes four_put, four_put] at this
theorem One.takeFour (h : One w wr S v [[M.four]]) :
    Calls Try.prog 9 #[.pointer (some ⟨S, 0, none⟩), .slice (some ⟨wr.heap.size, 0, none⟩) 1 1] (wr.alloc (.cells #[.int .i64 2, .int .i64 0, .string ⟨#[]⟩] 27)) fun e w' => ∃ g c, e = .returned (.tuple #[.slice (some ⟨g, 0, none⟩) 1 c, .nilIface]) ∧ w'.cell? ⟨g, 1, none⟩ = some (.int .i64 4) ∧ Below w.heap.size w w' := by
  have := h.litTake M.any (by decide)
  obtain ⟨e1, e2, e3⟩ := get_sole any_like four_fit
  rw [e1, e2, e3] at this
  refine this.mono ?_
  rintro e w' ⟨r, v', rfl, h1, h2⟩
  obtain ⟨g, c, rfl, _⟩ := h1.1.form (by decide)
  refine ⟨g, c, rfl, ?_, h2.bel⟩
  rw [h1.1.cellAt 1 (by decide)]; rfl

theorem topOne (w : World) : Calls Try.prog 5 #[] w fun e w' => e = .returned (.bool true) ∧ Below w.heap.size w w' := by
  go_enter Try.func5, Try.ntmps5
  go_wp2_with fail
  refine (new _).mono ?_
  rintro e w0 ⟨rfl, hw0⟩
  have HO0 : Hid (One w w0 w.heap.size (.slice none 0 0) []) := hide (by rw [hw0]; exact One.start (Below.refl _ _))
  clear hw0
  go_wp2_with fail
  refine (HO0.out.putFour).mono ?_
  rintro e w1 ⟨rfl, v1, h1⟩
  have HO1 := hide h1
  clear h1 HO0
  go_wp2_with fail
  refine (HO1.out.takeFour).mono ?_
  rintro e w2 ⟨g, c, rfl, hc, hb⟩
  have HB := hide hb
  clear hb HO1
  go_wp2_with fail
  go_ret
  exact ⟨rfl, HB.out⟩

/-- a lock's tuple written down, and put if there is none -/
theorem One.lockPut (h : One w wr S v L) (hx : Firm w.heap.size wr x M.star) (z : Int) :
    Calls Try.prog 7 #[.pointer (some ⟨S, 0, none⟩), x, .slice (some ⟨wr.heap.size, 0, none⟩) 2 2] (wr.alloc (.cells #[.int .i64 1, .int .i64 0, .string ⟨#[108, 111, 99, 107]⟩, .int .i64 0, .int .i64 z, .string ⟨#[]⟩] 27)) fun e w' => e = .returned (.tuple #[.bool (M.onceB M.star L (M.lockT z)), errV (M.onceF M.star L (M.lockT z))]) ∧ ∃ v', One w w' S v' (M.onceL M.star L (M.lockT z)) ∧ Firm w.heap.size w' x M.star ∧ Firm w.heap.size w' (.slice (some ⟨wr.heap.size, 0, none⟩) 2 2) (M.lockT z) := by
  have b1 := (Below.refl wr.heap.size wr).alloc (Nat.le_refl _) (.cells #[.int .i64 1, .int .i64 0, .string ⟨#[108, 111, 99, 107]⟩, .int .i64 0, .int .i64 z, .string ⟨#[]⟩] 27)
  have o1 : OwnT wr.heap.size (wr.alloc (.cells #[.int .i64 1, .int .i64 0, .string ⟨#[108, 111, 99, 107]⟩, .int .i64 0, .int .i64 z, .string ⟨#[]⟩] 27)) (.slice (some ⟨wr.heap.size, 0, none⟩) 2 2) (M.lockT z) := lit2 wr M.lock ⟨0, z, ⟨#[]⟩⟩ (by decide) (show (⟨#[]⟩ : ByteArray).size ≤ maxLen by decide)
  have hx1 := hx.quiet b1 h.sp.room
  exact ((h.quiet b1).oput hx1.vals o1.vals).mono fun _ _ ⟨h1, v', h2, hop⟩ => ⟨h1, v', h2, hop.firm hx1, hop.firm (Firm.own o1)⟩
theorem One.lockBad (h : One w wr S v L) (hx : Firm w.heap.size wr x M.star) (z : Int) (hz : M.tupF (M.lockT z) ≠ 0) :
    Calls Try.prog 7 #[.pointer (some ⟨S, 0, none⟩), x, .slice (some ⟨wr.heap.size, 0, none⟩) 2 2] (wr.alloc (.cells #[.int .i64 1, .int .i64 0, .string ⟨#[108, 111, 99, 107]⟩, .int .i64 0, .int .i64 z, .string ⟨#[]⟩] 27)) fun e w' => e = .returned (.tuple #[.bool false, .iface 50 (.int .i64 (M.tupF (M.lockT z)))]) ∧ ∃ v', One w w' S v' L ∧ Firm w.heap.size w' x M.star ∧ Firm w.heap.size w' (.slice (some ⟨wr.heap.size, 0, none⟩) 2 2) (M.lockT z) := by
  have := h.lockPut hx z
  obtain ⟨e1, e2, e3⟩ := once_tup (L := L) star_like hz
  rwa [e1, e2, e3, errV_bad hz] at this
theorem One.lockYes (h : One w wr S v []) (hx : Firm w.heap.size wr x M.star) (z : Int) (hz : M.tupF (M.lockT z) = 0) :
    Calls Try.prog 7 #[.pointer (some ⟨S, 0, none⟩), x, .slice (some ⟨wr.heap.size, 0, none⟩) 2 2] (wr.alloc (.cells #[.int .i64 1, .int .i64 0, .string ⟨#[108, 111, 99, 107]⟩, .int .i64 0, .int .i64 z, .string ⟨#[]⟩] 27)) fun e w' => e = .returned (.tuple #[.bool true, .nilIface]) ∧ ∃ v', One w w' S v' [M.lockT z] ∧ Firm w.heap.size w' x M.star := by
  have := h.lockPut hx z
  obtain ⟨e1, e2, e3⟩ := once_put (L := []) star_like hz rfl (putF_ok hz (by decide))
  rw [e1, e2, e3] at this
  exact this.mono fun _ _ ⟨h1, v', h2, h3, _⟩ => ⟨h1, v', h2, h3⟩
theorem One.lockNo {y : Int} (h : One w wr S v [M.lockT y]) (hx : Firm w.heap.size wr x M.star) (z : Int) (hz : M.tupF (M.lockT z) = 0) :
    Calls Try.prog 7 #[.pointer (some ⟨S, 0, none⟩), x, .slice (some ⟨wr.heap.size, 0, none⟩) 2 2] (wr.alloc (.cells #[.int .i64 1, .int .i64 0, .string ⟨#[108, 111, 99, 107]⟩, .int .i64 0, .int .i64 z, .string ⟨#[]⟩] 27)) fun e w' => e = .returned (.tuple #[.bool false, .nilIface]) ∧ ∃ v', One w w' S v' [M.lockT y] ∧ Firm w.heap.size w' x M.star ∧ Firm w.heap.size w' (.slice (some ⟨wr.heap.size, 0, none⟩) 2 2) (M.lockT z) := by
  have := h.lockPut hx z
  obtain ⟨e1, e2, e3⟩ := once_fit (L := [M.lockT y]) star_like hz (by rw [many_sole (lock_fit y)]; decide)
  rwa [e1, e2, e3] at this
theorem One.lockTake {z : Int} {t : Value} (h : One w wr S v [M.lockT z]) (hx : Firm w.heap.size wr x M.star) (ht : IsVals wr t (M.lockT z)) (hz : M.tupF (M.lockT z) = 0) :
    Calls Try.prog 9 #[.pointer (some ⟨S, 0, none⟩), t] wr fun e w' => ∃ r v', e = .returned (.tuple #[r, .nilIface]) ∧ One w w' S v' [] ∧ Firm w.heap.size w' x M.star := by
  have := h.take ht
  obtain ⟨e1, _, e3⟩ := get_sole (tupF_ok hz).1 (lock_self z)
  rw [e1, e3] at this
  exact this.mono fun _ _ ⟨r, v', h1, _, h2, h3⟩ => ⟨r, v', h1, h2, h3.firm hx⟩
theorem One.lockNone (h : One w wr S v []) (hx : Firm w.heap.size wr x M.star) :
    Calls Try.prog 10 #[.pointer (some ⟨S, 0, none⟩), x] wr fun e w' => e = .returned (.tuple #[.int .i64 0, .nilIface]) ∧ One w w' S v [] ∧ Firm w.heap.size w' x M.star := by
  have := h.count hx.vals
  rw [show M.cnt M.star [] = 0 from by unfold M.cnt; rw [if_pos star_like]; rfl, star_like] at this
  exact this.mono fun _ _ ⟨h1, h2, h3⟩ => ⟨h1, h2, h3.firm hx⟩
theorem One.lockSome {y : Int} (h : One w wr S v [M.lockT y]) (hx : Firm w.heap.size wr x M.star) :
    Calls Try.prog 10 #[.pointer (some ⟨S, 0, none⟩), x] wr fun e w' => e = .returned (.tuple #[.int .i64 1, .nilIface]) ∧ One w w' S v [M.lockT y] ∧ Firm w.heap.size w' x M.star := by
  have := h.count hx.vals
  rw [show M.cnt M.star [M.lockT y] = 1 from by unfold M.cnt; rw [if_pos star_like, many_sole (lock_fit y)], star_like] at this
  exact this.mono fun _ _ ⟨h1, h2, h3⟩ => ⟨h1, h2, h3.firm hx⟩
theorem One.lockCheck {z : Int} {t : Value} (h : One w wr S v L) (hx : Firm w.heap.size wr x M.star) (ht : IsVals wr t (M.lockT z)) (hz : M.tupF (M.lockT z) ≠ 0) :
    Calls Try.prog 8 #[t] wr fun e w' => e = .returned (.iface 50 (.int .i64 (M.tupF (M.lockT z)))) ∧ One w w' S v L ∧ Firm w.heap.size w' x M.star := by
  have := tcheck t _ wr ht
  rw [errV_bad hz] at this
  exact this.mono fun _ _ ⟨h1, h2⟩ => ⟨h1, h.quiet h2, hx.quiet h2 h.sp.room⟩
theorem One.starFirm (h : One w wr S v L) : One w (wr.alloc (.cells #[.int .i64 1, .int .i64 0, .string ⟨#[108, 111, 99, 107]⟩, .int .i64 2, .int .i64 0, .string ⟨#[]⟩] 27)) S v L ∧ Firm w.heap.size (wr.alloc (.cells #[.int .i64 1, .int .i64 0, .string ⟨#[108, 111, 99, 107]⟩, .int .i64 2, .int .i64 0, .string ⟨#[]⟩] 27)) (.slice (some ⟨wr.heap.size, 0, none⟩) 2 2) M.star :=
  ⟨h.quiet ((Below.refl _ _).alloc (Nat.le_refl _) _), Firm.own (lit2 wr M.lock M.any (by decide) (by decide))⟩
end

end Go.Proofs.Ytlefhfmckimlaac
