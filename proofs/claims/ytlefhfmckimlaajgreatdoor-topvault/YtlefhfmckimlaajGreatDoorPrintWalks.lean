/-
  What Print of package value does, as one law of its call.
-/
import Derived.Test.YtlefhfmckimlaajGreatDoorParseWalks2
import Derived.Lib.SmallJoins
set_option linter.unusedSimpArgs false
namespace Go.Proofs.YtlefhfmckimlaajGreatDoor
open Go.RowKit

/-- the library's table of powers of ten reads as its text lays it -/
def Tab (w : World) : Prop := Lib.TabIs Tryz.prog w "internal/strconv.uint64pow10" .u64 Lib.pow10Tab
theorem Tab.stays {w w' : World} {B : Nat} (h : Tab w) (hb : Below B w w') (hB : w.heap.size ≤ B) : Tab w' :=
  Joins.tab_stays (g := 2) (by kernel_rfl) h hb hB

theorem grown (w : World) (k : Nat) (os : Array Obj) : Below w.heap.size w (Sort.grow (w.drewN k) os) :=
  ⟨rfl, rfl, rfl, by simp [Sort.grow], fun i hi => by
    show ((w.drewN k).heap ++ os)[i]? = _
    rw [Array.getElem?_append_left (show i < (w.drewN k).heap.size from hi)]
    rfl⟩

theorem itoaB (n : Int) (w : World) (h0 : -1000000 ≤ n) (h1 : n ≤ 1000000) (ht : Tab w) : Calls Tryz.prog 66 #[.int .i64 n] w fun e w' => e = .returned (.string ⟨(Lib.itoa n).toArray⟩) ∧ Below w.heap.size w w' := by
  refine (Tryz.strconv_Itoa n (by omega) (by omega) w ht).mono ?_
  rintro e w' ⟨rfl, k, os, rfl⟩
  exact ⟨rfl, grown _ _ _⟩

/-- a value as text -/
def M.word (k n : Int) (s : ByteArray) : ByteArray := if k = 0 then ⟨(Lib.itoa n).toArray⟩ else if k = 1 then ⟨#[58]⟩ ++ s else ⟨#[42]⟩

theorem printBad (k n : Int) (s : ByteArray) (w : World) (hs : s.size ≤ maxLen) (h : M.fault k n s ≠ 0) :
    Calls Tryz.prog 49 #[.agg #[.int .i64 k, .int .i64 n, .string s]] w fun e w' => e = .returned (.tuple #[.string ⟨#[]⟩, .iface 66 (.int .i64 (M.fault k n s))]) ∧ Below w.heap.size w w' := by
  have H := hide h
  clear h
  go_enter Tryz.func49, Tryz.ntmps49
  go_wp2_with fail
  refine (checkBad k n s _ hs H.out).mono ?_
  rintro e w1 ⟨rfl, hb⟩
  obtain ⟨hc, hf⟩ := bcell hb
  go_wp2_with fail
  go_ret2
  exact ⟨rfl, ((Below.refl _ _).alloc (Nat.le_refl _) _).trans (hb.mono (by simp))⟩

theorem fault_kind {k n : Int} {s : ByteArray} (h : M.fault k n s = 0) : k = 0 ∨ k = 1 ∨ k = 2 := by
  unfold M.fault at h
  by_cases e0 : k = 0
  · exact Or.inl e0
  · rw [if_neg e0] at h
    by_cases e1 : k = 1
    · exact Or.inr (Or.inl e1)
    · rw [if_neg e1] at h
      by_cases e2 : k = 2
      · exact Or.inr (Or.inr e2)
      · rw [if_neg e2] at h; exact absurd h (by decide)
theorem fault_num {n : Int} {s : ByteArray} (h : M.fault 0 n s = 0) : -1000000 ≤ n ∧ n ≤ 1000000 ∧ s.size = 0 := by
  unfold M.fault M.faultN at h
  rw [if_pos rfl] at h
  by_cases e : n < -1000000 ∨ 1000000 < n
  · rw [if_pos e] at h; exact absurd h (by decide)
  · rw [if_neg e] at h
    by_cases e2 : s.size = 0
    · exact ⟨by omega, by omega, e2⟩
    · rw [if_neg e2] at h; exact absurd h (by decide)
theorem fault_text {n : Int} {s : ByteArray} (h : M.fault 1 n s = 0) : n = 0 ∧ s.size ≤ 12 ∧ M.bad s = false := by
  unfold M.fault M.faultT at h
  rw [if_neg (by decide), if_pos rfl] at h
  by_cases e : 12 < s.size
  · rw [if_pos e] at h; exact absurd h (by decide)
  · rw [if_neg e] at h
    by_cases e2 : n = 0
    · rw [if_pos e2] at h
      cases hb : M.bad s
      · exact ⟨e2, by omega, rfl⟩
      · rw [hb] at h; exact absurd h (by decide)
    · rw [if_neg e2] at h; exact absurd h (by decide)
theorem fault_star {n : Int} {s : ByteArray} (h : M.fault 2 n s = 0) : n = 0 ∧ s.size = 0 := by
  unfold M.fault M.faultA at h
  rw [if_neg (by decide), if_neg (by decide), if_pos rfl] at h
  by_cases e : n = 0 ∧ s.size = 0
  · exact e
  · rw [if_neg e] at h; exact absurd h (by decide)

theorem printOk (k n : Int) (s : ByteArray) (w : World) (hs : s.size ≤ maxLen) (h : M.fault k n s = 0) (ht : Tab w) :
    Calls Tryz.prog 49 #[.agg #[.int .i64 k, .int .i64 n, .string s]] w fun e w' => e = .returned (.tuple #[.string (M.word k n s), .nilIface]) ∧ Below w.heap.size w w' := by
  rcases fault_kind h with rfl | rfl | rfl
  · obtain ⟨n1, n2, _⟩ := fault_num h
    have H := hide h
    have HT := hide ht
    clear h ht
    go_enter Tryz.func49, Tryz.ntmps49
    go_wp2_with fail
    refine (checkOk 0 n s _ hs H.out).mono ?_
    rintro e w1 ⟨rfl, hb⟩
    obtain ⟨hc, hf⟩ := bcell hb
    have B1 : Below w.heap.size w w1 := ((Below.refl _ _).alloc (Nat.le_refl _) _).trans (hb.mono (by simp))
    have HT1 : Hid (Tab w1) := HT.out.stays B1 (Nat.le_refl _)
    go_wp2_with fail
    refine (itoaB n _ n1 n2 HT1.out).mono ?_
    rintro e w2 ⟨rfl, hb2⟩
    go_wp2_with fail
    go_ret2
    exact ⟨rfl, B1.trans (hb2.mono B1.size)⟩
  · obtain ⟨rfl, n2, _⟩ := fault_text h
    have H := hide h
    clear h
    have hadd : ∀ w, (Op.stringOp .add ⟨#[58]⟩ s).run Tryz.prog w = .ok (.string (⟨#[58]⟩ ++ s)) w := fun w => run_string_add_sum w _ _ (by show 1 + s.size ≤ _; omega)
    go_enter Tryz.func49, Tryz.ntmps49
    go_wp2_with fail
    refine (checkOk 1 0 s _ hs H.out).mono ?_
    rintro e w1 ⟨rfl, hb⟩
    obtain ⟨hc, hf⟩ := bcell hb
    go_wp2_with fail
    go_ret2
    exact ⟨rfl, ((Below.refl _ _).alloc (Nat.le_refl _) _).trans (hb.mono (by simp))⟩
  · have H := hide h
    clear h
    go_enter Tryz.func49, Tryz.ntmps49
    go_wp2_with fail
    refine (checkOk 2 n s _ hs H.out).mono ?_
    rintro e w1 ⟨rfl, hb⟩
    obtain ⟨hc, hf⟩ := bcell hb
    go_wp2_with fail
    go_ret2
    exact ⟨rfl, ((Below.refl _ _).alloc (Nat.le_refl _) _).trans (hb.mono (by simp))⟩

end Go.Proofs.YtlefhfmckimlaajGreatDoor
