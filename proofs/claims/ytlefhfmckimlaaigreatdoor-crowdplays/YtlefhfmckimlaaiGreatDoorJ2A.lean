/-
  Things in memory of a call's own that stand beside each other: each has its blocks; what a call on one leaves of another. For any program.
  Rows and spaces whose blocks are as they were. For any program.
  What the functions of package value do, each as one law of its call: Check and what it calls, the comparisons, Order, Fits.
-/
import Derived.Test.YtlefhfmckimlaaiGreatDoorJ1A
import Derived.Test.YtlefhfmckimlaaiGreatDoorRows
import Derived.Test.YtlefhfmckimlaaiGreatDoorJ0A
import Derived.WalkKit
import Derived.WalkLawsBesides
import Derived.WalkSpells
import Derived.Below
namespace Go.Proofs.YtlefhfmckimlaaiGreatDoor
open Go.RowKit

/-- all is kept but some blocks; blocks of values stay whatever -/
structure Tch (F : Nat → Prop) (w w' : World) : Prop where
  os : w'.os = w.os
  tape : w'.tape = w.tape
  output : w'.output = w.output
  size : w.heap.size ≤ w'.heap.size
  block : ∀ k, k < w.heap.size → ¬ F k → w'.heap[k]? = w.heap[k]?
  vals : Solid w w'
/-- the blocks behind a call: those from before, or new ones -/
def Grows (w : World) (F F' : Nat → Prop) : Prop := ∀ k, F' k → F k ∨ w.heap.size ≤ k
section
variable {F F' F2 G : Nat → Prop} {a b c w w' : World} {base B : Nat}
theorem Tch.of_below (h : Below w.heap.size w w') : Tch F w w' := ⟨h.os, h.tape, h.output, h.size, fun k hk _ => h.block k hk, Solid.below h⟩
theorem Tch.refl (F : Nat → Prop) (w : World) : Tch F w w := Tch.of_below (Below.refl _ _)
theorem Grows.refl (w : World) (F : Nat → Prop) : Grows w F F := fun _ h => Or.inl h
theorem Grows.trans (h : Grows a F F') (hs : a.heap.size ≤ b.heap.size) (k : Grows b F' F2) : Grows a F F2 := fun i hi => by
  rcases k i hi with g | g
  · exact h i g
  · exact Or.inr (Nat.le_trans hs g)
theorem Tch.trans (h : Tch F a b) (hg : Grows a F F') (k : Tch F' b c) : Tch F a c :=
  ⟨k.os.trans h.os, k.tape.trans h.tape, k.output.trans h.output, Nat.le_trans h.size k.size, fun i hi hF => (k.block i (Nat.lt_of_lt_of_le hi h.size) (fun e => by
    rcases hg i e with g | g
    · exact hF g
    · omega)).trans (h.block i hi hF), h.vals.trans k.vals⟩
theorem Tch.then (h : Tch F a b) (k : Below b.heap.size b c) : Tch F a c := h.trans (Grows.refl _ _) (Tch.of_below k)
theorem Tch.after (h : Below a.heap.size a b) (k : Tch F b c) : Tch F a c := (Tch.of_below h).trans (Grows.refl _ _) k
theorem Tch.mono (h : Tch F w w') (hF : ∀ k, F k → G k) : Tch G w w' := ⟨h.os, h.tape, h.output, h.size, fun k hk hn => h.block k hk (fun e => hn (hF k e)), h.vals⟩
theorem Tch.below (h : Tch F w w') (hF : ∀ k, F k → B ≤ k) (hB : B ≤ w.heap.size) : Below B w w' :=
  ⟨h.os, h.tape, h.output, h.size, fun k hk => h.block k (by omega) (fun e => by have := hF k e; omega)⟩

/-- the blocks of a set, the values and what came in are as they were -/
structure Kept (base : Nat) (F : Nat → Prop) (w w' : World) : Prop where
  block : ∀ k, F k → w'.heap[k]? = w.heap[k]?
  vals : Solid w w'
  below : Below base w w'
theorem Kept.refl (base : Nat) (F : Nat → Prop) (w : World) : Kept base F w w := ⟨fun _ _ => rfl, Solid.refl w, Below.refl _ _⟩
theorem Kept.trans (h : Kept base F a b) (k : Kept base F b c) : Kept base F a c := ⟨fun i hi => (k.block i hi).trans (h.block i hi), h.vals.trans k.vals, h.below.trans k.below⟩
theorem Tch.kept (h : Tch G w w') (hF : ∀ k, F k → k < w.heap.size) (hd : ∀ k, F k → ¬ G k) (hG : ∀ k, G k → base ≤ k) (hB : base ≤ w.heap.size) : Kept base F w w' :=
  ⟨fun k hk => h.block k (hF k hk) (hd k hk), h.vals, h.below hG hB⟩
theorem Kept.of_below (hF : ∀ k, F k → k < w.heap.size) (hB : base ≤ w.heap.size) (h : Below w.heap.size w w') : Kept base F w w' := ⟨fun k hk => h.block k (hF k hk), Solid.below h, h.mono hB⟩

/-- a thing whose blocks are F -/
structure Thing (base : Nat) (F : Nat → Prop) (P : World → Prop) (w : World) : Prop where
  lo : ∀ k, F k → base ≤ k
  hi : ∀ k, F k → k < w.heap.size
  base_le : base ≤ w.heap.size
  all : ∀ w', Kept base F w w' → P w'
variable {P Q : World → Prop}
theorem Thing.here (h : Thing base F P w) : P w := h.all w (Kept.refl _ _ _)
theorem Thing.keep (h : Thing base F P w) (t : Tch G w w') (hd : ∀ k, F k → ¬ G k) (hG : ∀ k, G k → base ≤ k) : Thing base F P w' :=
  ⟨h.lo, fun k hk => Nat.lt_of_lt_of_le (h.hi k hk) t.size, Nat.le_trans h.base_le t.size, fun _ hk => h.all _ ((t.kept h.hi hd hG h.base_le).trans hk)⟩
theorem Thing.quiet (h : Thing base F P w) (hb : Below w.heap.size w w') : Thing base F P w' :=
  ⟨h.lo, fun k hk => Nat.lt_of_lt_of_le (h.hi k hk) hb.size, Nat.le_trans h.base_le hb.size, fun _ hk => h.all _ ((Kept.of_below h.hi h.base_le hb).trans hk)⟩
/-- two sets have no block in common -/
def Off (F G : Nat → Prop) : Prop := ∀ k, F k → ¬ G k
theorem Off.symm (h : Off F G) : Off G F := fun k hk e => h k e hk
theorem Off.grows (h : Off F G) (hG : ∀ k, G k → k < w.heap.size) (hg : Grows w F F') : Off F' G := fun k hk e => by
  rcases hg k hk with g | g
  · exact h k g e
  · have := hG k e; omega
theorem Off.new (hG : ∀ k, G k → k < w.heap.size) (hF : ∀ k, F k → w.heap.size ≤ k) : Off F G := fun k hk e => by have := hG k e; have := hF k hk; omega
end

end Go.Proofs.YtlefhfmckimlaaiGreatDoor

set_option linter.unusedVariables false
namespace Go.Proofs.YtlefhfmckimlaaiGreatDoor
open Go.RowKit

theorem ownsRow_at {b T k n : Nat} {w w' : World} {v : Value} {xs : List Value} (h : w.ownsRow b T k v n xs) (hk : ∀ g, v.ownBlock = some g → w'.heap[g]? = w.heap[g]?) : w'.ownsRow b T k v n xs := by
  refine ⟨h.1, ?_⟩
  rcases h.2 with h2 | ⟨g, cap, cur, hv, hg, hh, r⟩
  · exact Or.inl h2
  · exact Or.inr ⟨g, cap, cur, hv, hg, (hk g (by rw [hv]; rfl)).trans hh, r⟩
theorem ownsRow_tag {b T k n : Nat} {w : World} {v : Value} {xs : List Value} (h : w.ownsRow b T k v n xs) {g : Nat} (hg : v.ownBlock = some g) : b ≤ g ∧ ∃ c fr, w.heap[g]? = some (.cells c T fr) := by
  rcases h.2 with ⟨hv, _⟩ | ⟨g', cap, cur, hv, hb, hh, r⟩
  · rw [hv] at hg; cases hg
  · rw [hv] at hg
    have : g' = g := by simpa [Value.ownBlock] using hg
    subst this
    exact ⟨hb, _, _, hh⟩
section
variable {T : TypeId} {Q : Value → List M.Val → Prop} {base S : Nat} {w w' : World} {v v' : Value} {L : List (List M.Val)}
theorem Sp.at (h : Sp T Q base w S v L) (hS : w'.heap[S]? = w.heap[S]?) (hv : ∀ g, v.ownBlock = some g → w'.heap[g]? = w.heap[g]?) : Sp T Q base w' S v L := by
  obtain ⟨xs, h1, h2⟩ := h.row
  exact ⟨h.lo, hS.trans h.heap, xs, ownsRow_at h1 hv, h2⟩
/-- a block of another type is none of a space's -/
theorem Sp.other (h : Sp T Q base w S v L) {b : Nat} {c : Array Value} {T' : TypeId} {fr : Nat × Nat} (hb : w.heap[b]? = some (.cells c T' fr)) (h1 : T' ≠ T) (h2 : T' ≠ 35) : b ≠ S ∧ v.ownBlock ≠ some b := by
  refine ⟨fun e => ?_, fun e => ?_⟩
  · subst e
    rw [h.heap] at hb
    exact h1 (tag_eq hb).symm
  · obtain ⟨xs, hx, _⟩ := h.row
    obtain ⟨_, c', fr', hh⟩ := ownsRow_tag hx e
    rw [hb] at hh
    exact h2 (tag_eq hh)
theorem Sp.tch (h : Sp T Q base w S v L) (hT : T ≠ 107) (ht : Touch S v w w') : Tch (fun k => k = S ∨ v.ownBlock = some k) w w' :=
  ⟨ht.os, ht.tape, ht.output, ht.size, fun k hk hn => ht.block k hk (fun e => hn (Or.inl e)) (fun e => hn (Or.inr e)), Sp.solid h hT ht⟩
theorem Near.grows (h : Near w v v') {k : Nat} (hk : v'.ownBlock = some k) : v.ownBlock = some k ∨ w.heap.size ≤ k := by
  rcases h with h | h
  · exact Or.inl (h ▸ hk)
  · exact Or.inr (h k hk)
end

theorem near_app {H g : Nat} {w : World} {u : Value} {n c : Nat} (h : u.ownBlock = some g ∨ g = H) (hw : w.heap.size ≤ H) : Near w u (.slice (some ⟨g, 0, none⟩) n c) := by
  rcases h with h | h
  · exact Or.inl h.symm
  · refine Or.inr fun k hk => ?_
    have : g = k := by simpa [Value.ownBlock] using hk
    omega

end Go.Proofs.YtlefhfmckimlaaiGreatDoor

namespace Go.Proofs.YtlefhfmckimlaaiGreatDoor
open Go.RowKit

/-- an error value: nil for 0 -/
def errV (e : Int) : Value := if e = 0 then .nilIface else .iface 74 (.int .i64 e)
theorem errV_0 : errV 0 = .nilIface := rfl

def V (k n : Int) (s : ByteArray) : Value := .agg #[.int .i64 k, .int .i64 n, .string s]

theorem bcell {W w1 : World} (hb : Below W.heap.size W w1) : (∀ b o, b < W.heap.size → w1.cell? ⟨b, o, none⟩ = W.cell? ⟨b, o, none⟩) ∧ (∀ b o, b < W.heap.size → w1.frozen? ⟨b, o, none⟩ = W.frozen? ⟨b, o, none⟩) :=
  ⟨fun b o h => hb.cell (p := ⟨b, o, none⟩) h, fun b o h => hb.frozen (p := ⟨b, o, none⟩) h⟩

theorem hide {p : Prop} (h : p) : Hid p := h
theorem unhide {p : Prop} (h : Hid p) : p := h


theorem size0 {s : ByteArray} (h : s.size = 0) : s = ByteArray.empty := by
  cases s with | mk d => simp [ByteArray.size] at h; subst h; rfl
theorem empty_of {s : ByteArray} (h : ¬ s.size = 0) : s.toList.isEmpty = false ∧ (s.toList == []) = false := by
  rw [ByteArray.toList_eq]
  have : s.data.toList ≠ [] := by
    intro hd; apply h; show s.data.size = 0; rw [← Array.length_toList, hd]; rfl
  cases hd : s.data.toList with
  | nil => exact absurd hd this
  | cons a l => exact ⟨rfl, rfl⟩

theorem checkNumber (k n : Int) (s : ByteArray) (w : World) : Calls Tryz.prog 89 #[.agg #[.int .i64 k, .int .i64 n, .string s]] w fun e w' => e = .returned (errV (M.faultN n s)) ∧ Below w.heap.size w w' := by
  unfold M.faultN
  by_cases h1 : n < -1000000
  · rw [if_pos (Or.inl h1)]
    go_enter Tryz.func89, Tryz.ntmps89
    go_wp2
    go_ret
    exact ⟨rfl, (Below.refl _ _).alloc (Nat.le_refl _) _⟩
  · by_cases h2 : 1000000 < n
    · rw [if_pos (Or.inr h2)]
      go_enter Tryz.func89, Tryz.ntmps89
      go_wp2
      go_ret
      exact ⟨rfl, (Below.refl _ _).alloc (Nat.le_refl _) _⟩
    · rw [if_neg (by omega)]
      by_cases h3 : s.size = 0
      · rw [if_pos h3]; have := size0 h3; subst this; clear h3
        go_enter Tryz.func89, Tryz.ntmps89
        go_wp2
        go_ret
        exact ⟨rfl, (Below.refl _ _).alloc (Nat.le_refl _) _⟩
      · rw [if_neg h3]; obtain ⟨h4, h5⟩ := empty_of h3
        go_enter Tryz.func89, Tryz.ntmps89
        go_wp2
        go_ret
        exact ⟨rfl, (Below.refl _ _).alloc (Nat.le_refl _) _⟩

theorem checkAny (k n : Int) (s : ByteArray) (w : World) : Calls Tryz.prog 91 #[.agg #[.int .i64 k, .int .i64 n, .string s]] w fun e w' => e = .returned (errV (M.faultA n s)) ∧ Below w.heap.size w w' := by
  unfold M.faultA
  by_cases h1 : n = 0
  · subst h1
    by_cases h3 : s.size = 0
    · rw [if_pos ⟨rfl, h3⟩]; have := size0 h3; subst this; clear h3
      go_enter Tryz.func91, Tryz.ntmps91
      go_wp2
      go_ret
      exact ⟨rfl, (Below.refl _ _).alloc (Nat.le_refl _) _⟩
    · rw [if_neg (by omega)]; obtain ⟨h4, h5⟩ := empty_of h3
      go_enter Tryz.func91, Tryz.ntmps91
      go_wp2
      go_ret
      exact ⟨rfl, (Below.refl _ _).alloc (Nat.le_refl _) _⟩
  · rw [if_neg (by omega)]; have hb : (n != 0) = true := by simpa using h1
    go_enter Tryz.func91, Tryz.ntmps91
    go_wp2
    go_ret
    exact ⟨rfl, (Below.refl _ _).alloc (Nat.le_refl _) _⟩

theorem letter (c : UInt8) (w : World) : Calls Tryz.prog 99 #[.int .u8 c.toNat] w fun e w' => e = .returned (.bool (M.badC c)) ∧ w' = w := by
  by_cases h1 : (c.toNat : Int) < 97
  · have hc : M.badC c = true := by unfold M.badC; simp; omega
    rw [hc]; clear hc
    go_enter Tryz.func99, Tryz.ntmps99
    go_wp2
    go_ret
    exact ⟨rfl, rfl⟩
  · by_cases h2 : 122 < (c.toNat : Int)
    · have hc : M.badC c = true := by unfold M.badC; simp; omega
      rw [hc]; clear hc
      go_enter Tryz.func99, Tryz.ntmps99
      go_wp2
      go_ret
      exact ⟨rfl, rfl⟩
    · have hc : M.badC c = false := by unfold M.badC; simp; omega
      rw [hc]; clear hc
      go_enter Tryz.func99, Tryz.ntmps99
      go_wp2
      go_ret
      exact ⟨rfl, rfl⟩

theorem take_snoc (s : ByteArray) (k : Nat) (h : k < s.size) : s.data.toList.take (k + 1) = s.data.toList.take k ++ [s[k]] := by
  rw [List.take_succ_eq_append_getElem (by simpa using h)]; rfl

theorem anyByte (s : ByteArray) (w : World) (hs : s.size ≤ maxLen) : Calls Tryz.prog 98 #[.string s, .func (.func 99) #[] #[]] w fun e w' => e = .returned (.bool (M.bad s)) ∧ w' = w := by
  unfold maxLen at hs
  go_enter Tryz.func98, Tryz.ntmps98
  go_wp2
  go_loop [5, 8] (fun _ c => ∃ k : Nat, k ≤ s.size ∧ c = .int .i64 k ∧ (s.data.toList.take k).any M.badC = false) (fun _ c => s.size - (intOf c).toNat)
  case atStart => exact ⟨0, Nat.zero_le _, rfl, rfl⟩
  case round =>
    obtain ⟨k, hk, rfl, hno⟩ := hrel
    have HN : Hid ((s.data.toList.take k).any M.badC = false) := hno
    clear hno
    by_cases hlt : k < s.size
    · have HS : Hid ((s.data.toList.take (k + 1)).any M.badC = M.badC s[k]) := by
        have h := HN.out
        show (s.data.toList.take (k + 1)).any M.badC = M.badC s[k]
        rw [take_snoc s k hlt, List.any_append, h]; simp
      cases hb : M.badC s[k]
      · have hl : ∀ w, Calls Tryz.prog 99 #[.int .u8 s[k].toNat] w fun e w' => e = .returned (.bool false) ∧ w' = w := fun w => by rw [← hb]; exact letter _ _
        have HL := hide hl
        clear hl
        go_wp2_with (go_at_call 99; refine (unhide HL _).mono ?_; rintro e w' ⟨rfl, rfl⟩)
        go_round
        case rel => exact ⟨k + 1, by omega, by go_num, by rw [HS.out]; exact hb⟩
        case measure => simp [intOf]; omega
      · have hl : ∀ w, Calls Tryz.prog 99 #[.int .u8 s[k].toNat] w fun e w' => e = .returned (.bool true) ∧ w' = w := fun w => by rw [← hb]; exact letter _ _
        have HL := hide hl
        clear hl
        have hfin : Hid (M.bad s = true) := by
          have h := HS.out
          rw [hb] at h
          show M.bad s = true
          unfold M.bad
          rw [← List.take_append_drop (k + 1) s.data.toList, List.any_append, h]; rfl
        go_wp2_with (go_at_call 99; refine (unhide HL _).mono ?_; rintro e w' ⟨rfl, rfl⟩)
        go_ret
        exact ⟨by rw [hfin.out]; rfl, rfl⟩
    · have hfin : Hid (M.bad s = false) := by
        have h := HN.out
        rwa [List.take_of_length_le (by simp; omega)] at h
      go_wp2
      go_ret
      exact ⟨by rw [hfin.out]; rfl, rfl⟩

end Go.Proofs.YtlefhfmckimlaaiGreatDoor
