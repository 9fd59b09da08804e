/-
  What New, ahead and Count of package lease do, the questions that its calls hand to the library's search, and that search: each as one law of its call.
-/
import Derived.Test.YtlefhfmckimlaacDoorLeMath
import Derived.Test.YtlefhfmckimlaacDoorStep
import Derived.Deep.RegionHeld3
import Derived.Deep.RegionLaw
import Derived.Deep.DrawnRows
import Derived.Deep.Draws
namespace Go.Proofs.YtlefhfmckimlaacDoor
open Go.RowKit
attribute [local go_sem ↓] Go.wp_at_zero Go.wp_at_succ

theorem lnew (w : World) : Calls Tryd.prog 20 #[] w fun e w' => e = .returned (.pointer (some ⟨w.heap.size, 0, none⟩)) ∧ w' = w.alloc (.cells #[.int .i64 0, .int .i64 0, .slice none 0 0] 75) := by
  go_enter Tryd.func20, Tryd.ntmps20
  go_wp2
  go_ret
  exact ⟨rfl, rfl⟩
theorem Ls.new (w : World) {base : Nat} (hb : base ≤ w.heap.size) : Ls base (w.alloc (.cells #[.int .i64 0, .int .i64 0, .slice none 0 0] 75)) w.heap.size 0 0 (.slice none 0 0) [] := ⟨hb, heap_alloc_new w _, Held.nil _ _⟩

theorem laheadAt (S : Nat) (tm u : Int) (w : World) (hc : w.cell? ⟨S, 0, none⟩ = some (.int .i64 tm)) :
    Calls Tryd.prog 42 #[.pointer (some ⟨S, 0, none⟩), .int .i64 u] w fun e w' => e = .returned (.bool (M.may tm u)) ∧ w' = w := by
  by_cases h1 : tm < u
  · by_cases h2 : u ≤ 10000
    · rw [may_yes h1 h2]
      go_enter Tryd.func42, Tryd.ntmps42
      go_wp2
      go_ret
      exact ⟨rfl, rfl⟩
    · rw [may_no (Or.inr (by omega))]
      go_enter Tryd.func42, Tryd.ntmps42
      go_wp2
      go_ret
      exact ⟨rfl, rfl⟩
  · rw [may_no (Or.inl (by omega))]
    go_enter Tryd.func42, Tryd.ntmps42
    go_wp2
    go_ret
    exact ⟨rfl, rfl⟩
theorem lahead (S : Nat) (tm u : Int) (w : World) (hc : w.cell? ⟨S, 0, none⟩ = some (.int .i64 tm)) :
    Calls Tryd.prog 42 #[.pointer (some ⟨S, 0, none⟩), .int .i64 u] w fun e w' => e = .returned (.bool (M.may tm u)) ∧ Below w.heap.size w w' :=
  (laheadAt S tm u w hc).mono fun _ _ ⟨h1, h2⟩ => ⟨h1, by rw [h2]; exact Below.refl _ _⟩

theorem lcount {base S : Nat} {tm gv : Int} {v : Value} {E : List Ent} {w : World} (h : Ls base w S tm gv v E) :
    Calls Tryd.prog 23 #[.pointer (some ⟨S, 0, none⟩)] w fun e w' => e = .returned (.int .i64 E.length) ∧ Below w.heap.size w w' := by
  obtain ⟨ao, cap, rfl⟩ := h.shape
  have c2 := h.c2
  obtain ⟨n, hn⟩ : ∃ n, n = E.length := ⟨_, rfl⟩
  rw [← hn] at c2 ⊢
  clear h hn
  go_enter Tryd.func23, Tryd.ntmps23
  go_wp2
  go_ret
  exact ⟨rfl, Below.refl _ _⟩

theorem isNumb (B : Nat) (i u id : Int) (a : Option Addr) (n c : Nat) (w : World) (hB : w.cell? ⟨B, 0, none⟩ = some (.int .i64 id)) :
    Calls Tryd.prog 48 #[.agg #[.int .i64 i, .int .i64 u, .slice a n c], .pointer (some ⟨B, 0, none⟩)] w fun e w' => e = .returned (.bool (i == id)) ∧ Below w.heap.size w w' := by
  have hBl : B < w.heap.size := World.block_lt_of_cell? w _ hB
  go_enter Tryd.func48, Tryd.ntmps48
  go_wp2
  go_ret
  exact ⟨rfl, (Below.refl _ _).alloc (Nat.le_refl _) _⟩

theorem isOver (B : Nat) (i u tm : Int) (a : Option Addr) (n c : Nat) (w : World) (hB : w.cell? ⟨B, 0, none⟩ = some (.int .i64 tm)) :
    Calls Tryd.prog 44 #[.agg #[.int .i64 i, .int .i64 u, .slice a n c], .pointer (some ⟨B, 0, none⟩)] w fun e w' => e = .returned (.bool (decide (u ≤ tm))) ∧ Below w.heap.size w w' := by
  have hBl : B < w.heap.size := World.block_lt_of_cell? w _ hB
  by_cases h : u ≤ tm
  · rw [decide_eq_true h]
    go_enter Tryd.func44, Tryd.ntmps44
    go_wp2
    go_ret
    exact ⟨rfl, (Below.refl _ _).alloc (Nat.le_refl _) _⟩
  · rw [decide_eq_false h]
    go_enter Tryd.func44, Tryd.ntmps44
    go_wp2
    go_ret
    exact ⟨rfl, (Below.refl _ _).alloc (Nat.le_refl _) _⟩

theorem lindex_nil (ao : Option Addr) (cap : Nat) (f : Value) (w : World) :
    Calls Tryd.prog 47 #[.slice ao 0 cap, f] w fun e w' => e = .returned (.int .i64 (-1)) ∧ Below w.heap.size w w' := by
  go_enter Tryd.func47, Tryd.ntmps47
  go_wp2
  go_loopw [8] (fun i wr => i = .int .i64 0 ∧ wr = w) (fun _ _ => 0)
  case atStart => exact ⟨rfl, rfl⟩
  case round =>
    obtain ⟨rfl, rfl⟩ := hrel
    go_wp2
    go_ret
    exact ⟨rfl, Below.refl _ _⟩

theorem below_drewN {B : Nat} {a w : World} (h : Below B a w) (n : Nat) : Below B a (w.drewN n) := ⟨h.os, h.tape, h.output, h.size, h.block⟩
/-- what is asked of the question that is handed in: it answers p of each that is held, whatever new memory there is -/
def Asks (g B : Nat) (p : Ent → Bool) (E : List Ent) (w : World) : Prop := ∀ wr, Below w.heap.size w wr → ∀ k (hk : k < E.length), Calls Tryd.prog g #[.agg #[.int .i64 E[k].i, .int .i64 E[k].u, .slice E[k].a E[k].n E[k].c], .pointer (some ⟨B, 0, none⟩)] wr fun e w' => e = .returned (.bool (p E[k])) ∧ Below wr.heap.size wr w'

theorem ownsRow_below {w w' : World} {base k n : Nat} {e : TypeId} {v : Value} {xs : List Value} (h : w.ownsRow base e k v n xs) (hb : Below w.heap.size w w') : w'.ownsRow base e k v n xs := by
  refine ⟨h.1, ?_⟩
  rcases h.2 with h3 | ⟨g, cap, cur, hv, hg, hh, r⟩
  · exact Or.inl h3
  · exact Or.inr ⟨g, cap, cur, hv, hg, (hb.block g (heap_lt hh)).trans hh, r⟩

theorem lindex_many (g B base b n cap : Nat) (p : Ent → Bool) (E : List Ent) (w : World) (eg : ∀ args w, (callFunc g args).run Tryd.prog w = .ok (.enter g args) w) (hn : n = E.length) (h20 : n ≤ 20) (hrow : w.ownsRow base 78 3 (.slice (some ⟨b, 0, none⟩) n cap) n (cellsE E)) (hp : Asks g B p E w) :
    Calls Tryd.prog 47 #[.slice (some ⟨b, 0, none⟩) n cap, .func (.func g) #[] #[.pointer (some ⟨B, 0, none⟩)]] w fun e w' => e = .returned (.int .i64 (M.where p E)) ∧ Below w.heap.size w w' := by
  have HR := hide hrow
  have HP := hide hp
  have HN := hide hn
  clear hn hrow hp
  go_enter Tryd.func47, Tryd.ntmps47
  go_wp2
  go_loopw [8] (fun i wr => ∃ k : Nat, k ≤ n ∧ i = .int .i64 k ∧ Hid (∀ j (hj : j < k) (hjl : j < E.length), p E[j] = false) ∧ Hid (Below w.heap.size w wr)) (fun i _ => n - (intOf i).toNat)
  case atStart => exact ⟨0, Nat.zero_le _, rfl, hide (fun j hj => by omega), hide (Below.refl _ _)⟩
  case round =>
    obtain ⟨k, hk, rfl, hno, hbel⟩ := hrel
    by_cases hlt : k < n
    · have hkl : k < E.length := HN.out ▸ hlt
      have hC := HP.out wr hbel.out k hkl
      obtain ⟨a1, a2, a3⟩ := cellsE_at E k hkl
      have hro := ownsRow_below HR.out hbel.out
      have d1 : wr.cell? ⟨b, k * 3, none⟩ = some (.int .i64 E[k].i) := by rw [hro.cellAt _ (by omega)]; exact a1
      have d2 : wr.cell? ⟨b, k * 3 + 1, none⟩ = some (.int .i64 E[k].u) := by rw [hro.cellAt _ (by omega)]; exact a2
      have d3 : wr.cell? ⟨b, k * 3 + 2, none⟩ = some (.slice E[k].a E[k].n E[k].c) := by rw [hro.cellAt _ (by omega)]; exact a3
      clear a1 a2 a3 hro
      cases hb : p E[k]
      · rw [hb] at hC
        have HB := hide hb
        clear hb
        generalize E[k].i = xi at *
        generalize E[k].u = xu at *
        generalize E[k].a = xa at *
        generalize E[k].n = xn at *
        generalize E[k].c = xc at *
        go_wp2_with (go_at_fn g; refine hC.mono ?_; rintro e w1 ⟨rfl, hb1⟩)
        go_roundw
        case rel =>
          refine ⟨k + 1, by omega, by go_num, hide (fun j hj hjl => ?_), hide (hbel.out.trans (hb1.mono hbel.out.size))⟩
          rcases Nat.lt_succ_iff_lt_or_eq.1 hj with h | h
          · exact hno.out j h hjl
          · subst h; exact HB.out
        case measure => simp [intOf]; omega
      · rw [hb] at hC
        have hsp : E.findIdx p = k := findIdx_hit hkl (fun j hj => hno.out j hj (by omega)) hb
        have hfin : Hid (M.where p E = (k : Int)) := hide (by rw [where_hit (by omega), hsp])
        clear hb hsp
        generalize E[k].i = xi at *
        generalize E[k].u = xu at *
        generalize E[k].a = xa at *
        generalize E[k].n = xn at *
        generalize E[k].c = xc at *
        go_wp2_with (go_at_fn g; refine hC.mono ?_; rintro e w1 ⟨rfl, hb1⟩)
        go_ret
        exact ⟨by rw [hfin.out]; rfl, hbel.out.trans (hb1.mono hbel.out.size)⟩
    · have hsp : E.findIdx p = E.length := findIdx_miss (fun j hj => hno.out j (by have := HN.out; omega) hj)
      have hfin : Hid (M.where p E = -1) := hide (where_miss (by omega))
      clear hsp
      go_wp2
      go_ret
      exact ⟨by rw [hfin.out]; rfl, hbel.out⟩

theorem lindex (g B base : Nat) (p : Ent → Bool) (v : Value) (E : List Ent) (w : World) (eg : ∀ args w, (callFunc g args).run Tryd.prog w = .ok (.enter g args) w) (h20 : E.length ≤ 20) (hrow : w.ownsRow base 78 3 v E.length (cellsE E)) (hp : Asks g B p E w) :
    Calls Tryd.prog 47 #[v, .func (.func g) #[] #[.pointer (some ⟨B, 0, none⟩)]] w fun e w' => e = .returned (.int .i64 (M.where p E)) ∧ Below w.heap.size w w' := by
  rcases hrow.2 with ⟨rfl, h0⟩ | ⟨b, cap, cur, rfl, _⟩
  · have hl := List.length_eq_zero_iff.1 h0
    subst hl
    exact lindex_nil none 0 _ w
  · exact lindex_many g B base b E.length cap p E w eg rfl h20 hrow hp

end Go.Proofs.YtlefhfmckimlaacDoor
