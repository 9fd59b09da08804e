/-
  What the library's slices.Delete does with the first one of a row of the call's own, whatever its elements' cells: as one law of its call.
-/
import Derived.Test.YtlefhfmckimlaahDoorQueWalks
import Derived.Deep.RegionHeld3
import Derived.Deep.RegionLaw
import Derived.Deep.DrawnRows
import Derived.Deep.Draws
set_option linter.unusedVariables false
namespace Go.Proofs.YtlefhfmckimlaahDoor
open Go.RowKit
attribute [local go_sem ↓] Go.wp_at_zero Go.wp_at_succ

theorem win_block {w : World} {base g o n cap k : Nat} {e : TypeId} {xs : List Value} (h : winRow w base e k (.slice (some ⟨g, o, none⟩) n cap) n xs) :
    base ≤ g ∧ n ≤ cap ∧ cap ≤ maxLen ∧ ∃ cur, w.heap[g]? = some (.cells cur e (0, 0)) ∧ o + cap * k ≤ cur.size ∧ ∀ j, j < n * k → cur[o + j]? = xs[j]? := by
  rcases h.2 with ⟨hv, _⟩ | ⟨g', o', cap', cur, hv, hg, hh, hn, hm, hs, hx⟩
  · simp at hv
  · simp only [Value.slice.injEq, Option.some.injEq, Addr.mk.injEq, and_true, true_and] at hv
    obtain ⟨⟨rfl, rfl⟩, rfl⟩ := hv
    exact ⟨hg, hn, hm, cur, hh, hs, hx⟩

/-- the rest is moved to the front -/
theorem append_front {P : Program} {w : World} {base g o n cap k : Nat} {e t : TypeId} {i : TypeInfo} {xs : List Value} (ht : P.underlying t = some (.slice e)) (hi : P.info? e = some i) (hk : i.size = k) (h : winRow w base e k (.slice (some ⟨g, o, none⟩) (n + 1) cap) (n + 1) xs) (h1 : ∀ u ∈ xs, u.oneCell' = true) (x : Value) (hx : x = .slice (some ⟨g, o + k, none⟩) n (cap - 1) ∨ (n = 0 ∧ ∃ a c, x = .slice a 0 c)) (ty : TypeId) :
    (Builtin.append_ #[t, t] ty #[.slice (some ⟨g, o, none⟩) 0 cap, x]).run P w = .ok (.slice (some ⟨g, o, none⟩) n cap) (w.setCells g o (xs.drop k)) := by
  obtain ⟨_, hn, _, cur, hh, hs, hc⟩ := win_block h
  have hl := h.1
  rw [Nat.add_mul, Nat.one_mul] at hl
  have hcap : (n + 1) * k ≤ cap * k := Nat.mul_le_mul_right _ hn
  rw [Nat.add_mul, Nat.one_mul] at hcap
  subst hk
  have hs : Src P i.size t x n (xs.drop i.size) w := by
    rcases hx with hx | ⟨h0, a, c, hx⟩
    · rw [hx]
      refine Src.ofSlice w ht ⟨g, o + i.size, none⟩ n (cap - 1) (xs.drop i.size) (by rw [List.length_drop]; omega) (fun j u hu => ?_) (fun u hu => h1 u (List.mem_of_mem_drop hu))
      have hj : j < n * i.size := by
        have := (List.getElem?_eq_some_iff.1 hu).1
        rw [List.length_drop] at this
        omega
      rw [WideShapes.add_plain, cell_of_row w g _ cur e (0, 0) hh, ← hu, List.getElem?_drop, ← hc (i.size + j) (by rw [Nat.add_mul]; omega)]
      congr 1
      omega
    · subst h0
      rw [hx]
      have hd : xs.drop i.size = [] := List.eq_nil_of_length_eq_zero (by rw [List.length_drop]; omega)
      rw [hd]
      cases a with
      | none => exact Src.ofNil w ht c
      | some a => exact Src.ofSlice w ht a 0 c [] (by simp) (fun j u hu => by simp at hu) (fun u hu => by cases hu)
  have hdl : (xs.drop i.size).length = n * i.size := by rw [List.length_drop]; omega
  have := run_append_room_src (P := P) w t t ty e i ht hi g o 0 cap x n (xs.drop i.size) hs (by omega) (fun j hj => by
    rw [cell_of_row w g _ cur e (0, 0) hh, Array.getElem?_eq_getElem (by omega)]; rfl) (fun j _ => frozen_of_row w g _ cur e hh)
  simpa using this

/-- the built-in clear on what lies behind -/
theorem clear_behind {P : Program} {w : World} {g o n k c : Nat} {e t : TypeId} {z : Value} {cur : Array Value} (ht : P.underlying t = some (.slice e)) (hz : ∀ w, (zeroValue e).run P w = .ok z w) (hk : z.cells.size = k) (hk0 : 0 < k) (h1 : ∀ j, j < k → (z.cells[j]!).oneCell' = true) (hh : w.heap[g]? = some (.cells cur e (0, 0))) (hs : o + n * k ≤ cur.size) :
    ∀ ty, (Builtin.clear_ #[t] ty #[.slice (some ⟨g, o, none⟩) n c]).run P w = .ok (.tuple #[]) (w.setCells g o (Builtin.zeroCells z.cells n).toList) := fun ty => by
  have hlen : (Builtin.zeroCells z.cells n).toList.length = n * k := by simp [Builtin.zeroCells, hk]
  have hst := run_storeCells_cells (P := P) g o (Builtin.zeroCells z.cells n).toList 0 w
    (fun j hj => by
      rw [hlen] at hj
      rw [Nat.add_zero, cell_of_row w g _ cur e (0, 0) hh, Array.getElem?_eq_getElem (by omega)]; rfl)
    (fun j hj => frozen_of_row w g _ cur e hh)
    (fun v hv => by
      simp only [Builtin.zeroCells, Array.toList_map, List.mem_map] at hv
      obtain ⟨j, _, rfl⟩ := hv
      rw [hk]
      exact h1 _ (Nat.mod_lt _ hk0))
  simp only [Nat.add_zero] at hst
  cases n with
  | zero => simp [Builtin.clear_, run_underlying ht, Builtin.zeroCells, World.setCells]
  | succ m => simp [Builtin.clear_, run_underlying ht, hz, hst]

/-- the row behind both -/
theorem front_row {w : World} {base g o n cap k : Nat} {e : TypeId} {xs zs : List Value} (h : winRow w base e k (.slice (some ⟨g, o, none⟩) (n + 1) cap) (n + 1) xs) (hz : zs.length = k) :
    winRow ((w.setCells g o (xs.drop k)).setCells g (o + n * k) zs) base e k (.slice (some ⟨g, o, none⟩) n cap) n (xs.drop k) ∧ w.grownBy ((w.setCells g o (xs.drop k)).setCells g (o + n * k) zs) (some g) ∧ ∃ cur, (w.setCells g o (xs.drop k)).heap[g]? = some (.cells cur e (0, 0)) ∧ o + n * k + k ≤ cur.size := by
  obtain ⟨hb, hn, hm, cur, hh, hs, hc⟩ := win_block h
  have hl := h.1
  rw [Nat.add_mul, Nat.one_mul] at hl
  have hcap : (n + 1) * k ≤ cap * k := Nat.mul_le_mul_right _ hn
  rw [Nat.add_mul, Nat.one_mul] at hcap
  have hdl : (xs.drop k).length = n * k := by rw [List.length_drop]; omega
  obtain ⟨c1, a1, a2, a3, a4, a5⟩ := setCells_block (xs.drop k) o hh (by omega)
  obtain ⟨c2, d1, d2, d3, d4, d5⟩ := setCells_block zs (o + n * k) a1 (by omega)
  refine ⟨⟨hdl, Or.inr ⟨g, o, cap, c2, rfl, hb, d1, by omega, hm, by omega, fun j hj => ?_⟩⟩, ⟨d5.os.trans a5.os, d5.tape.trans a5.tape, d5.output.trans a5.output, Nat.le_trans a5.size d5.size, fun i hi hne => (d5.block i (Nat.lt_of_lt_of_le hi a5.size) hne).trans (a5.block i hi hne)⟩, c1, a1, by omega⟩
  rw [d4 _ (Or.inl (by omega)), a3 j (by omega)]

/-- an append whose run is known, as one step of a region that draws its order -/
theorem step_append_run {P : Program} {w w' : World} {ops : Array Oper} {o : Oper} {a : Act} {K : Act → World → Prop} {Q : Exit → Act → World → Prop} {E : Prop} (hgd : o.guard = none) (s x : Operand) (t : TypeId)
    (ho : o.op = .call { callee := .builtin .append, args := #[s, x], argTypes := #[t, t] }) (v y v' : Value) (hs : a.eval s = v) (hx : a.eval x = y) (hr : ∀ ty, (Builtin.append_ #[t, t] ty #[v, y]).run P w = .ok v' w') (h : K (a.put o.dst v') w') :
    if Region.wanted o (yielded ops a.tmps) = true then Oper.wp P o a w K Q else E := by
  have hw : Region.wanted o (yielded ops a.tmps) = true := by simp [Region.wanted, hgd]
  rw [if_pos hw]
  unfold Oper.wp execOp
  simp only [ho, resolve, invoke, builtin, Sem.run_bind, Sem.run_pure, Result.andThen_ok, List.map_toArray, List.map_cons, List.map_nil, hs, hx, hr]
  exact h

theorem zeroA (w : World) : (zeroValue 41).run Tryd.prog w = .ok (.agg #[.int .i64 0, .int .i64 0, .int .i64 0, .slice none 0 0]) w := by kernel_rfl
theorem infoA' : ∃ i, Tryd.prog.info? 41 = some i ∧ i.size = 4 := by
  obtain ⟨i, h1, h2⟩ := Option.map_eq_some_iff.1 (show (Tryd.prog.info? 41).map (fun i => i.size) = some 4 by kernel_rfl)
  exact ⟨i, h1, h2⟩

theorem zsA : (Builtin.zeroCells (Value.agg #[.int .i64 0, .int .i64 0, .int .i64 0, .slice none 0 0]).cells 1).toList.length = 4 := by
  simp only [Builtin.zeroCells, Array.toList_map, List.length_map]
  rfl
theorem oneA : ∀ j, j < 4 → ((Value.agg #[.int .i64 0, .int .i64 0, .int .i64 0, .slice none 0 0]).cells[j]!).oneCell' = true := fun j hj => by
  match j, hj with
  | 0, _ => rfl
  | 1, _ => rfl
  | 2, _ => rfl
  | 3, _ => rfl

set_option maxRecDepth 100000 in
theorem qdel {base g o n cap : Nat} {xs : List Value} {w : World} (h : winRow w base 41 4 (.slice (some ⟨g, o, none⟩) (n + 1) cap) (n + 1) xs) (h1 : ∀ u ∈ xs, u.oneCell' = true) (hn : n < 1000) :
    Calls Tryd.prog 25 #[.slice (some ⟨g, o, none⟩) (n + 1) cap, .int .i64 0, .int .i64 1] w fun e w' => e = .returned (.slice (some ⟨g, o, none⟩) n cap) ∧ winRow w' base 41 4 (.slice (some ⟨g, o, none⟩) n cap) n (xs.drop 4) ∧ w.grownBy w' (some g) := by
  obtain ⟨_, hcn, hcm, _⟩ := win_block h
  unfold maxLen at hcm
  have HH : Hid (winRow w.drew base 41 4 (.slice (some ⟨g, o, none⟩) (n + 1) cap) (n + 1) xs) := hide h
  obtain ⟨q1, q2, c1, q3, q4⟩ := front_row HH.out zsA
  have HR := hide q1
  have HG : Hid (w.grownBy ((w.drew.setCells g o (xs.drop 4)).setCells g (o + n * 4) (Builtin.zeroCells (Value.agg #[.int .i64 0, .int .i64 0, .int .i64 0, .slice none 0 0]).cells 1).toList) (some g)) := hide ⟨q2.os, q2.tape, q2.output, q2.size, q2.block⟩
  have hcl := clear_behind (P := Tryd.prog) (t := 34) (n := 1) (k := 4) (c := cap - n) Tryd.underlying34 zeroA rfl (by decide) oneA q3 (o := o + n * 4) (by omega)
  have hnn : ¬ cap = n := by omega
  have hle : (n : Int) ≤ (n : Int) + 1 := by omega
  have hlc : (n : Int) + 1 ≤ (cap : Int) := by omega
  have hq : (1 : Int) ≤ (n : Int) + 1 := by omega
  obtain ⟨i0, hi0, hs0⟩ := infoA'
  generalize (Builtin.zeroCells (Value.agg #[.int .i64 0, .int .i64 0, .int .i64 0, .slice none 0 0]).cells 1).toList = zs at *
  by_cases hc : cap = 1
  · subst hc
    have hn0 : n = 0 := by omega
    subst hn0
    simp only [Nat.zero_mul, Nat.add_zero, Nat.sub_zero] at hcl HR HG
    have HAP := hide (append_front (P := Tryd.prog) (t := 34) Tryd.underlying34 hi0 hs0 HH.out h1 (.slice (some ⟨g, o, none⟩) 0 0) (Or.inr ⟨rfl, _, _, rfl⟩))
    clear h hi0 hs0 q1 q2 q3 q4
    go_enter Tryd.func25, Tryd.ntmps25
    go_wp2
    go_region_law (refine step_append_run (by rfl) (.tmp 22) (.tmp 25) 34 (by rfl) (.slice (some ⟨g, o, none⟩) 0 1) (.slice (some ⟨g, o, none⟩) 0 0) (.slice (some ⟨g, o, none⟩) 0 1) (by simp [Act.eval, Act.put]) (by simp [Act.eval, Act.put]) HAP.out ?_)
    all_goals
      go_wp2
      go_ret
      exact ⟨rfl, HR.out, HG.out⟩
  · have HAP := hide (append_front (P := Tryd.prog) (t := 34) Tryd.underlying34 hi0 hs0 HH.out h1 (.slice (some ⟨g, o + 4, none⟩) n (cap - 1)) (Or.inl rfl))
    clear h hi0 hs0 q1 q2 q3 q4
    go_enter Tryd.func25, Tryd.ntmps25
    go_wp2
    go_region_law (refine step_append_run (by rfl) (.tmp 22) (.tmp 25) 34 (by rfl) (.slice (some ⟨g, o, none⟩) 0 cap) (.slice (some ⟨g, o + 4, none⟩) n (cap - 1)) (.slice (some ⟨g, o, none⟩) n cap) (by simp [Act.eval, Act.put]) (by simp [Act.eval, Act.put]) HAP.out ?_)
    all_goals
      go_wp2
      go_ret
      exact ⟨rfl, HR.out, HG.out⟩

end Go.Proofs.YtlefhfmckimlaahDoor
