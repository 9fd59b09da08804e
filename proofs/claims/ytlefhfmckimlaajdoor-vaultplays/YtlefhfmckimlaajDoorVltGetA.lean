/-
  What package vault asks of shares: whether one cannot be of so many, whether a place is there already; the library's search with whatever question.
-/
import Derived.Test.YtlefhfmckimlaajDoorJ17A
import Derived.Test.YtlefhfmckimlaajDoorModWalks
import Derived.Deep.RegionHeld3
import Derived.Deep.QuietTactic
set_option linter.unusedVariables false
namespace Go.Proofs.YtlefhfmckimlaajDoor
open Go.RowKit

/-- what is asked of a question that is handed in: it answers q of each, whatever new memory there is -/
def AsksP (g B : Nat) (q : Int × Int → Bool) (w : World) : Prop := ∀ wr, Below w.heap.size w wr → ∀ u v : Int, Calls Tryd.prog g #[.agg #[.int .i64 u, .int .i64 v], .pointer (some ⟨B, 0, none⟩)] wr fun e w' => e = .returned (.bool (q (u, v))) ∧ Below wr.heap.size wr w'
theorem any_take {α : Type} {q : α → Bool} {l : List α} {k : Nat} (h : k < l.length) : (l.take (k + 1)).any q = ((l.take k).any q || q l[k]) := by
  rw [List.take_succ_eq_append_getElem h, List.any_append]; simp
theorem any_mono {α : Type} {q : α → Bool} {l : List α} {k : Nat} (h : (l.take k).any q = true) : l.any q = true := by
  rw [List.any_eq_true] at h ⊢
  obtain ⟨x, hx, hq⟩ := h
  exact ⟨x, List.mem_of_mem_take hx, hq⟩
theorem findP (g B : Nat) (q : Int × Int → Bool) (a : Option Addr) (n cap : Nat) (l : List (Int × Int)) (w : World) (eg : ∀ args w, (callFunc g args).run Tryd.prog w = .ok (.enter g args) w) (hn : n = l.length) (hm : n ≤ 1000) (hl : AtP w a l) (hq : AsksP g B q w) :
    Calls Tryd.prog 45 #[.slice a n cap, .func (.func g) #[] #[.pointer (some ⟨B, 0, none⟩)]] w fun e w' => (∃ r, e = .returned (.int .i64 r) ∧ decide (0 ≤ r) = l.any q) ∧ Below w.heap.size w w' := by
  have HL := hide hl
  have HP := hide hq
  have HN := hide hn
  clear hn hl hq
  go_enter Tryd.func45, Tryd.ntmps45
  go_wp2
  go_loopw [8] (fun s wr => ∃ k : Nat, k ≤ n ∧ s = .int .i64 k ∧ Hid ((l.take k).any q = false) ∧ Hid (Below w.heap.size w wr)) (fun s _ => n - (intOf s).toNat)
  case atStart => exact ⟨0, Nat.zero_le _, rfl, hide (by simp), hide (Below.refl _ _)⟩
  case round =>
    obtain ⟨k, hk, rfl, hno, hbel⟩ := hrel
    by_cases hlt : k < n
    · have hkl : k < l.length := HN.out ▸ hlt
      obtain ⟨b, off, rfl, hlie⟩ := HL.out (by omega)
      obtain ⟨c1, c2⟩ := (hlie.stays hbel.out (Nat.le_refl _)) k hkl
      have hC := HP.out wr hbel.out l[k].1 l[k].2
      have HS := hide (any_take (q := q) hkl)
      have e : (l[k].1, l[k].2) = l[k] := rfl
      rw [e] at hC
      cases hb : q l[k]
      · rw [hb] at hC
        have HX : Hid ((l.take (k + 1)).any q = false) := hide (by rw [HS.out, hno.out, hb]; rfl)
        generalize l[k].1 = u at *
        generalize l[k].2 = v at *
        clear hb hlie e
        go_wp2_with (go_at_fn g; refine hC.mono ?_; rintro e w1 ⟨rfl, hb1⟩)
        go_roundw
        case rel => exact ⟨k + 1, by omega, by go_num, HX, hide (hbel.out.trans (hb1.mono hbel.out.size))⟩
        case measure => simp [intOf]; omega
      · rw [hb] at hC
        have hfin : Hid (l.any q = true) := hide (any_mono (k := k + 1) (by rw [HS.out, hb]; simp))
        generalize l[k].1 = u at *
        generalize l[k].2 = v at *
        clear hb hlie e
        go_wp2_with (go_at_fn g; refine hC.mono ?_; rintro e w1 ⟨rfl, hb1⟩)
        go_ret
        exact ⟨⟨_, rfl, by rw [hfin.out]; simp⟩, hbel.out.trans (hb1.mono hbel.out.size)⟩
    · have hfin : Hid (l.any q = false) := hide (by have := hno.out; rwa [List.take_of_length_le (by have := HN.out; omega)] at this)
      go_wp2
      go_ret
      exact ⟨⟨_, rfl, by rw [hfin.out]; decide⟩, hbel.out⟩
theorem anyP (g B : Nat) (q : Int × Int → Bool) (a : Option Addr) (n cap : Nat) (l : List (Int × Int)) (w : World) (eg : ∀ args w, (callFunc g args).run Tryd.prog w = .ok (.enter g args) w) (hn : n = l.length) (hm : n ≤ 1000) (hl : AtP w a l) (hq : AsksP g B q w) :
    Calls Tryd.prog 26 #[.slice a n cap, .func (.func g) #[] #[.pointer (some ⟨B, 0, none⟩)]] w fun e w' => e = .returned (.bool (l.any q)) ∧ Below w.heap.size w w' := by
  have HI := hide (findP g B q a n cap l w eg hn hm hl hq)
  clear hl hq hn
  go_enter Tryd.func26, Tryd.ntmps26
  go_wp2_with fail
  refine (unhide HI).mono ?_
  rintro e w1 ⟨⟨r, rfl, hr⟩, hb1⟩
  have HR := hide hr
  clear hr
  go_wp2_with fail
  go_ret
  exact ⟨by rw [← HR.out]; rfl, hb1⟩

theorem isSame (B : Nat) (u v x : Int) (w : World) (hB : w.cell? ⟨B, 0, none⟩ = some (.int .i64 x)) :
    Calls Tryd.prog 68 #[.agg #[.int .i64 u, .int .i64 v], .pointer (some ⟨B, 0, none⟩)] w fun e w' => e = .returned (.bool (u == x)) ∧ Below w.heap.size w w' := by
  have hBl : B < w.heap.size := World.block_lt_of_cell? w _ hB
  go_enter Tryd.func68, Tryd.ntmps68
  go_wp2
  go_ret
  exact ⟨rfl, (Below.refl _ _).alloc (Nat.le_refl _) _⟩
/-- is one of them at this place? -/
theorem vHas (ga : Option Addr) (gn gc : Nat) (G : List (Int × Int)) (x : Int) (w : World) (hn : gn = G.length) (hm : gn ≤ 1000) (hG : AtP w ga G) :
    Calls Tryd.prog 48 #[.slice ga gn gc, .int .i64 x] w fun e w' => e = .returned (.bool (M.hasB G x)) ∧ Below w.heap.size w w' := by
  have HB1 : Hid (Below w.heap.size w (w.alloc (.cells #[.int .i64 x] 3))) := hide ((Below.refl _ _).alloc (Nat.le_refl _) _)
  have HC : Hid (Calls Tryd.prog 26 #[.slice ga gn gc, .func (.func 68) #[] #[.pointer (some ⟨w.heap.size, 0, none⟩)]] (w.alloc (.cells #[.int .i64 x] 3)) fun e w' => e = .returned (.bool (M.hasB G x)) ∧ Below w.heap.size w w') := hide (by
    have hc : (w.alloc (.cells #[.int .i64 x] 3)).cell? ⟨w.heap.size, 0, none⟩ = some (.int .i64 x) := by simp [go_sem]
    refine (anyP 68 w.heap.size (fun q => q.1 == x) ga gn gc G _ (enters_of Tryd.func68 (by kernel_rfl) rfl) hn hm (hG.stays HB1.out (Nat.le_refl _)) (fun wr hb u y => isSame w.heap.size u y x wr ((hb.cell (p := ⟨w.heap.size, 0, none⟩) (World.block_lt_of_cell? _ _ hc)).trans hc))).mono ?_
    rintro e w' ⟨rfl, hb⟩
    exact ⟨rfl, HB1.out.trans (hb.mono HB1.out.size)⟩)
  clear hn hG
  go_enter Tryd.func48, Tryd.ntmps48
  go_wp2_with fail
  refine (unhide HC).mono ?_
  rintro e w1 ⟨rfl, hb1⟩
  have HB2 := hide hb1
  clear hb1
  go_wp2_with fail
  go_ret
  exact ⟨rfl, HB2.out⟩
set_option maxRecDepth 100000 in
theorem isOut (B V many : Nat) (u v : Int) (w : World) (hB : w.cell? ⟨B, 0, none⟩ = some (.pointer (some ⟨V, 0, none⟩))) (hV : w.cell? ⟨V, 0, none⟩ = some (.int .i64 many)) :
    Calls Tryd.prog 27 #[.agg #[.int .i64 u, .int .i64 v], .pointer (some ⟨B, 0, none⟩)] w fun e w' => e = .returned (.bool (M.outB many (u, v))) ∧ Below w.heap.size w w' := by
  have hBl : B < w.heap.size := World.block_lt_of_cell? w _ hB
  have hVl : V < w.heap.size := World.block_lt_of_cell? w _ hV
  have HB : Hid (Below w.heap.size w (w.alloc (.cells #[.int .i64 u, .int .i64 v] 31))) := hide ((Below.refl _ _).alloc (Nat.le_refl _) _)
  have b0 : (w.alloc (.cells #[.int .i64 u, .int .i64 v] 31)).cell? ⟨B, 0, none⟩ = some (.pointer (some ⟨V, 0, none⟩)) := (HB.out.cell (p := ⟨B, 0, none⟩) hBl).trans hB
  have v0 : (w.alloc (.cells #[.int .i64 u, .int .i64 v] 31)).cell? ⟨V, 0, none⟩ = some (.int .i64 many) := (HB.out.cell (p := ⟨V, 0, none⟩) hVl).trans hV
  have HV0 := hide v0
  have HPL : Hid (∀ wx, wx.cell? ⟨V, 0, none⟩ = some (.int .i64 many) → Calls Tryd.prog 25 #[.pointer (some ⟨V, 0, none⟩), .int .i64 u] wx fun e w' => e = .returned (.bool (M.placeB many u)) ∧ w' = wx) := hide fun wx h => vPlace V many u wx h
  have HN : Hid (∀ wx, Calls Tryd.prog 28 #[.int .i64 v] wx fun e w' => e = .returned (.bool (M.inR v)) ∧ w' = wx) := hide fun wx => by
    cases hv : M.inR v
    · exact Md.isNo v wx (M.inR_no hv)
    · exact Md.isYes v wx (M.inR_yes hv).1 (M.inR_yes hv).2
  have x0 : (w.alloc (.cells #[.int .i64 u, .int .i64 v] 31)).cell? ⟨w.heap.size, 0, none⟩ = some (.int .i64 u) := by simp [go_sem]
  have x1 : (w.alloc (.cells #[.int .i64 u, .int .i64 v] 31)).cell? ⟨w.heap.size, 1, none⟩ = some (.int .i64 v) := by simp [go_sem]
  rw [M.outB_place]
  generalize M.inR v = b at *
  cases hp : M.placeB many u
  · rw [hp] at HPL
    clear hp
    go_enter Tryd.func27, Tryd.ntmps27
    go_wp2_with fail
    refine (HPL.out _ HV0.out).mono ?_
    rintro e w1 ⟨rfl, hw1⟩
    obtain rfl := hw1
    go_wp2_with fail
    go_ret
    exact ⟨rfl, HB.out⟩
  · rw [hp] at HPL
    clear hp
    go_enter Tryd.func27, Tryd.ntmps27
    go_wp2_with fail
    refine (HPL.out _ HV0.out).mono ?_
    rintro e w1 ⟨rfl, hw1⟩
    obtain rfl := hw1
    go_wp2_with fail
    refine (HN.out _).mono ?_
    rintro e w1 ⟨rfl, hw1⟩
    obtain rfl := hw1
    go_wp2_with fail
    go_ret
    exact ⟨rfl, HB.out⟩

end Go.Proofs.YtlefhfmckimlaajDoor
