/-
  What is wrong with what is asked by itself: what check of package queue does, and the numbers that package rule tells for it, each as one law of its call.
  The box that holds what is asked, while a call goes on. For any program.
  What fitting and oldest of package space do, with the library's search that they call: each as one law of its call.
-/
import Derived.Test.YtlefhfmckimlaajGreatDoorTupWalks
import Derived.Test.YtlefhfmckimlaajGreatDoorJ1A
import Derived.Test.YtlefhfmckimlaajGreatDoorJ20A
import Derived.Test.YtlefhfmckimlaajGreatDoorJ25A
set_option linter.unusedVariables false
namespace Go.Proofs.YtlefhfmckimlaajGreatDoor
open Go.RowKit

def M.isWho (x : Int) : Bool := decide (0 ≤ x) && decide (x ≤ 1000000)
theorem M.isWho_no {x : Int} (h : x < 0 ∨ 1000000 < x) : M.isWho x = false := by unfold M.isWho; simp; omega
theorem M.isWho_yes {x : Int} (h1 : 0 ≤ x) (h2 : x ≤ 1000000) : M.isWho x = true := by unfold M.isWho; simp; omega
theorem qIsWho (x : Int) (w : World) : Calls Tryz.prog 94 #[.int .i64 x] w fun e w' => e = .returned (.bool (M.isWho x)) ∧ w' = w := by
  by_cases h0 : 0 ≤ x
  · have HS : Hid (M.isWho x = decide (x ≤ 1000000)) := hide (by unfold M.isWho; simp [h0])
    go_enter Tryz.func94, Tryz.ntmps94
    go_wp2
    go_ret
    exact ⟨by rw [HS.out]; rfl, rfl⟩
  · have HS : Hid (M.isWho x = false) := hide (by unfold M.isWho; simp [h0])
    go_enter Tryz.func94, Tryz.ntmps94
    go_wp2
    go_ret
    exact ⟨by rw [HS.out]; rfl, rfl⟩
theorem isWho_no {x : Int} (h : x < 0 ∨ 1000000 < x) : Hid (∀ w, Calls Tryz.prog 94 #[.int .i64 x] w fun e w' => e = .returned (.bool false) ∧ w' = w) := hide fun w => by have := qIsWho x w; rwa [M.isWho_no h] at this
theorem isWho_yes {x : Int} (h1 : 0 ≤ x) (h2 : x ≤ 1000000) : Hid (∀ w, Calls Tryz.prog 94 #[.int .i64 x] w fun e w' => e = .returned (.bool true) ∧ w' = w) := hide fun w => by have := qIsWho x w; rwa [M.isWho_yes h1 h2] at this

def M.isDeed (x : Int) : Bool := decide (0 ≤ x) && decide (x ≤ 2)
theorem M.isDeed_no {x : Int} (h : x < 0 ∨ 2 < x) : M.isDeed x = false := by unfold M.isDeed; simp; omega
theorem M.isDeed_yes {x : Int} (h1 : 0 ≤ x) (h2 : x ≤ 2) : M.isDeed x = true := by unfold M.isDeed; simp; omega
theorem qIsDeed (x : Int) (w : World) : Calls Tryz.prog 95 #[.int .i64 x] w fun e w' => e = .returned (.bool (M.isDeed x)) ∧ w' = w := by
  by_cases h0 : 0 ≤ x
  · have HS : Hid (M.isDeed x = decide (x ≤ 2)) := hide (by unfold M.isDeed; simp [h0])
    go_enter Tryz.func95, Tryz.ntmps95
    go_wp2
    go_ret
    exact ⟨by rw [HS.out]; rfl, rfl⟩
  · have HS : Hid (M.isDeed x = false) := hide (by unfold M.isDeed; simp [h0])
    go_enter Tryz.func95, Tryz.ntmps95
    go_wp2
    go_ret
    exact ⟨by rw [HS.out]; rfl, rfl⟩
theorem isDeed_no {x : Int} (h : x < 0 ∨ 2 < x) : Hid (∀ w, Calls Tryz.prog 95 #[.int .i64 x] w fun e w' => e = .returned (.bool false) ∧ w' = w) := hide fun w => by have := qIsDeed x w; rwa [M.isDeed_no h] at this
theorem isDeed_yes {x : Int} (h1 : 0 ≤ x) (h2 : x ≤ 2) : Hid (∀ w, Calls Tryz.prog 95 #[.int .i64 x] w fun e w' => e = .returned (.bool true) ∧ w' = w) := hide fun w => by have := qIsDeed x w; rwa [M.isDeed_yes h1 h2] at this

/-- what is asked, as it is handed on -/
abbrev aggA (who seq deed : Int) (a : Option Addr) (n c : Nat) : Value := .agg #[.int .i64 who, .int .i64 seq, .int .i64 deed, .slice a n c]

theorem qcheck (who seq deed : Int) (a : Option Addr) (n c : Nat) (l : List M.Val) (w : World) (hv : IsVals w (.slice a n c) l) :
    Calls Tryz.prog 63 #[aggA who seq deed a n c] w fun e w' => e = .returned (errV (M.askF ⟨who, seq, deed, l⟩)) ∧ Below w.heap.size w w' := by
  have HA : Hid (∀ o, Below w.heap.size w (w.alloc o)) := hide fun o => (Below.refl _ _).alloc (Nat.le_refl _) o
  have HL : Hid (∀ wx, Below w.heap.size w wx → Calls Tryz.prog 48 #[.slice a n c] wx fun e w' => e = .returned (errV (M.likeF l)) ∧ Below wx.heap.size wx w') := hide fun wx hb => like _ l wx (hv.stays hb (Nat.le_refl _))
  have HT : Hid (∀ wx, Below w.heap.size w wx → Calls Tryz.prog 44 #[.slice a n c] wx fun e w' => e = .returned (errV (M.tupF l)) ∧ Below wx.heap.size wx w') := hide fun wx hb => tcheck _ l wx (hv.stays hb (Nat.le_refl _))
  clear hv
  by_cases hw : who < 0 ∨ 1000000 < who
  · have HW := isWho_no hw
    rw [M.askF_range (a := ⟨who, seq, deed, l⟩) (by show who < 0 ∨ 1000000 < who ∨ _; omega)]
    clear hw HL HT
    go_enter Tryz.func63, Tryz.ntmps63
    go_wp2_with fail
    refine (HW.out _).mono ?_
    rintro e w1 ⟨rfl, rfl⟩
    go_wp2_with fail
    go_ret
    exact ⟨rfl, HA.out _⟩
  · have HW := isWho_yes (x := who) (by omega) (by omega)
    by_cases hd : deed < 0 ∨ 2 < deed
    · rw [M.askF_range (a := ⟨who, seq, deed, l⟩) (by show who < 0 ∨ 1000000 < who ∨ deed < 0 ∨ 2 < deed; omega)]
      have HD := isDeed_no hd
      clear hw hd HL HT
      go_enter Tryz.func63, Tryz.ntmps63
      go_wp2_with fail
      refine (HW.out _).mono ?_
      rintro e w1 ⟨rfl, rfl⟩
      go_wp2_with fail
      refine (HD.out _).mono ?_
      rintro e w1 ⟨rfl, rfl⟩
      go_wp2_with fail
      go_ret
      exact ⟨rfl, HA.out _⟩
    · have hn : ¬ (who < 0 ∨ 1000000 < who ∨ deed < 0 ∨ 2 < deed) := by omega
      have HD := isDeed_yes (x := deed) (by omega) (by omega)
      by_cases h0 : deed = 0
      · rw [M.askF_put (a := ⟨who, seq, deed, l⟩) hn h0]
        generalize errV (M.tupF l) = E at HT ⊢
        subst h0
        clear hw hd hn HL
        go_enter Tryz.func63, Tryz.ntmps63
        go_wp2_with fail
        refine (HW.out _).mono ?_
        rintro e w1 ⟨rfl, rfl⟩
        go_wp2_with fail
        refine (HD.out _).mono ?_
        rintro e w1 ⟨rfl, rfl⟩
        go_wp2_with fail
        refine (HT.out _ (HA.out _)).mono ?_
        rintro e w2 ⟨rfl, hb2⟩
        go_wp2_with fail
        go_ret
        exact ⟨rfl, (HA.out _).trans (hb2.mono (by simp))⟩
      · rw [M.askF_else (a := ⟨who, seq, deed, l⟩) hn h0]
        have hb0 : (deed == 0) = false := by simpa using h0
        generalize errV (M.likeF l) = E at HL ⊢
        clear hw hd hn h0 HT
        go_enter Tryz.func63, Tryz.ntmps63
        go_wp2_with fail
        refine (HW.out _).mono ?_
        rintro e w1 ⟨rfl, rfl⟩
        go_wp2_with fail
        refine (HD.out _).mono ?_
        rintro e w1 ⟨rfl, rfl⟩
        go_wp2_with fail
        refine (HL.out _ (HA.out _)).mono ?_
        rintro e w2 ⟨rfl, hb2⟩
        go_wp2_with fail
        go_ret
        exact ⟨rfl, (HA.out _).trans (hb2.mono (by simp))⟩

end Go.Proofs.YtlefhfmckimlaajGreatDoor

set_option linter.unusedVariables false
namespace Go.Proofs.YtlefhfmckimlaajGreatDoor
open Go.RowKit

/-- the box that holds what is asked -/
def AskBox (w : World) (N : Nat) (who seq deed : Int) (a : Option Addr) (n c : Nat) : Prop := w.heap[N]? = some (.cells #[.int .i64 who, .int .i64 seq, .int .i64 deed, .slice a n c] 55 (0, 0))
section
variable {w w' : World} {N : Nat} {who seq deed : Int} {a : Option Addr} {n c : Nat}
theorem AskBox.new (hb : Below (w.alloc (.cells #[.int .i64 who, .int .i64 seq, .int .i64 deed, .slice a n c] 55)).heap.size (w.alloc (.cells #[.int .i64 who, .int .i64 seq, .int .i64 deed, .slice a n c] 55)) w') : AskBox w' w.heap.size who seq deed a n c :=
  (hb.block w.heap.size (by simp)).trans (heap_alloc_new w _)
theorem AskBox.below (h : AskBox w N who seq deed a n c) (hb : Below w.heap.size w w') : AskBox w' N who seq deed a n c := (hb.block N (heap_lt h)).trans h
theorem AskBox.cells (h : AskBox w N who seq deed a n c) : w.cell? ⟨N, 0, none⟩ = some (.int .i64 who) ∧ w.cell? ⟨N, 1, none⟩ = some (.int .i64 seq) ∧ w.cell? ⟨N, 2, none⟩ = some (.int .i64 deed) ∧ w.cell? ⟨N, 3, none⟩ = some (.slice a n c) ∧ N < w.heap.size := by
  refine ⟨?_, ?_, ?_, ?_, heap_lt h⟩
  · rw [cell_of_row w N 0 _ _ (0, 0) h]; rfl
  · rw [cell_of_row w N 1 _ _ (0, 0) h]; rfl
  · rw [cell_of_row w N 2 _ _ (0, 0) h]; rfl
  · rw [cell_of_row w N 3 _ _ (0, 0) h]; rfl
end

end Go.Proofs.YtlefhfmckimlaajGreatDoor

namespace Go.Proofs.YtlefhfmckimlaajGreatDoor
open Go.RowKit
attribute [local go_sem ↓] Go.wp_at_zero Go.wp_at_succ

/-- the answer of the search: where, or -1 -/
def M.place (a : List M.Val) (L : List (List M.Val)) : Int := if M.spot a L < L.length then M.spot a L else -1

theorem fitsOk (v1 v2 : Value) (a l : List M.Val) (w : World) (h1 : IsVals w v1 a) (h2 : IsVals w v2 l) (ha : M.likeF a = 0) (hl : M.tupF l = 0) :
    Calls Tryz.prog 109 #[v1, v2] w fun e w' => e = .returned (.tuple #[.bool (M.fitAll a l), .nilIface]) ∧ Below w.heap.size w w' := by
  have := tfits v1 v2 a l w h1 h2
  have e1 : M.both (M.likeF a) (M.tupF l) = 0 := by rw [ha, hl]; rfl
  have e2 : M.fitsB a l = M.fitAll a l := by unfold M.fitsB; rw [e1]; rfl
  rwa [e1, e2] at this

theorem asks (B : Nat) (v t : Value) (a l : List M.Val) (w : World) (hB : w.cell? ⟨B, 0, none⟩ = some v) (hv : IsVals w v a) (ht : IsVals w t l) (ha : M.likeF a = 0) (hl : M.tupF l = 0) :
    Calls Tryz.prog 108 #[t, .pointer (some ⟨B, 0, none⟩)] w fun e w' => e = .returned (.bool (M.fitAll a l)) ∧ Below w.heap.size w w' := by
  have HF := hide (fitsOk v t a l w hv ht ha hl)
  clear hv ht ha hl
  cases hb : M.fitAll a l
  all_goals
    rw [hb] at HF
    clear hb
    go_enter Tryz.func108, Tryz.ntmps108
    go_wp2_with fail
    refine (unhide HF).mono ?_
    rintro e w1 ⟨rfl, hb1⟩
    go_wp2_with fail
    go_ret
    exact ⟨rfl, hb1⟩

theorem fitting (ao : Option Addr) (n cap : Nat) (w : World) : Calls Tryz.prog 78 #[.slice ao n cap] w fun e w' => e = .returned (.func (.func 108) #[] #[.pointer (some ⟨w.heap.size, 0, none⟩)]) ∧ w' = w.alloc (.cells #[.slice ao n cap] 33) := by
  go_enter Tryz.func78, Tryz.ntmps78
  go_wp2
  go_ret
  exact ⟨rfl, rfl⟩

theorem index_nil (ao : Option Addr) (cap : Nat) (f : Value) (w : World) :
    Calls Tryz.prog 77 #[.slice ao 0 cap, f] w fun e w' => e = .returned (.int .i64 (-1)) ∧ Below w.heap.size w w' := by
  go_enter Tryz.func77, Tryz.ntmps77
  go_wp2
  go_loopw [8] (fun i wr => i = .int .i64 0 ∧ wr = w) (fun _ _ => 0)
  case atStart => exact ⟨rfl, rfl⟩
  case round =>
    obtain ⟨rfl, rfl⟩ := hrel
    go_wp2
    go_ret
    exact ⟨rfl, Below.refl _ _⟩

theorem index_many (b off cap B : Nat) (v : Value) (a : List M.Val) (L : List (List M.Val)) (w : World) (h0 : 0 < L.length) (h20 : L.length ≤ 20) (hB : w.cell? ⟨B, 0, none⟩ = some v) (hBl : B < w.heap.size) (hv : IsVals w v a) (ha : M.likeF a = 0) (hl : LieT w b off L) (hL : ∀ t ∈ L, M.tupF t = 0) :
    Calls Tryz.prog 77 #[.slice (some ⟨b, off, none⟩) L.length cap, .func (.func 108) #[] #[.pointer (some ⟨B, 0, none⟩)]] w fun e w' => e = .returned (.int .i64 (M.place a L)) ∧ Below w.heap.size w w' := by
  have HK : Hid (∀ wr, Below w.heap.size w wr → ∀ k (hk : k < L.length), ∃ x, wr.cell? ⟨b, off + k, none⟩ = some x ∧ Calls Tryz.prog 108 #[x, .pointer (some ⟨B, 0, none⟩)] wr fun e w' => e = .returned (.bool (M.fitAll a L[k])) ∧ Below wr.heap.size wr w') := hide fun wr hb k hk => by
    obtain ⟨x, hx, hxv⟩ := (hl.stays h0 hb (Nat.le_refl _)) k hk
    exact ⟨x, hx, asks B v x a L[k] wr ((hb.cell (p := ⟨B, 0, none⟩) hBl).trans hB) (hv.stays hb (Nat.le_refl _)) hxv ha (hL _ (List.getElem_mem hk))⟩
  clear hB hBl hv ha hl hL
  obtain ⟨n, hn⟩ : ∃ n, n = L.length := ⟨_, rfl⟩
  rw [← hn] at h0 h20 ⊢
  have HN := hide hn
  clear hn
  go_enter Tryz.func77, Tryz.ntmps77
  go_wp2
  go_loopw [8] (fun i wr => ∃ k : Nat, k ≤ n ∧ i = .int .i64 k ∧ Hid (∀ j (hj : j < k) (hjl : j < L.length), M.fitAll a L[j] = false) ∧ Below w.heap.size w wr) (fun i _ => n - (intOf i).toNat)
  case atStart => exact ⟨0, Nat.zero_le _, rfl, hide (fun j hj => by omega), Below.refl _ _⟩
  case round =>
    obtain ⟨k, hk, rfl, hno, hbel⟩ := hrel
    by_cases hlt : k < n
    · have hkl : k < L.length := HN.out ▸ hlt
      obtain ⟨x, hx, hC⟩ := (unhide HK) wr hbel k hkl
      cases hb : M.fitAll a L[k]
      · rw [hb] at hC
        have HB := hide hb
        have HC := hide hC
        clear hb hC
        go_wp2_with fail
        refine (unhide HC).mono ?_
        rintro e w1 ⟨rfl, hb1⟩
        go_wp2_with fail
        go_roundw
        case rel =>
          refine ⟨k + 1, by omega, by go_num, hide (fun j hj hjl => ?_), hbel.trans (hb1.mono hbel.size)⟩
          rcases Nat.lt_succ_iff_lt_or_eq.1 hj with h | h
          · exact hno.out j h hjl
          · subst h; exact HB.out
        case measure => simp [intOf]; omega
      · rw [hb] at hC
        have HB := hide hb
        have HC := hide hC
        have hsp : M.spot a L = k := spot_hit hkl (fun j hj => hno.out j hj (by omega)) hb
        have hfin : Hid (M.place a L = (k : Int)) := hide (by unfold M.place; rw [hsp, if_pos hkl])
        clear hb hC hsp
        go_wp2_with fail
        refine (unhide HC).mono ?_
        rintro e w1 ⟨rfl, hb1⟩
        go_wp2_with fail
        go_ret
        exact ⟨by rw [hfin.out]; rfl, hbel.trans (hb1.mono hbel.size)⟩
    · have hsp : M.spot a L = L.length := spot_none (fun j hj => hno.out j (by have := HN.out; omega) hj)
      have hfin : Hid (M.place a L = -1) := hide (by unfold M.place; rw [hsp, if_neg (Nat.lt_irrefl _)])
      clear hsp
      go_wp2
      go_ret
      exact ⟨by rw [hfin.out]; rfl, hbel⟩

theorem index (B : Nat) (u v : Value) (a : List M.Val) (L : List (List M.Val)) (w : World) (hu : IsTups w u L) (h20 : L.length ≤ 20) (hB : w.cell? ⟨B, 0, none⟩ = some v) (hBl : B < w.heap.size) (hv : IsVals w v a) (ha : M.likeF a = 0) (hL : ∀ t ∈ L, M.tupF t = 0) :
    Calls Tryz.prog 77 #[u, .func (.func 108) #[] #[.pointer (some ⟨B, 0, none⟩)]] w fun e w' => e = .returned (.int .i64 (M.place a L)) ∧ Below w.heap.size w w' := by
  rcases Nat.eq_zero_or_pos L.length with h0 | h0
  · obtain ⟨ao, cap, rfl, _⟩ := hu.shape
    have hl := List.length_eq_zero_iff.1 h0
    subst hl
    exact index_nil ao cap _ w
  · obtain ⟨b, off, cap, rfl, _, _, hl⟩ := hu.some h0
    exact index_many b off cap B v a L w h0 h20 hB hBl hv ha hl hL

theorem oldest_bad (S : Nat) (v : Value) (a : List M.Val) (w : World) (hv : IsVals w v a) (ha : M.likeF a ≠ 0) :
    Calls Tryz.prog 46 #[.pointer (some ⟨S, 0, none⟩), v] w fun e w' => e = .returned (.tuple #[.int .i64 0, errV (M.likeF a)]) ∧ Below w.heap.size w w' := by
  have HC : Hid (Calls Tryz.prog 48 #[v] w fun e w' => e = .returned (.iface 66 (.int .i64 (M.likeF a))) ∧ Below w.heap.size w w') := hide (by rw [← errV_bad ha]; exact like v a w hv)
  have HF := hide ha
  clear ha hv
  go_enter Tryz.func46, Tryz.ntmps46
  go_wp2_with fail
  refine (unhide HC).mono ?_
  rintro e w1 ⟨rfl, hb1⟩
  go_wp2_with fail
  go_ret2
  exact ⟨by rw [errV_bad HF.out]; rfl, hb1⟩

set_option maxRecDepth 100000 in
theorem oldest_ok (S n cap m k : Nat) (ao ao2 : Option Addr) (a : List M.Val) (L : List (List M.Val)) (w : World) (hv : IsVals w (.slice ao2 m k) a) (ha : M.likeF a = 0) (hS : S < w.heap.size) (hc : w.cell? ⟨S, 0, none⟩ = some (.slice ao n cap)) (hu : IsTups w (.slice ao n cap) L) (hL : M.Fine L) :
    Calls Tryz.prog 46 #[.pointer (some ⟨S, 0, none⟩), .slice ao2 m k] w fun e w' => e = .returned (if M.spot a L < L.length then .tuple #[.int .i64 (M.spot a L), .nilIface] else .tuple #[.int .i64 0, errV 5]) ∧ Below w.heap.size w w' := by
  have HC : Hid (Calls Tryz.prog 48 #[.slice ao2 m k] w fun e w' => e = .returned .nilIface ∧ Below w.heap.size w w') := hide (by have := like _ a w hv; rwa [ha] at this)
  have HI : Hid (∀ w1 B, Below w.heap.size w w1 → w1.cell? ⟨B, 0, none⟩ = some (.slice ao2 m k) → B < w1.heap.size → Calls Tryz.prog 77 #[.slice ao n cap, .func (.func 108) #[] #[.pointer (some ⟨B, 0, none⟩)]] w1 fun e w' => e = .returned (.int .i64 (M.place a L)) ∧ Below w1.heap.size w1 w') := hide fun w1 B hb h1 h2 =>
    index B _ _ a L w1 (hu.stays hb (Nat.le_refl _)) hL.2 h1 h2 (hv.stays hb (Nat.le_refl _)) ha hL.1
  have HS := hide hS
  have HCe := hide hc
  clear hv ha hc hu hL
  by_cases hsp : M.spot a L < L.length
  · rw [if_pos hsp]
    have hp : M.place a L = (M.spot a L : Int) := by unfold M.place; rw [if_pos hsp]
    rw [hp] at HI
    generalize M.spot a L = p at *
    have hn0 : ¬ (p : Int) < 0 := by omega
    clear hp hsp
    go_enter Tryz.func46, Tryz.ntmps46
    go_wp2_with fail
    refine (unhide HC).mono ?_
    rintro e w1 ⟨rfl, hb1⟩
    have c1 : w1.cell? ⟨S, 0, none⟩ = some (.slice ao n cap) := (hb1.cell (p := ⟨S, 0, none⟩) HS.out).trans HCe.out
    have s1 : S < w1.heap.size := Nat.lt_of_lt_of_le HS.out hb1.size
    have s2 : S < w1.heap.size + 1 := Nat.lt_succ_of_lt s1
    have HB1 := hide hb1
    have HW1 : Hid (Below w.heap.size w (w1.drew.alloc (.cells #[.slice ao2 m k] 33))) := hide (hb1.drew.alloc hb1.size _)
    have HW2 : Hid ((w1.drew.alloc (.cells #[.slice ao2 m k] 33)).cell? ⟨w1.heap.size, 0, none⟩ = some (.slice ao2 m k)) := hide ((cell_of_row (w1.drew.alloc (.cells #[.slice ao2 m k] 33)) w1.drew.heap.size 0 #[.slice ao2 m k] 33 (0, 0) (heap_alloc_new w1.drew _)).trans rfl)
    have HW3 : Hid (w1.heap.size < (w1.drew.alloc (.cells #[.slice ao2 m k] 33)).heap.size) := hide (heap_lt (heap_alloc_new w1.drew _))
    clear hb1
    go_wp2_with fail
    go_region_held3 (fun w' => w'.cell? ⟨S, 0, none⟩ = some (.slice ao n cap)) (go_keep)
      (first
        | (go_at_call 78; refine (fitting _ _ _ _).mono ?_; rintro e w2 ⟨rfl, rfl⟩)
        | (go_at_call 77; refine (unhide HI (w1.drew.alloc (.cells #[.slice ao2 m k] 33)) w1.heap.size HW1.out HW2.out HW3.out).mono ?_; rintro e w3 ⟨rfl, hb3⟩; obtain ⟨hc, hff⟩ := bcell hb3))
    go_wp2_with fail
    go_ret2
    exact ⟨rfl, HW1.out.trans (hb3.mono HW1.out.size)⟩
  · rw [if_neg hsp]
    have hp : M.place a L = -1 := by unfold M.place; rw [if_neg hsp]
    rw [hp] at HI
    clear hp hsp
    go_enter Tryz.func46, Tryz.ntmps46
    go_wp2_with fail
    refine (unhide HC).mono ?_
    rintro e w1 ⟨rfl, hb1⟩
    have c1 : w1.cell? ⟨S, 0, none⟩ = some (.slice ao n cap) := (hb1.cell (p := ⟨S, 0, none⟩) HS.out).trans HCe.out
    have s1 : S < w1.heap.size := Nat.lt_of_lt_of_le HS.out hb1.size
    have s2 : S < w1.heap.size + 1 := Nat.lt_succ_of_lt s1
    have HB1 := hide hb1
    have HW1 : Hid (Below w.heap.size w (w1.drew.alloc (.cells #[.slice ao2 m k] 33))) := hide (hb1.drew.alloc hb1.size _)
    have HW2 : Hid ((w1.drew.alloc (.cells #[.slice ao2 m k] 33)).cell? ⟨w1.heap.size, 0, none⟩ = some (.slice ao2 m k)) := hide ((cell_of_row (w1.drew.alloc (.cells #[.slice ao2 m k] 33)) w1.drew.heap.size 0 #[.slice ao2 m k] 33 (0, 0) (heap_alloc_new w1.drew _)).trans rfl)
    have HW3 : Hid (w1.heap.size < (w1.drew.alloc (.cells #[.slice ao2 m k] 33)).heap.size) := hide (heap_lt (heap_alloc_new w1.drew _))
    clear hb1
    go_wp2_with fail
    go_region_held3 (fun w' => w'.cell? ⟨S, 0, none⟩ = some (.slice ao n cap)) (go_keep)
      (first
        | (go_at_call 78; refine (fitting _ _ _ _).mono ?_; rintro e w2 ⟨rfl, rfl⟩)
        | (go_at_call 77; refine (unhide HI (w1.drew.alloc (.cells #[.slice ao2 m k] 33)) w1.heap.size HW1.out HW2.out HW3.out).mono ?_; rintro e w3 ⟨rfl, hb3⟩; obtain ⟨hc, hff⟩ := bcell hb3))
    go_wp2_with fail
    go_ret2
    exact ⟨rfl, HW1.out.trans (hb3.mono HW1.out.size)⟩

end Go.Proofs.YtlefhfmckimlaajGreatDoor
