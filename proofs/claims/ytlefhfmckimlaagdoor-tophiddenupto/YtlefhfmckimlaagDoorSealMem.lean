/-
  The bytes of a text as numbers; a row of slices that a call puts together itself, each of shares that lie elsewhere.
-/
import Derived.Test.YtlefhfmckimlaagDoorLists
import Derived.Test.YtlefhfmckimlaagDoorSealMath
import Derived.Laws.BytesArg
set_option linter.unusedVariables false
namespace Go.Proofs.YtlefhfmckimlaagDoor
open Go.RowKit

/-- the bytes of a text, as numbers -/
def bytesI (s : ByteArray) : List Int := s.data.toList.map fun u => (u.toNat : Int)
theorem bytesI_len (s : ByteArray) : (bytesI s).length = s.size := by unfold bytesI; rw [List.length_map, Array.length_toList]; rfl
theorem bytesI_at {s : ByteArray} {i : Nat} (h : i < s.size) : (bytesI s)[i]'(by rw [bytesI_len]; exact h) = (s[i].toNat : Int) := by
  unfold bytesI; rw [List.getElem_map, Array.getElem_toList]; rfl
theorem bytesI_range (s : ByteArray) : ∀ i (h : i < (bytesI s).length), 0 ≤ (bytesI s)[i] ∧ (bytesI s)[i] ≤ 255 := fun i h => by
  rw [bytesI_at (by rw [bytesI_len] at h; exact h)]
  have := s[i]'(by rw [bytesI_len] at h; exact h) |>.toNat_lt
  omega
theorem strOf_bytesI (s : ByteArray) : strOfNums (bytesI s) = s := by
  have e : (bytesI s).map (fun n => UInt8.ofNat n.toNat) = s.data.toList := by
    unfold bytesI
    rw [List.map_map]
    conv => rhs; rw [← List.map_id s.data.toList]
    refine List.map_congr_left fun u _ => ?_
    simp
  unfold strOfNums
  rw [e]

/-- the shares stay while one row of another kind is written -/
theorem IsP.kept {w w' : World} {v : Value} {l : List (Int × Int)} {g : Nat} (h : IsP w v l) (hg : w.grownBy w' (some g)) (hne : ∀ off z, w.cell? ⟨g, off, none⟩ ≠ some (.int .i64 z)) : IsP w' v l := by
  obtain ⟨a, n, cap, e, h1, h2, h3, h4⟩ := h
  refine ⟨a, n, cap, e, h1, h2, h3, fun h0 => ?_⟩
  obtain ⟨b, off, ea, hl⟩ := h4 h0
  have hb : b ≠ g := fun hbg => by
    have := (hl 0 h0).1
    rw [hbg] at this
    exact hne _ _ this
  refine ⟨b, off, ea, fun i hi => ?_⟩
  obtain ⟨c1, c2⟩ := hl i hi
  exact ⟨hg.cell c1 (fun e => hb (by cases e; rfl)), hg.cell c2 (fun e => hb (by cases e; rfl))⟩
/-- in a full row of slices no cell is a number -/
theorem row_no_int {w : World} {base g n : Nat} {e : TypeId} {xs : List Value} (h : w.ownsRow base e 1 (.slice (some ⟨g, 0, none⟩) n n) n xs) (hx : ∀ x ∈ xs, ∃ a m c, x = .slice a m c) : ∀ off z, w.cell? ⟨g, off, none⟩ ≠ some (.int .i64 z) := fun off z hc => by
  have hlen := h.1
  rcases h.2 with ⟨h', _⟩ | ⟨g', cap', cur, h', _, hg, _, _, hs, htake⟩
  · simp at h'
  · simp only [Value.slice.injEq, Option.some.injEq, Addr.mk.injEq, and_true, true_and] at h'
    obtain ⟨rfl, rfl⟩ := h'
    rw [cell_of_row w g off cur e (0, 0) hg] at hc
    have hm : Value.int .i64 z ∈ cur.toList := Array.mem_toList_iff.2 (Array.mem_of_getElem? hc)
    rw [List.take_of_length_le (by rw [Array.length_toList, hs]; exact Nat.le_refl _)] at htake
    rw [htake] at hm
    obtain ⟨a, m, c, hq⟩ := hx _ hm
    cases hq

/-- a row of slices half way: the first k have their shares, the others nothing -/
structure HalfS (w : World) (base g n k : Nat) (L : List (List (Int × Int))) (xs : List Value) : Prop where
  row : w.ownsRow base 45 1 (.slice (some ⟨g, 0, none⟩) n n) n xs
  sl : ∀ x ∈ xs, ∃ a m c, x = .slice a m c
  is : ∀ i (h1 : i < k) (h2 : i < xs.length) (h3 : i < L.length), IsP w xs[i] L[i]
theorem HalfS.stays {w w' : World} {base g n k : Nat} {L : List (List (Int × Int))} {xs : List Value} (h : HalfS w base g n k L xs) (hb : Below w.heap.size w w') : HalfS w' base g n k L xs :=
  ⟨row_stays h.row hb, h.sl, fun i h1 h2 h3 => firmP _ _ _ _ _ (h.is i h1 h2 h3) hb (Nat.le_refl _)⟩
theorem HalfS.next {w : World} {base g n k : Nat} {L : List (List (Int × Int))} {xs : List Value} {a : Option Addr} {m c : Nat} (h : HalfS w base g n k L xs) (hk : k < L.length) (hkx : k < xs.length) (hp : IsP w (.slice a m c) L[k]) :
    HalfS (w.setCell ⟨g, k, none⟩ (.slice a m c)) base g n (k + 1) L (xs.set k (.slice a m c)) := by
  obtain ⟨r1, r2⟩ := h.row.stored k (.slice a m c)
  have hno := row_no_int h.row h.sl
  refine ⟨r1, fun x hx => ?_, fun i h1 h2 h3 => ?_⟩
  · rcases List.mem_or_eq_of_mem_set hx with hx | hx
    · exact h.sl x hx
    · exact ⟨a, m, c, hx⟩
  · have h2' : i < xs.length := by rw [List.length_set] at h2; exact h2
    by_cases hik : i = k
    · subst hik
      rw [List.getElem_set_self]
      exact hp.kept r2 hno
    · rw [List.getElem_set_ne (by omega)]
      exact (h.is i (by omega) h2' h3).kept r2 hno
theorem HalfS.done {w : World} {base g n : Nat} {L : List (List (Int × Int))} {xs : List Value} (h : HalfS w base g n n L xs) (hn : L.length = n) : AtQ IsP w (some ⟨g, 0, none⟩) L := by
  have hx := h.row.1
  obtain ⟨a, cap, hv, _, _, hat⟩ := atQ_own (Q := IsP) (L := L) (hn ▸ h.row) (fun i h1 h2 => h.is i (by omega) h1 h2)
  cases hv
  exact hat
theorem infoS : (Tryd.prog.info? 45).map (fun i => (i.zero, i.size, i.bytes)) = some (some (.slice none 0 0), 1, 24) := by kernel_rfl

end Go.Proofs.YtlefhfmckimlaagDoor
