/-
  The state of a law that has one space, or two, and what each call makes of it; tuples that the law writes down.
-/
import Derived.Test.YtlefhfmckimlaacOncePut
namespace Go.Proofs.Ytlefhfmckimlaac
open Go.RowKit

theorem IsVals.form {w : World} {v : Value} {l : List M.Val} (h : IsVals w v l) : ∃ ao cap, v = .slice ao l.length cap ∧ l.length ≤ maxLen := by
  rcases h with ⟨h1, h2⟩ | ⟨a, cap, h1, h2⟩ | ⟨b, off, cap, h1, h2, h3, h4, h5⟩
  · subst h2; exact ⟨none, 0, h1, by simp⟩
  · subst h2; exact ⟨_, cap, h1, by simp⟩
  · exact ⟨_, cap, h2, by omega⟩

/-- what is written above w alone, and no block of values -/
def Hop (w wr w' : World) : Prop := Below w.heap.size wr w' ∧ Solid wr w'
/-- one space at S with the tuples L, of a law that came in with w -/
structure One (w wr : World) (S : Nat) (v : Value) (L : List (List M.Val)) : Prop where
  sp : Space w.heap.size wr S v L
  fine : M.Fine L
  bel : Below w.heap.size w wr

section
variable {w wr w1 : World} {S : Nat} {v v' x t : Value} {a l : List M.Val} {L L' : List (List M.Val)}
theorem Hop.firm (h : Hop w wr w1) (hx : Firm w.heap.size wr x a) : Firm w.heap.size w1 x a := hx.next h.1 h.2
theorem Hop.of_below (h : Below wr.heap.size wr w1) (hB : w.heap.size ≤ wr.heap.size) : Hop w wr w1 := ⟨h.mono hB, Solid.below h⟩
theorem One.quiet (h : One w wr S v L) (hb : Below wr.heap.size wr w1) : One w w1 S v L := ⟨Space.stays h.sp hb, h.fine, h.bel.trans (hb.mono h.bel.size)⟩
theorem One.on (h : One w wr S v L) (hs : Space w.heap.size w1 S v' L') (ht : Touch S v wr w1) (hf : M.Fine L') : One w w1 S v' L' ∧ Hop w wr w1 :=
  have hb := Sp.below h.sp ht (Nat.le_refl _)
  ⟨⟨hs, hf, h.bel.trans hb⟩, hb, Sp.solid h.sp (by decide) ht⟩
theorem One.start (hb : Below w.heap.size w wr) : One w (wr.alloc (.cells #[.slice none 0 0] 47)) wr.heap.size (.slice none 0 0) [] :=
  ⟨⟨hb.size, heap_alloc_new wr _, RowOf.nil _ _ _⟩, Fine.nil, hb.alloc hb.size _⟩
theorem One.put (h : One w wr S v L) (ht : IsVals wr t l) :
    Calls Try.prog 15 #[.pointer (some ⟨S, 0, none⟩), t] wr fun e w' => e = .returned (errV (M.putF L l)) ∧ ∃ v', One w w' S v' (M.putL L l) ∧ Hop w wr w' :=
  (Go.Proofs.Ytlefhfmckimlaac.put w.heap.size S v t l L wr h.sp ht).mono fun _ _ ⟨h1, v', h2, h3, _⟩ => ⟨h1, v', h.on h2 h3 (Fine.put h.fine)⟩
theorem One.take (h : One w wr S v L) (hx : IsVals wr x a) :
    Calls Try.prog 9 #[.pointer (some ⟨S, 0, none⟩), x] wr fun e w' => ∃ r v', e = .returned (.tuple #[r, errV (M.getF a L)]) ∧ OwnT w.heap.size w' r (M.getV a L) ∧ One w w' S v' (M.lessL a L) ∧ Hop w wr w' :=
  (Go.Proofs.Ytlefhfmckimlaac.take w.heap.size S v x a L wr h.sp h.fine hx).mono fun _ _ ⟨r, v', h1, h0, h2, h3, _⟩ => ⟨r, v', h1, h0, h.on h2 h3 (Fine.less h.fine)⟩
theorem One.count (h : One w wr S v L) (hx : IsVals wr x a) :
    Calls Try.prog 10 #[.pointer (some ⟨S, 0, none⟩), x] wr fun e w' => e = .returned (.tuple #[.int .i64 (M.cnt a L), errV (M.likeF a)]) ∧ One w w' S v L ∧ Hop w wr w' :=
  (Go.Proofs.Ytlefhfmckimlaac.count w.heap.size S v x a L wr h.sp h.fine hx).mono fun _ _ ⟨h1, h2⟩ => ⟨h1, h.quiet h2, Hop.of_below h2 h.sp.room⟩
theorem One.oput (h : One w wr S v L) (hx : IsVals wr x a) (ht : IsVals wr t l) :
    Calls Try.prog 7 #[.pointer (some ⟨S, 0, none⟩), x, t] wr fun e w' => e = .returned (.tuple #[.bool (M.onceB a L l), errV (M.onceF a L l)]) ∧ ∃ v', One w w' S v' (M.onceL a L l) ∧ Hop w wr w' :=
  (Go.Proofs.Ytlefhfmckimlaac.oput w.heap.size S v x t a l L wr h.sp h.fine hx ht).mono fun _ _ ⟨h1, v', h2, h3, _⟩ => ⟨h1, v', h.on h2 h3 (Fine.once h.fine)⟩
end

def M.one : M.Val := ⟨0, 1, ⟨#[]⟩⟩
def M.two : M.Val := ⟨0, 2, ⟨#[]⟩⟩
def M.any : M.Val := ⟨2, 0, ⟨#[]⟩⟩
theorem lit1 (w : World) (x : M.Val) (hs : x.s.size ≤ maxLen) : OwnT w.heap.size (w.alloc (.cells #[.int .i64 x.k, .int .i64 x.n, .string x.s] 27)) (.slice (some ⟨w.heap.size, 0, none⟩) 1 1) [x] :=
  lit_own w [x] 1 _ rfl rfl (by decide) (fun y hy => by rw [List.mem_singleton.1 hy]; exact hs)
theorem lit2 (w : World) (x y : M.Val) (hs : x.s.size ≤ maxLen) (ht : y.s.size ≤ maxLen) : OwnT w.heap.size (w.alloc (.cells #[.int .i64 x.k, .int .i64 x.n, .string x.s, .int .i64 y.k, .int .i64 y.n, .string y.s] 27)) (.slice (some ⟨w.heap.size, 0, none⟩) 2 2) [x, y] :=
  lit_own w [x, y] 2 _ rfl rfl (by decide) (fun z hz => by
    rcases List.mem_cons.1 hz with rfl | hz
    · exact hs
    · rw [List.mem_singleton.1 hz]; exact ht)

end Go.Proofs.Ytlefhfmckimlaac
