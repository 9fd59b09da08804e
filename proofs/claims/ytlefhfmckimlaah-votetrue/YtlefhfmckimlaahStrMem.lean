/-
  Texts that lie in memory behind a slice: what a walk is told of some that came in, that they stay while only new memory is written, and a row of them that a call puts together itself. For any program.
-/
import Derived.Deep.Slices
import Derived.Deep.Strs
import Derived.ChangeSame
import Derived.Below
import Derived.WideShapes
import Derived.ProofKit
import Derived.Laws.OwnMore
import Derived.OwnWalk
import Derived.SizedLaws
namespace Go.Proofs.Ytlefhfmckimlaah
open Go.RowKit Go.Deep

/-- the texts l lie in w from cell off of block b on -/
def LieS (w : World) (b off : Nat) (l : List ByteArray) : Prop := ∀ i (h : i < l.length), w.cell? ⟨b, off + i, none⟩ = some (.string l[i]) ∧ l[i].size ≤ reachBytes
/-- where a slice has its texts: nowhere, if there are none -/
def AtS (w : World) (a : Option Addr) (l : List ByteArray) : Prop := 0 < l.length → ∃ b off, a = some ⟨b, off, none⟩ ∧ LieS w b off l
theorem LieS.stays {w w' : World} {b off B : Nat} {l : List ByteArray} (h : LieS w b off l) (hb : Below B w w') (hB : w.heap.size ≤ B) : LieS w' b off l := fun i hi => by
  obtain ⟨g, g2⟩ := h i hi
  exact ⟨(hb.cell (p := ⟨b, off + i, none⟩) (Nat.lt_of_lt_of_le (World.block_lt_of_cell? w _ g) hB)).trans g, g2⟩
theorem AtS.stays {w w' : World} {a : Option Addr} {B : Nat} {l : List ByteArray} (h : AtS w a l) (hb : Below B w w') (hB : w.heap.size ≤ B) : AtS w' a l := fun h0 => by
  obtain ⟨b, off, e, g⟩ := h h0
  exact ⟨b, off, e, g.stays hb hB⟩

theorem weightsAll_mem {H : Type} {P : Program} {e : TypeId} : ∀ {L : List (DataW H)} {d : DataW H}, d ∈ L → ∀ m ∈ d.weights P e, m ∈ DataW.weightsAll P e L
  | d0 :: L, d, h, m, hm => by
    simp only [DataW.weightsAll, List.mem_append]
    rcases List.mem_cons.1 h with rfl | h
    · exact Or.inl hm
    · exact Or.inr (weightsAll_mem h m hm)
  | [], _, h, _, _ => by cases h
/-- an argument's own sizes, out of all of them -/
theorem sized_at {H : Type} {P : Program} {ts : List TypeId} {ds : List (DataW H)} (h : (DataW.weightsEach P ts ds).all (· ≤ reachBytes) = true) {j : Nat} {t : TypeId} {d : DataW H} (ht : ts[j]? = some t) (hd : ds[j]? = some d) : ∀ m ∈ d.weights P t, m ≤ reachBytes := fun m hm => by
  simpa using List.all_eq_true.1 h m (DataW.weights_mem_each ht hd m hm)
/-- an argument of type []string -/
theorem open_strs {H : Type} {enc : TypeId × Value → H} {P : Program} {w : World} {tt t : TypeId} {a : Option Addr} {len cap : Nat} {d : DataW H} {p : List MemPlace}
    (htt : P.underlying tt = some (.slice t)) (ct : P.cellsOf t = 1) (ht : P.underlying t = some .string) (h : DataW.Trod enc P w 0 (fun _ => true) true tt (.slice a len cap) d p) (hw : ∀ m ∈ d.weights P tt, m ≤ reachBytes) :
    ∃ l : List ByteArray, len = l.length ∧ len ≤ cap ∧ cap ≤ maxLen ∧ AtS w a l ∧ (a = none → len = 0 ∧ cap = 0) := by
  obtain ⟨fuel, hf⟩ := h
  rcases open_slice1 htt ct hf with ⟨hcs, hd⟩ | ⟨x, len', cap', m, n, V, D, Pl, hcs, _, hl, hm, hmm, hd, hx⟩
  · simp [Value.cells] at hcs
    obtain ⟨rfl, rfl, rfl⟩ := hcs
    exact ⟨[], rfl, Nat.zero_le _, Nat.zero_le _, fun h => absurd h (by decide), fun _ => ⟨rfl, rfl⟩⟩
  · simp [Value.cells] at hcs
    obtain ⟨rfl, rfl, rfl⟩ := hcs
    have hmc : m = cap := by rw [hmm]; simp
    have each : ∀ i, i < len → ∃ z : ByteArray, w.cell? (x.add i) = some (.string z) ∧ z.size ≤ reachBytes := by
      intro i hi
      obtain ⟨h1, h2⟩ := hx i (by omega)
      obtain ⟨z, hz, hdz, _⟩ := DataW.trod_string ht h2
      simp at hz
      rw [hz] at h1
      have hdi : D i = .lit (.string z.data.toList) := by simpa using congrArg Prod.fst hdz
      refine ⟨z, h1, hw _ ?_⟩
      rw [(Prod.mk.inj hd).1]
      simp only [DataW.weights, htt, List.mem_cons, List.mem_append]
      refine Or.inr (Or.inl (weightsAll_mem (d := D i) (List.mem_map.2 ⟨i, List.mem_range.2 hi, rfl⟩) _ ?_))
      rw [hdi]
      simp [DataW.weights]
    rcases Nat.eq_zero_or_pos len with h0 | h0
    · subst h0; exact ⟨[], rfl, hl, by omega, fun h => absurd h (by simp), fun e => by cases e⟩
    haveI : Inhabited ByteArray := ⟨⟨#[]⟩⟩
    obtain ⟨f, hfe⟩ := choose_lt each
    obtain ⟨b, off, spot⟩ := x
    have hspot : spot = none := by simpa [Addr.add] using World.cell?_spot (hfe 0 h0).1
    subst hspot
    have hll : ((List.range len).map f).length = len := by simp
    refine ⟨(List.range len).map f, hll.symm, hl, by omega, fun _ => ⟨b, off, rfl, fun i hi => ?_⟩, fun e => by cases e⟩
    have hi' : i < len := by rw [hll] at hi; exact hi
    have e : ((List.range len).map f)[i] = f i := by simp
    rw [e]
    have g := hfe i hi'
    rw [WideShapes.add_plain] at g
    exact g

/-- the cells of some texts, in a row -/
def cellsS (l : List ByteArray) : List Value := l.map fun z => .string z
theorem cellsS_len (l : List ByteArray) : (cellsS l).length = l.length := by simp [cellsS]
theorem cellsS_at {l : List ByteArray} {j : Nat} (h : j < l.length) : (cellsS l)[j]? = some (.string l[j]) := by simp [cellsS, h]
theorem cellsS_oneCell (l : List ByteArray) : ∀ u ∈ cellsS l, u.oneCell' = true := fun u h => by
  simp only [cellsS, List.mem_map] at h
  obtain ⟨z, _, rfl⟩ := h
  rfl
theorem cellsS_set (l : List ByteArray) (j : Nat) (x : ByteArray) : cellsS (l.set j x) = (cellsS l).set j (.string x) := by unfold cellsS; rw [List.map_set]
/-- texts that a call has put together itself -/
theorem atS_own {w : World} {base : Nat} {e : TypeId} {v : Value} {m : Nat} {l : List ByteArray} (hm : m = l.length) (hs : ∀ x ∈ l, x.size ≤ reachBytes) (h : w.ownsRow base e 1 v m (cellsS l)) : ∃ a cap, v = .slice a m cap ∧ m ≤ cap ∧ cap ≤ maxLen ∧ AtS w a l := by
  have hc := h
  rcases h.2 with ⟨hv, hn⟩ | ⟨g, cap, cur, hv, _, _, hn, hcm, _⟩
  · exact ⟨none, 0, by rw [hv, hn], by omega, Nat.zero_le _, fun h0 => by omega⟩
  · refine ⟨some ⟨g, 0, none⟩, cap, hv, hn, hcm, fun _ => ⟨g, 0, rfl, fun i hi => ?_⟩⟩
    have g1 := hc.cells (g := g) (by rw [hv]; rfl) _ _ (cellsS_at hi)
    rw [WideShapes.add_plain] at g1
    exact ⟨g1, hs _ (List.getElem_mem hi)⟩
/-- the cells of texts that lie somewhere -/
theorem AtS.news {w : World} {ad : Addr} {l : List ByteArray} (h : AtS w (some ad) l) : ∀ j u, (cellsS l)[j]? = some u → w.cell? (ad.add j) = some u := fun j u hu => by
  have hj : j < l.length := by
    have := (List.getElem?_eq_some_iff.1 hu).1
    rwa [cellsS_len] at this
  obtain ⟨b, off, e, g⟩ := h (by omega)
  cases e
  rw [cellsS_at hj] at hu
  cases hu
  rw [WideShapes.add_plain]
  exact (g j hj).1

end Go.Proofs.Ytlefhfmckimlaah
