/-
  ROWS AS THEY LIE: twelve slices in a block, a slice of rows. Nothing is walked here.
-/
import Derived.Test.YtjnkfpagaajfeaaDoorKTowerOf
import Derived.Test.YtjnkfpagaajfeaaDoorCopy
namespace Go.Proofs.YtjnkfpagaajfeaaDoor
open Go.RowKit

abbrev T3 := Option Addr × Nat × Nat
def tAt (ts : List T3) (i : Nat) : T3 := ts[i]?.getD (none, 0, 0)
/-- the block g has twelve slices that read as L -/
structure Tv (w : World) (g : Nat) (ts : List T3) (L : Nat → List Int) : Prop where
  len : ts.length = 12
  lt : g < w.heap.size
  cell : ∀ i, i < 12 → w.cell? ⟨g, i, none⟩ = some (slV (tAt ts i))
  is_ : ∀ i, i < 12 → IS w (tAt ts i).1 (tAt ts i).2.1 (tAt ts i).2.2 (L i)
theorem Tv.below {w w' : World} {g : Nat} {ts : List T3} {L : Nat → List Int} (h : Tv w g ts L) (hb : Below w.heap.size w w') : Tv w' g ts L :=
  ⟨h.len, Nat.lt_of_lt_of_le h.lt hb.size, fun i hi => (hb.cell (by exact h.lt)).trans (h.cell i hi), fun i hi => (h.is_ i hi).below hb⟩
/-- a slice of slices that reads as rows -/
structure RI (w : World) (A : Option Addr) (m c : Nat) (L : List (List Int)) : Prop where
  len : L.length = m
  cap : m ≤ c
  at_ : 0 < m → ∃ b off, A = some ⟨b, off, none⟩ ∧ b < w.heap.size ∧ ∀ i, i < m → ∃ A' n' c', w.cell? ⟨b, off + i, none⟩ = some (.slice A' n' c') ∧ IS w A' n' c' (L[i]?.getD [])
theorem RI.below {w w' : World} {A : Option Addr} {m c : Nat} {L : List (List Int)} (h : RI w A m c L) (hb : Below w.heap.size w w') : RI w' A m c L := by
  refine ⟨h.len, h.cap, fun h0 => ?_⟩
  obtain ⟨b, off, e, hlt, hc⟩ := h.at_ h0
  refine ⟨b, off, e, Nat.lt_of_lt_of_le hlt hb.size, fun i hi => ?_⟩
  obtain ⟨A', n', c', h1, h2⟩ := hc i hi
  exact ⟨A', n', c', (hb.cell (by exact hlt)).trans h1, h2.below hb⟩
theorem RI.none_ {w : World} : RI w none 0 0 [] := ⟨rfl, Nat.le_refl _, fun h => absurd h (by omega)⟩
/-- rows in new memory -/
def RetRows (L : List (List Int)) (w : World) (e : Ending) (w' : World) : Prop := ∃ A m c, e = .returned (.slice A m c) ∧ RI w' A m c L ∧ Below w.heap.size w w'

theorem hiR_is {l : List Int} {k : Nat} (hk : k ≤ 12) (h1 : ∀ i, i < k → rowL l i ≠ []) (h2 : k = 12 ∨ rowL l k = []) : hiR l = k := by
  rcases Nat.lt_trichotomy (hiR l) k with h | h | h
  · exact absurd (hiR_none l _ (Nat.le_refl _)) (h1 _ h)
  · exact h
  · have := hiR_le l
    rcases h2 with h2 | h2
    · omega
    · exact absurd h2 (hiR_some l k h)
theorem tw_tv {w w' : World} {base g g' t t' : Nat} {ts : List T3} {rows : Nat → List Int} (h : Tw w base g t (ts.map slV) rows) (hb : Below w.heap.size w w') (hh : w'.heap[g']? = some (.cells (ts.map slV).toArray t' (0, 0))) : Tv w' g' ts rows := by
  have hl : ts.length = 12 := by simpa using h.len
  refine ⟨hl, ?_, fun i hi => ?_, fun i hi => ?_⟩
  · rcases Nat.lt_or_ge g' w'.heap.size with hlt | hge
    · exact hlt
    · rw [Array.getElem?_eq_none hge] at hh; cases hh
  · simp [World.cell?, hh, tAt, List.getElem?_eq_getElem (show i < ts.length by omega)]
  · obtain ⟨A, c, e, h1, _⟩ := (h.own i hi).is_
    have e2 : rowAt (ts.map slV) i = slV (tAt ts i) := by simp [rowAt, tAt, List.getElem?_eq_getElem (show i < ts.length by omega)]
    rw [e2] at e
    injection e with e3 e4 e5
    rw [e3, e4, e5]
    exact h1.below hb
theorem err_ne {E : Int} (h : E ≠ 0) : (E != 0) = true := by simpa using h

end Go.Proofs.YtjnkfpagaajfeaaDoor
