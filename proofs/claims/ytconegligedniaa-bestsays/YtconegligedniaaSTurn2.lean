/-
  shape.Turn.
-/
import Derived.Test.YtconegligedniaaSTurn
namespace Go.Proofs.Ytconegligedniaa
open Go.RowKit

/-- a list of spots in new memory, and no error -/
def RetSp (L : PL) (w : World) (e : Ending) (w' : World) : Prop :=
  ∃ A n c, e = .returned (.tuple #[.slice A n c, I 0]) ∧ PS w' A n c L ∧ Below w.heap.size w w' ∧ ∀ ad, A = some ad → w.heap.size ≤ ad.block

theorem below_box {w w1 : World} {o : Obj} (h : Below (w.alloc o).heap.size (w.alloc o) w1) : Below w.heap.size w w1 := ((Below.refl _ _).alloc (Nat.le_refl _) o).trans (h.mono (by simp))
theorem below_on {w w1 w2 : World} (h : Below w.heap.size w w1) (h2 : Below w1.heap.size w1 w2) : Below w.heap.size w w2 := h.trans (h2.mono h.size)

theorem box_cell {w w1 : World} {v : Value} {t : Nat} (h : Below (w.alloc (.cells #[v] t)).heap.size (w.alloc (.cells #[v] t)) w1) : w1.cell? ⟨w.heap.size, 0, none⟩ = some v ∧ w.heap.size < w1.heap.size := by
  refine ⟨?_, by have := h.size; simp at this; omega⟩
  rw [h.cell (p := ⟨w.heap.size, 0, none⟩) (by simp)]
  rw [cell_of_row _ _ _ _ _ _ (heap_alloc_new w _)]
  rfl

end Go.Proofs.Ytconegligedniaa
