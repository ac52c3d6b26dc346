/-
  plainLives.
-/
import Derived.Test.YtolfpjleckckiaaRun
namespace Go.Proofs.Ytolfpjleckckiaa
open Go.RowKit

abbrev livesOps : List OP := [(1, 7, 1), (1, 3, 2), (4, 3, 0), (3, 7, 0)]
theorem lives_run : runR livesOps = ([(3, 2)], [an0, an0, ⟨0, 7, 1, true⟩, ⟨0, 0, 1, true⟩]) := by decide +kernel
abbrev livesO : Obj := .cells #[I 1, I 7, I 1, I 1, I 3, I 2, I 4, I 3, I 0, I 3, I 7, I 0] 39
theorem lives_os (w : World) : OS (w.alloc livesO) (some ⟨w.heap.size, 0, none⟩) 4 4 livesOps := by
  refine ⟨rfl, Nat.le_refl _, fun _ => ⟨w.heap.size, 0, rfl, by simp, fun i hi j hj => ?_⟩⟩
  have hh : (w.alloc livesO).heap[w.heap.size]? = some livesO := heap_alloc_new w _
  have h4 : i = 0 ∨ i = 1 ∨ i = 2 ∨ i = 3 := by omega
  have h3 : j = 0 ∨ j = 1 ∨ j = 2 := by omega
  rcases h4 with rfl | rfl | rfl | rfl <;> rcases h3 with rfl | rfl | rfl <;> (rw [cell_of_row _ _ _ _ _ _ hh]; rfl)

end Go.Proofs.Ytolfpjleckckiaa
