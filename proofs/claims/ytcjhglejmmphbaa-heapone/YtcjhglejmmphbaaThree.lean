/-
  threeSpots.
-/
import Derived.Test.YtcjhglejmmphbaaCopy
import Derived.Test.YtcjhglejmmphbaaChecked
namespace Go.Proofs.Ytcjhglejmmphbaa
open Go.RowKit

abbrev gth : PL := [(1, 1), (2, 0), (3, 1)]
theorem gthree_any (w : World) : Calls Try.prog 30 #[] w fun e w' => e = .returned (.slice (some ⟨w.heap.size, 0, none⟩) 3 3) ∧ PB w' w.heap.size 46 gth ∧ Below w.heap.size w w' := by
  go_enter Try.func30, Try.ntmps30
  go_wp2
  go_ret
  exact ⟨rfl, PB.new w 46 gth, (Below.refl _ _).alloc (Nat.le_refl _) _⟩

end Go.Proofs.Ytcjhglejmmphbaa
