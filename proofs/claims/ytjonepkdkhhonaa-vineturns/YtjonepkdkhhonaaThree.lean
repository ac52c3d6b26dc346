/-
  threeSpots.
-/
import Derived.Test.YtjonepkdkhhonaaCopy
import Derived.Test.YtjonepkdkhhonaaChecked
namespace Go.Proofs.Ytjonepkdkhhonaa
open Go.RowKit

abbrev gth : PL := [(1, 1), (2, 0), (3, 1)]
theorem gthree_any (w : World) : Calls Try.prog 17 #[] w fun e w' => e = .returned (.slice (some ⟨w.heap.size, 0, none⟩) 3 3) ∧ PB w' w.heap.size 31 gth ∧ Below w.heap.size w w' := by
  go_enter Try.func17, Try.ntmps17
  go_wp2
  go_ret
  exact ⟨rfl, PB.new w 31 gth, (Below.refl _ _).alloc (Nat.le_refl _) _⟩

end Go.Proofs.Ytjonepkdkhhonaa
