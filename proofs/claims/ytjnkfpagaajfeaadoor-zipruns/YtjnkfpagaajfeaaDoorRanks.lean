/-
  The walk of the law PlainRanks.
-/
import Derived.Test.YtjnkfpagaajfeaaDoorStepsAll
namespace Go.Proofs.YtjnkfpagaajfeaaDoor
open Go.RowKit

/-- true comes back; nothing that was there has turned -/
abbrev Yes (w : World) (e : Ending) (w' : World) : Prop := e = .returned (.bool true) ∧ Below w.heap.size w w'

end Go.Proofs.YtjnkfpagaajfeaaDoor
