/-
  slices.Equal at Pair.
-/
import Derived.Test.YtjnkfpagaajfeaaDoorEqInt
namespace Go.Proofs.YtjnkfpagaajfeaaDoor
open Go.RowKit

end Go.Proofs.YtjnkfpagaajfeaaDoor
