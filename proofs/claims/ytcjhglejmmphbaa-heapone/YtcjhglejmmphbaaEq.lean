/-
  slices.Equal at Pair.
-/
import Derived.Test.YtcjhglejmmphbaaEqInt
namespace Go.Proofs.Ytcjhglejmmphbaa
open Go.RowKit

end Go.Proofs.Ytcjhglejmmphbaa
