/-
  slices.Equal at Pair.
-/
import Derived.Test.YtoebnfogkmkomaaDoorEqInt
namespace Go.Proofs.YtoebnfogkmkomaaDoor
open Go.RowKit

end Go.Proofs.YtoebnfogkmkomaaDoor
