/-
  slices.Equal at Pair.
-/
import Derived.Test.YtanmakgnjehcfaaEqInt
namespace Go.Proofs.Ytanmakgnjehcfaa
open Go.RowKit

end Go.Proofs.Ytanmakgnjehcfaa
