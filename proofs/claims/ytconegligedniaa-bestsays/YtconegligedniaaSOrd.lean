/-
  nodeFirst; shape.Order, by way 1.
-/
import Derived.Test.YtconegligedniaaSTurn2
namespace Go.Proofs.Ytconegligedniaa
open Go.RowKit

/-- node first -/
def Tr.pre : Tr → List Int
  | .nil => []
  | .node a k b => k :: (a.pre ++ b.pre)
theorem pre_length (t : Tr) : t.pre.length = t.size := by induction t <;> simp [Tr.pre, Tr.size, *]; omega

end Go.Proofs.Ytconegligedniaa
