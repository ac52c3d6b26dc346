/-
  ARGUMENTS, OPENED: spots and numbers.
-/
import Derived.Test.YtconegligedniaaSLift
import Derived.Test.YtconegligedniaaLiftInts
namespace Go.Proofs.Ytconegligedniaa
end Go.Proofs.Ytconegligedniaa
