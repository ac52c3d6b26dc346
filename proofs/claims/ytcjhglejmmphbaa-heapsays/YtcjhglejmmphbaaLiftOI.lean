/-
  Arguments opened: ops and keys.
-/
import Derived.Test.YtcjhglejmmphbaaLift
import Derived.Test.YtcjhglejmmphbaaLiftInts
