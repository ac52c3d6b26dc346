/-
  Arguments opened: ops and keys.
-/
import Derived.Test.YtanmakgnjehcfaaLift
import Derived.Test.YtanmakgnjehcfaaLiftInts
