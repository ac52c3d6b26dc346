/-
  ARGUMENTS, OPENED: both kinds.
-/
import Derived.Test.YtoebnfogkmkomaaDoorKLift
import Derived.Test.YtoebnfogkmkomaaDoorLift
