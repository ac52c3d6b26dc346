/-
  Arguments opened: ops and keys.
-/
import Derived.Test.YtpnjnedfcdppaaaGreatDoorLift
import Derived.Test.YtpnjnedfcdppaaaGreatDoorLiftInts
