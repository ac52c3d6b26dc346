/-
  Arguments opened: ops and keys, beside the tables.
-/
import Derived.Test.YtpnjnedfcdppaaaGreatDoorDLift
import Derived.Test.YtpnjnedfcdppaaaGreatDoorLiftOIAll
