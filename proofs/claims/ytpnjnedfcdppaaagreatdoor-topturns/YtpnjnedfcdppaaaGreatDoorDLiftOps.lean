/-
  Arguments opened: ops and keys, beside the tables.
-/
import Derived.Test.YtpnjnedfcdppaaaGreatDoorEqAll
import Derived.Test.YtpnjnedfcdppaaaGreatDoorLiftOI
