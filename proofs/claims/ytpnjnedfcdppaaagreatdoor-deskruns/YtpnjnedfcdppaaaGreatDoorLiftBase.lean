/-
  ARGUMENTS, OPENED: what all of them want.
-/
import Derived.Test.YtpnjnedfcdppaaaGreatDoorRows
import Derived.Test.YtpnjnedfcdppaaaGreatDoorOSpotsAll
import Derived.ProofKit
import Derived.OpenShut
import Derived.ShutString
import Derived.ChangeOld
import Derived.Deep.Slices
namespace Go.Proofs.YtpnjnedfcdppaaaGreatDoor
open Go.ChangeShapes Go.WideShapes Go.ChangeAt Go.RowKit Go.Deep

theorem own : ownKnob Tryz.prog.godebug = none := by kernel_rfl
section
variable {H : Type} {enc : TypeId × Value → H} {W : World} {base : Nat} {spare : Nat → Bool} {held : Bool}

end
end Go.Proofs.YtpnjnedfcdppaaaGreatDoor
