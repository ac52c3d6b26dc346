/-
  DERIVED. GIVEN WITH THE SEED: THE CARDS: each row of YtpnjnedfcdppaaaGreatDoorRows.lean that lists a variable, with what it lists TIED to the program's text (the seventh form; the later family's looks); each row that meets fmt, with fmt's text TOLD by the authors' own Lean function (tested against real Go, not proved from fmt's source: count such statements apart). THE CARD IS WHAT COUNTS. Prove the row's statement (the work); the ties are given (YtpnjnedfcdppaaaGreatDoorTie.lean); close each card by the builder's one call (the guide's Derived/Test/ToyasCard.lean, 'card_holds'). Laid BY PROGRAM, IN A SANDBOX (cutbox-door.mjs). By AI agents, Wed Nov 11 2026. No macro, syntax, notation, axiom, sorry.
-/
import Derived.Test.YtpnjnedfcdppaaaGreatDoorRows
import GoSem.ClaimSeven
namespace Go.Proofs.YtpnjnedfcdppaaaGreatDoor
namespace Rows

/-- THE TIED CARD OF 'hedglaw.DeskRuns'. -/
def deskRunsCard : Claim7 := { stood := { row := deskRunsRow, standIns := [], harness := (true, "24ffcf31dc187249eb45383b365508cc10ef50e8c2142ca26e351bc86e0d22a8"), looks := true }, kinds := [], alts := [], laidByText := true, laidKinds := [.data, .data, .data, .data, .pinned], laidTests := true, laidLooks := .later }
def DeskRunsCardSaid : Prop := Claim7.holds Tryz.pinned (.plain (OpenSpec.ofChange deskRunsSpec)) deskRunsCard

/-- THE TIED CARD OF 'hedgkeep.DeskCounts'. -/
def deskCountsCard : Claim7 := { stood := { row := deskCountsRow, standIns := [], harness := (true, "24ffcf31dc187249eb45383b365508cc10ef50e8c2142ca26e351bc86e0d22a8"), looks := true }, kinds := [], alts := [], laidByText := true, laidKinds := [.data, .data, .data, .data, .pinned], laidTests := true, laidLooks := .later }
def DeskCountsCardSaid : Prop := Claim7.holds Tryz.pinned (.plain (OpenSpec.ofChange deskCountsSpec)) deskCountsCard

/-- THE TIED CARD OF 'hedgkeep.DeskFront'. -/
def deskFrontCard : Claim7 := { stood := { row := deskFrontRow, standIns := [], harness := (true, "24ffcf31dc187249eb45383b365508cc10ef50e8c2142ca26e351bc86e0d22a8"), looks := true }, kinds := [], alts := [], laidByText := true, laidKinds := [.data, .data, .data, .data, .pinned], laidTests := true, laidLooks := .later }
def DeskFrontCardSaid : Prop := Claim7.holds Tryz.pinned (.plain (OpenSpec.ofChange deskFrontSpec)) deskFrontCard

/-- THE TIED CARD OF 'hedgkeep.DeskZip'. -/
def deskZipCard : Claim7 := { stood := { row := deskZipRow, standIns := [], harness := (true, "24ffcf31dc187249eb45383b365508cc10ef50e8c2142ca26e351bc86e0d22a8"), looks := true }, kinds := [], alts := [], laidByText := true, laidKinds := [.data, .data, .data, .data, .pinned], laidTests := true, laidLooks := .later }
def DeskZipCardSaid : Prop := Claim7.holds Tryz.pinned (.plain (OpenSpec.ofChange deskZipSpec)) deskZipCard

/-- THE TIED CARD OF 'hedgtop.TopMaps'. -/
def topMapsCard : Claim7 := { stood := { row := topMapsRow, standIns := [], harness := (true, "24ffcf31dc187249eb45383b365508cc10ef50e8c2142ca26e351bc86e0d22a8"), looks := true }, kinds := [], alts := [], laidByText := true, laidKinds := [.data, .data, .data, .data, .pinned], laidTests := true, laidLooks := .later }
def TopMapsCardSaid : Prop := Claim7.holds Tryz.pinned (.plain (OpenSpec.ofChange topMapsSpec)) topMapsCard

/-- THE TIED CARD OF 'hedgtop.TopEven'. -/
def topEvenCard : Claim7 := { stood := { row := topEvenRow, standIns := [], harness := (true, "24ffcf31dc187249eb45383b365508cc10ef50e8c2142ca26e351bc86e0d22a8"), looks := true }, kinds := [], alts := [], laidByText := true, laidKinds := [.data, .data, .data, .data, .pinned], laidTests := true, laidLooks := .later }
def TopEvenCardSaid : Prop := Claim7.holds Tryz.pinned (.plain (OpenSpec.ofChange topEvenSpec)) topEvenCard

/-- THE TIED CARD OF 'hedgtop.TopHalf'. -/
def topHalfCard : Claim7 := { stood := { row := topHalfRow, standIns := [], harness := (true, "24ffcf31dc187249eb45383b365508cc10ef50e8c2142ca26e351bc86e0d22a8"), looks := true }, kinds := [], alts := [], laidByText := true, laidKinds := [.data, .data, .data, .data, .pinned], laidTests := true, laidLooks := .later }
def TopHalfCardSaid : Prop := Claim7.holds Tryz.pinned (.plain (OpenSpec.ofChange topHalfSpec)) topHalfCard

/-- THE TIED CARD OF 'hedgtop.TopTurns'. -/
def topTurnsCard : Claim7 := { stood := { row := topTurnsRow, standIns := [], harness := (true, "24ffcf31dc187249eb45383b365508cc10ef50e8c2142ca26e351bc86e0d22a8"), looks := true }, kinds := [], alts := [], laidByText := true, laidKinds := [.data, .data, .data, .data, .pinned], laidTests := true, laidLooks := .later }
def TopTurnsCardSaid : Prop := Claim7.holds Tryz.pinned (.plain (OpenSpec.ofChange topTurnsSpec)) topTurnsCard

/-- THE SECOND FORM's CARD OF 'hedglaw.DeskRuns'. -/
def deskRunsUptoCard : Claim7 := { stood := { row := deskRunsUptoRow, standIns := [], harness := (true, "24ffcf31dc187249eb45383b365508cc10ef50e8c2142ca26e351bc86e0d22a8"), looks := true }, kinds := [], alts := [], laidByText := true, laidKinds := [.data, .data, .data, .data, .pinned], laidTests := true, laidLooks := .later }
def DeskRunsUptoCardSaid : Prop := Claim7.holds Tryz.pinned (.plain (OpenSpec.upto deskRunsSpec)) deskRunsUptoCard

/-- THE SECOND FORM's CARD OF 'hedgkeep.DeskCounts'. -/
def deskCountsUptoCard : Claim7 := { stood := { row := deskCountsUptoRow, standIns := [], harness := (true, "24ffcf31dc187249eb45383b365508cc10ef50e8c2142ca26e351bc86e0d22a8"), looks := true }, kinds := [], alts := [], laidByText := true, laidKinds := [.data, .data, .data, .data, .pinned], laidTests := true, laidLooks := .later }
def DeskCountsUptoCardSaid : Prop := Claim7.holds Tryz.pinned (.plain (OpenSpec.upto deskCountsSpec)) deskCountsUptoCard

/-- THE SECOND FORM's CARD OF 'hedgkeep.DeskFront'. -/
def deskFrontUptoCard : Claim7 := { stood := { row := deskFrontUptoRow, standIns := [], harness := (true, "24ffcf31dc187249eb45383b365508cc10ef50e8c2142ca26e351bc86e0d22a8"), looks := true }, kinds := [], alts := [], laidByText := true, laidKinds := [.data, .data, .data, .data, .pinned], laidTests := true, laidLooks := .later }
def DeskFrontUptoCardSaid : Prop := Claim7.holds Tryz.pinned (.plain (OpenSpec.upto deskFrontSpec)) deskFrontUptoCard

/-- THE SECOND FORM's CARD OF 'hedgkeep.DeskZip'. -/
def deskZipUptoCard : Claim7 := { stood := { row := deskZipUptoRow, standIns := [], harness := (true, "24ffcf31dc187249eb45383b365508cc10ef50e8c2142ca26e351bc86e0d22a8"), looks := true }, kinds := [], alts := [], laidByText := true, laidKinds := [.data, .data, .data, .data, .pinned], laidTests := true, laidLooks := .later }
def DeskZipUptoCardSaid : Prop := Claim7.holds Tryz.pinned (.plain (OpenSpec.upto deskZipSpec)) deskZipUptoCard

/-- THE SECOND FORM's CARD OF 'hedgtop.TopMaps'. -/
def topMapsUptoCard : Claim7 := { stood := { row := topMapsUptoRow, standIns := [], harness := (true, "24ffcf31dc187249eb45383b365508cc10ef50e8c2142ca26e351bc86e0d22a8"), looks := true }, kinds := [], alts := [], laidByText := true, laidKinds := [.data, .data, .data, .data, .pinned], laidTests := true, laidLooks := .later }
def TopMapsUptoCardSaid : Prop := Claim7.holds Tryz.pinned (.plain (OpenSpec.upto topMapsSpec)) topMapsUptoCard

/-- THE SECOND FORM's CARD OF 'hedgtop.TopEven'. -/
def topEvenUptoCard : Claim7 := { stood := { row := topEvenUptoRow, standIns := [], harness := (true, "24ffcf31dc187249eb45383b365508cc10ef50e8c2142ca26e351bc86e0d22a8"), looks := true }, kinds := [], alts := [], laidByText := true, laidKinds := [.data, .data, .data, .data, .pinned], laidTests := true, laidLooks := .later }
def TopEvenUptoCardSaid : Prop := Claim7.holds Tryz.pinned (.plain (OpenSpec.upto topEvenSpec)) topEvenUptoCard

/-- THE SECOND FORM's CARD OF 'hedgtop.TopHalf'. -/
def topHalfUptoCard : Claim7 := { stood := { row := topHalfUptoRow, standIns := [], harness := (true, "24ffcf31dc187249eb45383b365508cc10ef50e8c2142ca26e351bc86e0d22a8"), looks := true }, kinds := [], alts := [], laidByText := true, laidKinds := [.data, .data, .data, .data, .pinned], laidTests := true, laidLooks := .later }
def TopHalfUptoCardSaid : Prop := Claim7.holds Tryz.pinned (.plain (OpenSpec.upto topHalfSpec)) topHalfUptoCard

/-- THE SECOND FORM's CARD OF 'hedgtop.TopTurns'. -/
def topTurnsUptoCard : Claim7 := { stood := { row := topTurnsUptoRow, standIns := [], harness := (true, "24ffcf31dc187249eb45383b365508cc10ef50e8c2142ca26e351bc86e0d22a8"), looks := true }, kinds := [], alts := [], laidByText := true, laidKinds := [.data, .data, .data, .data, .pinned], laidTests := true, laidLooks := .later }
def TopTurnsUptoCardSaid : Prop := Claim7.holds Tryz.pinned (.plain (OpenSpec.upto topTurnsSpec)) topTurnsUptoCard
end Rows
end Go.Proofs.YtpnjnedfcdppaaaGreatDoor
