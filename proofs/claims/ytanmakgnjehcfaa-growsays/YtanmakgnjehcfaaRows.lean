/-
  No cell of these rows narrows 'for every input' (looked for: loops, veiled, ifaces, maps, wideKeys, modest, calm, conditions, laid).
  DERIVED. THE GIVEN ROWS OF THIS SEAT. 4 by the template 'for every input the law returns true; each argument reads behind the call as it read before'; 0 by the template 'total and deterministic' (their statements: YtanmakgnjehcfaaTotals.lean).
  GIVEN WITH THE SEED: the statements are not yours to turn. If you find one false, say at which input.
  Laid BY PROGRAM, IN A SANDBOX (cutbox-rows.mjs): the forced cells as the released guide's own fill.sh prints them over the translation 072d477ebef2072b… (all of the seat's roots in one cut). By AI agents, Wed Nov 11 2026. No macro, syntax, notation, axiom, sorry.
-/
import Derived.Test.YtanmakgnjehcfaaChecked
import GoSem.Claim
import GoSem.ClaimJoined
import GoSem.ClaimMapViews
import Derived.JoinedTies
import Derived.KernelRfl
namespace Go.Proofs.Ytanmakgnjehcfaa
/- THE CELL 'sum', in the pinned program and in every row, IS THE sha256 OF THE DUMP (.gsa) THAT YtanmakgnjehcfaaProg.lean LOADS. Nothing in Lean hashes anything: it is a label: what it is worth is what the hold of that sum in a sandbox is worth. -/
noncomputable def Try.pinned : Pinned := { name := "ytanmakgnjehcfaa", sum := "072d477ebef2072b5198ef207437327b50868d88b862e16c2e0a84e4ba544f77", checked := Try.checked }
namespace Rows
def none {H : Type} : Left H := { results := [], args := [] }

/-- 'hedglaw.GrowSays': WHATEVER THE INPUT: true; the input reads as it did. -/
def growSaysSpec : ChangeSpec := { name := "growSays", fn := fun _ => fun
  | [d1, d2] => { results := [.lit (.bool true)], args := [d1, d2] }
  | _ => none }
def growSaysRow : OpenClaim := { program := "ytanmakgnjehcfaa", sum := "072d477ebef2072b5198ef207437327b50868d88b862e16c2e0a84e4ba544f77", func := "hedgewright/hedglaw.GrowSays", spec := "growSays", recurses := true, apart := false }
def GrowSaysSaid : Prop := growSaysRow.holds Try.pinned (OpenSpec.ofChange growSaysSpec)

/-- ITS FALSE NEIGHBOUR: 'it returns false'. Refute it at one input. -/
def growSaysWrong : ChangeSpec := { name := "growSays", fn := fun _ => fun
  | [d1, d2] => { results := [.lit (.bool false)], args := [d1, d2] }
  | _ => none }
def GrowSaysWrongFalsely : Prop := growSaysRow.holds Try.pinned (OpenSpec.ofChange growSaysWrong)

/-- 'hedgkeep.GrowHoare': WHATEVER THE INPUT: true; the input reads as it did. -/
def growHoareSpec : ChangeSpec := { name := "growHoare", fn := fun _ => fun
  | [d] => { results := [.lit (.bool true)], args := [d] }
  | _ => none }
def growHoareRow : OpenClaim := { program := "ytanmakgnjehcfaa", sum := "072d477ebef2072b5198ef207437327b50868d88b862e16c2e0a84e4ba544f77", func := "hedgewright/hedgkeep.GrowHoare", spec := "growHoare", recurses := true, apart := false }
def GrowHoareSaid : Prop := growHoareRow.holds Try.pinned (OpenSpec.ofChange growHoareSpec)

/-- ITS FALSE NEIGHBOUR: 'it returns false'. Refute it at one input. -/
def growHoareWrong : ChangeSpec := { name := "growHoare", fn := fun _ => fun
  | [d] => { results := [.lit (.bool false)], args := [d] }
  | _ => none }
def GrowHoareWrongFalsely : Prop := growHoareRow.holds Try.pinned (OpenSpec.ofChange growHoareWrong)

/-- 'hedgkeep.GrowTree': WHATEVER THE INPUT: true; the input reads as it did. -/
def growTreeSpec : ChangeSpec := { name := "growTree", fn := fun _ => fun
  | [d] => { results := [.lit (.bool true)], args := [d] }
  | _ => none }
def growTreeRow : OpenClaim := { program := "ytanmakgnjehcfaa", sum := "072d477ebef2072b5198ef207437327b50868d88b862e16c2e0a84e4ba544f77", func := "hedgewright/hedgkeep.GrowTree", spec := "growTree", recurses := true, apart := false }
def GrowTreeSaid : Prop := growTreeRow.holds Try.pinned (OpenSpec.ofChange growTreeSpec)

/-- ITS FALSE NEIGHBOUR: 'it returns false'. Refute it at one input. -/
def growTreeWrong : ChangeSpec := { name := "growTree", fn := fun _ => fun
  | [d] => { results := [.lit (.bool false)], args := [d] }
  | _ => none }
def GrowTreeWrongFalsely : Prop := growTreeRow.holds Try.pinned (OpenSpec.ofChange growTreeWrong)

/-- 'hedgkeep.GrowLast': WHATEVER THE INPUT: true; the input reads as it did. -/
def growLastSpec : ChangeSpec := { name := "growLast", fn := fun _ => fun
  | [d1, d2] => { results := [.lit (.bool true)], args := [d1, d2] }
  | _ => none }
def growLastRow : OpenClaim := { program := "ytanmakgnjehcfaa", sum := "072d477ebef2072b5198ef207437327b50868d88b862e16c2e0a84e4ba544f77", func := "hedgewright/hedgkeep.GrowLast", spec := "growLast", recurses := true, apart := false }
def GrowLastSaid : Prop := growLastRow.holds Try.pinned (OpenSpec.ofChange growLastSpec)

/-- ITS FALSE NEIGHBOUR: 'it returns false'. Refute it at one input. -/
def growLastWrong : ChangeSpec := { name := "growLast", fn := fun _ => fun
  | [d1, d2] => { results := [.lit (.bool false)], args := [d1, d2] }
  | _ => none }
def GrowLastWrongFalsely : Prop := growLastRow.holds Try.pinned (OpenSpec.ofChange growLastWrong)

/- THE SECOND FORM. 'bulk': how many values and letters a reading holds, each counted each time it is reached (what is shared counts as often as it is met; a slice's spare places count too). A statement '..UptoSaid' is the law's where the arguments, and the package variables that the reading takes, are together of bulk at most 1048576: NARROWER than '..Said'. Prove '..Said' where nothing that the law and all that it calls make is longer than what came in: it says more and counts as full. Else prove '..UptoSaid'. A law counts once. -/
mutual
def uptoBulk {H : Type} : DataW H → Nat
  | .lit (.string bytes) => bytes.length + 1
  | .lit _ => 1
  | .nil => 1
  | .ptr d => uptoBulk d + 1
  | .slice elems spare => uptoBulkAll elems + uptoBulkAll spare + 1
  | .agg parts => uptoBulkAll parts + 1
  | .iface _ d => uptoBulk d + 1
  | .map entries => uptoBulkEntries entries + 1
  | .held _ => 1
def uptoBulkAll {H : Type} : List (DataW H) → Nat
  | [] => 0
  | d :: r => uptoBulk d + uptoBulkAll r
def uptoBulkEntries {H : Type} : List (Lit × DataW H) → Nat
  | [] => 0
  | x :: r => uptoBulkEntry x + uptoBulkEntries r
def uptoBulkEntry {H : Type} : Lit × DataW H → Nat
  | (.string bytes, d) => bytes.length + uptoBulk d + 1
  | (_, d) => uptoBulk d + 1
 end
def uptoSmall : (H : Type) → List (DataW H) → Bool := fun _ ds => decide (uptoBulkAll ds ≤ 1048576)
def OpenSpec.upto (s : _root_.Go.ChangeSpec) : _root_.Go.OpenSpec := { _root_.Go.OpenSpec.ofChange s with cond := some uptoSmall }

/-- 'hedglaw.GrowSays', WHERE WHAT IT READS IS OF BULK AT MOST 1048576: true; the input reads as it did. -/
def growSaysUptoRow : OpenClaim := { program := "ytanmakgnjehcfaa", sum := "072d477ebef2072b5198ef207437327b50868d88b862e16c2e0a84e4ba544f77", func := "hedgewright/hedglaw.GrowSays", spec := "growSays", recurses := true, apart := false, narrowed := true }
def GrowSaysUptoSaid : Prop := growSaysUptoRow.holds Try.pinned (OpenSpec.upto growSaysSpec)

/-- 'hedgkeep.GrowHoare', WHERE WHAT IT READS IS OF BULK AT MOST 1048576: true; the input reads as it did. -/
def growHoareUptoRow : OpenClaim := { program := "ytanmakgnjehcfaa", sum := "072d477ebef2072b5198ef207437327b50868d88b862e16c2e0a84e4ba544f77", func := "hedgewright/hedgkeep.GrowHoare", spec := "growHoare", recurses := true, apart := false, narrowed := true }
def GrowHoareUptoSaid : Prop := growHoareUptoRow.holds Try.pinned (OpenSpec.upto growHoareSpec)

/-- 'hedgkeep.GrowTree', WHERE WHAT IT READS IS OF BULK AT MOST 1048576: true; the input reads as it did. -/
def growTreeUptoRow : OpenClaim := { program := "ytanmakgnjehcfaa", sum := "072d477ebef2072b5198ef207437327b50868d88b862e16c2e0a84e4ba544f77", func := "hedgewright/hedgkeep.GrowTree", spec := "growTree", recurses := true, apart := false, narrowed := true }
def GrowTreeUptoSaid : Prop := growTreeUptoRow.holds Try.pinned (OpenSpec.upto growTreeSpec)

/-- 'hedgkeep.GrowLast', WHERE WHAT IT READS IS OF BULK AT MOST 1048576: true; the input reads as it did. -/
def growLastUptoRow : OpenClaim := { program := "ytanmakgnjehcfaa", sum := "072d477ebef2072b5198ef207437327b50868d88b862e16c2e0a84e4ba544f77", func := "hedgewright/hedgkeep.GrowLast", spec := "growLast", recurses := true, apart := false, narrowed := true }
def GrowLastUptoSaid : Prop := growLastUptoRow.holds Try.pinned (OpenSpec.upto growLastSpec)

end Rows
end Go.Proofs.Ytanmakgnjehcfaa
