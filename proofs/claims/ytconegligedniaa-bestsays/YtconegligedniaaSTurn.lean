/-
  slices.IndexFunc at Spot, slices.Clone at Spot, shift.
-/
import Derived.Test.YtconegligedniaaSPar
import Derived.Test.YtconegligedniaaSRow
import Derived.WalkSpells
namespace Go.Proofs.Ytconegligedniaa
open Go.RowKit

theorem spot_info : (Try.prog.info? 42).map (fun i => (i.zero, i.size, i.bytes)) = some (some (.agg #[I 0, I 0]), 2, 16) := by kernel_rfl

end Go.Proofs.Ytconegligedniaa
