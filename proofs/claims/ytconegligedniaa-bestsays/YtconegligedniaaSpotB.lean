/-
  Rows of spots of the call's own.
-/
import Derived.Test.YtconegligedniaaSRow
import Derived.Test.YtconegligedniaaChecked
import Derived.Test.YtconegligedniaaInts
namespace Go.Proofs.Ytconegligedniaa
open Go.RowKit

theorem gspot_info : (Try.prog.info? 42).map (fun i => (i.zero, i.size, i.bytes)) = some (some (.agg #[I 0, I 0]), 2, 16) := by kernel_rfl
theorem gsrc_one (w : World) (k d : Int) : Src (w.alloc (.cells #[I k, I d] 42)) (some ⟨w.heap.size, 0, none⟩) 1 [(k, d)] := by
  refine ⟨rfl, fun _ => ⟨_, rfl, fun j u hu => ?_⟩⟩
  match j with
  | 0 => simp [flat] at hu; simp [Addr.add, ← hu]
  | 1 => simp [flat] at hu; simp [Addr.add, ← hu]
  | j + 2 => simp [flat] at hu

def RetSO (L : PL) (base : Nat) (w : World) (e : Ending) (w' : World) : Prop := ∃ v, e = .returned v ∧ OwnR w' base 42 v L ∧ Below base w w'

end Go.Proofs.Ytconegligedniaa
