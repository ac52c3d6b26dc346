/-
  ten keys against ten keys.
-/
import Derived.Test.YtfmdpmebllepeaaJKey
import Derived.DeepKeys
namespace Go.Proofs.Ytfmdpmebllepeaa
open Go.RowKit

/-- the ten, as a list -/
abbrev b10 (a : Nat → Bool) : List Bool := [a 0, a 1, a 2, a 3, a 4, a 5, a 6, a 7, a 8, a 9]
set_option maxRecDepth 100000 in
theorem eq10_run (a c : Nat → Bool) (w : World) : (binOp .eql 39 (.agg (k10 a)) (.agg (k10 c))).run Try.prog w = .ok (.bool (b10 a == b10 c)) w := by
  have h1 : ∀ a : Nat → Bool, Try.prog.keyLits 6 39 (Value.agg (k10 a)).cells.toList = some ((b10 a).map Lit.bool) := fun _ => by kernel_rfl
  have hf : ∀ a : Nat → Bool, (Value.agg (k10 a)).formed Try.prog 39 = true := fun _ => by kernel_rfl
  obtain ⟨r, hr, hiff⟩ := run_equalIn_deep (P := Try.prog) 9995 5 39 (by kernel_rfl) w 6 6 (.agg (k10 a)) (.agg (k10 c)) _ _ (hf a) (hf c) (h1 a) (h1 c)
  have hb : (b10 a == b10 c) = r := by
    have hinj : ((b10 a).map Lit.bool = (b10 c).map Lit.bool) ↔ b10 a = b10 c := by
      constructor
      · intro h
        simpa using h
      · intro h
        rw [h]
    rw [hinj] at hiff
    cases r with
    | true => rw [beq_iff_eq]; exact hiff.1 rfl
    | false =>
      rw [beq_eq_false_iff_ne]
      intro h
      exact absurd (hiff.2 h) (by simp)
  rw [hb, run_eql_struct]
  have hr' : Sem.run Try.prog (Op.equalIn 10000 39 (.agg (k10 a)) (.agg (k10 c))) w = .ok r w := hr
  rw [hr']
  rfl
end Go.Proofs.Ytfmdpmebllepeaa
