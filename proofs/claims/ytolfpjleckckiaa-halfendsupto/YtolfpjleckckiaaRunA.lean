/-
  The answers of plain.Run, one by one; an op, an answer as blocks.
-/
import Derived.Test.YtolfpjleckckiaaRun
namespace Go.Proofs.Ytolfpjleckckiaa
open Go.RowKit

theorem fold_ans : ∀ (ops : List OP) (s : PL × List An), (ops.foldl stepR s).2 = s.2 ++ (ops.foldl stepR (s.1, [])).2
  | [], s => by simp
  | o :: ops, s => by
    rw [List.foldl_cons, List.foldl_cons, fold_ans ops (stepR s o), fold_ans ops (stepR (s.1, []) o)]
    simp [stepR]
theorem runR_ans (ops : List OP) (k : Nat) (h : k < ops.length) : (runR ops).2[k]'(by rw [runR_len]; exact h) = doA (runR (ops.take k)).1 ops[k].1 ops[k].2.1 := by
  have e : runR ops = (ops.drop (k + 1)).foldl stepR (stepR (runR (ops.take k)) ops[k]) := by
    rw [← runR_succ ops k h]
    unfold runR
    rw [← List.foldl_append, List.take_append_drop]
  have hl : (runR (ops.take k)).2.length = k := by rw [runR_len]; simp; omega
  have e2 : (runR ops).2 = ((runR (ops.take k)).2 ++ [doA (runR (ops.take k)).1 ops[k].1 ops[k].2.1]) ++ ((ops.drop (k + 1)).foldl stepR ((stepR (runR (ops.take k)) ops[k]).1, [])).2 := by
    rw [e, fold_ans]
    rfl
  have : (runR ops).2[k]? = some (doA (runR (ops.take k)).1 ops[k].1 ops[k].2.1) := by
    rw [e2, List.getElem?_append_left (by simp [hl]), List.getElem?_append_right (by omega), hl]
    simp
  rw [List.getElem?_eq_getElem (by rw [runR_len]; exact h)] at this
  exact Option.some.inj this

abbrev opO (kind key val : Int) : Obj := .cells #[I kind, I key, I val] 39
abbrev anO (a : An) : Obj := .cells #[I a.e, I a.k, I a.v, .bool a.b] 36

end Go.Proofs.Ytolfpjleckckiaa
