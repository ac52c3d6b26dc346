/-
  A slice of numbers; slices.Equal at int.
-/
import Derived.Test.YtfmdpmebllepeaaChecked
import Derived.Test.YtfmdpmebllepeaaSPureAll
import Derived.BigQuiet
import Derived.Deep.QuietTactic
namespace Go.Proofs.Ytfmdpmebllepeaa
open Go.RowKit

structure IS (w : World) (A : Option Addr) (n c : Nat) (l : List Int) : Prop where
  len : l.length = n
  rd : Rd w w.heap.size 1 A n c (fun i _ => I (l[i]?.getD 0))
theorem IS.below {w w' : World} {n c : Nat} {A : Option Addr} {l : List Int} (h : IS w A n c l) (hb : Below w.heap.size w w') : IS w' A n c l := ⟨h.len, h.rd.below hb⟩
theorem IS.at_ {w : World} {n c : Nat} {A : Option Addr} {l : List Int} (h : IS w A n c l) (hn : 0 < n) :
    ∃ b off, A = some ⟨b, off, none⟩ ∧ b < w.heap.size ∧ ∀ i (hi : i < n), w.cell? ⟨b, off + i, none⟩ = some (I (l[i]'(by rw [h.len]; exact hi))) := by
  obtain ⟨b, off, e, hb, hc⟩ := h.rd.2 hn
  refine ⟨b, off, e, hb, fun i hi => ?_⟩
  have hl : i < l.length := by rw [h.len]; exact hi
  have h0 := hc i hi 0 (by omega)
  simpa [List.getElem?_eq_getElem hl] using h0

end Go.Proofs.Ytfmdpmebllepeaa
