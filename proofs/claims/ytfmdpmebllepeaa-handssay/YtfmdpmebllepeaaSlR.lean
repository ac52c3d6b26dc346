/-
  SLICES OF SLICES OF PAIRS. Nothing of the program.
-/
import Derived.Test.YtfmdpmebllepeaaCopy
import Derived.Test.YtfmdpmebllepeaaSRow
import Derived.Lib.AppendZeros
namespace Go.Proofs.Ytfmdpmebllepeaa
open Go.RowKit

structure Sl where
  A : Option Addr
  n : Nat
  c : Nat
  L : PL
abbrev Sl.val (s : Sl) : Value := .slice s.A s.n s.c
abbrev sl0 : Sl := ⟨none, 0, 0, []⟩
def Sl.ok (w : World) (s : Sl) : Prop := PS w s.A s.n s.c s.L
structure RS (w : World) (A : Option Addr) (m c : Nat) (es : List Sl) : Prop where
  len : es.length = m
  rd : Rd w w.heap.size 1 A m c (fun i _ => (es[i]?.getD sl0).val)
  each : ∀ s ∈ es, s.ok w
theorem RS.below {w w' : World} {A : Option Addr} {m c : Nat} {es : List Sl} (h : RS w A m c es) (hb : Below w.heap.size w w') : RS w' A m c es := ⟨h.len, h.rd.below hb, fun s hs => PS.below (h.each s hs) hb⟩
theorem RS.at_ {w : World} {A : Option Addr} {m c : Nat} {es : List Sl} (h : RS w A m c es) (hm : 0 < m) :
    ∃ b off, A = some ⟨b, off, none⟩ ∧ b < w.heap.size ∧ ∀ i (hi : i < m), w.cell? ⟨b, off + i, none⟩ = some (es[i]'(by rw [h.len]; exact hi)).val := by
  obtain ⟨b, off, e, hb, hc⟩ := h.rd.2 hm
  refine ⟨b, off, e, hb, fun i hi => ?_⟩
  have hl : i < es.length := by rw [h.len]; exact hi
  have h0 := hc i hi 0 (by omega)
  simpa [List.getElem?_eq_getElem hl] using h0

end Go.Proofs.Ytfmdpmebllepeaa
