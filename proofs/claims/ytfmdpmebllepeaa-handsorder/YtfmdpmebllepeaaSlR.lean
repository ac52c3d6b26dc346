/-
  SLICES OF SLICES OF PAIRS. Nothing of the program.
-/
import Derived.Test.YtfmdpmebllepeaaCopy
import Derived.Test.YtfmdpmebllepeaaSRow
import Derived.Lib.AppendZeros
namespace Go.Proofs.Ytfmdpmebllepeaa
open Go.RowKit

theorem grow_own (w : World) (e : TypeId) (n : Nat) (h0 : 0 < n) (hn : n ≤ 1000) :
    (w.drew.alloc (.cells (Builtin.zeroCells (Value.agg #[I 0, I 0]).cells n ++ Builtin.zeroCells (Value.agg #[I 0, I 0]).cells (grownCap w n 0 e - n)) e)).ownsRow w.heap.size e 2 (.slice (some ⟨w.heap.size, 0, none⟩) 0 (grownCap w n 0 e)) ([] : PL).length (flat []) := by
  have hge := grownCap_ge w n 0 e
  refine ⟨rfl, .inr ⟨w.heap.size, grownCap w n 0 e, _, rfl, Nat.le_refl _, heap_alloc_new w.drew _, Nat.zero_le _, grownCap_le_maxLen w n 0 e (by unfold maxLen; omega), ?_, rfl⟩⟩
  rw [Array.size_append, size_zeroCells, size_zeroCells]
  simp [Value.cells]
  omega

/-- a slice of spots, with what it reads as -/
structure Sl where
  A : Option Addr
  n : Nat
  c : Nat
  L : PL
abbrev Sl.val (s : Sl) : Value := .slice s.A s.n s.c
abbrev sl0 : Sl := ⟨none, 0, 0, []⟩
def Sl.ok (w : World) (s : Sl) : Prop := PS w s.A s.n s.c s.L
/-- a slice of slices of spots -/
structure RS (w : World) (A : Option Addr) (m c : Nat) (es : List Sl) : Prop where
  len : es.length = m
  rd : Rd w w.heap.size 1 A m c (fun i _ => (es[i]?.getD sl0).val)
  each : ∀ s ∈ es, s.ok w
theorem RS.below {w w' : World} {A : Option Addr} {m c : Nat} {es : List Sl} (h : RS w A m c es) (hb : Below w.heap.size w w') : RS w' A m c es := ⟨h.len, h.rd.below hb, fun s hs => PS.below (h.each s hs) hb⟩
theorem RS.at_ {w : World} {A : Option Addr} {m c : Nat} {es : List Sl} (h : RS w A m c es) (hm : 0 < m) :
    ∃ b off, A = some ⟨b, off, none⟩ ∧ b < w.heap.size ∧ ∀ i (hi : i < m), w.cell? ⟨b, off + i, none⟩ = some (es[i]'(by rw [h.len]; exact hi)).val := by
  obtain ⟨b, off, e, hb, hc⟩ := h.rd.2 hm
  refine ⟨b, off, e, hb, fun i hi => ?_⟩
  have hl : i < es.length := by rw [h.len]; exact hi
  have h0 := hc i hi 0 (by omega)
  simpa [List.getElem?_eq_getElem hl] using h0

def sumN (es : List Sl) : Nat := es.foldr (fun s n => s.n + n) 0
def catL (es : List Sl) : PL := es.flatMap Sl.L
theorem sumN_append (a b : List Sl) : sumN (a ++ b) = sumN a + sumN b := by
  induction a with
  | nil => simp [sumN]
  | cons s t ih => simp only [sumN, List.cons_append, List.foldr_cons] at *; omega
theorem sumN_step (es : List Sl) (k : Nat) (h : k < es.length) : sumN (es.take (k + 1)) = sumN (es.take k) + es[k].n := by
  rw [List.take_succ_eq_append_getElem h, sumN_append]
  simp [sumN]
theorem sumN_take (es : List Sl) (k : Nat) : sumN (es.take k) ≤ sumN es := by
  conv => rhs; rw [← List.take_append_drop k es]
  rw [sumN_append]
  omega
theorem catL_step (es : List Sl) (k : Nat) (h : k < es.length) : catL (es.take (k + 1)) = catL (es.take k) ++ es[k].L := by
  unfold catL
  rw [List.take_succ_eq_append_getElem h, List.flatMap_append]
  simp only [List.flatMap_cons, List.flatMap_nil, List.append_nil]
theorem catL_len (es : List Sl) (w : World) (h : ∀ s ∈ es, s.ok w) : (catL es).length = sumN es := by
  induction es with
  | nil => rfl
  | cons s t ih =>
    have := (h s (by simp)).len
    have e : catL (s :: t) = s.L ++ catL t := rfl
    have e2 : sumN (s :: t) = s.n + sumN t := rfl
    rw [e, e2, List.length_append, ih (fun x hx => h x (by simp [hx])), this]

end Go.Proofs.Ytfmdpmebllepeaa
