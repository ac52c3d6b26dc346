/-
  slices.Equal at Ans.
-/
import Derived.Test.YtcjhglejmmphbaaEq
namespace Go.Proofs.Ytcjhglejmmphbaa
open Go.RowKit

theorem An.ext' {a b : An} (h0 : a.e = b.e) (h1 : a.k = b.k) (h2 : a.v = b.v) (h3 : a.b = b.b) : a = b := by cases a; cases b; simp_all
instance : DecidableEq An := fun a b => decidable_of_iff (a.e = b.e ∧ a.k = b.k ∧ a.v = b.v ∧ a.b = b.b) ⟨fun h => An.ext' h.1 h.2.1 h.2.2.1 h.2.2.2, fun h => by subst h; simp⟩

def af (l : List An) (i j : Nat) : Value := if j = 0 then I (l[i]?.getD an0).e else if j = 1 then I (l[i]?.getD an0).k else if j = 2 then I (l[i]?.getD an0).v else .bool (l[i]?.getD an0).b
/-- a slice of answers -/
structure AS (w : World) (A : Option Addr) (n c : Nat) (l : List An) : Prop where
  len : l.length = n
  rd : Rd w w.heap.size 4 A n c (af l)
theorem AS.below {w w' : World} {n c : Nat} {A : Option Addr} {l : List An} (h : AS w A n c l) (hb : Below w.heap.size w w') : AS w' A n c l := ⟨h.len, h.rd.below hb⟩
theorem AS.at_ {w : World} {n c : Nat} {A : Option Addr} {l : List An} (h : AS w A n c l) (hn : 0 < n) :
    ∃ b off, A = some ⟨b, off, none⟩ ∧ b < w.heap.size ∧ ∀ i (hi : i < n), w.cell? ⟨b, off + i * 4, none⟩ = some (I (l[i]'(by rw [h.len]; exact hi)).e) ∧ w.cell? ⟨b, off + (i * 4 + 1), none⟩ = some (I (l[i]'(by rw [h.len]; exact hi)).k) ∧
      w.cell? ⟨b, off + (i * 4 + 2), none⟩ = some (I (l[i]'(by rw [h.len]; exact hi)).v) ∧ w.cell? ⟨b, off + (i * 4 + 3), none⟩ = some (.bool (l[i]'(by rw [h.len]; exact hi)).b) := by
  obtain ⟨b, off, e, hb, hc⟩ := h.rd.2 hn
  refine ⟨b, off, e, hb, fun i hi => ?_⟩
  have hl : i < l.length := by rw [h.len]; exact hi
  have h0 := hc i hi 0 (by omega)
  have h1 := hc i hi 1 (by omega)
  have h2 := hc i hi 2 (by omega)
  have h3 := hc i hi 3 (by omega)
  simp [af, List.getElem?_eq_getElem hl] at h0 h1 h2 h3
  exact ⟨h0, h1, h2, h3⟩

end Go.Proofs.Ytcjhglejmmphbaa
