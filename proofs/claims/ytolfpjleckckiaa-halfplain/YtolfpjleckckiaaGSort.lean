/-
  sorted, Sort: by the first one; how often two were held against each other.
-/
import Derived.Test.YtolfpjleckckiaaGInts
import Derived.Test.YtolfpjleckckiaaGCheck
namespace Go.Proofs.Ytolfpjleckckiaa
open Go.RowKit

def RetGs (L : List Int) (k : Int) (w : World) (e : Ending) (w' : World) : Prop := ∃ A n c, e = .returned (.tuple #[.slice A n c, I k]) ∧ IS w' A n c L ∧ Below w.heap.size w w'

theorem gown_lt {w : World} {base e s n : Nat} {v : Value} {xs : List Value} (h : w.ownsRow base e s v n xs) : ∀ g, v.ownBlock = some g → g < w.heap.size := by
  intro g hg
  rcases h.2 with ⟨rfl, _⟩ | ⟨g', cap, cur, rfl, _, hh, _⟩
  · simp [Value.ownBlock] at hg
  · simp [Value.ownBlock] at hg
    subst hg
    exact (Array.getElem?_eq_some_iff.1 hh).1
/-- two rows lie in two blocks -/
def Apt (u v : Value) : Prop := ∀ g, u.ownBlock = some g → v.ownBlock ≠ some g
theorem Apt.symm {u v : Value} (h : Apt u v) : Apt v u := fun g hg hu => h g hu hg
theorem Apt.or {u v : Value} (h : Apt u v) : u.ownBlock = none ∨ u.ownBlock ≠ v.ownBlock := by
  cases hu : u.ownBlock with
  | none => exact .inl rfl
  | some g => exact .inr fun e => h g hu e.symm
/-- one more onto the row u, beside the row v -/
theorem app_beside {w w' : World} {base : Nat} {u u' v : Value} {L : List Int} (hv : OwnI w base v L) (ha : Apt u v) (o : Obj) (hg : (w.alloc o).grownBy w' u.ownBlock) (hat : u'.ownBlock = u.ownBlock ∨ u'.ownBlock = some (w.alloc o).heap.size) :
    OwnI w' base v L ∧ Apt u' v := by
  have hv1 : (w.alloc o).ownsRow base 3 1 v L.length (L.map I) := own_below hv ((Below.refl _ _).alloc (Nat.le_refl _) _)
  refine ⟨hv1.kept hg ha.symm.or, fun g hgu hgv => ?_⟩
  rcases hat with e | e
  · exact ha g (by rw [← e]; exact hgu) hgv
  · have := gown_lt hv g hgv
    rw [e] at hgu
    simp at hgu
    omega
theorem lo_snoc (x y : Int) (l : List Int) : lo x (l ++ [y]) = if y < x then lo x l ++ [y] else lo x l := by
  unfold lo
  by_cases h : y < x <;> simp [h]
theorem hi_snoc (x y : Int) (l : List Int) : hi x (l ++ [y]) = if y < x then hi x l else hi x l ++ [y] := by
  unfold hi
  by_cases h : y < x <;> simp [h]
theorem rsi_three {w : World} {g t : Nat} {a b c : SlI} (hh : w.heap[g]? = some (.cells #[a.val, b.val, c.val] t (0, 0))) (ha : a.ok w) (hb : b.ok w) (hc : c.ok w) : RSI w (some ⟨g, 0, none⟩) 3 3 [a, b, c] := by
  refine ⟨rfl, ⟨Nat.le_refl _, fun _ => ⟨g, 0, rfl, (Array.getElem?_eq_some_iff.1 hh).1, fun i hi j hj => ?_⟩⟩, fun s hs => ?_⟩
  · obtain rfl : j = 0 := by omega
    match i, hi with
    | 0, _ => simp [World.cell?, hh]
    | 1, _ => simp [World.cell?, hh]
    | 2, _ => simp [World.cell?, hh]
  · simp at hs
    rcases hs with rfl | rfl | rfl
    · exact ha
    · exact hb
    · exact hc

def RetGs3 (L : List Int) (k : Int) (w : World) (e : Ending) (w' : World) : Prop := ∃ A n c, e = .returned (.tuple #[.slice A n c, I k, I 0]) ∧ IS w' A n c L ∧ Below w.heap.size w w'
end Go.Proofs.Ytolfpjleckckiaa
