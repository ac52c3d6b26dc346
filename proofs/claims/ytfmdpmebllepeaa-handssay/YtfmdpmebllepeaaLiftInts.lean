/-
  ARGUMENTS, OPENED: a slice of numbers.
-/
import Derived.Test.YtfmdpmebllepeaaLiftBase
import Derived.Test.YtfmdpmebllepeaaEqInt
namespace Go.Proofs.Ytfmdpmebllepeaa
open Go.ChangeShapes Go.WideShapes Go.ChangeAt Go.WideMaps Go.WideElems Go.RowKit Go.Deep

section
variable {H : Type} {enc : TypeId × Value → H} {W : World} {base : Nat} {spare : Nat → Bool} {held : Bool}

theorem open_ints {fuel len cap : Nat} {a0 : Option Addr} {x : DataW H × List MemPlace} (h : DataW.trod enc Try.prog W base spare held fuel 22 [.slice a0 len cap] = some x) : len ≤ 9223372036854775807 ∧ ∃ l, IS W a0 len cap l := by
  rcases open_slice Try.underlying22 h with ⟨hcs, _⟩ | ⟨a, len', cap', m, n, D, Pl, hcs, _, hl, hm, hmm, _, hx⟩
  · simp at hcs
    obtain ⟨rfl, rfl, rfl⟩ := hcs
    exact ⟨by omega, [], rfl, Rd.none_⟩
  · simp at hcs
    obtain ⟨rfl, rfl, rfl⟩ := hcs
    have hlm : len ≤ m := by rw [hmm]; split <;> omega
    have each : ∀ i, i < len → ∃ q : Int, W.cell? (a.add i) = some (I q) := by
      intro i hi
      obtain ⟨cs', h1, h2⟩ := hx i (by omega)
      rw [cells_int] at h1
      obtain ⟨_, hlen, hcell⟩ := World.cells?_some h1
      match cs', hlen with
      | [v], _ =>
        obtain ⟨k, e, _⟩ := DataW.trod_int Try.underlying3 h2
        simp at e
        have e0 := hcell 0 (by omega)
        rw [add_add] at e0
        exact ⟨k, by simpa [e] using e0⟩
    obtain ⟨l, hll, hp⟩ := choose_elems len each
    refine ⟨by unfold maxLen at hm; omega, l, hll, hl, fun h0 => ?_⟩
    have hs : a.spot = none := spot_of (hp 0 (by omega)) rfl
    refine ⟨a.block, a.off, by cases a; simp_all, ?_, fun i hi j hj => ?_⟩
    · have := cell_lt (hp 0 (by omega))
      simpa [Addr.add] using this
    · have hil : i < l.length := by omega
      have p0 := hp i hil
      rw [add_of a _ hs] at p0
      obtain rfl : j = 0 := by omega
      simpa [List.getElem?_eq_getElem hil] using p0
end

end Go.Proofs.Ytfmdpmebllepeaa
