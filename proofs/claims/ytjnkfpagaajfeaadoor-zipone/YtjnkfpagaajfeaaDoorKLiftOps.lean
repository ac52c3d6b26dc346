/-
  ARGUMENTS, OPENED: both kinds; how long a slice of ops may be.
-/
import Derived.Test.YtjnkfpagaajfeaaDoorEqAll
import Derived.Test.YtjnkfpagaajfeaaDoorLift
namespace Go.Proofs.YtjnkfpagaajfeaaDoor
open Go.ChangeShapes Go.WideShapes Go.ChangeAt Go.WideMaps Go.WideElems Go.RowKit Go.Deep

theorem bytes_op : Tryd.prog.bytesOf 68 = 24 := by kernel_rfl
/-- the reach bounds it -/
theorem weight_ops {H : Type} {enc : TypeId × Value → H} {W : World} {base : Nat} {spare : Nat → Bool} {held : Bool} {fuel len cap : Nat} {a0 : Option Addr} {d : DataW H} {p : List MemPlace} (h : DataW.trod enc Tryd.prog W base spare held fuel 22 [.slice a0 len cap] = some (d, p)) (hw : ∀ x ∈ d.weights Tryd.prog 22, x ≤ reachBytes) : len * 24 ≤ 140737488355328 := by
  rcases open_slice Tryd.underlying22 h with ⟨hcs, _⟩ | ⟨a, len', cap', m, n, D, Pl, hcs, _, hl, hm, hmm, hx, _⟩
  · simp at hcs
    omega
  · simp at hcs
    obtain ⟨rfl, rfl, rfl⟩ := hcs
    simp only [Prod.mk.injEq] at hx
    obtain ⟨rfl, _⟩ := hx
    have h1 := hw ((((List.range len).map D).length + ((List.range (m - len)).map fun j => D (len + j)).length) * Tryd.prog.bytesOf 68) (by
      unfold DataW.weights
      rw [Tryd.underlying22]
      simp)
    rw [bytes_op] at h1
    simp only [List.length_map, List.length_range] at h1
    unfold reachBytes at h1
    omega
end Go.Proofs.YtjnkfpagaajfeaaDoor
