/-
  ARGUMENTS, OPENED: the reach bounds how long a slice of numbers is.
-/
import Derived.Test.YtconegligedniaaLiftInts
namespace Go.Proofs.Ytconegligedniaa
open Go.ChangeShapes Go.WideShapes Go.ChangeAt Go.WideMaps Go.WideElems Go.RowKit Go.Deep

theorem bytes_int : Try.prog.bytesOf 3 = 8 := by kernel_rfl
/-- the reach bounds it -/
theorem weight_ints {H : Type} {enc : TypeId × Value → H} {W : World} {base : Nat} {spare : Nat → Bool} {held : Bool} {fuel len cap : Nat} {a0 : Option Addr} {d : DataW H} {p : List MemPlace} (h : DataW.trod enc Try.prog W base spare held fuel 23 [.slice a0 len cap] = some (d, p)) (hw : ∀ x ∈ d.weights Try.prog 23, x ≤ reachBytes) : len * 8 ≤ 140737488355328 := by
  rcases open_slice Try.underlying23 h with ⟨hcs, _⟩ | ⟨a, len', cap', m, n, D, Pl, hcs, _, hl, hm, hmm, hx, _⟩
  · simp at hcs
    omega
  · simp at hcs
    obtain ⟨rfl, rfl, rfl⟩ := hcs
    simp only [Prod.mk.injEq] at hx
    obtain ⟨rfl, _⟩ := hx
    have h1 := hw ((((List.range len).map D).length + ((List.range (m - len)).map fun j => D (len + j)).length) * Try.prog.bytesOf 3) (by
      unfold DataW.weights
      rw [Try.underlying23]
      simp)
    rw [bytes_int] at h1
    simp only [List.length_map, List.length_range] at h1
    unfold reachBytes at h1
    omega
end Go.Proofs.Ytconegligedniaa
