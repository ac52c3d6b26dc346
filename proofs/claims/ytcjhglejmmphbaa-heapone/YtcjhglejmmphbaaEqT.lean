/-
  slices.Equal of lists that are the same.
-/
import Derived.Test.YtcjhglejmmphbaaEqAns
import Derived.Test.YtcjhglejmmphbaaEqInt
namespace Go.Proofs.Ytcjhglejmmphbaa
open Go.RowKit

theorem eqInt_t (A A' : Option Addr) (n c c' : Nat) (l : List Int) (w : World) (h : IS w A n c l) (h' : IS w A' n c' l) (hn : n ≤ 1000000) :
    Calls Try.prog 31 #[.slice A n c, .slice A' n c'] w fun e w' => e = .returned (.bool true) ∧ Below w.heap.size w w' := by
  refine (eqInt_any A A' n n c c' l l w h h' hn hn).mono ?_
  rintro e w' ⟨rfl, hb⟩
  exact ⟨by simp, hb⟩

end Go.Proofs.Ytcjhglejmmphbaa
