/-
  slices.Equal of lists that are the same.
-/
import Derived.Test.YtanmakgnjehcfaaEqAns
import Derived.Test.YtanmakgnjehcfaaEqInt
namespace Go.Proofs.Ytanmakgnjehcfaa
open Go.RowKit

theorem eqAns_t (A A' : Option Addr) (n c c' : Nat) (l : List An) (w : World) (h : AS w A n c l) (h' : AS w A' n c' l) (hn : n ≤ 1000000) :
    Calls Try.prog 19 #[.slice A n c, .slice A' n c'] w fun e w' => e = .returned (.bool true) ∧ Below w.heap.size w w' := by
  refine (eqAns_any A A' n n c c' l l w h h' hn hn).mono ?_
  rintro e w' ⟨rfl, hb⟩
  exact ⟨by simp, hb⟩
theorem eqInt_t (A A' : Option Addr) (n c c' : Nat) (l : List Int) (w : World) (h : IS w A n c l) (h' : IS w A' n c' l) (hn : n ≤ 1000000) :
    Calls Try.prog 36 #[.slice A n c, .slice A' n c'] w fun e w' => e = .returned (.bool true) ∧ Below w.heap.size w w' := by
  refine (eqInt_any A A' n n c c' l l w h h' hn hn).mono ?_
  rintro e w' ⟨rfl, hb⟩
  exact ⟨by simp, hb⟩

end Go.Proofs.Ytanmakgnjehcfaa
