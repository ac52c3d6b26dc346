/-
  ARGUMENTS, OPENED: a slice of numbers; the table in its variable.
-/
import Derived.Test.YtjnkfpagaajfeaaDoorLiftBase
import Derived.Test.YtjnkfpagaajfeaaDoorKTab
import Derived.Test.YtjnkfpagaajfeaaDoorLiftInts
import Derived.LaidMore
import Derived.Stop.Joined
namespace Go.Proofs.YtjnkfpagaajfeaaDoor
open Go.ChangeShapes Go.WideShapes Go.ChangeAt Go.WideMaps Go.WideElems Go.RowKit Go.Deep

theorem cells_u8 : Tryd.prog.cellsOf 5 = 1 := by kernel_rfl
/-- what the rows list -/
def laidK : List (String × DataW Unit) := [("math/bits.deBruijn64tab", Rows.laid_math_bits_deBruijn64tab)]
theorem gTab : Tryd.prog.globalNamed "math/bits.deBruijn64tab" = some 0 := by kernel_rfl
theorem tTab : (Tryd.prog.globals[0]?).map (·.type) = some 104 := by kernel_rfl
set_option maxRecDepth 100000 in
/-- the door's own heap meets the condition -/
theorem door_met (os : Os) (args : Array Value) : laidMetH Tryd.prog laidK ((World.doorLaid Tryd.prog 400 os).forCall (fun _ _ => 0) ⟨#[], args, []⟩).memory :=
  laidMetH_of_parts3 (fuel := 8) (laidMet_of_run' 8 (by kernel_rfl) (by kernel_rfl)) (by kernel_rfl) (by kernel_rfl)
theorem tab_list : ∀ j, j < 64 → (Lib.deBruijn64tab.map fun n : Nat => (DataW.lit (.int .u8 (n : Int)) : DataW Unit))[j]? = some (.lit (.int .u8 (Lib.deBruijn64tab.getD j 0))) := by
  intro j hj
  have : j < Lib.deBruijn64tab.length := hj
  simp [List.getElem?_map, List.getElem?_eq_getElem this, List.getD]
theorem tab_data : (Rows.laid_math_bits_deBruijn64tab : DataW Unit) = .agg (Lib.deBruijn64tab.map fun n : Nat => .lit (.int .u8 (n : Int))) := rfl
set_option maxRecDepth 100000 in
/-- what the condition gives -/
theorem tab_laid {W : World} (h : laidMetH Tryd.prog laidK W) : Tb W := by
  rw [MakeChecks.laidMetH_plain _ _ _ (by kernel_rfl)] at h
  obtain ⟨ps, ⟨g0, t0, cs0, f0, p0, q0, hg0, ht0, hv0, hd0, _, _⟩, _, _⟩ := h
  obtain rfl := Option.some.inj (gTab.symm.trans hg0)
  obtain rfl := Option.some.inj (tTab.symm.trans ht0)
  obtain ⟨xs, m1, rfl, hx1, hlen, hn3, hel⟩ := DataW.trod_array Tryd.underlying104 hd0
  intro j hj
  have hcell := World.var?_cell hg0 hv0 j
  rw [hcell]
  have hj' : j < xs.length := by omega
  have he := hel j hj
  rw [List.getElem?_eq_getElem hj'] at he
  obtain ⟨k, e1, e2, _⟩ := DataW.trod_int Tryd.underlying5 he
  simp only [Prod.mk.injEq] at hx1
  have hd := hx1.1
  rw [tab_data] at hd
  injection hd with hd
  have hk : (.lit (.int .u8 (Lib.deBruijn64tab.getD j 0)) : DataW Unit) = .lit (.int .u8 k) := by
    have h1 : (Lib.deBruijn64tab.map fun n : Nat => (DataW.lit (.int .u8 (n : Int)) : DataW Unit))[j]? = (xs.map (·.1))[j]? := by rw [hd]
    rw [tab_list j hj, List.getElem?_map, List.getElem?_eq_getElem hj', Option.map_some, e2] at h1
    exact Option.some.inj h1
  injection hk with hk
  injection hk with _ hk
  rw [cells_u8] at e1
  have h2 : cs0.toList[j]? = some (.int .u8 k) := by
    have := congrArg (fun l : List Value => l[0]?) e1
    simpa [List.getElem?_take, List.getElem?_drop] using this
  rw [hk]
  simpa using h2
end Go.Proofs.YtjnkfpagaajfeaaDoor
