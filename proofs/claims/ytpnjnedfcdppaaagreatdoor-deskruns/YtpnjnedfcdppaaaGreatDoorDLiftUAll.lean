/-
  Joined texts: YtpnjnedfcdppaaaGreatDoorDLift, YtpnjnedfcdppaaaGreatDoorDLiftU.
-/
import Derived.Test.YtpnjnedfcdppaaaGreatDoorDLaid
import Derived.Test.YtpnjnedfcdppaaaGreatDoorLiftBase
import Derived.Test.YtpnjnedfcdppaaaGreatDoorRows
import Derived.Lib.LaidTab
import Derived.LaidSub
import Derived.LaidMore
import Derived.Lay
import Derived.MakeChecks
import Derived.HandedShaped
import Derived.Stop.Joined
import Derived.Shelf.Vars
import Derived.Deep.DeepHandedRow
import Derived.Deep.DeepWitnessRowRef
import Derived.ChangeMaps5
import Derived.Lib.SmallJoins
/-
  ARGUMENTS, OPENED: the tables of the library in their variables; the world's shape is kept.
-/
namespace Go.Proofs.YtpnjnedfcdppaaaGreatDoor
open Go.ChangeShapes Go.WideShapes Go.ChangeAt Go.RowKit Go.Deep

def laidD : List (String × DataW Unit) := [("math/bits.deBruijn32tab", Rows.laid_math_bits_deBruijn32tab), ("math/bits.deBruijn64tab", Rows.laid_math_bits_deBruijn64tab), ("internal/strconv.uint64pow10", Rows.laid_internal_strconv_uint64pow10), ("unicode/utf8.acceptRanges", Rows.laid_unicode_utf8_acceptRanges), ("unicode/utf8.first", Rows.laid_unicode_utf8_first)]
set_option maxRecDepth 100000 in
theorem door_shaped (os : Os) (args : Array Value) : ((World.laidAll Tryz.prog os laidD).forCall (fun _ _ => 0) ⟨#[], args, []⟩).Shaped Tryz.prog := World.shaped_of_ZipB (by kernel_rfl) (by kernel_rfl)
set_option maxRecDepth 100000 in
theorem door_met (os : Os) (args : Array Value) : laidMetH Tryz.prog laidD ((World.laidAll Tryz.prog os laidD).forCall (fun _ _ => 0) ⟨#[], args, []⟩).memory := by
  rw [MakeChecks.laidMetH_plain _ _ _ (by kernel_rfl)]
  exact laidMet_laidAll _ (by kernel_rfl) (by kernel_rfl)
theorem laid_one {W : World} (h : laidMetH Tryz.prog laidD W) (n : String) (d : DataW Unit) (e : (laidD.filter fun x => x.1 == n) = [(n, d)]) : laidMet Tryz.prog [(n, d)] W := by
  rw [MakeChecks.laidMetH_plain _ _ _ (by kernel_rfl)] at h
  have h2 := h.filter fun x => x.1 == n
  rw [e] at h2
  exact h2
theorem d64_is : Rows.laid_math_bits_deBruijn64tab = Lib.tabData (H := Unit) .u8 (Lib.deBruijn64tab.map fun n : Nat => (n : Int)) := rfl
theorem p10_is : Rows.laid_internal_strconv_uint64pow10 = Lib.tabData (H := Unit) .u64 Lib.pow10Tab := rfl
set_option maxRecDepth 100000 in
theorem max_int {W : World} (h : W.ShapedOpen Tryz.prog) : ∃ m : Int, W.cell? ⟨0, 0, none⟩ = some (I m) :=
  cell_of_shapedOpen_int (zero := #[I 0]) (t := 3) h (by decide +kernel) (by kernel_rfl) rfl (by kernel_rfl) (by kernel_rfl) Tryz.underlying3
theorem laid_LD {W : World} (h : laidMetH Tryz.prog laidD W) (hs : W.ShapedOpen Tryz.prog) : LD W := by
  have h64 : Lib.TabIs Tryz.prog W "math/bits.deBruijn64tab" .u8 (Lib.deBruijn64tab.map fun n : Nat => (n : Int)) :=
    Lib.tabIs_of_head (g := 3) (t := 274) (n := 64) (by kernel_rfl) (by kernel_rfl) Tryz.underlying274 Tryz.underlying5 (by kernel_rfl) (by kernel_rfl) (rest := []) (by rw [← d64_is]; exact laid_one h _ _ (by kernel_rfl))
  have hp : Lib.TabIs Tryz.prog W "internal/strconv.uint64pow10" .u64 Lib.pow10Tab :=
    Lib.tabIs_of_head (g := 4) (t := 277) (n := 20) (by kernel_rfl) (by kernel_rfl) Tryz.underlying277 Tryz.underlying255 (by kernel_rfl) (by kernel_rfl) (rest := []) (by rw [← p10_is]; exact laid_one h _ _ (by kernel_rfl))
  have h32 := laid_one h "math/bits.deBruijn32tab" Rows.laid_math_bits_deBruijn32tab (by kernel_rfl)
  refine ⟨fun j hj => ?_, hp, max_int hs, ?_⟩
  · have hc := h64.cell (g := 3) (by kernel_rfl) j (by rw [List.length_map]; exact hj)
    rw [hc]
    have hj' : j < Lib.deBruijn64tab.length := hj
    simp [List.getD, List.getElem?_map, List.getElem?_eq_getElem hj']
  · obtain ⟨ps, ⟨g0, t0, cs0, f0, p0, q0, hg0, ht0, hv0, hd0, _, _⟩, _, _⟩ := h32
    obtain rfl := Option.some.inj ((show Tryz.prog.globalNamed "math/bits.deBruijn32tab" = some 5 by kernel_rfl).symm.trans hg0)
    rcases Nat.lt_or_ge 5 W.heap.size with hlt | hge
    · exact hlt
    · exfalso
      unfold World.var? at hv0
      rw [show Tryz.prog.globalNamed "math/bits.deBruijn32tab" = some 5 by kernel_rfl] at hv0
      simp only [Option.bind_some] at hv0
      rw [Array.getElem?_eq_none hge] at hv0
      cases hv0
end Go.Proofs.YtpnjnedfcdppaaaGreatDoor

/-
  Second forms: the bound, a witness by the world's shape.
-/
namespace Go.Proofs.YtpnjnedfcdppaaaGreatDoor
open Go.ChangeShapes Go.WideShapes Go.ChangeAt Go.WideMaps Go.WideElems Go.RowKit Go.Joins Go.Deep

theorem witness_up {H : Type} {enc : TypeId × Value → H} {C : Checked} {os : Os} {f : FuncId} {fn : Func} {s : OpenSpec} {conds : List PathCond} {apart : Bool} {laid : List (String × DataW Unit)} (w0 : World) (args : Array Value) (hos : w0.os = os)
    (hsh : (w0.forCall (fun _ _ => 0) ⟨#[], args, []⟩).Shaped C.prog) (hok : Input.okWideB C.prog (w0.forCall (fun _ _ => 0) ⟨#[], args, []⟩) f ⟨#[], args, []⟩ = true)
    (hrow : s.preRow enc C.prog fn conds apart laid (w0.forCall (fun _ _ => 0) ⟨#[], args, []⟩).memory args) :
    ∃ (w : World) (tape : Tape) (i : Input), w.os = os ∧ (w.forCall tape i).Shaped C.prog ∧ i.vars = [] ∧ Input.okWide C.prog (w.forCall tape i) .any w.heap.size f i ∧
      s.preRow enc C.prog fn conds apart laid (w.forCall tape i).memory i.args ∧ ({ modest := false } : Assume).holds C.prog (lone (Frame.enter C.prog f i.args .normal) [] (w.forCall tape i)) :=
  ⟨w0, fun _ _ => 0, ⟨#[], args, []⟩, hos, hsh, (Input.okWide_of_okWideB (base := 0) hok).1, (Input.okWide_of_okWideB hok).2, hrow, by
    simp only [Assume.holds]
    exact ⟨by simp, by simp, fun _ => Modest.zero, by simp, by simp⟩⟩
end Go.Proofs.YtpnjnedfcdppaaaGreatDoor
