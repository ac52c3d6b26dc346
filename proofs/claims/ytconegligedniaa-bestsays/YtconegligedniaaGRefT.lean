/-
  package hedgref's trees: Least, Leaf, Unleafed: trees in memory that nothing changes.
-/
import Derived.Test.YtconegligedniaaChecked
import Derived.Test.YtconegligedniaaGPure
import Derived.Deep.LoopGhost
import Derived.Deep.RegionHeld3
import Derived.BigQuiet
import Derived.Deep.QuietTactic
namespace Go.Proofs.Ytconegligedniaa
open Go.RowKit

/-- the pointer q is the tree t -/
def RT (w : World) : Option Addr → Tr → Prop
  | q, .nil => q = none
  | q, .node a k b => ∃ g qa qb, q = some ⟨g, 0, none⟩ ∧ w.heap[g]? = some (.cells #[I k, .pointer qa, .pointer qb] 66 (0, 0)) ∧ RT w qa a ∧ RT w qb b
theorem RT.below {w w' : World} (hb : Below w.heap.size w w') : ∀ {t : Tr} {q : Option Addr}, RT w q t → RT w' q t := by
  intro t
  induction t with
  | nil => exact fun {q} h => h
  | node a k b iha ihb =>
    rintro q ⟨g, qa, qb, rfl, hg, ha, hb'⟩
    exact ⟨g, qa, qb, rfl, (hb.block g (Array.getElem?_eq_some_iff.1 hg).1).trans hg, iha ha, ihb hb'⟩
theorem RT.drew {w : World} {t : Tr} {q : Option Addr} (h : RT w q t) : RT w.drew q t := h.below (Below.refl _ _).drew
theorem RT.alloc {w : World} {t : Tr} {q : Option Addr} (h : RT w q t) (o : Obj) : RT (w.alloc o) q t := h.below ((Below.refl _ _).alloc (Nat.le_refl _) _)
theorem tree_cells {w : World} {g : Nat} {k : Int} {x y : Value} (h : w.heap[g]? = some (.cells #[I k, x, y] 66 (0, 0))) :
    g < w.heap.size ∧ w.cell? ⟨g, 0, none⟩ = some (I k) ∧ w.cell? ⟨g, 1, none⟩ = some x ∧ w.cell? ⟨g, 2, none⟩ = some y := by
  refine ⟨(Array.getElem?_eq_some_iff.1 h).1, ?_, ?_, ?_⟩ <;> simp [World.cell?, h]
/-- a new node over two trees -/
theorem RT.box {w : World} {a b : Tr} {qa qb : Option Addr} (k : Int) (ha : RT w qa a) (hb : RT w qb b) : RT (w.alloc (.cells #[I k, .pointer qa, .pointer qb] 66)) (some ⟨w.heap.size, 0, none⟩) (.node a k b) :=
  ⟨w.heap.size, qa, qb, rfl, heap_alloc_new w _, ha.alloc _, hb.alloc _⟩
theorem RT.nil_iff {w : World} {q : Option Addr} {t : Tr} (h : RT w q t) : q = none ↔ t = .nil := by
  cases t with
  | nil => exact ⟨fun _ => rfl, fun _ => h⟩
  | node a k b =>
    obtain ⟨g, qa, qb, rfl, _⟩ := h
    simp

theorem cell_lt1 {w : World} {a : Addr} {v : Value} (h : w.cell? a = some v) : a.block < w.heap.size := by
  rcases Nat.lt_or_ge a.block w.heap.size with h1 | h1
  · exact h1
  · simp [World.cell?, Array.getElem?_eq_none h1] at h
theorem ck {w : World} {a : Addr} {v : Value} (h : w.cell? a = some v) (o : Obj) : (w.alloc o).cell? a = some v := (((Below.refl w.heap.size w).alloc (Nat.le_refl _) o).cell (cell_lt1 h)).trans h
theorem ckd {w : World} {a : Addr} {v : Value} (h : w.cell? a = some v) (o : Obj) : (w.drew.alloc o).cell? a = some v := ck (w := w.drew) h o

/-- a tree is told -/
def RetT (t : Tr) (w : World) (e : Ending) (w' : World) : Prop := ∃ q, e = .returned (.pointer q) ∧ RT w' q t ∧ Below w.heap.size w w'

end Go.Proofs.Ytconegligedniaa
