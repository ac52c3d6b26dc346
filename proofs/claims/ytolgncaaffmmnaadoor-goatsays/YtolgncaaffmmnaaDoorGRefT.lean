/-
  package hedgref's trees: Least, Leaf, Unleafed: trees in memory that nothing changes.
-/
import Derived.Test.YtolgncaaffmmnaaDoorChecked
import Derived.Test.YtolgncaaffmmnaaDoorGPure
import Derived.Deep.LoopGhost
import Derived.Deep.RegionHeld3
import Derived.BigQuiet
import Derived.Deep.QuietTactic
namespace Go.Proofs.YtolgncaaffmmnaaDoor
open Go.RowKit

/-- the pointer q is the tree t -/
def RT (w : World) : Option Addr → Tr → Prop
  | q, .nil => q = none
  | q, .node a k b => ∃ g qa qb, q = some ⟨g, 0, none⟩ ∧ w.heap[g]? = some (.cells #[I k, .pointer qa, .pointer qb] 73 (0, 0)) ∧ RT w qa a ∧ RT w qb b
theorem RT.below {w w' : World} (hb : Below w.heap.size w w') : ∀ {t : Tr} {q : Option Addr}, RT w q t → RT w' q t := by
  intro t
  induction t with
  | nil => exact fun {q} h => h
  | node a k b iha ihb =>
    rintro q ⟨g, qa, qb, rfl, hg, ha, hb'⟩
    exact ⟨g, qa, qb, rfl, (hb.block g (Array.getElem?_eq_some_iff.1 hg).1).trans hg, iha ha, ihb hb'⟩
theorem RT.drew {w : World} {t : Tr} {q : Option Addr} (h : RT w q t) : RT w.drew q t := h.below (Below.refl _ _).drew
theorem RT.alloc {w : World} {t : Tr} {q : Option Addr} (h : RT w q t) (o : Obj) : RT (w.alloc o) q t := h.below ((Below.refl _ _).alloc (Nat.le_refl _) _)
theorem tree_cells {w : World} {g : Nat} {k : Int} {x y : Value} (h : w.heap[g]? = some (.cells #[I k, x, y] 73 (0, 0))) :
    g < w.heap.size ∧ w.cell? ⟨g, 0, none⟩ = some (I k) ∧ w.cell? ⟨g, 1, none⟩ = some x ∧ w.cell? ⟨g, 2, none⟩ = some y := by
  refine ⟨(Array.getElem?_eq_some_iff.1 h).1, ?_, ?_, ?_⟩ <;> simp [World.cell?, h]
/-- a new node over two trees -/
theorem RT.box {w : World} {a b : Tr} {qa qb : Option Addr} (k : Int) (ha : RT w qa a) (hb : RT w qb b) : RT (w.alloc (.cells #[I k, .pointer qa, .pointer qb] 73)) (some ⟨w.heap.size, 0, none⟩) (.node a k b) :=
  ⟨w.heap.size, qa, qb, rfl, heap_alloc_new w _, ha.alloc _, hb.alloc _⟩
theorem RT.nil_iff {w : World} {q : Option Addr} {t : Tr} (h : RT w q t) : q = none ↔ t = .nil := by
  cases t with
  | nil => exact ⟨fun _ => rfl, fun _ => h⟩
  | node a k b =>
    obtain ⟨g, qa, qb, rfl, _⟩ := h
    simp

theorem cell_lt1 {w : World} {a : Addr} {v : Value} (h : w.cell? a = some v) : a.block < w.heap.size := by
  rcases Nat.lt_or_ge a.block w.heap.size with h1 | h1
  · exact h1
  · simp [World.cell?, Array.getElem?_eq_none h1] at h
theorem ck {w : World} {a : Addr} {v : Value} (h : w.cell? a = some v) (o : Obj) : (w.alloc o).cell? a = some v := (((Below.refl w.heap.size w).alloc (Nat.le_refl _) o).cell (cell_lt1 h)).trans h
theorem ckd {w : World} {a : Addr} {v : Value} (h : w.cell? a = some v) (o : Obj) : (w.drew.alloc o).cell? a = some v := ck (w := w.drew) h o

/-- a tree is told -/
def RetT (t : Tr) (w : World) (e : Ending) (w' : World) : Prop := ∃ q, e = .returned (.pointer q) ∧ RT w' q t ∧ Below w.heap.size w w'

set_option maxRecDepth 100000 in
set_option maxHeartbeats 4000000 in
theorem Leaf_any (x : Int) (t : Tr) : ∀ (q : Option Addr) (w : World), RT w q t → Calls Tryd.prog 35 #[.pointer q, I x] w (RetT (t.ins x) w) := by
  induction t with
  | nil =>
    intro q w h
    obtain rfl : q = none := h
    go_enter Tryd.func35, Tryd.ntmps35
    go_wp2
    go_ret
    exact ⟨_, rfl, RT.box x (a := .nil) (b := .nil) rfl rfl, (Below.refl _ _).alloc (Nat.le_refl _) _⟩
  | node a k b iha ihb =>
    intro q w h
    have H := Lib.hid h
    obtain ⟨g, qa, qb, rfl, hg, ha, hb⟩ := h
    obtain ⟨hlt, c0, c1, c2⟩ := tree_cells hg
    have HA := Lib.hid ha
    have HB := Lib.hid hb
    have IHA := Lib.hid iha
    have IHB := Lib.hid ihb
    clear hg ha hb iha ihb
    rcases Int.lt_trichotomy x k with hx | hx | hx
    · have HE := Lib.hid (show (Tr.node a k b).ins x = .node (a.ins x) k b by rw [Tr.ins, if_pos hx])
      rw [HE.out]
      go_enter Tryd.func35, Tryd.ntmps35
      go_wp2
      go_region_held3 (fun W => W.cell? ⟨g, 0, none⟩ = some (I k) ∧ W.cell? ⟨g, 1, none⟩ = some (.pointer qa) ∧ W.cell? ⟨g, 2, none⟩ = some (.pointer qb))
        (first
          | exact ⟨d0, d1, d2⟩
          | exact ⟨ck d0 _, ck d1 _, ck d2 _⟩
          | exact ⟨c0, c1, c2⟩)
        (first
          | (go_at_call 35
             refine (IHA.out qa _ HA.out.drew).mono ?_
             rintro e w2 ⟨q2, rfl, hr2, hb2⟩
             have d0 : w2.cell? ⟨g, 0, none⟩ = some (I k) := (hb2.cell (by exact hlt)).trans c0
             have d1 : w2.cell? ⟨g, 1, none⟩ = some (.pointer qa) := (hb2.cell (by exact hlt)).trans c1
             have d2 : w2.cell? ⟨g, 2, none⟩ = some (.pointer qb) := (hb2.cell (by exact hlt)).trans c2
             have HR2 := Lib.hid hr2
             have HB2 : Hid (Below w.heap.size w w2) := (Below.refl _ _).drew.trans hb2
             clear hr2 hb2))
      all_goals go_wp2
      all_goals go_ret
      all_goals exact ⟨_, rfl, RT.box k HR2.out (HB.out.below HB2.out), HB2.out.alloc HB2.out.size _⟩
    · subst hx
      have HE := Lib.hid (show (Tr.node a x b).ins x = .node a x b by rw [Tr.ins, if_neg (Int.lt_irrefl _), if_neg (Int.lt_irrefl _)])
      rw [HE.out]
      go_enter Tryd.func35, Tryd.ntmps35
      go_wp2
      go_ret
      exact ⟨_, rfl, H.out, Below.refl _ _⟩
    · have HE := Lib.hid (show (Tr.node a k b).ins x = .node a k (b.ins x) by rw [Tr.ins, if_neg (by omega), if_pos hx])
      rw [HE.out]
      have hnl : ¬ x < k := by omega
      go_enter Tryd.func35, Tryd.ntmps35
      go_wp2
      go_region_held3 (fun W => W.cell? ⟨g, 0, none⟩ = some (I k) ∧ W.cell? ⟨g, 1, none⟩ = some (.pointer qa) ∧ W.cell? ⟨g, 2, none⟩ = some (.pointer qb))
        (first
          | exact ⟨d0, d1, d2⟩
          | exact ⟨ck d0 _, ck d1 _, ck d2 _⟩
          | exact ⟨c0, c1, c2⟩)
        (first
          | (go_at_call 35
             refine (IHB.out qb _ HB.out.drew).mono ?_
             rintro e w2 ⟨q2, rfl, hr2, hb2⟩
             have d0 : w2.cell? ⟨g, 0, none⟩ = some (I k) := (hb2.cell (by exact hlt)).trans c0
             have d1 : w2.cell? ⟨g, 1, none⟩ = some (.pointer qa) := (hb2.cell (by exact hlt)).trans c1
             have d2 : w2.cell? ⟨g, 2, none⟩ = some (.pointer qb) := (hb2.cell (by exact hlt)).trans c2
             have HR2 := Lib.hid hr2
             have HB2 : Hid (Below w.heap.size w w2) := (Below.refl _ _).drew.trans hb2
             clear hr2 hb2))
      all_goals go_wp2
      all_goals go_ret
      all_goals exact ⟨_, rfl, RT.box k (HA.out.below HB2.out) HR2.out, HB2.out.alloc HB2.out.size _⟩

end Go.Proofs.YtolgncaaffmmnaaDoor
