/-
  Joined texts: YtolgncaaffmmnaaDoorGRefT, YtolgncaaffmmnaaDoorAppP.
-/
import Derived.Test.YtolgncaaffmmnaaDoorChecked
import Derived.Test.YtolgncaaffmmnaaDoorGPure
import Derived.Deep.LoopGhost
import Derived.Deep.RegionHeld3
import Derived.BigQuiet
import Derived.Deep.QuietTactic
import Derived.Test.YtolgncaaffmmnaaDoorCopy
import Derived.Maps.AppendAt
import Derived.Deep.RegionLaw
/-
  package hedgref's trees: Least, Leaf, Unleafed: trees in memory that nothing changes.
-/
namespace Go.Proofs.YtolgncaaffmmnaaDoor
open Go.RowKit

/-- the pointer q is the tree t -/
def RT (w : World) : Option Addr → Tr → Prop
  | q, .nil => q = none
  | q, .node a k b => ∃ g qa qb, q = some ⟨g, 0, none⟩ ∧ w.heap[g]? = some (.cells #[I k, .pointer qa, .pointer qb] 73 (0, 0)) ∧ RT w qa a ∧ RT w qb b
theorem RT.below {w w' : World} (hb : Below w.heap.size w w') : ∀ {t : Tr} {q : Option Addr}, RT w q t → RT w' q t := by
  intro t
  induction t with
  | nil => exact fun {q} h => h
  | node a k b iha ihb =>
    rintro q ⟨g, qa, qb, rfl, hg, ha, hb'⟩
    exact ⟨g, qa, qb, rfl, (hb.block g (Array.getElem?_eq_some_iff.1 hg).1).trans hg, iha ha, ihb hb'⟩
theorem RT.drew {w : World} {t : Tr} {q : Option Addr} (h : RT w q t) : RT w.drew q t := h.below (Below.refl _ _).drew
theorem RT.alloc {w : World} {t : Tr} {q : Option Addr} (h : RT w q t) (o : Obj) : RT (w.alloc o) q t := h.below ((Below.refl _ _).alloc (Nat.le_refl _) _)
theorem tree_cells {w : World} {g : Nat} {k : Int} {x y : Value} (h : w.heap[g]? = some (.cells #[I k, x, y] 73 (0, 0))) :
    g < w.heap.size ∧ w.cell? ⟨g, 0, none⟩ = some (I k) ∧ w.cell? ⟨g, 1, none⟩ = some x ∧ w.cell? ⟨g, 2, none⟩ = some y := by
  refine ⟨(Array.getElem?_eq_some_iff.1 h).1, ?_, ?_, ?_⟩ <;> simp [World.cell?, h]
/-- a new node over two trees -/
theorem RT.box {w : World} {a b : Tr} {qa qb : Option Addr} (k : Int) (ha : RT w qa a) (hb : RT w qb b) : RT (w.alloc (.cells #[I k, .pointer qa, .pointer qb] 73)) (some ⟨w.heap.size, 0, none⟩) (.node a k b) :=
  ⟨w.heap.size, qa, qb, rfl, heap_alloc_new w _, ha.alloc _, hb.alloc _⟩
theorem RT.nil_iff {w : World} {q : Option Addr} {t : Tr} (h : RT w q t) : q = none ↔ t = .nil := by
  cases t with
  | nil => exact ⟨fun _ => rfl, fun _ => h⟩
  | node a k b =>
    obtain ⟨g, qa, qb, rfl, _⟩ := h
    simp

theorem cell_lt1 {w : World} {a : Addr} {v : Value} (h : w.cell? a = some v) : a.block < w.heap.size := by
  rcases Nat.lt_or_ge a.block w.heap.size with h1 | h1
  · exact h1
  · simp [World.cell?, Array.getElem?_eq_none h1] at h
theorem ck {w : World} {a : Addr} {v : Value} (h : w.cell? a = some v) (o : Obj) : (w.alloc o).cell? a = some v := (((Below.refl w.heap.size w).alloc (Nat.le_refl _) o).cell (cell_lt1 h)).trans h
theorem ckd {w : World} {a : Addr} {v : Value} (h : w.cell? a = some v) (o : Obj) : (w.drew.alloc o).cell? a = some v := ck (w := w.drew) h o

/-- a tree is told -/
def RetT (t : Tr) (w : World) (e : Ending) (w' : World) : Prop := ∃ q, e = .returned (.pointer q) ∧ RT w' q t ∧ Below w.heap.size w w'

set_option maxRecDepth 100000 in
set_option maxHeartbeats 4000000 in
theorem Leaf_any (x : Int) (t : Tr) : ∀ (q : Option Addr) (w : World), RT w q t → Calls Tryd.prog 35 #[.pointer q, I x] w (RetT (t.ins x) w) := by
  induction t with
  | nil =>
    intro q w h
    obtain rfl : q = none := h
    go_enter Tryd.func35, Tryd.ntmps35
    go_wp2
    go_ret
    exact ⟨_, rfl, RT.box x (a := .nil) (b := .nil) rfl rfl, (Below.refl _ _).alloc (Nat.le_refl _) _⟩
  | node a k b iha ihb =>
    intro q w h
    have H := Lib.hid h
    obtain ⟨g, qa, qb, rfl, hg, ha, hb⟩ := h
    obtain ⟨hlt, c0, c1, c2⟩ := tree_cells hg
    have HA := Lib.hid ha
    have HB := Lib.hid hb
    have IHA := Lib.hid iha
    have IHB := Lib.hid ihb
    clear hg ha hb iha ihb
    rcases Int.lt_trichotomy x k with hx | hx | hx
    · have HE := Lib.hid (show (Tr.node a k b).ins x = .node (a.ins x) k b by rw [Tr.ins, if_pos hx])
      rw [HE.out]
      go_enter Tryd.func35, Tryd.ntmps35
      go_wp2
      go_region_held3 (fun W => W.cell? ⟨g, 0, none⟩ = some (I k) ∧ W.cell? ⟨g, 1, none⟩ = some (.pointer qa) ∧ W.cell? ⟨g, 2, none⟩ = some (.pointer qb))
        (first
          | exact ⟨d0, d1, d2⟩
          | exact ⟨ck d0 _, ck d1 _, ck d2 _⟩
          | exact ⟨c0, c1, c2⟩)
        (first
          | (go_at_call 35
             refine (IHA.out qa _ HA.out.drew).mono ?_
             rintro e w2 ⟨q2, rfl, hr2, hb2⟩
             have d0 : w2.cell? ⟨g, 0, none⟩ = some (I k) := (hb2.cell (by exact hlt)).trans c0
             have d1 : w2.cell? ⟨g, 1, none⟩ = some (.pointer qa) := (hb2.cell (by exact hlt)).trans c1
             have d2 : w2.cell? ⟨g, 2, none⟩ = some (.pointer qb) := (hb2.cell (by exact hlt)).trans c2
             have HR2 := Lib.hid hr2
             have HB2 : Hid (Below w.heap.size w w2) := (Below.refl _ _).drew.trans hb2
             clear hr2 hb2))
      all_goals go_wp2
      all_goals go_ret
      all_goals exact ⟨_, rfl, RT.box k HR2.out (HB.out.below HB2.out), HB2.out.alloc HB2.out.size _⟩
    · subst hx
      have HE := Lib.hid (show (Tr.node a x b).ins x = .node a x b by rw [Tr.ins, if_neg (Int.lt_irrefl _), if_neg (Int.lt_irrefl _)])
      rw [HE.out]
      go_enter Tryd.func35, Tryd.ntmps35
      go_wp2
      go_ret
      exact ⟨_, rfl, H.out, Below.refl _ _⟩
    · have HE := Lib.hid (show (Tr.node a k b).ins x = .node a k (b.ins x) by rw [Tr.ins, if_neg (by omega), if_pos hx])
      rw [HE.out]
      have hnl : ¬ x < k := by omega
      go_enter Tryd.func35, Tryd.ntmps35
      go_wp2
      go_region_held3 (fun W => W.cell? ⟨g, 0, none⟩ = some (I k) ∧ W.cell? ⟨g, 1, none⟩ = some (.pointer qa) ∧ W.cell? ⟨g, 2, none⟩ = some (.pointer qb))
        (first
          | exact ⟨d0, d1, d2⟩
          | exact ⟨ck d0 _, ck d1 _, ck d2 _⟩
          | exact ⟨c0, c1, c2⟩)
        (first
          | (go_at_call 35
             refine (IHB.out qb _ HB.out.drew).mono ?_
             rintro e w2 ⟨q2, rfl, hr2, hb2⟩
             have d0 : w2.cell? ⟨g, 0, none⟩ = some (I k) := (hb2.cell (by exact hlt)).trans c0
             have d1 : w2.cell? ⟨g, 1, none⟩ = some (.pointer qa) := (hb2.cell (by exact hlt)).trans c1
             have d2 : w2.cell? ⟨g, 2, none⟩ = some (.pointer qb) := (hb2.cell (by exact hlt)).trans c2
             have HR2 := Lib.hid hr2
             have HB2 : Hid (Below w.heap.size w w2) := (Below.refl _ _).drew.trans hb2
             clear hr2 hb2))
      all_goals go_wp2
      all_goals go_ret
      all_goals exact ⟨_, rfl, RT.box k (HA.out.below HB2.out) HR2.out, HB2.out.alloc HB2.out.size _⟩

end Go.Proofs.YtolgncaaffmmnaaDoor

/-
  append onto a row of pairs of the call's own, as one step of a region that draws its order. Nothing of the program.
-/
namespace Go.Proofs.YtolgncaaffmmnaaDoor
open Go.RowKit

/-- append, whatever the source (none of it: nil too) -/
theorem run_appP {P : Program} (w : World) (T ty e : TypeId) (hu : P.underlying T = some (.slice e)) (hi : (P.info? e).map (fun i => (i.zero, i.size, i.bytes)) = some (some (.agg #[I 0, I 0]), 2, 16))
    (base : Nat) (v : Value) (L xs : PL) (hown : w.ownsRow base e 2 v L.length (flat L)) (sp : Option Addr) (m c : Nat) (hx : Src w sp m xs) (hbound : L.length + m ≤ 1000000) (hbase : base ≤ w.heap.size) :
    ∃ v' w', (Builtin.append_ #[T, T] ty #[v, .slice sp m c]).run P w = .ok v' w' ∧ w'.ownsRow base e 2 v' (L ++ xs).length (flat (L ++ xs)) ∧ w.grownBy w' v.ownBlock := by
  obtain ⟨i, h1, hz, hs, hb⟩ := info_parts hi
  cases sp with
  | some ad =>
    have hcl : (flat xs).length = m * 2 := by rw [flat_length, hx.1]
    have hcells : ∀ j u, (flat xs)[j]? = some u → w.cell? (ad.add j) = some u := by
      intro j u hu'
      rcases Nat.eq_zero_or_pos m with h0 | h0
      · have : xs = [] := List.eq_nil_of_length_eq_zero (hx.1.trans h0)
        subst this
        simp [flat] at hu'
      · obtain ⟨ad', e', hc⟩ := hx.2 h0
        cases e'
        exact hc j u hu'
    obtain ⟨v', w', hr, h2, h3, _, _⟩ := run_append_own_at (P := P) w base T ty e i _ 2 16 hu h1 hz hs hb rfl (by decide) v L.length (flat L) hown ad m c (flat xs) hcl hcells (flat_one xs) (by unfold maxLen; omega) (by omega) hbase
    refine ⟨v', w', hr, ?_, h3⟩
    rw [flat_append, List.length_append, hx.1]
    exact h2
  | none =>
    have hm : m = 0 := by
      rcases Nat.eq_zero_or_pos m with h0 | h0
      · exact h0
      · obtain ⟨_, e', _⟩ := hx.2 h0; cases e'
    subst hm
    have hxs : xs = [] := List.eq_nil_of_length_eq_zero hx.1
    subst hxs
    refine ⟨v, w, ?_, by simpa using hown, World.grownBy.refl w _⟩
    rcases hown.2 with ⟨rfl, h0⟩ | ⟨g, cap, cur, rfl, _, _, hnc, _⟩
    · simp [Builtin.append_, run_underlying hu, sizeOf, typeInfo, h1, Builtin.lenOf, Builtin.firstCells]
    · simp [Builtin.append_, run_underlying hu, sizeOf, typeInfo, h1, Builtin.lenOf, Builtin.firstCells, hnc, storeCells]

theorem step_appP {P : Program} {w : World} {ops : Array Oper} {o : Oper} {a : Act} {K : Act → World → Prop} {Q : Exit → Act → World → Prop} {E : Prop} (hgd : o.guard = none) (s x : Operand) (T : TypeId)
    (ho : o.op = .call { callee := .builtin .append, args := #[s, x], argTypes := #[T, T] }) (e : TypeId) (hu : P.underlying T = some (.slice e)) (hi : (P.info? e).map (fun i => (i.zero, i.size, i.bytes)) = some (some (.agg #[I 0, I 0]), 2, 16))
    (base : Nat) (v : Value) (L xs : PL) (sp : Option Addr) (m c : Nat) (hs : a.eval s = v) (hsx : a.eval x = .slice sp m c) (hown : w.ownsRow base e 2 v L.length (flat L)) (hx : Src w sp m xs) (hbound : L.length + m ≤ 1000000) (hbase : base ≤ w.heap.size)
    (h : ∀ v' w', w'.ownsRow base e 2 v' (L ++ xs).length (flat (L ++ xs)) → w.grownBy w' v.ownBlock → K (a.put o.dst v') w') :
    if Region.wanted o (yielded ops a.tmps) = true then Oper.wp P o a w K Q else E := by
  have hw : Region.wanted o (yielded ops a.tmps) = true := by simp [Region.wanted, hgd]
  rw [if_pos hw]
  obtain ⟨v', w', hrun, h2, h3⟩ := run_appP (P := P) w T o.type e hu hi base v L xs hown sp m c hx hbound hbase
  unfold Oper.wp execOp
  simp only [ho, resolve, invoke, builtin, Sem.run_bind, Sem.run_pure, Result.andThen_ok, List.map_toArray, List.map_cons, List.map_nil, hs, hsx, hrun]
  exact h v' w' h2 h3

end Go.Proofs.YtolgncaaffmmnaaDoor
