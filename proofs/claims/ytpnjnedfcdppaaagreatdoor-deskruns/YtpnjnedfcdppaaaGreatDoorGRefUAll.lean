/-
  Joined texts: YtpnjnedfcdppaaaGreatDoorGRefT, YtpnjnedfcdppaaaGreatDoorAppP, YtpnjnedfcdppaaaGreatDoorGRefS, YtpnjnedfcdppaaaGreatDoorGRefU.
-/
import Derived.Test.YtpnjnedfcdppaaaGreatDoorChecked
import Derived.Test.YtpnjnedfcdppaaaGreatDoorOSpotsAll
import Derived.Deep.LoopGhost
import Derived.Deep.RegionHeld3
import Derived.BigQuiet
import Derived.Deep.QuietTactic
import Derived.Test.YtpnjnedfcdppaaaGreatDoorCopy
import Derived.Maps.AppendAt
import Derived.Deep.RegionLaw
import Derived.Test.YtpnjnedfcdppaaaGreatDoorSOrdAll
/-
  package hedgref's trees: Least, Leaf, Unleafed: trees in memory that nothing changes.
-/
namespace Go.Proofs.YtpnjnedfcdppaaaGreatDoor
open Go.RowKit

def RT (w : World) : Option Addr → Tr → Prop
  | q, .nil => q = none
  | q, .node a k b => ∃ g qa qb, q = some ⟨g, 0, none⟩ ∧ w.heap[g]? = some (.cells #[I k, .pointer qa, .pointer qb] 240 (0, 0)) ∧ RT w qa a ∧ RT w qb b
theorem RT.below {w w' : World} (hb : Below w.heap.size w w') : ∀ {t : Tr} {q : Option Addr}, RT w q t → RT w' q t := by
  intro t
  induction t with
  | nil => exact fun {q} h => h
  | node a k b iha ihb =>
    rintro q ⟨g, qa, qb, rfl, hg, ha, hb'⟩
    exact ⟨g, qa, qb, rfl, (hb.block g (Array.getElem?_eq_some_iff.1 hg).1).trans hg, iha ha, ihb hb'⟩
theorem RT.drew {w : World} {t : Tr} {q : Option Addr} (h : RT w q t) : RT w.drew q t := h.below (Below.refl _ _).drew
theorem RT.alloc {w : World} {t : Tr} {q : Option Addr} (h : RT w q t) (o : Obj) : RT (w.alloc o) q t := h.below ((Below.refl _ _).alloc (Nat.le_refl _) _)
theorem tree_cells {w : World} {g : Nat} {k : Int} {x y : Value} (h : w.heap[g]? = some (.cells #[I k, x, y] 240 (0, 0))) :
    g < w.heap.size ∧ w.cell? ⟨g, 0, none⟩ = some (I k) ∧ w.cell? ⟨g, 1, none⟩ = some x ∧ w.cell? ⟨g, 2, none⟩ = some y := by
  refine ⟨(Array.getElem?_eq_some_iff.1 h).1, ?_, ?_, ?_⟩ <;> simp [World.cell?, h]
theorem RT.box {w : World} {a b : Tr} {qa qb : Option Addr} (k : Int) (ha : RT w qa a) (hb : RT w qb b) : RT (w.alloc (.cells #[I k, .pointer qa, .pointer qb] 240)) (some ⟨w.heap.size, 0, none⟩) (.node a k b) :=
  ⟨w.heap.size, qa, qb, rfl, heap_alloc_new w _, ha.alloc _, hb.alloc _⟩
theorem cell_lt1 {w : World} {a : Addr} {v : Value} (h : w.cell? a = some v) : a.block < w.heap.size := by
  rcases Nat.lt_or_ge a.block w.heap.size with h1 | h1
  · exact h1
  · simp [World.cell?, Array.getElem?_eq_none h1] at h
theorem ck {w : World} {a : Addr} {v : Value} (h : w.cell? a = some v) (o : Obj) : (w.alloc o).cell? a = some v := (((Below.refl w.heap.size w).alloc (Nat.le_refl _) o).cell (cell_lt1 h)).trans h
def RetT (t : Tr) (w : World) (e : Ending) (w' : World) : Prop := ∃ q, e = .returned (.pointer q) ∧ RT w' q t ∧ Below w.heap.size w w'

set_option maxRecDepth 100000 in
set_option maxHeartbeats 4000000 in
theorem Leaf_any (x : Int) (t : Tr) : ∀ (q : Option Addr) (w : World), RT w q t → Calls Tryz.prog 174 #[.pointer q, I x] w (RetT (t.ins x) w) := by
  induction t with
  | nil =>
    intro q w h
    obtain rfl : q = none := h
    go_enter Tryz.func174, Tryz.ntmps174
    go_wp2
    go_ret
    exact ⟨_, rfl, RT.box x (a := .nil) (b := .nil) rfl rfl, (Below.refl _ _).alloc (Nat.le_refl _) _⟩
  | node a k b iha ihb =>
    intro q w h
    have H := Lib.hid h
    obtain ⟨g, qa, qb, rfl, hg, ha, hb⟩ := h
    obtain ⟨hlt, c0, c1, c2⟩ := tree_cells hg
    have HA := Lib.hid ha
    have HB := Lib.hid hb
    have IHA := Lib.hid iha
    have IHB := Lib.hid ihb
    clear hg ha hb iha ihb
    rcases Int.lt_trichotomy x k with hx | hx | hx
    · have HE := Lib.hid (show (Tr.node a k b).ins x = .node (a.ins x) k b by rw [Tr.ins, if_pos hx])
      rw [HE.out]
      go_enter Tryz.func174, Tryz.ntmps174
      go_wp2
      go_region_held3 (fun W => W.cell? ⟨g, 0, none⟩ = some (I k) ∧ W.cell? ⟨g, 1, none⟩ = some (.pointer qa) ∧ W.cell? ⟨g, 2, none⟩ = some (.pointer qb))
        (first
          | exact ⟨d0, d1, d2⟩
          | exact ⟨ck d0 _, ck d1 _, ck d2 _⟩
          | exact ⟨c0, c1, c2⟩)
        (first
          | (go_at_call 174
             refine (IHA.out qa _ HA.out.drew).mono ?_
             rintro e w2 ⟨q2, rfl, hr2, hb2⟩
             have d0 : w2.cell? ⟨g, 0, none⟩ = some (I k) := (hb2.cell (by exact hlt)).trans c0
             have d1 : w2.cell? ⟨g, 1, none⟩ = some (.pointer qa) := (hb2.cell (by exact hlt)).trans c1
             have d2 : w2.cell? ⟨g, 2, none⟩ = some (.pointer qb) := (hb2.cell (by exact hlt)).trans c2
             have HR2 := Lib.hid hr2
             have HB2 : Hid (Below w.heap.size w w2) := (Below.refl _ _).drew.trans hb2
             clear hr2 hb2))
      all_goals go_wp2
      all_goals go_ret
      all_goals exact ⟨_, rfl, RT.box k HR2.out (HB.out.below HB2.out), HB2.out.alloc HB2.out.size _⟩
    · subst hx
      have HE := Lib.hid (show (Tr.node a x b).ins x = .node a x b by rw [Tr.ins, if_neg (Int.lt_irrefl _), if_neg (Int.lt_irrefl _)])
      rw [HE.out]
      go_enter Tryz.func174, Tryz.ntmps174
      go_wp2
      go_ret
      exact ⟨_, rfl, H.out, Below.refl _ _⟩
    · have HE := Lib.hid (show (Tr.node a k b).ins x = .node a k (b.ins x) by rw [Tr.ins, if_neg (by omega), if_pos hx])
      rw [HE.out]
      have hnl : ¬ x < k := by omega
      go_enter Tryz.func174, Tryz.ntmps174
      go_wp2
      go_region_held3 (fun W => W.cell? ⟨g, 0, none⟩ = some (I k) ∧ W.cell? ⟨g, 1, none⟩ = some (.pointer qa) ∧ W.cell? ⟨g, 2, none⟩ = some (.pointer qb))
        (first
          | exact ⟨d0, d1, d2⟩
          | exact ⟨ck d0 _, ck d1 _, ck d2 _⟩
          | exact ⟨c0, c1, c2⟩)
        (first
          | (go_at_call 174
             refine (IHB.out qb _ HB.out.drew).mono ?_
             rintro e w2 ⟨q2, rfl, hr2, hb2⟩
             have d0 : w2.cell? ⟨g, 0, none⟩ = some (I k) := (hb2.cell (by exact hlt)).trans c0
             have d1 : w2.cell? ⟨g, 1, none⟩ = some (.pointer qa) := (hb2.cell (by exact hlt)).trans c1
             have d2 : w2.cell? ⟨g, 2, none⟩ = some (.pointer qb) := (hb2.cell (by exact hlt)).trans c2
             have HR2 := Lib.hid hr2
             have HB2 : Hid (Below w.heap.size w w2) := (Below.refl _ _).drew.trans hb2
             clear hr2 hb2))
      all_goals go_wp2
      all_goals go_ret
      all_goals exact ⟨_, rfl, RT.box k (HA.out.below HB2.out) HR2.out, HB2.out.alloc HB2.out.size _⟩

end Go.Proofs.YtpnjnedfcdppaaaGreatDoor

/-
  append onto a row of pairs of the call's own, as one step of a region that draws its order. Nothing of the program.
-/
namespace Go.Proofs.YtpnjnedfcdppaaaGreatDoor
open Go.RowKit

theorem run_appP {P : Program} (w : World) (T ty e : TypeId) (hu : P.underlying T = some (.slice e)) (hi : (P.info? e).map (fun i => (i.zero, i.size, i.bytes)) = some (some (.agg #[I 0, I 0]), 2, 16))
    (base : Nat) (v : Value) (L xs : PL) (hown : w.ownsRow base e 2 v L.length (flat L)) (sp : Option Addr) (m c : Nat) (hx : Src w sp m xs) (hbound : L.length + m ≤ 1000000) (hbase : base ≤ w.heap.size) :
    ∃ v' w', (Builtin.append_ #[T, T] ty #[v, .slice sp m c]).run P w = .ok v' w' ∧ w'.ownsRow base e 2 v' (L ++ xs).length (flat (L ++ xs)) ∧ w.grownBy w' v.ownBlock := by
  obtain ⟨i, h1, hz, hs, hb⟩ := info_parts hi
  cases sp with
  | some ad =>
    have hcl : (flat xs).length = m * 2 := by rw [flat_length, hx.1]
    have hcells : ∀ j u, (flat xs)[j]? = some u → w.cell? (ad.add j) = some u := by
      intro j u hu'
      rcases Nat.eq_zero_or_pos m with h0 | h0
      · have : xs = [] := List.eq_nil_of_length_eq_zero (hx.1.trans h0)
        subst this
        simp [flat] at hu'
      · obtain ⟨ad', e', hc⟩ := hx.2 h0
        cases e'
        exact hc j u hu'
    obtain ⟨v', w', hr, h2, h3, _, _⟩ := run_append_own_at (P := P) w base T ty e i _ 2 16 hu h1 hz hs hb rfl (by decide) v L.length (flat L) hown ad m c (flat xs) hcl hcells (flat_one xs) (by unfold maxLen; omega) (by omega) hbase
    refine ⟨v', w', hr, ?_, h3⟩
    rw [flat_append, List.length_append, hx.1]
    exact h2
  | none =>
    have hm : m = 0 := by
      rcases Nat.eq_zero_or_pos m with h0 | h0
      · exact h0
      · obtain ⟨_, e', _⟩ := hx.2 h0; cases e'
    subst hm
    have hxs : xs = [] := List.eq_nil_of_length_eq_zero hx.1
    subst hxs
    refine ⟨v, w, ?_, by simpa using hown, World.grownBy.refl w _⟩
    rcases hown.2 with ⟨rfl, h0⟩ | ⟨g, cap, cur, rfl, _, _, hnc, _⟩
    · simp [Builtin.append_, run_underlying hu, sizeOf, typeInfo, h1, Builtin.lenOf, Builtin.firstCells]
    · simp [Builtin.append_, run_underlying hu, sizeOf, typeInfo, h1, Builtin.lenOf, Builtin.firstCells, hnc, storeCells]

theorem step_appP {P : Program} {w : World} {ops : Array Oper} {o : Oper} {a : Act} {K : Act → World → Prop} {Q : Exit → Act → World → Prop} {E : Prop} (hgd : o.guard = none) (s x : Operand) (T : TypeId)
    (ho : o.op = .call { callee := .builtin .append, args := #[s, x], argTypes := #[T, T] }) (e : TypeId) (hu : P.underlying T = some (.slice e)) (hi : (P.info? e).map (fun i => (i.zero, i.size, i.bytes)) = some (some (.agg #[I 0, I 0]), 2, 16))
    (base : Nat) (v : Value) (L xs : PL) (sp : Option Addr) (m c : Nat) (hs : a.eval s = v) (hsx : a.eval x = .slice sp m c) (hown : w.ownsRow base e 2 v L.length (flat L)) (hx : Src w sp m xs) (hbound : L.length + m ≤ 1000000) (hbase : base ≤ w.heap.size)
    (h : ∀ v' w', w'.ownsRow base e 2 v' (L ++ xs).length (flat (L ++ xs)) → w.grownBy w' v.ownBlock → K (a.put o.dst v') w') :
    if Region.wanted o (yielded ops a.tmps) = true then Oper.wp P o a w K Q else E := by
  have hw : Region.wanted o (yielded ops a.tmps) = true := by simp [Region.wanted, hgd]
  rw [if_pos hw]
  obtain ⟨v', w', hrun, h2, h3⟩ := run_appP (P := P) w T o.type e hu hi base v L xs hown sp m c hx hbound hbase
  unfold Oper.wp execOp
  simp only [ho, resolve, invoke, builtin, Sem.run_bind, Sem.run_pure, Result.andThen_ok, List.map_toArray, List.map_cons, List.map_nil, hs, hsx, hrun]
  exact h v' w' h2 h3

end Go.Proofs.YtpnjnedfcdppaaaGreatDoor

/-
  hedgref.Spots: a tree's nodes, told in order.
-/
namespace Go.Proofs.YtpnjnedfcdppaaaGreatDoor
open Go.RowKit

theorem src_keep {w w' : World} {sp : Option Addr} {m : Nat} {xs : PL} (h : Src w sp m xs) (hb : Below w.heap.size w w') : Src w' sp m xs := by
  refine ⟨h.1, fun h0 => ?_⟩
  obtain ⟨ad, e, hc⟩ := h.2 h0
  exact ⟨ad, e, fun j u hu => (hb.cell (cell_lt1 (hc j u hu))).trans (hc j u hu)⟩
abbrev spO (k d : Int) : Obj := .cells #[I k, I d] 82
theorem ownR_mono {w : World} {B B' t : Nat} {v : Value} {L : PL} (h : OwnR w B t v L) (hB : B' ≤ B) : OwnR w B' t v L := own_mono1 h hB
theorem ownR_below {w w' : World} {B t : Nat} {v : Value} {L : PL} (h : OwnR w B t v L) (hb : Below w.heap.size w w') : OwnR w' B t v L := own_below h hb
theorem ownR_row {w : World} {B t : Nat} {v : Value} {L : PL} (h : OwnR w B t v L) : w.ownsRow B t 2 v L.length (flat L) := h
theorem ownR_beside {w w' : World} {B B' t : Nat} {u v : Value} {L L' : PL} (hu : OwnR w B t u L) (hv : OwnR w B' t v L') (hlt : ∀ g, u.ownBlock = some g → g < B') (hg : w.grownBy w' u.ownBlock) : OwnR w' B' t v L' := by
  refine World.ownsRow.kept hv hg ?_
  cases hb : v.ownBlock with
  | none => exact .inl rfl
  | some g =>
    refine .inr fun e => ?_
    have h1 := OwnR.ge hv g hb
    have h2 := hlt g e.symm
    omega
theorem ownR_lt {w : World} {B t : Nat} {v : Value} {L : PL} (h : OwnR w B t v L) : ∀ g, v.ownBlock = some g → g < w.heap.size := by
  intro g hg
  rcases h.2 with ⟨rfl, _⟩ | ⟨g', cap, cur, rfl, _, hh, _⟩
  · simp [Value.ownBlock] at hg
  · simp [Value.ownBlock] at hg
    subst hg
    exact (Array.getElem?_eq_some_iff.1 hh).1
theorem ownR_told {w : World} {B t n : Nat} {v : Value} {L : PL} (h : OwnR w B t v L) (hl : L.length = n) : ∃ A c, v = .slice A n c ∧ OwnR w B t (.slice A n c) L ∧ PS w A n c L := by
  obtain ⟨A, c, e, hp, _⟩ := OwnR.ps h
  subst hl
  subst e
  exact ⟨A, c, rfl, h, hp⟩

set_option maxRecDepth 100000 in
set_option maxHeartbeats 8000000 in
theorem rspots_any (t : Tr) : ∀ (q : Option Addr) (d : Int) (w : World), RT w q t → 0 ≤ d → d + t.size ≤ 1000 → t.size ≤ 1000 → Calls Tryz.prog 117 #[.pointer q, I d] w (RetSO (t.sp d) w.heap.size w) := by
  induction t with
  | nil =>
    intro q d w h hd hd2 hz
    obtain rfl : q = none := h
    go_enter Tryz.func117, Tryz.ntmps117
    go_wp2
    go_ret
    exact ⟨_, rfl, World.ownsRow_nil _ _ _ _, Below.refl _ _⟩
  | node a k b iha ihb =>
    intro q d w h hd hd2 hz
    simp only [Tr.size] at hd2 hz
    obtain ⟨g, qa, qb, rfl, hg, ha, hb⟩ := h
    obtain ⟨hlt, c0, c1, c2⟩ := tree_cells hg
    have HA := Lib.hid ha
    have HB := Lib.hid hb
    have e1 : IntKind.i64.wrap (d + 1) = d + 1 := IntWalk.i64_in _ (by omega)
    have IHA : Hid (∀ W : World, RT W qa a → Calls Tryz.prog 117 #[.pointer qa, .int .i64 (IntKind.i64.wrap (d + 1))] W (RetSO (a.sp (d + 1)) W.heap.size W)) := fun W hW => by
      rw [e1]
      exact iha qa (d + 1) W hW (by omega) (by omega) (by omega)
    have IHB : Hid (∀ W : World, RT W qb b → Calls Tryz.prog 117 #[.pointer qb, .int .i64 (IntKind.i64.wrap (d + 1))] W (RetSO (b.sp (d + 1)) W.heap.size W)) := fun W hW => by
      rw [e1]
      exact ihb qb (d + 1) W hW (by omega) (by omega) (by omega)
    clear e1
    have hsp : (Tr.node a k b).sp d = a.sp (d + 1) ++ [(k, d)] ++ b.sp (d + 1) := by simp [Tr.sp]
    have la := sp_length a (d + 1)
    have lb := sp_length b (d + 1)
    obtain ⟨nb, hnb⟩ : ∃ nb, b.size = nb := ⟨_, rfl⟩
    rw [hnb] at lb hd2 hz
    have hla : (a.sp (d + 1)).length ≤ 1000 := by omega
    have hnb1 : nb ≤ 1000 := by omega
    have HLB := Lib.hid lb
    rw [hsp]
    generalize a.sp (d + 1) = La at *
    generalize b.sp (d + 1) = Lb at *
    clear hg ha hb iha ihb hsp la lb hnb
    go_enter Tryz.func117, Tryz.ntmps117
    go_wp2
    go_region_held3 (fun W => W.cell? ⟨g, 0, none⟩ = some (I k) ∧ W.cell? ⟨g, 1, none⟩ = some (.pointer qa) ∧ W.cell? ⟨g, 2, none⟩ = some (.pointer qb))
      (first
        | exact ⟨d0, d1, d2⟩
        | exact ⟨ck d0 _, ck d1 _, ck d2 _⟩
        | exact ⟨c0, c1, c2⟩
        | exact ⟨ck c0 _, ck c1 _, ck c2 _⟩)
      (first
        | (go_at_call 117
           with_reducible refine (IHA.out _ (by first | exact HA.out.drew | exact (HA.out.alloc _).drew)).mono ?_
           rintro e w2 ⟨v2, rfl, ho2, hb2⟩
           have hB2 : Below w.heap.size w w2 := by
             first
               | exact (Below.refl w.heap.size w).drew.trans hb2
               | exact ((Below.refl w.heap.size w).alloc (Nat.le_refl _) _).drew.trans (hb2.mono (by simp))
           have d0 : w2.cell? ⟨g, 0, none⟩ = some (I k) := (hB2.cell (by exact hlt)).trans c0
           have d1 : w2.cell? ⟨g, 1, none⟩ = some (.pointer qa) := (hB2.cell (by exact hlt)).trans c1
           have d2 : w2.cell? ⟨g, 2, none⟩ = some (.pointer qb) := (hB2.cell (by exact hlt)).trans c2
           have HO2 : Hid (OwnR w2 w.heap.size 82 v2 La) := ownR_mono ho2 (by simp)
           try (have HS2 : Hid (Src w2 (some ⟨w.heap.size, 0, none⟩) 1 [(k, d)]) := src_keep (w := (w.alloc (spO k d)).drew) (show Src (w.alloc (spO k d)).drew _ _ _ from gsrc_one w k d) hb2)
           have HRB2 : Hid (RT w2 qb b) := HB.out.below hB2
           have HB2 := Lib.hid hB2
           clear ho2 hb2 hB2)
        | (go_at_call 117
           with_reducible refine (IHB.out _ (by first | exact HRB4.out | exact HRB2.out | exact HRB2.out.alloc _)).mono ?_
           rintro e w3 ⟨v3, rfl, ho3, hb3⟩
           have hB3 : Below w.heap.size w w3 := by
             first
               | exact HB4.out.trans (hb3.mono HB4.out.size)
               | exact HB2.out.trans (hb3.mono HB2.out.size)
               | exact (HB2.out.alloc HB2.out.size _).trans (hb3.mono (by have := HB2.out.size; simp; omega))
           have d0 : w3.cell? ⟨g, 0, none⟩ = some (I k) := (hB3.cell (by exact hlt)).trans c0
           have d1 : w3.cell? ⟨g, 1, none⟩ = some (.pointer qa) := (hB3.cell (by exact hlt)).trans c1
           have d2 : w3.cell? ⟨g, 2, none⟩ = some (.pointer qb) := (hB3.cell (by exact hlt)).trans c2
           obtain ⟨A3, c3, rfl, ho3', hps3⟩ := ownR_told ho3 HLB.out
           have HPS3 := Lib.hid hps3
           try (have HO43 : Hid (OwnR w3 w.heap.size 82 v4 (La ++ [(k, d)])) := ownR_below HO4.out hb3)
           try (have HO23 : Hid (OwnR w3 w.heap.size 82 v2 La) := (by first | exact ownR_below HO2.out hb3 | exact ownR_below (ownR_below HO2.out ((Below.refl _ _).alloc (Nat.le_refl _) _)) hb3))
           try (have HO3 : Hid (∃ B', OwnR w3 B' 82 (.slice A3 nb c3) Lb ∧ ∀ g, v2.ownBlock = some g → g < B') := (by first | exact ⟨_, ho3', ownR_lt HO2.out⟩ | exact ⟨_, ho3', ownR_lt (ownR_below HO2.out ((Below.refl _ _).alloc (Nat.le_refl _) _))⟩))
           try (have HS3a : Hid (Src w3 (some ⟨w.heap.size, 0, none⟩) 1 [(k, d)]) := src_keep HS2.out hb3)
           try (have HS3b : Hid (Src w3 (some ⟨w2.heap.size, 0, none⟩) 1 [(k, d)]) := src_keep (gsrc_one w2 k d) hb3)
           have HB3 := Lib.hid hB3
           clear ho3 hb3 hB3 ho3' hps3)
        | (refine step_appP rfl (.tmp 13) (.tmp 20) 41 rfl 82 Tryz.underlying41 gspot_info w.heap.size v2 La [(k, d)] (some ⟨w.heap.size, 0, none⟩) 1 1 rfl rfl (ownR_row HO2.out) HS2.out (by omega) HB2.out.size ?_
           intro v4 w4 hown4 hgrow4
           have hB4 : Below w.heap.size w w4 := HB2.out.grown hgrow4 HB2.out.size (OwnR.ge HO2.out)
           have d0 : w4.cell? ⟨g, 0, none⟩ = some (I k) := (hB4.cell (by exact hlt)).trans c0
           have d1 : w4.cell? ⟨g, 1, none⟩ = some (.pointer qa) := (hB4.cell (by exact hlt)).trans c1
           have d2 : w4.cell? ⟨g, 2, none⟩ = some (.pointer qb) := (hB4.cell (by exact hlt)).trans c2
           have HO4 : Hid (OwnR w4 w.heap.size 82 v4 (La ++ [(k, d)])) := hown4
           have HRB4 : Hid (RT w4 qb b) := HB.out.below hB4
           have HB4 := Lib.hid hB4
           clear hown4 hgrow4 hB4)
        | (refine step_appP rfl (.tmp 13) (.tmp 20) 41 rfl 82 Tryz.underlying41 gspot_info w.heap.size v2 La [(k, d)] (some ⟨w2.heap.size, 0, none⟩) 1 1 rfl rfl (ownR_row (ownR_below HO2.out ((Below.refl _ _).alloc (Nat.le_refl _) _))) (gsrc_one w2 k d) (by omega) (by have := HB2.out.size; simp; omega) ?_
           intro v4 w4 hown4 hgrow4
           have hB4 : Below w.heap.size w w4 := (HB2.out.alloc HB2.out.size _).grown hgrow4 (by have := HB2.out.size; simp; omega) (OwnR.ge HO2.out)
           have d0 : w4.cell? ⟨g, 0, none⟩ = some (I k) := (hB4.cell (by exact hlt)).trans c0
           have d1 : w4.cell? ⟨g, 1, none⟩ = some (.pointer qa) := (hB4.cell (by exact hlt)).trans c1
           have d2 : w4.cell? ⟨g, 2, none⟩ = some (.pointer qb) := (hB4.cell (by exact hlt)).trans c2
           have HO4 : Hid (OwnR w4 w.heap.size 82 v4 (La ++ [(k, d)])) := hown4
           have HRB4 : Hid (RT w4 qb b) := HB.out.below hB4
           have HB4 := Lib.hid hB4
           clear hown4 hgrow4 hB4)
        | (first
             | refine step_appP rfl (.tmp 13) (.tmp 20) 41 rfl 82 Tryz.underlying41 gspot_info w.heap.size v2 La [(k, d)] (some ⟨w.heap.size, 0, none⟩) 1 1 rfl rfl (ownR_row HO23.out) HS3a.out (by omega) HB3.out.size ?_
             | refine step_appP rfl (.tmp 13) (.tmp 20) 41 rfl 82 Tryz.underlying41 gspot_info w.heap.size v2 La [(k, d)] (some ⟨w2.heap.size, 0, none⟩) 1 1 rfl rfl (ownR_row HO23.out) HS3b.out (by omega) HB3.out.size ?_
           intro v4 w4 hown4 hgrow4
           have hB4 : Below w.heap.size w w4 := HB3.out.grown hgrow4 HB3.out.size (OwnR.ge HO23.out)
           have d0 : w4.cell? ⟨g, 0, none⟩ = some (I k) := (hB4.cell (by exact hlt)).trans c0
           have d1 : w4.cell? ⟨g, 1, none⟩ = some (.pointer qa) := (hB4.cell (by exact hlt)).trans c1
           have d2 : w4.cell? ⟨g, 2, none⟩ = some (.pointer qb) := (hB4.cell (by exact hlt)).trans c2
           have HO4 : Hid (OwnR w4 w.heap.size 82 v4 (La ++ [(k, d)])) := hown4
           have HPS4 : Hid (PS w4 A3 nb c3 Lb) := by
             obtain ⟨B', h1, h2⟩ := HO3.out
             obtain ⟨A', c', e', _, hp⟩ := ownR_told (ownR_beside HO23.out h1 h2 hgrow4) HLB.out
             cases e'
             exact hp
           have HB4 := Lib.hid hB4
           clear hown4 hgrow4 hB4)
        | (refine step_appP rfl (.tmp 13) (.tmp 20) 41 rfl 82 Tryz.underlying41 gspot_info w.heap.size v2 La [(k, d)] (some ⟨w3.heap.size, 0, none⟩) 1 1 rfl rfl (ownR_row (ownR_below HO23.out ((Below.refl _ _).alloc (Nat.le_refl _) _))) (gsrc_one w3 k d) (by omega) (by have := HB3.out.size; simp; omega) ?_
           intro v4 w4 hown4 hgrow4
           have hB4 : Below w.heap.size w w4 := (HB3.out.alloc HB3.out.size _).grown hgrow4 (by have := HB3.out.size; simp; omega) (OwnR.ge HO23.out)
           have d0 : w4.cell? ⟨g, 0, none⟩ = some (I k) := (hB4.cell (by exact hlt)).trans c0
           have d1 : w4.cell? ⟨g, 1, none⟩ = some (.pointer qa) := (hB4.cell (by exact hlt)).trans c1
           have d2 : w4.cell? ⟨g, 2, none⟩ = some (.pointer qb) := (hB4.cell (by exact hlt)).trans c2
           have HO4 : Hid (OwnR w4 w.heap.size 82 v4 (La ++ [(k, d)])) := hown4
           have HPS4 : Hid (PS w4 A3 nb c3 Lb) := by
             obtain ⟨B', h1, h2⟩ := HO3.out
             obtain ⟨A', c', e', _, hp⟩ := ownR_told (ownR_beside (ownR_below HO23.out ((Below.refl _ _).alloc (Nat.le_refl _) _)) (ownR_below h1 ((Below.refl _ _).alloc (Nat.le_refl _) _)) h2 hgrow4) HLB.out
             cases e'
             exact hp
           have HB4 := Lib.hid hB4
           clear hown4 hgrow4 hB4)
        | (refine step_appP rfl (.tmp 21) (.tmp 28) 41 rfl 82 Tryz.underlying41 gspot_info w.heap.size v4 (La ++ [(k, d)]) Lb A3 nb c3 rfl rfl (ownR_row HO43.out) (PS.src HPS3.out) (by simp; omega) HB3.out.size ?_
           intro v6 w6 hown6 hgrow6
           have hB6 : Below w.heap.size w w6 := HB3.out.grown hgrow6 HB3.out.size (OwnR.ge HO43.out)
           have d0 : w6.cell? ⟨g, 0, none⟩ = some (I k) := (hB6.cell (by exact hlt)).trans c0
           have d1 : w6.cell? ⟨g, 1, none⟩ = some (.pointer qa) := (hB6.cell (by exact hlt)).trans c1
           have d2 : w6.cell? ⟨g, 2, none⟩ = some (.pointer qb) := (hB6.cell (by exact hlt)).trans c2
           have HO6 : Hid (OwnR w6 w.heap.size 82 v6 (La ++ [(k, d)] ++ Lb)) := hown6
           have HB6 := Lib.hid hB6
           clear hown6 hgrow6 hB6)
        | (refine step_appP rfl (.tmp 21) (.tmp 28) 41 rfl 82 Tryz.underlying41 gspot_info w.heap.size v4 (La ++ [(k, d)]) Lb A3 nb c3 rfl rfl (ownR_row HO4.out) (PS.src HPS4.out) (by simp; omega) HB4.out.size ?_
           intro v6 w6 hown6 hgrow6
           have hB6 : Below w.heap.size w w6 := HB4.out.grown hgrow6 HB4.out.size (OwnR.ge HO4.out)
           have d0 : w6.cell? ⟨g, 0, none⟩ = some (I k) := (hB6.cell (by exact hlt)).trans c0
           have d1 : w6.cell? ⟨g, 1, none⟩ = some (.pointer qa) := (hB6.cell (by exact hlt)).trans c1
           have d2 : w6.cell? ⟨g, 2, none⟩ = some (.pointer qb) := (hB6.cell (by exact hlt)).trans c2
           have HO6 : Hid (OwnR w6 w.heap.size 82 v6 (La ++ [(k, d)] ++ Lb)) := hown6
           have HB6 := Lib.hid hB6
           clear hown6 hgrow6 hB6)
        | fail)
    all_goals go_wp2
    all_goals go_ret
    all_goals exact ⟨v6, rfl, HO6.out, HB6.out⟩

end Go.Proofs.YtpnjnedfcdppaaaGreatDoor

/-
  hedgref.Least, Unleafed: a tree without a key.
-/
namespace Go.Proofs.YtpnjnedfcdppaaaGreatDoor
open Go.RowKit

set_option maxHeartbeats 1000000 in
theorem Least_any (t : Tr) (q : Option Addr) (w : World) (h : RT w q t) (hne : t ≠ .nil) : Calls Tryz.prog 217 #[.pointer q] w fun e w' => e = .returned (I t.least) ∧ w = w' := by
  have H := Lib.hid h
  have HN := Lib.hid hne
  clear h hne
  go_enter Tryz.func217, Tryz.ntmps217
  go_wp2
  go_loopg [0] (t.size) (fun n p wr => wr = w ∧ ∃ (q1 : Option Addr) (s : Tr), p = .pointer q1 ∧ RT w q1 s ∧ s ≠ .nil ∧ s.least = t.least ∧ s.size ≤ n)
  case atStart => exact ⟨rfl, q, t, rfl, H.out, HN.out, rfl, Nat.le_refl _⟩
  case round =>
    obtain ⟨rfl, q1, s, rfl, hR, hs, hl, hsz⟩ := hrel
    cases s with
    | nil => exact absurd rfl hs
    | node a k b =>
      obtain ⟨g, qa, qb, rfl, hg, ha, hb⟩ := hR
      obtain ⟨hlt, c0, c1, c2⟩ := tree_cells hg
      have HA := Lib.hid ha
      have HL := Lib.hid hl
      clear hg ha hb hs hl
      cases a with
      | nil =>
        obtain rfl : qa = none := HA.out
        have HK : Hid (t.least = k) := by show _ = _; rw [← HL.out]; simp [Tr.least, Tr.isNil]
        go_wp2
        go_ret
        exact ⟨by rw [HK.out]; rfl, rfl⟩
      | node a' k' b' =>
        obtain ⟨g', qa', qb', rfl, _⟩ := HA.out
        go_wp2
        go_roundg ((Tr.node a' k' b').size)
        case measure => simp only [Tr.size] at hsz ⊢; omega
        case rel => exact ⟨rfl, _, .node a' k' b', rfl, HA.out, by simp, by rw [← HL.out]; simp [Tr.least, Tr.isNil], Nat.le_refl _⟩

set_option maxRecDepth 100000 in
set_option maxHeartbeats 4000000 in
theorem Unleafed_any (t : Tr) : ∀ (x : Int) (q : Option Addr) (w : World), RT w q t → Calls Tryz.prog 175 #[.pointer q, I x] w (RetT (t.del x) w) := by
  induction t with
  | nil =>
    intro x q w h
    obtain rfl : q = none := h
    go_enter Tryz.func175, Tryz.ntmps175
    go_wp2
    go_ret
    exact ⟨none, rfl, rfl, Below.refl _ _⟩
  | node a k b iha ihb =>
    intro x q w h
    obtain ⟨g, qa, qb, rfl, hg, ha, hb⟩ := h
    obtain ⟨hlt, c0, c1, c2⟩ := tree_cells hg
    have HA := Lib.hid ha
    have HB := Lib.hid hb
    have IHA := Lib.hid iha
    have IHB := Lib.hid ihb
    clear hg iha ihb
    rcases Int.lt_trichotomy x k with hx | hx | hx
    · have HE := Lib.hid (show (Tr.node a k b).del x = .node (a.del x) k b by rw [Tr.del, if_pos hx])
      rw [HE.out]
      clear ha hb
      go_enter Tryz.func175, Tryz.ntmps175
      go_wp2
      go_region_held3 (fun W => W.cell? ⟨g, 0, none⟩ = some (I k) ∧ W.cell? ⟨g, 1, none⟩ = some (.pointer qa) ∧ W.cell? ⟨g, 2, none⟩ = some (.pointer qb))
        (first
          | exact ⟨d0, d1, d2⟩
          | exact ⟨ck d0 _, ck d1 _, ck d2 _⟩
          | exact ⟨c0, c1, c2⟩)
        (first
          | (go_at_call 175
             refine (IHA.out x qa _ HA.out.drew).mono ?_
             rintro e w2 ⟨q2, rfl, hr2, hb2⟩
             have d0 : w2.cell? ⟨g, 0, none⟩ = some (I k) := (hb2.cell (by exact hlt)).trans c0
             have d1 : w2.cell? ⟨g, 1, none⟩ = some (.pointer qa) := (hb2.cell (by exact hlt)).trans c1
             have d2 : w2.cell? ⟨g, 2, none⟩ = some (.pointer qb) := (hb2.cell (by exact hlt)).trans c2
             have HR2 := Lib.hid hr2
             have HB2 : Hid (Below w.heap.size w w2) := (Below.refl _ _).drew.trans hb2
             clear hr2 hb2))
      all_goals go_wp2
      all_goals go_ret
      all_goals exact ⟨_, rfl, RT.box k HR2.out (HB.out.below HB2.out), HB2.out.alloc HB2.out.size _⟩
    · subst hx
      cases a with
      | nil =>
        obtain rfl : qa = none := ha
        have HE := Lib.hid (show (Tr.node .nil x b).del x = b by rw [Tr.del, if_neg (Int.lt_irrefl _), if_neg (Int.lt_irrefl _), if_pos (show Tr.nil.isNil = true from rfl)])
        rw [HE.out]
        clear hb
        go_enter Tryz.func175, Tryz.ntmps175
        go_wp2
        go_ret
        exact ⟨_, rfl, HB.out, Below.refl _ _⟩
      | node a' k' b' =>
        obtain ⟨g', qa', qb', rfl, _⟩ := ha
        cases b with
        | nil =>
          obtain rfl : qb = none := hb
          have HE := Lib.hid (show (Tr.node (.node a' k' b') x .nil).del x = .node a' k' b' by rw [Tr.del, if_neg (Int.lt_irrefl _), if_neg (Int.lt_irrefl _), if_neg (by simp [Tr.isNil]), if_pos (show Tr.nil.isNil = true from rfl)])
          rw [HE.out]
          go_enter Tryz.func175, Tryz.ntmps175
          go_wp2
          go_ret
          exact ⟨_, rfl, HA.out, Below.refl _ _⟩
        | node a2 k2 b2 =>
          obtain ⟨g2, qa2, qb2, rfl, _⟩ := hb
          have HE := Lib.hid (show (Tr.node (.node a' k' b') x (.node a2 k2 b2)).del x = .node (.node a' k' b') (Tr.node a2 k2 b2).least ((Tr.node a2 k2 b2).del (Tr.node a2 k2 b2).least) by rw [Tr.del, if_neg (Int.lt_irrefl _), if_neg (Int.lt_irrefl _), if_neg (by simp [Tr.isNil]), if_neg (by simp [Tr.isNil])])
          rw [HE.out]
          have HLE := Lib.hid (Least_any (.node a2 k2 b2) (some ⟨g2, 0, none⟩) w HB.out (by simp))
          generalize (Tr.node a2 k2 b2).least = mn at *
          go_enter Tryz.func175, Tryz.ntmps175
          go_wp2_with fail
          refine HLE.out.mono ?_
          rintro e w1 ⟨rfl, rfl⟩
          go_wp2
          go_region_held3 (fun W => W.cell? ⟨g, 0, none⟩ = some (I x) ∧ W.cell? ⟨g, 1, none⟩ = some (.pointer (some ⟨g', 0, none⟩)) ∧ W.cell? ⟨g, 2, none⟩ = some (.pointer (some ⟨g2, 0, none⟩)))
            (first
              | exact ⟨d0, d1, d2⟩
              | exact ⟨ck d0 _, ck d1 _, ck d2 _⟩
              | exact ⟨c0, c1, c2⟩)
            (first
              | (go_at_call 175
                 refine (IHB.out mn (some ⟨g2, 0, none⟩) _ HB.out.drew).mono ?_
                 rintro e w2 ⟨q2, rfl, hr2, hb2⟩
                 have d0 : w2.cell? ⟨g, 0, none⟩ = some (I x) := (hb2.cell (by exact hlt)).trans c0
                 have d1 : w2.cell? ⟨g, 1, none⟩ = some (.pointer (some ⟨g', 0, none⟩)) := (hb2.cell (by exact hlt)).trans c1
                 have d2 : w2.cell? ⟨g, 2, none⟩ = some (.pointer (some ⟨g2, 0, none⟩)) := (hb2.cell (by exact hlt)).trans c2
                 have HR2 := Lib.hid hr2
                 have HB2 : Hid (Below w.heap.size w w2) := (Below.refl _ _).drew.trans hb2
                 clear hr2 hb2))
          all_goals go_wp2
          all_goals go_ret
          all_goals exact ⟨_, rfl, RT.box mn (HA.out.below HB2.out) HR2.out, HB2.out.alloc HB2.out.size _⟩
    · have HE := Lib.hid (show (Tr.node a k b).del x = .node a k (b.del x) by rw [Tr.del, if_neg (by omega), if_pos hx])
      rw [HE.out]
      have hnl : ¬ x < k := by omega
      clear ha hb
      go_enter Tryz.func175, Tryz.ntmps175
      go_wp2
      go_region_held3 (fun W => W.cell? ⟨g, 0, none⟩ = some (I k) ∧ W.cell? ⟨g, 1, none⟩ = some (.pointer qa) ∧ W.cell? ⟨g, 2, none⟩ = some (.pointer qb))
        (first
          | exact ⟨d0, d1, d2⟩
          | exact ⟨ck d0 _, ck d1 _, ck d2 _⟩
          | exact ⟨c0, c1, c2⟩)
        (first
          | (go_at_call 175
             refine (IHB.out x qb _ HB.out.drew).mono ?_
             rintro e w2 ⟨q2, rfl, hr2, hb2⟩
             have d0 : w2.cell? ⟨g, 0, none⟩ = some (I k) := (hb2.cell (by exact hlt)).trans c0
             have d1 : w2.cell? ⟨g, 1, none⟩ = some (.pointer qa) := (hb2.cell (by exact hlt)).trans c1
             have d2 : w2.cell? ⟨g, 2, none⟩ = some (.pointer qb) := (hb2.cell (by exact hlt)).trans c2
             have HR2 := Lib.hid hr2
             have HB2 : Hid (Below w.heap.size w w2) := (Below.refl _ _).drew.trans hb2
             clear hr2 hb2))
      all_goals go_wp2
      all_goals go_ret
      all_goals exact ⟨_, rfl, RT.box k (HA.out.below HB2.out) HR2.out, HB2.out.alloc HB2.out.size _⟩

end Go.Proofs.YtpnjnedfcdppaaaGreatDoor
