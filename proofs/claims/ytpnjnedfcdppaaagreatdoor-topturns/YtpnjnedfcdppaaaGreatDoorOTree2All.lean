/-
  Joined texts: YtpnjnedfcdppaaaGreatDoorAppP, YtpnjnedfcdppaaaGreatDoorGRefS, YtpnjnedfcdppaaaGreatDoorOTree, YtpnjnedfcdppaaaGreatDoorOTree2.
-/
import Derived.Test.YtpnjnedfcdppaaaGreatDoorOwnAll
import Derived.Maps.AppendAt
import Derived.Deep.RegionLaw
import Derived.Test.YtpnjnedfcdppaaaGreatDoorGRefTAll
import Derived.Test.YtpnjnedfcdppaaaGreatDoorSpotBAll
import Derived.Test.YtpnjnedfcdppaaaGreatDoorDOpAll
import Derived.Test.YtpnjnedfcdppaaaGreatDoorKPath0All
import Derived.Deep.RegionHeld3
/-
  append onto a row of pairs of the call's own, as one step of a region that draws its order. Nothing of the program.
-/
namespace Go.Proofs.YtpnjnedfcdppaaaGreatDoor
open Go.RowKit

/-- append, whatever the source (none of it: nil too) -/
theorem run_appP {P : Program} (w : World) (T ty e : TypeId) (hu : P.underlying T = some (.slice e)) (hi : (P.info? e).map (fun i => (i.zero, i.size, i.bytes)) = some (some (.agg #[I 0, I 0]), 2, 16))
    (base : Nat) (v : Value) (L xs : PL) (hown : w.ownsRow base e 2 v L.length (flat L)) (sp : Option Addr) (m c : Nat) (hx : Src w sp m xs) (hbound : L.length + m ≤ 1000000) (hbase : base ≤ w.heap.size) :
    ∃ v' w', (Builtin.append_ #[T, T] ty #[v, .slice sp m c]).run P w = .ok v' w' ∧ w'.ownsRow base e 2 v' (L ++ xs).length (flat (L ++ xs)) ∧ w.grownBy w' v.ownBlock := by
  obtain ⟨i, h1, hz, hs, hb⟩ := info_parts hi
  cases sp with
  | some ad =>
    have hcl : (flat xs).length = m * 2 := by rw [flat_length, hx.1]
    have hcells : ∀ j u, (flat xs)[j]? = some u → w.cell? (ad.add j) = some u := by
      intro j u hu'
      rcases Nat.eq_zero_or_pos m with h0 | h0
      · have : xs = [] := List.eq_nil_of_length_eq_zero (hx.1.trans h0)
        subst this
        simp [flat] at hu'
      · obtain ⟨ad', e', hc⟩ := hx.2 h0
        cases e'
        exact hc j u hu'
    obtain ⟨v', w', hr, h2, h3, _, _⟩ := run_append_own_at (P := P) w base T ty e i _ 2 16 hu h1 hz hs hb rfl (by decide) v L.length (flat L) hown ad m c (flat xs) hcl hcells (flat_one xs) (by unfold maxLen; omega) (by omega) hbase
    refine ⟨v', w', hr, ?_, h3⟩
    rw [flat_append, List.length_append, hx.1]
    exact h2
  | none =>
    have hm : m = 0 := by
      rcases Nat.eq_zero_or_pos m with h0 | h0
      · exact h0
      · obtain ⟨_, e', _⟩ := hx.2 h0; cases e'
    subst hm
    have hxs : xs = [] := List.eq_nil_of_length_eq_zero hx.1
    subst hxs
    refine ⟨v, w, ?_, by simpa using hown, World.grownBy.refl w _⟩
    rcases hown.2 with ⟨rfl, h0⟩ | ⟨g, cap, cur, rfl, _, _, hnc, _⟩
    · simp [Builtin.append_, run_underlying hu, sizeOf, typeInfo, h1, Builtin.lenOf, Builtin.firstCells]
    · simp [Builtin.append_, run_underlying hu, sizeOf, typeInfo, h1, Builtin.lenOf, Builtin.firstCells, hnc, storeCells]

theorem step_appP {P : Program} {w : World} {ops : Array Oper} {o : Oper} {a : Act} {K : Act → World → Prop} {Q : Exit → Act → World → Prop} {E : Prop} (hgd : o.guard = none) (s x : Operand) (T : TypeId)
    (ho : o.op = .call { callee := .builtin .append, args := #[s, x], argTypes := #[T, T] }) (e : TypeId) (hu : P.underlying T = some (.slice e)) (hi : (P.info? e).map (fun i => (i.zero, i.size, i.bytes)) = some (some (.agg #[I 0, I 0]), 2, 16))
    (base : Nat) (v : Value) (L xs : PL) (sp : Option Addr) (m c : Nat) (hs : a.eval s = v) (hsx : a.eval x = .slice sp m c) (hown : w.ownsRow base e 2 v L.length (flat L)) (hx : Src w sp m xs) (hbound : L.length + m ≤ 1000000) (hbase : base ≤ w.heap.size)
    (h : ∀ v' w', w'.ownsRow base e 2 v' (L ++ xs).length (flat (L ++ xs)) → w.grownBy w' v.ownBlock → K (a.put o.dst v') w') :
    if Region.wanted o (yielded ops a.tmps) = true then Oper.wp P o a w K Q else E := by
  have hw : Region.wanted o (yielded ops a.tmps) = true := by simp [Region.wanted, hgd]
  rw [if_pos hw]
  obtain ⟨v', w', hrun, h2, h3⟩ := run_appP (P := P) w T o.type e hu hi base v L xs hown sp m c hx hbound hbase
  unfold Oper.wp execOp
  simp only [ho, resolve, invoke, builtin, Sem.run_bind, Sem.run_pure, Result.andThen_ok, List.map_toArray, List.map_cons, List.map_nil, hs, hsx, hrun]
  exact h v' w' h2 h3

end Go.Proofs.YtpnjnedfcdppaaaGreatDoor

/-
  hedgref.Spots: a tree's nodes, told in order.
-/
namespace Go.Proofs.YtpnjnedfcdppaaaGreatDoor
open Go.RowKit

theorem src_keep {w w' : World} {sp : Option Addr} {m : Nat} {xs : PL} (h : Src w sp m xs) (hb : Below w.heap.size w w') : Src w' sp m xs := by
  refine ⟨h.1, fun h0 => ?_⟩
  obtain ⟨ad, e, hc⟩ := h.2 h0
  exact ⟨ad, e, fun j u hu => (hb.cell (cell_lt1 (hc j u hu))).trans (hc j u hu)⟩
abbrev spO (k d : Int) : Obj := .cells #[I k, I d] 82
theorem ownR_mono {w : World} {B B' t : Nat} {v : Value} {L : PL} (h : OwnR w B t v L) (hB : B' ≤ B) : OwnR w B' t v L := own_mono1 h hB
theorem ownR_below {w w' : World} {B t : Nat} {v : Value} {L : PL} (h : OwnR w B t v L) (hb : Below w.heap.size w w') : OwnR w' B t v L := own_below h hb
theorem ownR_row {w : World} {B t : Nat} {v : Value} {L : PL} (h : OwnR w B t v L) : w.ownsRow B t 2 v L.length (flat L) := h
/-- an append onto the row u leaves the row v, that is in newer memory, as it is -/
theorem ownR_beside {w w' : World} {B B' t : Nat} {u v : Value} {L L' : PL} (hu : OwnR w B t u L) (hv : OwnR w B' t v L') (hlt : ∀ g, u.ownBlock = some g → g < B') (hg : w.grownBy w' u.ownBlock) : OwnR w' B' t v L' := by
  refine World.ownsRow.kept hv hg ?_
  cases hb : v.ownBlock with
  | none => exact .inl rfl
  | some g =>
    refine .inr fun e => ?_
    have h1 := OwnR.ge hv g hb
    have h2 := hlt g e.symm
    omega
theorem ownR_lt {w : World} {B t : Nat} {v : Value} {L : PL} (h : OwnR w B t v L) : ∀ g, v.ownBlock = some g → g < w.heap.size := by
  intro g hg
  rcases h.2 with ⟨rfl, _⟩ | ⟨g', cap, cur, rfl, _, hh, _⟩
  · simp [Value.ownBlock] at hg
  · simp [Value.ownBlock] at hg
    subst hg
    exact (Array.getElem?_eq_some_iff.1 hh).1
/-- the row, told as a slice -/
theorem ownR_told {w : World} {B t n : Nat} {v : Value} {L : PL} (h : OwnR w B t v L) (hl : L.length = n) : ∃ A c, v = .slice A n c ∧ OwnR w B t (.slice A n c) L ∧ PS w A n c L := by
  obtain ⟨A, c, e, hp, _⟩ := OwnR.ps h
  subst hl
  subst e
  exact ⟨A, c, rfl, h, hp⟩

set_option maxRecDepth 100000 in
set_option maxHeartbeats 8000000 in
theorem rspots_any (t : Tr) : ∀ (q : Option Addr) (d : Int) (w : World), RT w q t → 0 ≤ d → d + t.size ≤ 1000 → t.size ≤ 1000 → Calls Tryz.prog 117 #[.pointer q, I d] w (RetSO (t.sp d) w.heap.size w) := by
  induction t with
  | nil =>
    intro q d w h hd hd2 hz
    obtain rfl : q = none := h
    go_enter Tryz.func117, Tryz.ntmps117
    go_wp2
    go_ret
    exact ⟨_, rfl, World.ownsRow_nil _ _ _ _, Below.refl _ _⟩
  | node a k b iha ihb =>
    intro q d w h hd hd2 hz
    simp only [Tr.size] at hd2 hz
    obtain ⟨g, qa, qb, rfl, hg, ha, hb⟩ := h
    obtain ⟨hlt, c0, c1, c2⟩ := tree_cells hg
    have HA := Lib.hid ha
    have HB := Lib.hid hb
    have e1 : IntKind.i64.wrap (d + 1) = d + 1 := IntWalk.i64_in _ (by omega)
    have IHA : Hid (∀ W : World, RT W qa a → Calls Tryz.prog 117 #[.pointer qa, .int .i64 (IntKind.i64.wrap (d + 1))] W (RetSO (a.sp (d + 1)) W.heap.size W)) := fun W hW => by
      rw [e1]
      exact iha qa (d + 1) W hW (by omega) (by omega) (by omega)
    have IHB : Hid (∀ W : World, RT W qb b → Calls Tryz.prog 117 #[.pointer qb, .int .i64 (IntKind.i64.wrap (d + 1))] W (RetSO (b.sp (d + 1)) W.heap.size W)) := fun W hW => by
      rw [e1]
      exact ihb qb (d + 1) W hW (by omega) (by omega) (by omega)
    clear e1
    have hsp : (Tr.node a k b).sp d = a.sp (d + 1) ++ [(k, d)] ++ b.sp (d + 1) := by simp [Tr.sp]
    have la := sp_length a (d + 1)
    have lb := sp_length b (d + 1)
    obtain ⟨nb, hnb⟩ : ∃ nb, b.size = nb := ⟨_, rfl⟩
    rw [hnb] at lb hd2 hz
    have hla : (a.sp (d + 1)).length ≤ 1000 := by omega
    have hnb1 : nb ≤ 1000 := by omega
    have HLB := Lib.hid lb
    rw [hsp]
    generalize a.sp (d + 1) = La at *
    generalize b.sp (d + 1) = Lb at *
    clear hg ha hb iha ihb hsp la lb hnb
    go_enter Tryz.func117, Tryz.ntmps117
    go_wp2
    go_region_held3 (fun W => W.cell? ⟨g, 0, none⟩ = some (I k) ∧ W.cell? ⟨g, 1, none⟩ = some (.pointer qa) ∧ W.cell? ⟨g, 2, none⟩ = some (.pointer qb))
      (first
        | exact ⟨d0, d1, d2⟩
        | exact ⟨ck d0 _, ck d1 _, ck d2 _⟩
        | exact ⟨c0, c1, c2⟩
        | exact ⟨ck c0 _, ck c1 _, ck c2 _⟩)
      (first
        | (go_at_call 117
           with_reducible refine (IHA.out _ (by first | exact HA.out.drew | exact (HA.out.alloc _).drew)).mono ?_
           rintro e w2 ⟨v2, rfl, ho2, hb2⟩
           have hB2 : Below w.heap.size w w2 := by
             first
               | exact (Below.refl w.heap.size w).drew.trans hb2
               | exact ((Below.refl w.heap.size w).alloc (Nat.le_refl _) _).drew.trans (hb2.mono (by simp))
           have d0 : w2.cell? ⟨g, 0, none⟩ = some (I k) := (hB2.cell (by exact hlt)).trans c0
           have d1 : w2.cell? ⟨g, 1, none⟩ = some (.pointer qa) := (hB2.cell (by exact hlt)).trans c1
           have d2 : w2.cell? ⟨g, 2, none⟩ = some (.pointer qb) := (hB2.cell (by exact hlt)).trans c2
           have HO2 : Hid (OwnR w2 w.heap.size 82 v2 La) := ownR_mono ho2 (by simp)
           try (have HS2 : Hid (Src w2 (some ⟨w.heap.size, 0, none⟩) 1 [(k, d)]) := src_keep (w := (w.alloc (spO k d)).drew) (show Src (w.alloc (spO k d)).drew _ _ _ from gsrc_one w k d) hb2)
           have HRB2 : Hid (RT w2 qb b) := HB.out.below hB2
           have HB2 := Lib.hid hB2
           clear ho2 hb2 hB2)
        | (go_at_call 117
           with_reducible refine (IHB.out _ (by first | exact HRB4.out | exact HRB2.out | exact HRB2.out.alloc _)).mono ?_
           rintro e w3 ⟨v3, rfl, ho3, hb3⟩
           have hB3 : Below w.heap.size w w3 := by
             first
               | exact HB4.out.trans (hb3.mono HB4.out.size)
               | exact HB2.out.trans (hb3.mono HB2.out.size)
               | exact (HB2.out.alloc HB2.out.size _).trans (hb3.mono (by have := HB2.out.size; simp; omega))
           have d0 : w3.cell? ⟨g, 0, none⟩ = some (I k) := (hB3.cell (by exact hlt)).trans c0
           have d1 : w3.cell? ⟨g, 1, none⟩ = some (.pointer qa) := (hB3.cell (by exact hlt)).trans c1
           have d2 : w3.cell? ⟨g, 2, none⟩ = some (.pointer qb) := (hB3.cell (by exact hlt)).trans c2
           obtain ⟨A3, c3, rfl, ho3', hps3⟩ := ownR_told ho3 HLB.out
           have HPS3 := Lib.hid hps3
           try (have HO43 : Hid (OwnR w3 w.heap.size 82 v4 (La ++ [(k, d)])) := ownR_below HO4.out hb3)
           try (have HO23 : Hid (OwnR w3 w.heap.size 82 v2 La) := (by first | exact ownR_below HO2.out hb3 | exact ownR_below (ownR_below HO2.out ((Below.refl _ _).alloc (Nat.le_refl _) _)) hb3))
           try (have HO3 : Hid (∃ B', OwnR w3 B' 82 (.slice A3 nb c3) Lb ∧ ∀ g, v2.ownBlock = some g → g < B') := (by first | exact ⟨_, ho3', ownR_lt HO2.out⟩ | exact ⟨_, ho3', ownR_lt (ownR_below HO2.out ((Below.refl _ _).alloc (Nat.le_refl _) _))⟩))
           try (have HS3a : Hid (Src w3 (some ⟨w.heap.size, 0, none⟩) 1 [(k, d)]) := src_keep HS2.out hb3)
           try (have HS3b : Hid (Src w3 (some ⟨w2.heap.size, 0, none⟩) 1 [(k, d)]) := src_keep (gsrc_one w2 k d) hb3)
           have HB3 := Lib.hid hB3
           clear ho3 hb3 hB3 ho3' hps3)
        | (refine step_appP rfl (.tmp 13) (.tmp 20) 41 rfl 82 Tryz.underlying41 gspot_info w.heap.size v2 La [(k, d)] (some ⟨w.heap.size, 0, none⟩) 1 1 rfl rfl (ownR_row HO2.out) HS2.out (by omega) HB2.out.size ?_
           intro v4 w4 hown4 hgrow4
           have hB4 : Below w.heap.size w w4 := HB2.out.grown hgrow4 HB2.out.size (OwnR.ge HO2.out)
           have d0 : w4.cell? ⟨g, 0, none⟩ = some (I k) := (hB4.cell (by exact hlt)).trans c0
           have d1 : w4.cell? ⟨g, 1, none⟩ = some (.pointer qa) := (hB4.cell (by exact hlt)).trans c1
           have d2 : w4.cell? ⟨g, 2, none⟩ = some (.pointer qb) := (hB4.cell (by exact hlt)).trans c2
           have HO4 : Hid (OwnR w4 w.heap.size 82 v4 (La ++ [(k, d)])) := hown4
           have HRB4 : Hid (RT w4 qb b) := HB.out.below hB4
           have HB4 := Lib.hid hB4
           clear hown4 hgrow4 hB4)
        | (refine step_appP rfl (.tmp 13) (.tmp 20) 41 rfl 82 Tryz.underlying41 gspot_info w.heap.size v2 La [(k, d)] (some ⟨w2.heap.size, 0, none⟩) 1 1 rfl rfl (ownR_row (ownR_below HO2.out ((Below.refl _ _).alloc (Nat.le_refl _) _))) (gsrc_one w2 k d) (by omega) (by have := HB2.out.size; simp; omega) ?_
           intro v4 w4 hown4 hgrow4
           have hB4 : Below w.heap.size w w4 := (HB2.out.alloc HB2.out.size _).grown hgrow4 (by have := HB2.out.size; simp; omega) (OwnR.ge HO2.out)
           have d0 : w4.cell? ⟨g, 0, none⟩ = some (I k) := (hB4.cell (by exact hlt)).trans c0
           have d1 : w4.cell? ⟨g, 1, none⟩ = some (.pointer qa) := (hB4.cell (by exact hlt)).trans c1
           have d2 : w4.cell? ⟨g, 2, none⟩ = some (.pointer qb) := (hB4.cell (by exact hlt)).trans c2
           have HO4 : Hid (OwnR w4 w.heap.size 82 v4 (La ++ [(k, d)])) := hown4
           have HRB4 : Hid (RT w4 qb b) := HB.out.below hB4
           have HB4 := Lib.hid hB4
           clear hown4 hgrow4 hB4)
        | (first
             | refine step_appP rfl (.tmp 13) (.tmp 20) 41 rfl 82 Tryz.underlying41 gspot_info w.heap.size v2 La [(k, d)] (some ⟨w.heap.size, 0, none⟩) 1 1 rfl rfl (ownR_row HO23.out) HS3a.out (by omega) HB3.out.size ?_
             | refine step_appP rfl (.tmp 13) (.tmp 20) 41 rfl 82 Tryz.underlying41 gspot_info w.heap.size v2 La [(k, d)] (some ⟨w2.heap.size, 0, none⟩) 1 1 rfl rfl (ownR_row HO23.out) HS3b.out (by omega) HB3.out.size ?_
           intro v4 w4 hown4 hgrow4
           have hB4 : Below w.heap.size w w4 := HB3.out.grown hgrow4 HB3.out.size (OwnR.ge HO23.out)
           have d0 : w4.cell? ⟨g, 0, none⟩ = some (I k) := (hB4.cell (by exact hlt)).trans c0
           have d1 : w4.cell? ⟨g, 1, none⟩ = some (.pointer qa) := (hB4.cell (by exact hlt)).trans c1
           have d2 : w4.cell? ⟨g, 2, none⟩ = some (.pointer qb) := (hB4.cell (by exact hlt)).trans c2
           have HO4 : Hid (OwnR w4 w.heap.size 82 v4 (La ++ [(k, d)])) := hown4
           have HPS4 : Hid (PS w4 A3 nb c3 Lb) := by
             obtain ⟨B', h1, h2⟩ := HO3.out
             obtain ⟨A', c', e', _, hp⟩ := ownR_told (ownR_beside HO23.out h1 h2 hgrow4) HLB.out
             cases e'
             exact hp
           have HB4 := Lib.hid hB4
           clear hown4 hgrow4 hB4)
        | (refine step_appP rfl (.tmp 13) (.tmp 20) 41 rfl 82 Tryz.underlying41 gspot_info w.heap.size v2 La [(k, d)] (some ⟨w3.heap.size, 0, none⟩) 1 1 rfl rfl (ownR_row (ownR_below HO23.out ((Below.refl _ _).alloc (Nat.le_refl _) _))) (gsrc_one w3 k d) (by omega) (by have := HB3.out.size; simp; omega) ?_
           intro v4 w4 hown4 hgrow4
           have hB4 : Below w.heap.size w w4 := (HB3.out.alloc HB3.out.size _).grown hgrow4 (by have := HB3.out.size; simp; omega) (OwnR.ge HO23.out)
           have d0 : w4.cell? ⟨g, 0, none⟩ = some (I k) := (hB4.cell (by exact hlt)).trans c0
           have d1 : w4.cell? ⟨g, 1, none⟩ = some (.pointer qa) := (hB4.cell (by exact hlt)).trans c1
           have d2 : w4.cell? ⟨g, 2, none⟩ = some (.pointer qb) := (hB4.cell (by exact hlt)).trans c2
           have HO4 : Hid (OwnR w4 w.heap.size 82 v4 (La ++ [(k, d)])) := hown4
           have HPS4 : Hid (PS w4 A3 nb c3 Lb) := by
             obtain ⟨B', h1, h2⟩ := HO3.out
             obtain ⟨A', c', e', _, hp⟩ := ownR_told (ownR_beside (ownR_below HO23.out ((Below.refl _ _).alloc (Nat.le_refl _) _)) (ownR_below h1 ((Below.refl _ _).alloc (Nat.le_refl _) _)) h2 hgrow4) HLB.out
             cases e'
             exact hp
           have HB4 := Lib.hid hB4
           clear hown4 hgrow4 hB4)
        | (refine step_appP rfl (.tmp 21) (.tmp 28) 41 rfl 82 Tryz.underlying41 gspot_info w.heap.size v4 (La ++ [(k, d)]) Lb A3 nb c3 rfl rfl (ownR_row HO43.out) (PS.src HPS3.out) (by simp; omega) HB3.out.size ?_
           intro v6 w6 hown6 hgrow6
           have hB6 : Below w.heap.size w w6 := HB3.out.grown hgrow6 HB3.out.size (OwnR.ge HO43.out)
           have d0 : w6.cell? ⟨g, 0, none⟩ = some (I k) := (hB6.cell (by exact hlt)).trans c0
           have d1 : w6.cell? ⟨g, 1, none⟩ = some (.pointer qa) := (hB6.cell (by exact hlt)).trans c1
           have d2 : w6.cell? ⟨g, 2, none⟩ = some (.pointer qb) := (hB6.cell (by exact hlt)).trans c2
           have HO6 : Hid (OwnR w6 w.heap.size 82 v6 (La ++ [(k, d)] ++ Lb)) := hown6
           have HB6 := Lib.hid hB6
           clear hown6 hgrow6 hB6)
        | (refine step_appP rfl (.tmp 21) (.tmp 28) 41 rfl 82 Tryz.underlying41 gspot_info w.heap.size v4 (La ++ [(k, d)]) Lb A3 nb c3 rfl rfl (ownR_row HO4.out) (PS.src HPS4.out) (by simp; omega) HB4.out.size ?_
           intro v6 w6 hown6 hgrow6
           have hB6 : Below w.heap.size w w6 := HB4.out.grown hgrow6 HB4.out.size (OwnR.ge HO4.out)
           have d0 : w6.cell? ⟨g, 0, none⟩ = some (I k) := (hB6.cell (by exact hlt)).trans c0
           have d1 : w6.cell? ⟨g, 1, none⟩ = some (.pointer qa) := (hB6.cell (by exact hlt)).trans c1
           have d2 : w6.cell? ⟨g, 2, none⟩ = some (.pointer qb) := (hB6.cell (by exact hlt)).trans c2
           have HO6 : Hid (OwnR w6 w.heap.size 82 v6 (La ++ [(k, d)] ++ Lb)) := hown6
           have HB6 := Lib.hid hB6
           clear hown6 hgrow6 hB6)
        | fail)
    all_goals go_wp2
    all_goals go_ret
    all_goals exact ⟨v6, rfl, HO6.out, HB6.out⟩

end Go.Proofs.YtpnjnedfcdppaaaGreatDoor

/-
  package goat: a tree's build, come, leave.
-/
namespace Go.Proofs.YtpnjnedfcdppaaaGreatDoor
open Go.RowKit

/-- the tree's own block -/
def OTB (w : World) (T : Nat) (v : Value) (m b : Nat) : Prop := w.heap[T]? = some (.cells #[v, I m, I b] 118 (0, 0))
theorem OTB.lt {w : World} {T : Nat} {v : Value} {m b : Nat} (h : OTB w T v m b) : T < w.heap.size := (Array.getElem?_eq_some_iff.1 h).1
theorem OTB.cells {w : World} {T : Nat} {v : Value} {m b : Nat} (h : OTB w T v m b) : w.cell? ⟨T, 0, none⟩ = some v ∧ w.cell? ⟨T, 1, none⟩ = some (I m) ∧ w.cell? ⟨T, 2, none⟩ = some (I b) := by
  have h' : w.heap[T]? = _ := h
  refine ⟨?_, ?_, ?_⟩ <;> simp [World.cell?, h']
theorem OTB.frozen {w : World} {T : Nat} {v : Value} {m b : Nat} (h : OTB w T v m b) (i : Nat) : w.frozen? ⟨T, i, none⟩ = false := by
  have h' : w.heap[T]? = _ := h
  simp [World.frozen?, h']
theorem OTB.below {w w' : World} {T B : Nat} {v : Value} {m b : Nat} (h : OTB w T v m b) (hb : Below B w w') (hB : T < B) : OTB w' T v m b := (hb.block T hB).trans h
theorem OTB.set0 {w : World} {T : Nat} {v : Value} {m b : Nat} (h : OTB w T v m b) (u : Value) : OTB (w.setCell ⟨T, 0, none⟩ u) T u m b := by
  have := cells_set (cs := [v, I m, I b]) h 0 u
  simpa [OTB] using this
theorem OTB.set1 {w : World} {T : Nat} {v : Value} {m b : Nat} (h : OTB w T v m b) (u : Nat) : OTB (w.setCell ⟨T, 1, none⟩ (I u)) T v u b := by
  have := cells_set (cs := [v, I m, I b]) h 1 (I u)
  simpa [OTB] using this
theorem OTB.set2 {w : World} {T : Nat} {v : Value} {m b : Nat} (h : OTB w T v m b) (u : Nat) : OTB (w.setCell ⟨T, 2, none⟩ (I u)) T v m u := by
  have := cells_set (cs := [v, I m, I b]) h 2 (I u)
  simpa [OTB] using this
/-- the tree in memory -/
def GT (w : World) (T : Nat) (s : GS) : Prop := ∃ v, OTB w T v s.most s.built ∧ OwnR w (T + 1) 82 v (s.t.sp 0)
theorem ownR_far {w : World} {B t : Nat} {v : Value} {L : PL} (h : OwnR w B t v L) {p : Addr} (hp : p.block < B) (u : Value) : OwnR (w.setCell p u) B t v L := ownsRow_setCell_below h hp u
def ORetG (T : Nat) (s : GS) (w : World) (e : Ending) (w' : World) : Prop := e = .returned (.tuple #[]) ∧ GT w' T s ∧ Below T w w'

set_option maxRecDepth 100000 in
set_option maxHeartbeats 2000000 in
theorem obuild_nil (T : Nat) (A : Option Addr) (c : Nat) (v : Value) (m b : Nat) (d : Int) (w : World) (h : OTB w T v m b) (hb : b ≤ 1000000) :
    Calls Tryz.prog 137 #[.pointer (some ⟨T, 0, none⟩), .slice A 0 c, I d] w fun e w' => e = .returned (.tuple #[]) ∧ OTB w' T v m b ∧ (∀ g, g ≠ T → w'.heap[g]? = w.heap[g]?) ∧ Below T w w' := by
  have HS := Lib.hid (ostand_nil A c d w)
  obtain ⟨h0, h1, h2⟩ := h.cells
  have hfz := h.frozen 2
  have HSET := Lib.hid (h.set2 b)
  have hlt := h.lt
  clear h h0 h1
  go_enter Tryz.func137, Tryz.ntmps137
  go_wp2_with fail
  refine HS.out.mono ?_
  rintro e w1 ⟨rfl, rfl⟩
  go_wp2
  go_end0
  refine ⟨rfl, HSET.out, fun g hg => Below.heap_setCell _ _ _ g hg, (Below.refl _ _).setCell (B := T) (p := ⟨T, 2, none⟩) (Nat.le_refl _) _⟩

set_option maxRecDepth 100000 in
set_option maxHeartbeats 2000000 in
theorem obuild_any (T g x n c cap : Nat) (v : Value) (m b : Nat) (pre mid post : PL) (d : Int) (w : World) (h : OTB w T v m b) (hx : pre.length = x) (hn : mid.length = n) (hr : RB w g 82 cap (pre ++ mid ++ post)) (hTg : T < g) (hc : n ≤ c) (hxn : x + n ≤ 1000) (hd : 0 ≤ d) (hd2 : d + n ≤ 1000) (hb : b ≤ 1000000) :
    Calls Tryz.prog 137 #[.pointer (some ⟨T, 0, none⟩), .slice (some ⟨g, x * 2, none⟩) n c, I d] w fun e w' => e = .returned (.tuple #[]) ∧ OTB w' T v m (b + n) ∧ RB w' g 82 cap (pre ++ (ev (kys mid)).sp d ++ post) ∧ Below T w w' := by
  have HS := Lib.hid (ostand_any cap n g x n c pre mid post d w (Nat.le_refl _) hx hn hr hc hxn hd hd2)
  have H := Lib.hid h
  clear h hr hx hn
  go_enter Tryz.func137, Tryz.ntmps137
  go_wp2_with fail
  refine HS.out.mono ?_
  rintro e w1 ⟨rfl, hr1, hb1⟩
  have h1 := H.out.below hb1 hTg
  obtain ⟨_, _, hc2⟩ := h1.cells
  have hfz := h1.frozen 2
  have hlt := h1.lt
  have HSET := Lib.hid (h1.set2 (b + n))
  have HR := Lib.hid (hr1.far (p := ⟨T, 2, none⟩) (by show T ≠ g; omega) (I ((b + n : Nat) : Int)))
  have HB : Hid (Below T w (w1.setCell ⟨T, 2, none⟩ (I ((b + n : Nat) : Int)))) := (hb1.mono (Nat.le_of_lt hTg)).setCell (B := T) (p := ⟨T, 2, none⟩) (Nat.le_refl _) _
  have hcast : ((b + n : Nat) : Int) = (b : Int) + (n : Int) := by omega
  rw [hcast] at HSET HR HB
  clear hb1 hr1 h1 hcast
  go_wp2
  go_end0
  exact ⟨rfl, HSET.out, HR.out, HB.out⟩

theorem odepth_all (A : Option Addr) (n c p : Nat) (l : PL) (w : World) (h : PS w A n c l) (hn : n ≤ 1000) (hp : p ≤ n) (hd : ∀ i, 0 ≤ dp l i ∧ dp l i ≤ 1000) :
    Calls Tryz.prog 134 #[.slice A n c, I p] w fun e w' => e = .returned (I (dAt l p)) ∧ Below w.heap.size w w' := by
  rcases Nat.eq_zero_or_pos n with h0 | h0
  · subst h0
    obtain rfl : p = 0 := by omega
    have hl : l = [] := List.eq_nil_of_length_eq_zero h.len
    subst hl
    refine (odepth_nil A c w).mono ?_
    rintro e w' ⟨rfl, rfl⟩
    exact ⟨rfl, Below.refl _ _⟩
  · exact odepth_any A n c p l w h hn h0 hp hd

theorem tree_dp2 {t : Tr} (hs : t.size ≤ 200) : ∀ i, 0 ≤ dp (t.sp 0) i ∧ dp (t.sp 0) i ≤ 1000 := by
  intro i
  rcases Nat.lt_or_ge i t.size with hi | hi
  · have a := sp_ge t 0 i hi
    have b := dp_sp_lt t 0 i hi
    omega
  · have : dp (t.sp 0) i = 0 := by simp [dp, List.getElem?_eq_none (by rw [sp_length]; exact hi : (t.sp 0).length ≤ i)]
    omega
theorem okys_sp (t : Tr) (d : Int) : kys (t.sp d) = t.ks := sp_ks t d
/-- where a new key comes -/
theorem ins_place {t : Tr} {x : Int} (hu : Up t.ks) (hx : x ∉ t.ks) : ∃ p, p ≤ t.size ∧ (∀ i, i < p → ky (t.sp 0) i < x) ∧ (p < t.size → ¬ ky (t.sp 0) p < x) ∧ dAt (t.sp 0) p = ((t.ins x).dpx x : Int) ∧ insP (t.sp 0) p x ((t.ins x).dpx x : Int) = (t.ins x).sp 0 ∧ ky ((t.ins x).sp 0) p = x := by
  obtain ⟨l1, l2, e1, e2, e3, e4, e5⟩ := ins_spots hu hx 0
  have hsz : l1.length + l2.length = t.size := by rw [← List.length_append, ← e1, sp_length]
  rw [Int.zero_add] at e2 e5
  refine ⟨l1.length, by omega, fun i hi => ?_, fun hp => ?_, ?_, ?_, ?_⟩
  · rw [e1, ky_left hi, ky_in hi]
    exact e3 _ (List.getElem_mem _)
  · have h2 : 0 < l2.length := by omega
    rw [e1, ky_right (Nat.le_refl _), Nat.sub_self, ky_in h2]
    have := e4 _ (List.getElem_mem h2)
    omega
  · rw [e1, dAt_app, ← e5]
  · rw [e2, e1]
    unfold insP
    rw [List.take_left, List.drop_left]
  · rw [e2]
    exact ky_mid l1 l2 _

set_option maxRecDepth 100000 in
set_option maxHeartbeats 8000000 in
theorem come_any (T : Nat) (s : GS) (x : Int) (w : World) (h : GT w T s) (hu : Up s.t.ks) (hx : x ∉ s.t.ks) (hsz : s.t.size + 1 ≤ 200) (hm : s.most ≤ 200) (hbl : s.built ≤ 900000) :
    Calls Tryz.prog 64 #[.pointer (some ⟨T, 0, none⟩), I x] w (ORetG T (goP s x) w) := by
  obtain ⟨v, hv, ho⟩ := h
  obtain ⟨n, hn⟩ : ∃ n, s.t.size = n := ⟨_, rfl⟩
  obtain ⟨A, c, rfl, ho', hps⟩ := ownR_told ho (show (s.t.sp 0).length = n by rw [sp_length, hn])
  obtain ⟨p, hp, hlo, hhi, hdA, hins, hky⟩ := ins_place hu hx
  rw [hn] at hp hhi hsz
  have HPL := Lib.hid (oplace_any A n c p (s.t.sp 0) x w hps (by omega) hp hlo hhi)
  have HDP := Lib.hid (odepth_all A n c p (s.t.sp 0) w hps (by omega) hp (tree_dp2 (by omega)))
  rw [hdA] at HDP
  have hu2 := up_ins (x := x) hu
  have hx2 : x ∈ (s.t.ins x).ks := mem_ins.2 (.inl rfl)
  have hn2 : (s.t.ins x).size = n + 1 := by rw [size_ins hx, hn]
  have hIT := istree_of hu2 (by rw [hn2]; omega)
  obtain ⟨mc, hclm⟩ := climb_all hu2 hx2 (p := p) (by rw [hn2]; omega) hky
  have HGO := Lib.hid (show goP s x = _ by unfold goP; rfl)
  rw [hn2] at HGO
  obtain ⟨dd, hdd⟩ : ∃ dd, (s.t.ins x).dpx x = dd := ⟨_, rfl⟩
  have hdb : dd ≤ 1000 := by
    have h1 := dpx_ins hx
    have h2 : s.t.tall ≤ s.t.size := by
      have : ∀ t : Tr, t.tall ≤ t.size := fun t => by
        induction t with
        | nil => exact Nat.le_refl _
        | node a k b iha ihb => simp only [Tr.tall, Tr.size]; omega
      exact this _
    omega
  rw [hdd] at HDP hins HGO
  obtain ⟨M, hM⟩ : ∃ M, max s.most (n + 1) = M := ⟨_, rfl⟩
  have hM2 : M ≤ 200 := by omega
  have hmx : (if (s.most : Int) < (n : Int) + 1 then (n : Int) + 1 else (s.most : Int)) = (M : Int) := by split <;> omega
  rw [hM] at HGO
  have HDE := Lib.hid (fun w' => odeepest_any M w' hM2)
  have HINS := Lib.hid hins
  have HO := Lib.hid ho'
  have HV := Lib.hid hv
  have hlt := hv.lt
  obtain ⟨cv0, cv1, cv2⟩ := hv.cells
  have HIT := Lib.hid hIT
  have HCLM := Lib.hid hclm
  have HN2 := Lib.hid hn2
  have HPS := Lib.hid hps
  clear ho ho' hps hv hlo hhi hdA hins hky hu2 hx2 hIT hclm hdd hM hn2 hu hx
  go_enter Tryz.func64, Tryz.ntmps64
  go_wp2_with fail
  refine HPL.out.mono ?_
  rintro e w0 ⟨rfl, hw0⟩
  subst hw0
  clear HPL
  go_wp2_with fail
  refine HDP.out.mono ?_
  rintro e w1 ⟨rfl, hb1⟩
  have hv1 := HV.out.below hb1 hlt
  obtain ⟨d0, d1, d2⟩ := hv1.cells
  have hlt1 := hv1.lt
  have HV1 := Lib.hid hv1
  have HO1 := Lib.hid (ownR_below HO.out hb1)
  have HB1 : Hid (Below T w0 w1) := hb1.mono (Nat.le_of_lt hlt)
  clear hb1 hv1 HDP cv0 cv1 cv2 HV
  have HI : Hid (Calls Tryz.prog 135 #[.slice A n c, I p, .slice (some ⟨w1.heap.size, 0, none⟩) 1 1] (w1.alloc (.cells #[I x, I dd] 82)) (RetIns ((s.t.ins x).sp 0) (T + 1) (w1.alloc (.cells #[I x, I dd] 82)))) := by
    have := oins_any (T + 1) n w1.heap.size A c p (s.t.sp 0) x dd (w1.alloc (.cells #[I x, I dd] 82)) (ownR_below HO1.out ((Below.refl _ _).alloc (Nat.le_refl _) _)) HPS.out.len (by omega) hp (heap_alloc_new w1 _) (fun ad e => by
      have := ownR_lt HO1.out ad.block (by rw [e]; rfl)
      omega) (by simp; omega)
    rw [HINS.out] at this
    exact this
  have HBA : Hid (Below T w0 (w1.alloc (.cells #[I x, I dd] 82))) := HB1.out.alloc (by omega) _
  have HVA : Hid (OTB (w1.alloc (.cells #[I x, I dd] 82)) T (.slice A n c) s.most s.built) := HV1.out.below ((Below.refl _ _).alloc (Nat.le_refl _) _) hlt1
  go_wp2_with fail
  refine HI.out.mono ?_
  rintro e w3 ⟨v3, rfl, ho3, hb3⟩
  obtain ⟨A3, c3, rfl, ho3', hps3⟩ := ownR_told ho3 (show ((s.t.ins x).sp 0).length = n + 1 by rw [sp_length]; exact HN2.out)
  have hv3 := HVA.out.below hb3 (Nat.lt_succ_self T)
  obtain ⟨f0, f1, f2⟩ := hv3.cells
  have hfz0 := hv3.frozen 0
  have HV4 := Lib.hid (hv3.set0 (.slice A3 (n + 1) c3))
  have HO4 := Lib.hid (ownR_far ho3' (p := ⟨T, 0, none⟩) (Nat.lt_succ_self T) (.slice A3 (n + 1) c3))
  have HB4 : Hid (Below T w0 (w3.setCell ⟨T, 0, none⟩ (.slice A3 (n + 1) c3))) := (HBA.out.trans (hb3.mono (Nat.le_succ T))).setCell (B := T) (p := ⟨T, 0, none⟩) (Nat.le_refl _) _
  clear ho3 ho3' hps3 hb3 hv3 HI HVA HBA HB1 HO1 HV1 HO HPS f1 f2 d0 d1 d2
  go_wp2
  clear f0 hfz0
  obtain ⟨w4, hw4⟩ : ∃ W, w3.setCell ⟨T, 0, none⟩ (.slice A3 (n + 1) c3) = W := ⟨_, rfl⟩
  rw [hw4] at HV4 HO4 HB4 ⊢
  clear hw4
  obtain ⟨g0, g1, g2⟩ := HV4.out.cells
  have gz1 := HV4.out.frozen 1
  have hlt4 := HV4.out.lt
  have HV5 : Hid (OTB (w4.setCell ⟨T, 1, none⟩ (I M)).drew T (.slice A3 (n + 1) c3) M s.built) := OTB.set1 HV4.out M
  have HO5 : Hid (OwnR (w4.setCell ⟨T, 1, none⟩ (I M)).drew (T + 1) 82 (.slice A3 (n + 1) c3) ((s.t.ins x).sp 0)) := ownR_below (ownR_far HO4.out (p := ⟨T, 1, none⟩) (Nat.lt_succ_self T) _) (Below.refl _ _).drew
  have HB5 : Hid (Below T w0 (w4.setCell ⟨T, 1, none⟩ (I M)).drew) := (HB4.out.setCell (B := T) (p := ⟨T, 1, none⟩) (Nat.le_refl _) _).drew
  go_region
  obtain ⟨w5, hw5⟩ : ∃ W, (w4.setCell ⟨T, 1, none⟩ (I M)).drew = W := ⟨_, rfl⟩
  rw [hw5] at HV5 HO5 HB5 ⊢
  clear hw5 HV4 HO4 HB4 g0 g1 g2 gz1 hlt4
  rcases OwnR.rb HO5.out with ⟨e0, _⟩ | ⟨g, cap, e0, hg, hcm, hrb⟩
  · cases e0
  rw [sp_length, HN2.out] at e0
  cases e0
  obtain ⟨g0, g1, g2⟩ := HV5.out.cells
  have hlt5 := HV5.out.lt
  have hrps := hrb.ps
  rw [sp_length, HN2.out] at hrps
  have HRPS := Lib.hid hrps
  have HRB := Lib.hid hrb
  have hcap := hrps.rd.1
  clear hrps hrb HINS
  obtain ⟨D, hD⟩ : ∃ D, dpst M = D := ⟨_, rfl⟩
  rw [hD] at HGO HDE
  clear hD hmx
  by_cases hcmp : D < dd
  · rw [if_pos hcmp] at HGO
    cases hr : (s.t.ins x).reb x with
    | none =>
      rw [hr] at HGO HCLM
      have HLOP := Lib.hid (olop_any g (n + 1) c3 p mc ((s.t.ins x).sp 0) none w5 HRPS.out HIT.out (by omega) HCLM.out)
      have hcmp' : (D : Int) < (dd : Int) := by omega
      clear hcmp hr HCLM
      go_wp2_with fail
      refine (HDE.out w5).mono ?_
      rintro e w6 ⟨rfl, hw6⟩
      subst hw6
      go_wp2_with fail
      refine HLOP.out.mono ?_
      rintro e w7 ⟨rfl, hb7⟩
      have HB7 : Hid (Below T w0 w7) := HB5.out.trans (hb7.mono (Nat.le_of_lt hlt5))
      have hv7 := HV5.out.below hb7 hlt5
      have HV7 := Lib.hid hv7
      have HO7 := Lib.hid (ownR_below HO5.out hb7)
      have HBU := Lib.hid (obuild_nil T none 0 (.slice (some ⟨g, 0, none⟩) (n + 1) c3) M s.built 0 w7 hv7 (by omega))
      clear hb7 hv7 HLOP HDE g0 g1 g2
      unfold lopV
      go_wp2_with fail
      refine HBU.out.mono ?_
      rintro e w8 ⟨rfl, hv8, hh8, hb8⟩
      have HB8 := Lib.hid (HB7.out.trans hb8)
      have HG8 : Hid (GT w8 T (goP s x)) := by
        show GT _ _ _
        rw [HGO.out]
        refine ⟨_, hv8, HO7.out.1, ?_⟩
        rcases HO7.out.2 with h | ⟨g', cap', cur', k1, k2, k3, k4⟩
        · exact .inl h
        · exact .inr ⟨g', cap', cur', k1, k2, (hh8 g' (by omega)).trans k3, k4⟩
      clear hv8 hh8 hb8
      go_wp2
      go_end0
      exact ⟨rfl, HG8.out, HB8.out⟩
    | some q =>
      rw [hr] at HGO HCLM
      obtain ⟨u, e, p1, q1, z1, z2, z3, z4, z5, z6⟩ := HCLM.out
      have hlop := olop_any g (n + 1) c3 p mc ((s.t.ins x).sp 0) _ w5 HRPS.out HIT.out (by omega) z6
      unfold lopV at hlop
      simp only [Nat.add_sub_cancel_left] at hlop
      have hz : p1.length + (u.size + q1.length) = n + 1 := by
        have := sp_length (s.t.ins x) 0
        rw [z3, HN2.out] at this
        simp [sp_length] at this
        omega
      have he0 := z1.ge
      have he1 := ctx_le z1
      obtain ⟨y, hy⟩ : ∃ y, p1.length = y := ⟨_, rfl⟩
      obtain ⟨z, hzz⟩ : ∃ z, u.size = z := ⟨_, rfl⟩
      have HBU := Lib.hid (fun w' (hv' : OTB w' T (.slice (some ⟨g, 0, none⟩) (n + 1) c3) M s.built) (hr' : RB w' g 82 c3 (p1 ++ u.sp e ++ q1)) => obuild_any T g y z (c3 - y) c3 (.slice (some ⟨g, 0, none⟩) (n + 1) c3) M s.built p1 (u.sp e) q1 e w' hv' hy (by rw [sp_length, hzz]) hr' (by omega) (by omega) (by omega) he0 (by omega) (by omega))
      rw [okys_sp, ← z4] at HBU
      rw [← z3] at HBU
      rw [hy, hzz] at hlop
      have HLOP := Lib.hid hlop
      have hcmp' : (D : Int) < (dd : Int) := by omega
      have HZ5 := Lib.hid (z5.trans hzz)
      have HLN : Hid ((q.1.sp 0).length = n + 1) := by
        show _ = _
        rw [z4]
        simp [sp_length, ev_size, ks_length]
        omega
      clear hcmp hr HCLM z1 z2 z3 z4 z5 z6 hlop hy hzz hz he0 he1
      go_wp2_with fail
      refine (HDE.out w5).mono ?_
      rintro e' w6 ⟨rfl, hw6⟩
      subst hw6
      go_wp2_with fail
      refine HLOP.out.mono ?_
      rintro e' w7 ⟨rfl, hb7⟩
      have HB7 : Hid (Below T w0 w7) := HB5.out.trans (hb7.mono (Nat.le_of_lt hlt5))
      have HBU7 := Lib.hid (HBU.out w7 (HV5.out.below hb7 hlt5) (HRB.out.below hb7 HRB.out.lt))
      clear hb7 HLOP HDE HBU g0 g1 g2
      go_wp2_with fail
      refine HBU7.out.mono ?_
      rintro e' w8 ⟨rfl, hv8, hr8, hb8⟩
      have HB8 := Lib.hid (HB7.out.trans hb8)
      have HG8 : Hid (GT w8 T (goP s x)) := by
        show GT _ _ _
        rw [HGO.out]
        refine ⟨_, by show OTB w8 T _ M (s.built + q.2); rw [HZ5.out]; exact hv8, ?_⟩
        have := hr8.own (base := T + 1) hg hcm
        rw [HLN.out] at this
        exact this
      clear hv8 hr8 hb8
      go_wp2
      go_end0
      exact ⟨rfl, HG8.out, HB8.out⟩
  · rw [if_neg hcmp] at HGO
    have hcmp' : ¬ (D : Int) < (dd : Int) := by omega
    clear hcmp
    have HG8 : Hid (GT w5 T (goP s x)) := by
      show GT _ _ _
      rw [HGO.out]
      exact ⟨_, HV5.out, HO5.out⟩
    go_wp2_with fail
    refine (HDE.out w5).mono ?_
    rintro e w6 ⟨rfl, hw6⟩
    subst hw6
    go_wp2
    go_end0
    exact ⟨rfl, HG8.out, HB5.out⟩

end Go.Proofs.YtpnjnedfcdppaaaGreatDoor

/-
  package goat: leave.
-/
namespace Go.Proofs.YtpnjnedfcdppaaaGreatDoor
open Go.RowKit

theorem key_place {t : Tr} {x : Int} (hu : Up t.ks) (hx : x ∈ t.ks) : ∃ p, p < t.size ∧ ky (t.sp 0) p = x ∧ (∀ i, i < p → ky (t.sp 0) i < x) := by
  obtain ⟨p, hp, e⟩ := List.getElem_of_mem hx
  have hp2 : p < t.size := by rw [← ks_length]; exact hp
  have hk : ky (t.sp 0) p = x := by rw [ks_ky t 0 p hp2]; exact e
  exact ⟨p, hp2, hk, fun i hi => by rw [← hk]; exact up_place hu hp2 i hi⟩

set_option maxRecDepth 100000 in
set_option maxHeartbeats 8000000 in
theorem leave_any (T : Nat) (s : GS) (x : Int) (w : World) (h : GT w T s) (hu : Up s.t.ks) (hx : x ∈ s.t.ks) (hsz : s.t.size ≤ 200) (hm : s.most ≤ 200) (hbl : s.built ≤ 900000) :
    Calls Tryz.prog 65 #[.pointer (some ⟨T, 0, none⟩), I x] w (ORetG T (goC s x) w) := by
  obtain ⟨v, hv, ho⟩ := h
  obtain ⟨p, hp, hky, hlo⟩ := key_place hu hx
  obtain ⟨n, hn⟩ : ∃ n, s.t.size = n + 1 := ⟨s.t.size - 1, by omega⟩
  have hn200 : n ≤ 200 := by omega
  have hdsz : (s.t.del x).size = n := by have := (del_all hu hx).1; omega
  rcases OwnR.rb ho with ⟨_, e0⟩ | ⟨g, cap, rfl, hg, hcm, hrb⟩
  · have := sp_length s.t 0
    rw [e0] at this
    simp at this
    omega
  have hps := hrb.ps
  rw [sp_length, hn] at hps hv
  have hv' : OTB w T (.slice (some ⟨g, 0, none⟩) (n + 1) cap) s.most s.built := hv
  have HPL : Hid (Calls Tryz.prog 133 #[.slice (some ⟨g, 0, none⟩) ((n + 1 : Nat)) cap, I x] w.drew fun e w' => e = .returned (I p) ∧ w' = w.drew) := oplace_any _ (n + 1) cap p (s.t.sp 0) x w.drew hps.drew (by omega) (by omega) hlo (fun _ => by omega)
  have HWO : Hid (Calls Tryz.prog 139 #[.slice (some ⟨g, 0, none⟩) ((n + 1 : Nat)) cap, I p] w.drew (RetW g cap n ((s.t.del x).sp 0) w.drew)) := owo_any (T + 1) n g cap p s.t x w.drew hrb hn hcm (by omega) hu hx hp hky hg
  have HGO := Lib.hid (show goC s x = _ by unfold goC; rfl)
  rw [hdsz] at HGO
  have HDL : Hid (((s.t.del x).sp 0).length = n) := by show _ = _; rw [sp_length, hdsz]
  have HKS : Hid (kys ((s.t.del x).sp 0) = (s.t.del x).ks) := okys_sp _ _
  have HV := Lib.hid hv'
  obtain ⟨c0, c1, c2⟩ := hv'.cells
  have hlt := hv'.lt
  have hnc : n + 1 ≤ cap := hps.rd.1
  have HBU := Lib.hid (fun w' (hv' : OTB w' T (.slice (some ⟨g, 0, none⟩) n cap) s.most s.built) (hr' : RB w' g 82 cap ([] ++ (s.t.del x).sp 0 ++ [])) => obuild_any T g 0 n cap cap (.slice (some ⟨g, 0, none⟩) n cap) s.most s.built [] ((s.t.del x).sp 0) [] 0 w' hv' rfl HDL.out hr' (by omega) (by omega) (by omega) (Int.le_refl _) (by omega) (by omega))
  simp only [HKS.out, List.nil_append, List.append_nil, Nat.zero_mul] at HBU
  have HEV : Hid (((ev (s.t.del x).ks).sp 0).length = n) := by show _ = _; rw [sp_length, ev_size, ks_length, hdsz]
  generalize s.t.del x = t' at *
  generalize s.most = mo at *
  generalize s.built = bu at *
  clear ho hrb hps hv hv' hu hx hky hlo hdsz hn hsz
  go_enter Tryz.func65, Tryz.ntmps65
  go_wp2
  go_region_with
    (first
      | (go_at_call 133
         refine HPL.out.mono ?_
         rintro e w1 ⟨rfl, hw1⟩
         subst hw1)
      | (go_at_call 139
         refine HWO.out.mono ?_
         rintro e w2 ⟨rfl, hr2, hb2⟩
         have hB2 : Below g w w2 := (Below.refl _ _).drew.trans hb2
         have hv2 := HV.out.below hB2 (by omega)
         obtain ⟨d0, d1, d2⟩ := hv2.cells
         have dz := hv2.frozen 0
         have HV3 := Lib.hid (hv2.set0 (.slice (some ⟨g, 0, none⟩) n cap))
         have HR3 := Lib.hid (hr2.far (p := ⟨T, 0, none⟩) (by show T ≠ g; omega) (.slice (some ⟨g, 0, none⟩) n cap))
         have HB3 : Hid (Below T w (w2.setCell ⟨T, 0, none⟩ (.slice (some ⟨g, 0, none⟩) n cap))) := (hB2.mono (by omega)).setCell (B := T) (p := ⟨T, 0, none⟩) (Nat.le_refl _) _
         clear hr2 hb2 hB2 hv2))
  all_goals
    obtain ⟨w3, hw3⟩ : ∃ W, w2.setCell ⟨T, 0, none⟩ (.slice (some ⟨g, 0, none⟩) n cap) = W := ⟨_, rfl⟩
    rw [hw3] at HV3 HR3 HB3 ⊢
    clear hw3 d0 d1 d2 dz HPL HWO
    obtain ⟨e0, e1, e2⟩ := HV3.out.cells
    have hlt3 := HV3.out.lt
    by_cases hcmp : 3 * n < 2 * mo
    · rw [if_pos hcmp] at HGO
      have hcmp' : 3 * (n : Int) < 2 * (mo : Int) := by omega
      clear hcmp
      go_wp2
      go_quiet (fail)
      go_wp2_with fail
      refine (HBU.out (w3.drewN _) HV3.out HR3.out).mono ?_
      rintro e w4 ⟨rfl, hv4, hr4, hb4⟩
      obtain ⟨f0, f1, f2⟩ := hv4.cells
      have fz := hv4.frozen 1
      have hlt4 := hv4.lt
      have HB5 : Hid (Below T w (w4.setCell ⟨T, 1, none⟩ (I n))) := ((below_drewN HB3.out _).trans hb4).setCell (B := T) (p := ⟨T, 1, none⟩) (Nat.le_refl _) _
      have HG5 : Hid (GT (w4.setCell ⟨T, 1, none⟩ (I n)) T (goC s x)) := by
        show GT _ _ _
        rw [HGO.out]
        refine ⟨_, hv4.set1 n, ?_⟩
        have := (hr4.far (p := ⟨T, 1, none⟩) (by show T ≠ g; omega) (I n)).own (base := T + 1) hg hcm
        rw [HEV.out] at this
        exact this
      clear hv4 hr4 hb4 e0 e1 e2
      go_wp2
      go_end0
      exact ⟨rfl, HG5.out, HB5.out⟩
    · rw [if_neg hcmp] at HGO
      have hcmp' : decide (3 * (n : Int) < 2 * (mo : Int)) = false := by simpa using (show ¬ 3 * (n : Int) < 2 * (mo : Int) by omega)
      clear hcmp
      have HG5 : Hid (∀ q, GT (w3.drewN q) T (goC s x)) := fun q => by
        rw [HGO.out]
        refine ⟨_, (show OTB w3 _ _ _ _ from HV3.out), ?_⟩
        have := HR3.out.own (base := T + 1) hg hcm
        rw [HDL.out] at this
        exact this
      go_wp2
      go_quiet (fail)
      go_wp2
      go_end0
      exact ⟨rfl, HG5.out _, below_drewN HB3.out _⟩

end Go.Proofs.YtpnjnedfcdppaaaGreatDoor
