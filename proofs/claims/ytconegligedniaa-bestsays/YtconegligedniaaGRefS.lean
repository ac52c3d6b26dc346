/-
  hedgref.Spots: a tree's nodes, told in order.
-/
import Derived.Test.YtconegligedniaaGRefT
import Derived.Test.YtconegligedniaaSpotB
import Derived.Test.YtconegligedniaaAppP
namespace Go.Proofs.Ytconegligedniaa
open Go.RowKit

theorem src_keep {w w' : World} {sp : Option Addr} {m : Nat} {xs : PL} (h : Src w sp m xs) (hb : Below w.heap.size w w') : Src w' sp m xs := by
  refine ⟨h.1, fun h0 => ?_⟩
  obtain ⟨ad, e, hc⟩ := h.2 h0
  exact ⟨ad, e, fun j u hu => (hb.cell (cell_lt1 (hc j u hu))).trans (hc j u hu)⟩
abbrev spO (k d : Int) : Obj := .cells #[I k, I d] 42
theorem ownR_mono {w : World} {B B' t : Nat} {v : Value} {L : PL} (h : OwnR w B t v L) (hB : B' ≤ B) : OwnR w B' t v L := own_mono1 h hB
theorem ownR_below {w w' : World} {B t : Nat} {v : Value} {L : PL} (h : OwnR w B t v L) (hb : Below w.heap.size w w') : OwnR w' B t v L := own_below h hb
theorem ownR_row {w : World} {B t : Nat} {v : Value} {L : PL} (h : OwnR w B t v L) : w.ownsRow B t 2 v L.length (flat L) := h
/-- an append onto the row u leaves the row v, that is in newer memory, as it is -/
theorem ownR_beside {w w' : World} {B B' t : Nat} {u v : Value} {L L' : PL} (hu : OwnR w B t u L) (hv : OwnR w B' t v L') (hlt : ∀ g, u.ownBlock = some g → g < B') (hg : w.grownBy w' u.ownBlock) : OwnR w' B' t v L' := by
  refine World.ownsRow.kept hv hg ?_
  cases hb : v.ownBlock with
  | none => exact .inl rfl
  | some g =>
    refine .inr fun e => ?_
    have h1 := OwnR.ge hv g hb
    have h2 := hlt g e.symm
    omega
theorem ownR_lt {w : World} {B t : Nat} {v : Value} {L : PL} (h : OwnR w B t v L) : ∀ g, v.ownBlock = some g → g < w.heap.size := by
  intro g hg
  rcases h.2 with ⟨rfl, _⟩ | ⟨g', cap, cur, rfl, _, hh, _⟩
  · simp [Value.ownBlock] at hg
  · simp [Value.ownBlock] at hg
    subst hg
    exact (Array.getElem?_eq_some_iff.1 hh).1
/-- the row, told as a slice -/
theorem ownR_told {w : World} {B t n : Nat} {v : Value} {L : PL} (h : OwnR w B t v L) (hl : L.length = n) : ∃ A c, v = .slice A n c ∧ OwnR w B t (.slice A n c) L ∧ PS w A n c L := by
  obtain ⟨A, c, e, hp, _⟩ := OwnR.ps h
  subst hl
  subst e
  exact ⟨A, c, rfl, h, hp⟩

set_option maxRecDepth 100000 in
set_option maxHeartbeats 8000000 in
theorem rspots_any (t : Tr) : ∀ (q : Option Addr) (d : Int) (w : World), RT w q t → 0 ≤ d → d + t.size ≤ 1000 → t.size ≤ 1000 → Calls Try.prog 14 #[.pointer q, I d] w (RetSO (t.sp d) w.heap.size w) := by
  induction t with
  | nil =>
    intro q d w h hd hd2 hz
    obtain rfl : q = none := h
    go_enter Try.func14, Try.ntmps14
    go_wp2
    go_ret
    exact ⟨_, rfl, World.ownsRow_nil _ _ _ _, Below.refl _ _⟩
  | node a k b iha ihb =>
    intro q d w h hd hd2 hz
    simp only [Tr.size] at hd2 hz
    obtain ⟨g, qa, qb, rfl, hg, ha, hb⟩ := h
    obtain ⟨hlt, c0, c1, c2⟩ := tree_cells hg
    have HA := Lib.hid ha
    have HB := Lib.hid hb
    have e1 : IntKind.i64.wrap (d + 1) = d + 1 := IntWalk.i64_in _ (by omega)
    have IHA : Hid (∀ W : World, RT W qa a → Calls Try.prog 14 #[.pointer qa, .int .i64 (IntKind.i64.wrap (d + 1))] W (RetSO (a.sp (d + 1)) W.heap.size W)) := fun W hW => by
      rw [e1]
      exact iha qa (d + 1) W hW (by omega) (by omega) (by omega)
    have IHB : Hid (∀ W : World, RT W qb b → Calls Try.prog 14 #[.pointer qb, .int .i64 (IntKind.i64.wrap (d + 1))] W (RetSO (b.sp (d + 1)) W.heap.size W)) := fun W hW => by
      rw [e1]
      exact ihb qb (d + 1) W hW (by omega) (by omega) (by omega)
    clear e1
    have hsp : (Tr.node a k b).sp d = a.sp (d + 1) ++ [(k, d)] ++ b.sp (d + 1) := by simp [Tr.sp]
    have la := sp_length a (d + 1)
    have lb := sp_length b (d + 1)
    obtain ⟨nb, hnb⟩ : ∃ nb, b.size = nb := ⟨_, rfl⟩
    rw [hnb] at lb hd2 hz
    have hla : (a.sp (d + 1)).length ≤ 1000 := by omega
    have hnb1 : nb ≤ 1000 := by omega
    have HLB := Lib.hid lb
    rw [hsp]
    generalize a.sp (d + 1) = La at *
    generalize b.sp (d + 1) = Lb at *
    clear hg ha hb iha ihb hsp la lb hnb
    go_enter Try.func14, Try.ntmps14
    go_wp2
    go_region_held3 (fun W => W.cell? ⟨g, 0, none⟩ = some (I k) ∧ W.cell? ⟨g, 1, none⟩ = some (.pointer qa) ∧ W.cell? ⟨g, 2, none⟩ = some (.pointer qb))
      (first
        | exact ⟨d0, d1, d2⟩
        | exact ⟨ck d0 _, ck d1 _, ck d2 _⟩
        | exact ⟨c0, c1, c2⟩
        | exact ⟨ck c0 _, ck c1 _, ck c2 _⟩)
      (first
        | (go_at_call 14
           with_reducible refine (IHA.out _ (by first | exact HA.out.drew | exact (HA.out.alloc _).drew)).mono ?_
           rintro e w2 ⟨v2, rfl, ho2, hb2⟩
           have hB2 : Below w.heap.size w w2 := by
             first
               | exact (Below.refl w.heap.size w).drew.trans hb2
               | exact ((Below.refl w.heap.size w).alloc (Nat.le_refl _) _).drew.trans (hb2.mono (by simp))
           have d0 : w2.cell? ⟨g, 0, none⟩ = some (I k) := (hB2.cell (by exact hlt)).trans c0
           have d1 : w2.cell? ⟨g, 1, none⟩ = some (.pointer qa) := (hB2.cell (by exact hlt)).trans c1
           have d2 : w2.cell? ⟨g, 2, none⟩ = some (.pointer qb) := (hB2.cell (by exact hlt)).trans c2
           have HO2 : Hid (OwnR w2 w.heap.size 42 v2 La) := ownR_mono ho2 (by simp)
           try (have HS2 : Hid (Src w2 (some ⟨w.heap.size, 0, none⟩) 1 [(k, d)]) := src_keep (w := (w.alloc (spO k d)).drew) (show Src (w.alloc (spO k d)).drew _ _ _ from gsrc_one w k d) hb2)
           have HRB2 : Hid (RT w2 qb b) := HB.out.below hB2
           have HB2 := Lib.hid hB2
           clear ho2 hb2 hB2)
        | (go_at_call 14
           with_reducible refine (IHB.out _ (by first | exact HRB4.out | exact HRB2.out | exact HRB2.out.alloc _)).mono ?_
           rintro e w3 ⟨v3, rfl, ho3, hb3⟩
           have hB3 : Below w.heap.size w w3 := by
             first
               | exact HB4.out.trans (hb3.mono HB4.out.size)
               | exact HB2.out.trans (hb3.mono HB2.out.size)
               | exact (HB2.out.alloc HB2.out.size _).trans (hb3.mono (by have := HB2.out.size; simp; omega))
           have d0 : w3.cell? ⟨g, 0, none⟩ = some (I k) := (hB3.cell (by exact hlt)).trans c0
           have d1 : w3.cell? ⟨g, 1, none⟩ = some (.pointer qa) := (hB3.cell (by exact hlt)).trans c1
           have d2 : w3.cell? ⟨g, 2, none⟩ = some (.pointer qb) := (hB3.cell (by exact hlt)).trans c2
           obtain ⟨A3, c3, rfl, ho3', hps3⟩ := ownR_told ho3 HLB.out
           have HPS3 := Lib.hid hps3
           try (have HO43 : Hid (OwnR w3 w.heap.size 42 v4 (La ++ [(k, d)])) := ownR_below HO4.out hb3)
           try (have HO23 : Hid (OwnR w3 w.heap.size 42 v2 La) := (by first | exact ownR_below HO2.out hb3 | exact ownR_below (ownR_below HO2.out ((Below.refl _ _).alloc (Nat.le_refl _) _)) hb3))
           try (have HO3 : Hid (∃ B', OwnR w3 B' 42 (.slice A3 nb c3) Lb ∧ ∀ g, v2.ownBlock = some g → g < B') := (by first | exact ⟨_, ho3', ownR_lt HO2.out⟩ | exact ⟨_, ho3', ownR_lt (ownR_below HO2.out ((Below.refl _ _).alloc (Nat.le_refl _) _))⟩))
           try (have HS3a : Hid (Src w3 (some ⟨w.heap.size, 0, none⟩) 1 [(k, d)]) := src_keep HS2.out hb3)
           try (have HS3b : Hid (Src w3 (some ⟨w2.heap.size, 0, none⟩) 1 [(k, d)]) := src_keep (gsrc_one w2 k d) hb3)
           have HB3 := Lib.hid hB3
           clear ho3 hb3 hB3 ho3' hps3)
        | (refine step_appP rfl (.tmp 13) (.tmp 20) 22 rfl 42 Try.underlying22 gspot_info w.heap.size v2 La [(k, d)] (some ⟨w.heap.size, 0, none⟩) 1 1 rfl rfl (ownR_row HO2.out) HS2.out (by omega) HB2.out.size ?_
           intro v4 w4 hown4 hgrow4
           have hB4 : Below w.heap.size w w4 := HB2.out.grown hgrow4 HB2.out.size (OwnR.ge HO2.out)
           have d0 : w4.cell? ⟨g, 0, none⟩ = some (I k) := (hB4.cell (by exact hlt)).trans c0
           have d1 : w4.cell? ⟨g, 1, none⟩ = some (.pointer qa) := (hB4.cell (by exact hlt)).trans c1
           have d2 : w4.cell? ⟨g, 2, none⟩ = some (.pointer qb) := (hB4.cell (by exact hlt)).trans c2
           have HO4 : Hid (OwnR w4 w.heap.size 42 v4 (La ++ [(k, d)])) := hown4
           have HRB4 : Hid (RT w4 qb b) := HB.out.below hB4
           have HB4 := Lib.hid hB4
           clear hown4 hgrow4 hB4)
        | (refine step_appP rfl (.tmp 13) (.tmp 20) 22 rfl 42 Try.underlying22 gspot_info w.heap.size v2 La [(k, d)] (some ⟨w2.heap.size, 0, none⟩) 1 1 rfl rfl (ownR_row (ownR_below HO2.out ((Below.refl _ _).alloc (Nat.le_refl _) _))) (gsrc_one w2 k d) (by omega) (by have := HB2.out.size; simp; omega) ?_
           intro v4 w4 hown4 hgrow4
           have hB4 : Below w.heap.size w w4 := (HB2.out.alloc HB2.out.size _).grown hgrow4 (by have := HB2.out.size; simp; omega) (OwnR.ge HO2.out)
           have d0 : w4.cell? ⟨g, 0, none⟩ = some (I k) := (hB4.cell (by exact hlt)).trans c0
           have d1 : w4.cell? ⟨g, 1, none⟩ = some (.pointer qa) := (hB4.cell (by exact hlt)).trans c1
           have d2 : w4.cell? ⟨g, 2, none⟩ = some (.pointer qb) := (hB4.cell (by exact hlt)).trans c2
           have HO4 : Hid (OwnR w4 w.heap.size 42 v4 (La ++ [(k, d)])) := hown4
           have HRB4 : Hid (RT w4 qb b) := HB.out.below hB4
           have HB4 := Lib.hid hB4
           clear hown4 hgrow4 hB4)
        | (first
             | refine step_appP rfl (.tmp 13) (.tmp 20) 22 rfl 42 Try.underlying22 gspot_info w.heap.size v2 La [(k, d)] (some ⟨w.heap.size, 0, none⟩) 1 1 rfl rfl (ownR_row HO23.out) HS3a.out (by omega) HB3.out.size ?_
             | refine step_appP rfl (.tmp 13) (.tmp 20) 22 rfl 42 Try.underlying22 gspot_info w.heap.size v2 La [(k, d)] (some ⟨w2.heap.size, 0, none⟩) 1 1 rfl rfl (ownR_row HO23.out) HS3b.out (by omega) HB3.out.size ?_
           intro v4 w4 hown4 hgrow4
           have hB4 : Below w.heap.size w w4 := HB3.out.grown hgrow4 HB3.out.size (OwnR.ge HO23.out)
           have d0 : w4.cell? ⟨g, 0, none⟩ = some (I k) := (hB4.cell (by exact hlt)).trans c0
           have d1 : w4.cell? ⟨g, 1, none⟩ = some (.pointer qa) := (hB4.cell (by exact hlt)).trans c1
           have d2 : w4.cell? ⟨g, 2, none⟩ = some (.pointer qb) := (hB4.cell (by exact hlt)).trans c2
           have HO4 : Hid (OwnR w4 w.heap.size 42 v4 (La ++ [(k, d)])) := hown4
           have HPS4 : Hid (PS w4 A3 nb c3 Lb) := by
             obtain ⟨B', h1, h2⟩ := HO3.out
             obtain ⟨A', c', e', _, hp⟩ := ownR_told (ownR_beside HO23.out h1 h2 hgrow4) HLB.out
             cases e'
             exact hp
           have HB4 := Lib.hid hB4
           clear hown4 hgrow4 hB4)
        | (refine step_appP rfl (.tmp 13) (.tmp 20) 22 rfl 42 Try.underlying22 gspot_info w.heap.size v2 La [(k, d)] (some ⟨w3.heap.size, 0, none⟩) 1 1 rfl rfl (ownR_row (ownR_below HO23.out ((Below.refl _ _).alloc (Nat.le_refl _) _))) (gsrc_one w3 k d) (by omega) (by have := HB3.out.size; simp; omega) ?_
           intro v4 w4 hown4 hgrow4
           have hB4 : Below w.heap.size w w4 := (HB3.out.alloc HB3.out.size _).grown hgrow4 (by have := HB3.out.size; simp; omega) (OwnR.ge HO23.out)
           have d0 : w4.cell? ⟨g, 0, none⟩ = some (I k) := (hB4.cell (by exact hlt)).trans c0
           have d1 : w4.cell? ⟨g, 1, none⟩ = some (.pointer qa) := (hB4.cell (by exact hlt)).trans c1
           have d2 : w4.cell? ⟨g, 2, none⟩ = some (.pointer qb) := (hB4.cell (by exact hlt)).trans c2
           have HO4 : Hid (OwnR w4 w.heap.size 42 v4 (La ++ [(k, d)])) := hown4
           have HPS4 : Hid (PS w4 A3 nb c3 Lb) := by
             obtain ⟨B', h1, h2⟩ := HO3.out
             obtain ⟨A', c', e', _, hp⟩ := ownR_told (ownR_beside (ownR_below HO23.out ((Below.refl _ _).alloc (Nat.le_refl _) _)) (ownR_below h1 ((Below.refl _ _).alloc (Nat.le_refl _) _)) h2 hgrow4) HLB.out
             cases e'
             exact hp
           have HB4 := Lib.hid hB4
           clear hown4 hgrow4 hB4)
        | (refine step_appP rfl (.tmp 21) (.tmp 28) 22 rfl 42 Try.underlying22 gspot_info w.heap.size v4 (La ++ [(k, d)]) Lb A3 nb c3 rfl rfl (ownR_row HO43.out) (PS.src HPS3.out) (by simp; omega) HB3.out.size ?_
           intro v6 w6 hown6 hgrow6
           have hB6 : Below w.heap.size w w6 := HB3.out.grown hgrow6 HB3.out.size (OwnR.ge HO43.out)
           have d0 : w6.cell? ⟨g, 0, none⟩ = some (I k) := (hB6.cell (by exact hlt)).trans c0
           have d1 : w6.cell? ⟨g, 1, none⟩ = some (.pointer qa) := (hB6.cell (by exact hlt)).trans c1
           have d2 : w6.cell? ⟨g, 2, none⟩ = some (.pointer qb) := (hB6.cell (by exact hlt)).trans c2
           have HO6 : Hid (OwnR w6 w.heap.size 42 v6 (La ++ [(k, d)] ++ Lb)) := hown6
           have HB6 := Lib.hid hB6
           clear hown6 hgrow6 hB6)
        | (refine step_appP rfl (.tmp 21) (.tmp 28) 22 rfl 42 Try.underlying22 gspot_info w.heap.size v4 (La ++ [(k, d)]) Lb A3 nb c3 rfl rfl (ownR_row HO4.out) (PS.src HPS4.out) (by simp; omega) HB4.out.size ?_
           intro v6 w6 hown6 hgrow6
           have hB6 : Below w.heap.size w w6 := HB4.out.grown hgrow6 HB4.out.size (OwnR.ge HO4.out)
           have d0 : w6.cell? ⟨g, 0, none⟩ = some (I k) := (hB6.cell (by exact hlt)).trans c0
           have d1 : w6.cell? ⟨g, 1, none⟩ = some (.pointer qa) := (hB6.cell (by exact hlt)).trans c1
           have d2 : w6.cell? ⟨g, 2, none⟩ = some (.pointer qb) := (hB6.cell (by exact hlt)).trans c2
           have HO6 : Hid (OwnR w6 w.heap.size 42 v6 (La ++ [(k, d)] ++ Lb)) := hown6
           have HB6 := Lib.hid hB6
           clear hown6 hgrow6 hB6)
        | fail)
    all_goals go_wp2
    all_goals go_ret
    all_goals exact ⟨v6, rfl, HO6.out, HB6.out⟩

end Go.Proofs.Ytconegligedniaa
