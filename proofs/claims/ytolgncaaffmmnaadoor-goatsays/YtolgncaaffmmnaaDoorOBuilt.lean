/-
  hedgref.builtAnew: the lowest part above a key that leans too much, built anew.
-/
import Derived.Test.YtolgncaaffmmnaaDoorORef
import Derived.Test.YtolgncaaffmmnaaDoorOIn
import Derived.BigRegion
namespace Go.Proofs.YtolgncaaffmmnaaDoor
open Go.RowKit

def baT (t : Tr) : Option (Tr × Nat) → Tr
  | none => t
  | some p => p.1
def baN : Option (Tr × Nat) → Nat
  | none => 0
  | some p => p.2
def baB : Option (Tr × Nat) → Bool
  | none => false
  | some _ => true
/-- a tree is told, how many were built, and whether any -/
def RetBA (t : Tr) (r : Option (Tr × Nat)) (w : World) (e : Ending) (w' : World) : Prop := ∃ q, e = .returned (.tuple #[.pointer q, I (baN r : Int), .bool (baB r)]) ∧ RT w' q (baT t r) ∧ Below w.heap.size w w'
theorem reb_bd {x : Int} : ∀ {t : Tr} {p : Tr × Nat}, t.reb x = some p → p.2 ≤ t.size ∧ p.1.size = t.size := by
  intro t p h
  refine ⟨?_, reb_size h⟩
  revert p
  induction t with
  | nil => intro p h; cases h
  | node a k b iha ihb =>
    intro p h
    rcases reb_cases h with ⟨_, q, hq, rfl⟩ | ⟨_, q, hq, rfl⟩ | hl
    · have := iha hq
      simp only [Tr.size]
      omega
    · have := ihb hq
      simp only [Tr.size]
      omega
    · rw [(lean_facts hl).2.1]
      simp only [Tr.size]
      omega

set_option maxRecDepth 100000 in
set_option maxHeartbeats 8000000 in
theorem builtAnew_any (x : Int) (t : Tr) : ∀ (q : Option Addr) (w : World), RT w q t → t.size ≤ 1000 → Calls Tryd.prog 38 #[.pointer q, I x] w (RetBA t (t.reb x) w) := by
  induction t with
  | nil =>
    intro q w h hz
    obtain rfl : q = none := h
    go_enter Tryd.func38, Tryd.ntmps38
    go_wp2
    go_ret3
    exact ⟨none, rfl, rfl, Below.refl _ _⟩
  | node a k b iha ihb =>
    intro q w h hz
    have H := Lib.hid h
    obtain ⟨g, qa, qb, rfl, hg, ha, hb⟩ := h
    obtain ⟨hlt, c0, c1, c2⟩ := tree_cells hg
    have HA := Lib.hid ha
    have HB := Lib.hid hb
    obtain ⟨na, hna⟩ : ∃ na, a.size = na := ⟨_, rfl⟩
    obtain ⟨nb, hnb⟩ : ∃ nb, b.size = nb := ⟨_, rfl⟩
    have HNA := Lib.hid hna
    have HNB := Lib.hid hnb
    simp only [Tr.size] at hz
    rw [hna, hnb] at hz
    have IHA := Lib.hid (iha qa w ha (by omega))
    have IHB := Lib.hid (ihb qb w hb (by omega))
    have HSZ : Hid ((Tr.node a k b).size = na + 1 + nb) := by show _ = _; simp only [Tr.size]; omega
    have HKL : Hid ((Tr.node a k b).ks.length = na + 1 + nb) := by show _ = _; rw [ks_length]; exact HSZ.out
    have HLT : Hid (leanT a k b = if 2 * (na + nb + 1) < 3 * max na nb then some (ev (Tr.node a k b).ks, na + nb + 1) else none) := by
      show _ = _
      unfold leanT
      rw [hna, hnb]
    clear hg ha hb iha ihb hna hnb
    rcases Int.lt_trichotomy x k with hx | hx | hx
    · have hne : (k == x) = false := by simp; omega
      have HRB : Hid ((Tr.node a k b).reb x = (match a.reb x with
        | some p => some (.node p.1 k b, p.2)
        | none => leanT a k b)) := by show _ = _; rw [Tr.reb, if_pos hx]; rfl
      cases hr : a.reb x with
      | some p =>
        rw [hr] at HRB IHA
        have HE : Hid ((Tr.node a k b).reb x = some (.node p.1 k b, p.2)) := HRB.out
        rw [HE.out]
        clear hr HRB HE HLT
        go_enter Tryd.func38, Tryd.ntmps38
        go_wp2_with fail
        refine IHA.out.mono ?_
        rintro e w2 ⟨q2, rfl, hr2, hb2⟩
        have hr2' : RT w2 q2 p.1 := hr2
        have d0 : w2.cell? ⟨g, 0, none⟩ = some (I k) := (hb2.cell (by exact hlt)).trans c0
        have d1 : w2.cell? ⟨g, 1, none⟩ = some (.pointer qa) := (hb2.cell (by exact hlt)).trans c1
        have d2 : w2.cell? ⟨g, 2, none⟩ = some (.pointer qb) := (hb2.cell (by exact hlt)).trans c2
        have HR2 := Lib.hid hr2'
        have HB2 := Lib.hid hb2
        have hgl : g < w2.heap.size := by have := hb2.size; omega
        clear hr2 hr2' hb2 IHA
        unfold baN baB
        go_wp2
        go_region
        all_goals go_wp2
        all_goals go_ret3
        all_goals exact ⟨_, rfl, (RT.box k HR2.out (HB.out.below HB2.out)).drew, (HB2.out.alloc HB2.out.size _).drew⟩
      | none =>
        rw [hr] at HRB IHA
        have HE : Hid ((Tr.node a k b).reb x = leanT a k b) := HRB.out
        rw [HE.out]
        clear hr HRB HE
        go_enter Tryd.func38, Tryd.ntmps38
        go_wp2_with fail
        refine IHA.out.mono ?_
        rintro e w2 ⟨q2, rfl, _, hb2⟩
        have d0 : w2.cell? ⟨g, 0, none⟩ = some (I k) := (hb2.cell (by exact hlt)).trans c0
        have d1 : w2.cell? ⟨g, 1, none⟩ = some (.pointer qa) := (hb2.cell (by exact hlt)).trans c1
        have d2 : w2.cell? ⟨g, 2, none⟩ = some (.pointer qb) := (hb2.cell (by exact hlt)).trans c2
        have hgl : g < w2.heap.size := by have := hb2.size; omega
        have HA2 := Lib.hid (HA.out.below hb2)
        have HB2' := Lib.hid (HB.out.below hb2)
        have HH2 := Lib.hid (H.out.below hb2)
        have HBW := Lib.hid hb2
        clear hb2 IHA
        unfold baN baB
        go_wp2
        go_region_held3 (fun W => W.cell? ⟨g, 0, none⟩ = some (I k) ∧ W.cell? ⟨g, 1, none⟩ = some (.pointer qa) ∧ W.cell? ⟨g, 2, none⟩ = some (.pointer qb))
          (first
            | exact ⟨e0, e1, e2⟩
            | exact ⟨f0, f1, f2⟩
            | exact ⟨d0, d1, d2⟩)
          (first
            | (go_at_call 36
               with_reducible refine (inOrder_any a qa na _ HA2.out.drew HNA.out (by omega)).mono ?_
               rintro e w3 ⟨A3, c3, rfl, _, hb3⟩
               have hB3 : Below w2.heap.size w2 w3 := (Below.refl _ _).drew.trans hb3
               have f0 : w3.cell? ⟨g, 0, none⟩ = some (I k) := (hB3.cell (by exact hgl)).trans d0
               have f1 : w3.cell? ⟨g, 1, none⟩ = some (.pointer qa) := (hB3.cell (by exact hgl)).trans d1
               have f2 : w3.cell? ⟨g, 2, none⟩ = some (.pointer qb) := (hB3.cell (by exact hgl)).trans d2
               have HB3 := Lib.hid hB3
               have HRB3 := Lib.hid (HB2'.out.below hB3)
               clear hb3 hB3)
            | (go_at_call 36
               with_reducible refine (inOrder_any b qb nb _ HRB3.out HNB.out (by omega)).mono ?_
               rintro e w4 ⟨A4, c4, rfl, _, hb4⟩
               have hB4 : Below w2.heap.size w2 w4 := HB3.out.trans (hb4.mono HB3.out.size)
               have e0 : w4.cell? ⟨g, 0, none⟩ = some (I k) := (hB4.cell (by exact hgl)).trans d0
               have e1 : w4.cell? ⟨g, 1, none⟩ = some (.pointer qa) := (hB4.cell (by exact hgl)).trans d1
               have e2 : w4.cell? ⟨g, 2, none⟩ = some (.pointer qb) := (hB4.cell (by exact hgl)).trans d2
               have HB4 := Lib.hid hB4
               clear hb4 hB4)
            | fail)
        all_goals
          have HH4 := Lib.hid (HH2.out.below HB4.out)
          have HBX := Lib.hid (below_next HBW.out HB4.out)
          obtain ⟨s, hs⟩ : ∃ s : Int, (if (na : Int) < (nb : Int) then (nb : Int) else (na : Int)) = s := ⟨_, rfl⟩
          have hs' : (if na < nb then (nb : Int) else (na : Int)) = s := by rw [← hs]; split <;> split <;> omega
          by_cases hle : 2 * (na + nb + 1) < 3 * max na nb
          · have HL2 : Hid (leanT a k b = some (ev (Tr.node a k b).ks, na + nb + 1)) := by show _ = _; rw [HLT.out, if_pos hle]
            have hs1 : 2 * ((na : Int) + (nb : Int) + 1) < 3 * s ∧ 0 ≤ s ∧ s ≤ 1000 := by rw [← hs]; split <;> omega
            obtain ⟨s1, s2, s3⟩ := hs1
            have hcast : ((na + nb + 1 : Nat) : Int) = (na : Int) + (nb : Int) + 1 := by omega
            have HIO := Lib.hid (inOrder_any (.node a k b) (some ⟨g, 0, none⟩) (na + 1 + nb) w4 HH4.out HSZ.out (by omega))
            clear hle HLT c0 c1 c2 d0 d1 d2 f0 f1 f2 e0 e1 e2
            have HCAST := Lib.hid hcast
            clear hcast
            go_wp2_with fail
            refine HIO.out.mono ?_
            rintro e w5 ⟨A5, c5, rfl, hi5, hb5⟩
            have HET := Lib.hid (EvenTree_any _ A5 (na + 1 + nb) c5 _ w5 (Nat.le_refl _) hi5 (by omega))
            have HB5 := Lib.hid (below_next HBX.out hb5)
            clear hi5 hb5 HIO
            go_wp2_with fail
            refine HET.out.mono ?_
            rintro e w6 ⟨q6, rfl, hr6, hb6⟩
            have HR6 := Lib.hid hr6
            have HB6 := Lib.hid (below_next HB5.out hb6)
            clear hr6 hb6 HET
            go_wp2
            go_ret3
            refine ⟨q6, ?_, by rw [HL2.out]; exact HR6.out, HB6.out⟩
            rw [HL2.out]
            show _ = Ending.returned (.tuple #[.pointer q6, I ((na + nb + 1 : Nat) : Int), .bool true])
            rw [HCAST.out]
            rfl
          · have HL2 : Hid (leanT a k b = none) := by show _ = _; rw [HLT.out, if_neg hle]
            have hs1 : ¬ 2 * ((na : Int) + (nb : Int) + 1) < 3 * s ∧ 0 ≤ s ∧ s ≤ 1000 := by rw [← hs]; split <;> omega
            obtain ⟨s1, s2, s3⟩ := hs1
            clear hle HLT c0 c1 c2 d0 d1 d2 f0 f1 f2 e0 e1 e2
            go_wp2
            go_ret3
            exact ⟨_, by rw [HL2.out]; rfl, by rw [HL2.out]; exact HH4.out, HBX.out⟩
    · have hne : (k == x) = true := by simp [hx]
      have HE : Hid ((Tr.node a k b).reb x = none) := by show _ = _; rw [Tr.reb, if_neg (by omega), if_neg (by omega)]
      rw [HE.out]
      clear HLT hx
      go_enter Tryd.func38, Tryd.ntmps38
      go_wp2
      go_ret3
      exact ⟨_, rfl, H.out, Below.refl _ _⟩
    · have hne : (k == x) = false := by simp; omega
      have hnl : ¬ x < k := by omega
      have HRB : Hid ((Tr.node a k b).reb x = (match b.reb x with
        | some p => some (.node a k p.1, p.2)
        | none => leanT a k b)) := by show _ = _; rw [Tr.reb, if_neg (by omega), if_pos hx]; rfl
      cases hr : b.reb x with
      | some p =>
        rw [hr] at HRB IHB
        have HE : Hid ((Tr.node a k b).reb x = some (.node a k p.1, p.2)) := HRB.out
        rw [HE.out]
        clear hr HRB HE HLT
        go_enter Tryd.func38, Tryd.ntmps38
        go_wp2_with fail
        refine IHB.out.mono ?_
        rintro e w2 ⟨q2, rfl, hr2, hb2⟩
        have hr2' : RT w2 q2 p.1 := hr2
        have d0 : w2.cell? ⟨g, 0, none⟩ = some (I k) := (hb2.cell (by exact hlt)).trans c0
        have d1 : w2.cell? ⟨g, 1, none⟩ = some (.pointer qa) := (hb2.cell (by exact hlt)).trans c1
        have d2 : w2.cell? ⟨g, 2, none⟩ = some (.pointer qb) := (hb2.cell (by exact hlt)).trans c2
        have HR2 := Lib.hid hr2'
        have HB2 := Lib.hid hb2
        have hgl : g < w2.heap.size := by have := hb2.size; omega
        clear hr2 hr2' hb2 IHB
        unfold baN baB
        go_wp2
        go_region
        all_goals go_wp2
        all_goals go_ret3
        all_goals exact ⟨_, rfl, (RT.box k (HA.out.below HB2.out) HR2.out).drew, (HB2.out.alloc HB2.out.size _).drew⟩
      | none =>
        rw [hr] at HRB IHB
        have HE : Hid ((Tr.node a k b).reb x = leanT a k b) := HRB.out
        rw [HE.out]
        clear hr HRB HE
        go_enter Tryd.func38, Tryd.ntmps38
        go_wp2_with fail
        refine IHB.out.mono ?_
        rintro e w2 ⟨q2, rfl, _, hb2⟩
        have d0 : w2.cell? ⟨g, 0, none⟩ = some (I k) := (hb2.cell (by exact hlt)).trans c0
        have d1 : w2.cell? ⟨g, 1, none⟩ = some (.pointer qa) := (hb2.cell (by exact hlt)).trans c1
        have d2 : w2.cell? ⟨g, 2, none⟩ = some (.pointer qb) := (hb2.cell (by exact hlt)).trans c2
        have hgl : g < w2.heap.size := by have := hb2.size; omega
        have HA2 := Lib.hid (HA.out.below hb2)
        have HB2' := Lib.hid (HB.out.below hb2)
        have HH2 := Lib.hid (H.out.below hb2)
        have HBW := Lib.hid hb2
        clear hb2 IHB
        unfold baN baB
        go_wp2
        go_region_held3 (fun W => W.cell? ⟨g, 0, none⟩ = some (I k) ∧ W.cell? ⟨g, 1, none⟩ = some (.pointer qa) ∧ W.cell? ⟨g, 2, none⟩ = some (.pointer qb))
          (first
            | exact ⟨e0, e1, e2⟩
            | exact ⟨f0, f1, f2⟩
            | exact ⟨d0, d1, d2⟩)
          (first
            | (go_at_call 36
               with_reducible refine (inOrder_any a qa na _ HA2.out.drew HNA.out (by omega)).mono ?_
               rintro e w3 ⟨A3, c3, rfl, _, hb3⟩
               have hB3 : Below w2.heap.size w2 w3 := (Below.refl _ _).drew.trans hb3
               have f0 : w3.cell? ⟨g, 0, none⟩ = some (I k) := (hB3.cell (by exact hgl)).trans d0
               have f1 : w3.cell? ⟨g, 1, none⟩ = some (.pointer qa) := (hB3.cell (by exact hgl)).trans d1
               have f2 : w3.cell? ⟨g, 2, none⟩ = some (.pointer qb) := (hB3.cell (by exact hgl)).trans d2
               have HB3 := Lib.hid hB3
               have HRB3 := Lib.hid (HB2'.out.below hB3)
               clear hb3 hB3)
            | (go_at_call 36
               with_reducible refine (inOrder_any b qb nb _ HRB3.out HNB.out (by omega)).mono ?_
               rintro e w4 ⟨A4, c4, rfl, _, hb4⟩
               have hB4 : Below w2.heap.size w2 w4 := HB3.out.trans (hb4.mono HB3.out.size)
               have e0 : w4.cell? ⟨g, 0, none⟩ = some (I k) := (hB4.cell (by exact hgl)).trans d0
               have e1 : w4.cell? ⟨g, 1, none⟩ = some (.pointer qa) := (hB4.cell (by exact hgl)).trans d1
               have e2 : w4.cell? ⟨g, 2, none⟩ = some (.pointer qb) := (hB4.cell (by exact hgl)).trans d2
               have HB4 := Lib.hid hB4
               clear hb4 hB4)
            | fail)
        all_goals
          have HH4 := Lib.hid (HH2.out.below HB4.out)
          have HBX := Lib.hid (below_next HBW.out HB4.out)
          obtain ⟨s, hs⟩ : ∃ s : Int, (if (na : Int) < (nb : Int) then (nb : Int) else (na : Int)) = s := ⟨_, rfl⟩
          have hs' : (if na < nb then (nb : Int) else (na : Int)) = s := by rw [← hs]; split <;> split <;> omega
          by_cases hle : 2 * (na + nb + 1) < 3 * max na nb
          · have HL2 : Hid (leanT a k b = some (ev (Tr.node a k b).ks, na + nb + 1)) := by show _ = _; rw [HLT.out, if_pos hle]
            have hs1 : 2 * ((na : Int) + (nb : Int) + 1) < 3 * s ∧ 0 ≤ s ∧ s ≤ 1000 := by rw [← hs]; split <;> omega
            obtain ⟨s1, s2, s3⟩ := hs1
            have hcast : ((na + nb + 1 : Nat) : Int) = (na : Int) + (nb : Int) + 1 := by omega
            have HIO := Lib.hid (inOrder_any (.node a k b) (some ⟨g, 0, none⟩) (na + 1 + nb) w4 HH4.out HSZ.out (by omega))
            clear hle HLT c0 c1 c2 d0 d1 d2 f0 f1 f2 e0 e1 e2
            have HCAST := Lib.hid hcast
            clear hcast
            go_wp2_with fail
            refine HIO.out.mono ?_
            rintro e w5 ⟨A5, c5, rfl, hi5, hb5⟩
            have HET := Lib.hid (EvenTree_any _ A5 (na + 1 + nb) c5 _ w5 (Nat.le_refl _) hi5 (by omega))
            have HB5 := Lib.hid (below_next HBX.out hb5)
            clear hi5 hb5 HIO
            go_wp2_with fail
            refine HET.out.mono ?_
            rintro e w6 ⟨q6, rfl, hr6, hb6⟩
            have HR6 := Lib.hid hr6
            have HB6 := Lib.hid (below_next HB5.out hb6)
            clear hr6 hb6 HET
            go_wp2
            go_ret3
            refine ⟨q6, ?_, by rw [HL2.out]; exact HR6.out, HB6.out⟩
            rw [HL2.out]
            show _ = Ending.returned (.tuple #[.pointer q6, I ((na + nb + 1 : Nat) : Int), .bool true])
            rw [HCAST.out]
            rfl
          · have HL2 : Hid (leanT a k b = none) := by show _ = _; rw [HLT.out, if_neg hle]
            have hs1 : ¬ 2 * ((na : Int) + (nb : Int) + 1) < 3 * s ∧ 0 ≤ s ∧ s ≤ 1000 := by rw [← hs]; split <;> omega
            obtain ⟨s1, s2, s3⟩ := hs1
            clear hle HLT c0 c1 c2 d0 d1 d2 f0 f1 f2 e0 e1 e2
            go_wp2
            go_ret3
            exact ⟨_, by rw [HL2.out]; rfl, by rw [HL2.out]; exact HH4.out, HBX.out⟩

end Go.Proofs.YtolgncaaffmmnaaDoor
