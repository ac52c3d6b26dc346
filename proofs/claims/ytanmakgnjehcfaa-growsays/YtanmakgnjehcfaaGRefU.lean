/-
  hedgref.Least, Unleafed: a tree without a key.
-/
import Derived.Test.YtanmakgnjehcfaaGRefT
namespace Go.Proofs.Ytanmakgnjehcfaa
open Go.RowKit

set_option maxHeartbeats 1000000 in
theorem Least_any (t : Tr) (q : Option Addr) (w : World) (h : RT w q t) (hne : t ≠ .nil) : Calls Try.prog 46 #[.pointer q] w fun e w' => e = .returned (I t.least) ∧ w = w' := by
  have H := Lib.hid h
  have HN := Lib.hid hne
  clear h hne
  go_enter Try.func46, Try.ntmps46
  go_wp2
  go_loopg [0] (t.size) (fun n p wr => wr = w ∧ ∃ (q1 : Option Addr) (s : Tr), p = .pointer q1 ∧ RT w q1 s ∧ s ≠ .nil ∧ s.least = t.least ∧ s.size ≤ n)
  case atStart => exact ⟨rfl, q, t, rfl, H.out, HN.out, rfl, Nat.le_refl _⟩
  case round =>
    obtain ⟨rfl, q1, s, rfl, hR, hs, hl, hsz⟩ := hrel
    cases s with
    | nil => exact absurd rfl hs
    | node a k b =>
      obtain ⟨g, qa, qb, rfl, hg, ha, hb⟩ := hR
      obtain ⟨hlt, c0, c1, c2⟩ := tree_cells hg
      have HA := Lib.hid ha
      have HL := Lib.hid hl
      clear hg ha hb hs hl
      cases a with
      | nil =>
        obtain rfl : qa = none := HA.out
        have HK : Hid (t.least = k) := by show _ = _; rw [← HL.out]; simp [Tr.least, Tr.isNil]
        go_wp2
        go_ret
        exact ⟨by rw [HK.out]; rfl, rfl⟩
      | node a' k' b' =>
        obtain ⟨g', qa', qb', rfl, _⟩ := HA.out
        go_wp2
        go_roundg ((Tr.node a' k' b').size)
        case measure => simp only [Tr.size] at hsz ⊢; omega
        case rel => exact ⟨rfl, _, .node a' k' b', rfl, HA.out, by simp, by rw [← HL.out]; simp [Tr.least, Tr.isNil], Nat.le_refl _⟩

set_option maxRecDepth 100000 in
set_option maxHeartbeats 4000000 in
theorem Unleafed_any (t : Tr) : ∀ (x : Int) (q : Option Addr) (w : World), RT w q t → Calls Try.prog 34 #[.pointer q, I x] w (RetT (t.del x) w) := by
  induction t with
  | nil =>
    intro x q w h
    obtain rfl : q = none := h
    go_enter Try.func34, Try.ntmps34
    go_wp2
    go_ret
    exact ⟨none, rfl, rfl, Below.refl _ _⟩
  | node a k b iha ihb =>
    intro x q w h
    obtain ⟨g, qa, qb, rfl, hg, ha, hb⟩ := h
    obtain ⟨hlt, c0, c1, c2⟩ := tree_cells hg
    have HA := Lib.hid ha
    have HB := Lib.hid hb
    have IHA := Lib.hid iha
    have IHB := Lib.hid ihb
    clear hg iha ihb
    rcases Int.lt_trichotomy x k with hx | hx | hx
    · have HE := Lib.hid (show (Tr.node a k b).del x = .node (a.del x) k b by rw [Tr.del, if_pos hx])
      rw [HE.out]
      clear ha hb
      go_enter Try.func34, Try.ntmps34
      go_wp2
      go_region_held3 (fun W => W.cell? ⟨g, 0, none⟩ = some (I k) ∧ W.cell? ⟨g, 1, none⟩ = some (.pointer qa) ∧ W.cell? ⟨g, 2, none⟩ = some (.pointer qb))
        (first
          | exact ⟨d0, d1, d2⟩
          | exact ⟨ck d0 _, ck d1 _, ck d2 _⟩
          | exact ⟨c0, c1, c2⟩)
        (first
          | (go_at_call 34
             refine (IHA.out x qa _ HA.out.drew).mono ?_
             rintro e w2 ⟨q2, rfl, hr2, hb2⟩
             have d0 : w2.cell? ⟨g, 0, none⟩ = some (I k) := (hb2.cell (by exact hlt)).trans c0
             have d1 : w2.cell? ⟨g, 1, none⟩ = some (.pointer qa) := (hb2.cell (by exact hlt)).trans c1
             have d2 : w2.cell? ⟨g, 2, none⟩ = some (.pointer qb) := (hb2.cell (by exact hlt)).trans c2
             have HR2 := Lib.hid hr2
             have HB2 : Hid (Below w.heap.size w w2) := (Below.refl _ _).drew.trans hb2
             clear hr2 hb2))
      all_goals go_wp2
      all_goals go_ret
      all_goals exact ⟨_, rfl, RT.box k HR2.out (HB.out.below HB2.out), HB2.out.alloc HB2.out.size _⟩
    · subst hx
      cases a with
      | nil =>
        obtain rfl : qa = none := ha
        have HE := Lib.hid (show (Tr.node .nil x b).del x = b by rw [Tr.del, if_neg (Int.lt_irrefl _), if_neg (Int.lt_irrefl _), if_pos (show Tr.nil.isNil = true from rfl)])
        rw [HE.out]
        clear hb
        go_enter Try.func34, Try.ntmps34
        go_wp2
        go_ret
        exact ⟨_, rfl, HB.out, Below.refl _ _⟩
      | node a' k' b' =>
        obtain ⟨g', qa', qb', rfl, _⟩ := ha
        cases b with
        | nil =>
          obtain rfl : qb = none := hb
          have HE := Lib.hid (show (Tr.node (.node a' k' b') x .nil).del x = .node a' k' b' by rw [Tr.del, if_neg (Int.lt_irrefl _), if_neg (Int.lt_irrefl _), if_neg (by simp [Tr.isNil]), if_pos (show Tr.nil.isNil = true from rfl)])
          rw [HE.out]
          go_enter Try.func34, Try.ntmps34
          go_wp2
          go_ret
          exact ⟨_, rfl, HA.out, Below.refl _ _⟩
        | node a2 k2 b2 =>
          obtain ⟨g2, qa2, qb2, rfl, _⟩ := hb
          have HE := Lib.hid (show (Tr.node (.node a' k' b') x (.node a2 k2 b2)).del x = .node (.node a' k' b') (Tr.node a2 k2 b2).least ((Tr.node a2 k2 b2).del (Tr.node a2 k2 b2).least) by rw [Tr.del, if_neg (Int.lt_irrefl _), if_neg (Int.lt_irrefl _), if_neg (by simp [Tr.isNil]), if_neg (by simp [Tr.isNil])])
          rw [HE.out]
          have HLE := Lib.hid (Least_any (.node a2 k2 b2) (some ⟨g2, 0, none⟩) w HB.out (by simp))
          generalize (Tr.node a2 k2 b2).least = mn at *
          go_enter Try.func34, Try.ntmps34
          go_wp2_with fail
          refine HLE.out.mono ?_
          rintro e w1 ⟨rfl, rfl⟩
          go_wp2
          go_region_held3 (fun W => W.cell? ⟨g, 0, none⟩ = some (I x) ∧ W.cell? ⟨g, 1, none⟩ = some (.pointer (some ⟨g', 0, none⟩)) ∧ W.cell? ⟨g, 2, none⟩ = some (.pointer (some ⟨g2, 0, none⟩)))
            (first
              | exact ⟨d0, d1, d2⟩
              | exact ⟨ck d0 _, ck d1 _, ck d2 _⟩
              | exact ⟨c0, c1, c2⟩)
            (first
              | (go_at_call 34
                 refine (IHB.out mn (some ⟨g2, 0, none⟩) _ HB.out.drew).mono ?_
                 rintro e w2 ⟨q2, rfl, hr2, hb2⟩
                 have d0 : w2.cell? ⟨g, 0, none⟩ = some (I x) := (hb2.cell (by exact hlt)).trans c0
                 have d1 : w2.cell? ⟨g, 1, none⟩ = some (.pointer (some ⟨g', 0, none⟩)) := (hb2.cell (by exact hlt)).trans c1
                 have d2 : w2.cell? ⟨g, 2, none⟩ = some (.pointer (some ⟨g2, 0, none⟩)) := (hb2.cell (by exact hlt)).trans c2
                 have HR2 := Lib.hid hr2
                 have HB2 : Hid (Below w.heap.size w w2) := (Below.refl _ _).drew.trans hb2
                 clear hr2 hb2))
          all_goals go_wp2
          all_goals go_ret
          all_goals exact ⟨_, rfl, RT.box mn (HA.out.below HB2.out) HR2.out, HB2.out.alloc HB2.out.size _⟩
    · have HE := Lib.hid (show (Tr.node a k b).del x = .node a k (b.del x) by rw [Tr.del, if_neg (by omega), if_pos hx])
      rw [HE.out]
      have hnl : ¬ x < k := by omega
      clear ha hb
      go_enter Try.func34, Try.ntmps34
      go_wp2
      go_region_held3 (fun W => W.cell? ⟨g, 0, none⟩ = some (I k) ∧ W.cell? ⟨g, 1, none⟩ = some (.pointer qa) ∧ W.cell? ⟨g, 2, none⟩ = some (.pointer qb))
        (first
          | exact ⟨d0, d1, d2⟩
          | exact ⟨ck d0 _, ck d1 _, ck d2 _⟩
          | exact ⟨c0, c1, c2⟩)
        (first
          | (go_at_call 34
             refine (IHB.out x qb _ HB.out.drew).mono ?_
             rintro e w2 ⟨q2, rfl, hr2, hb2⟩
             have d0 : w2.cell? ⟨g, 0, none⟩ = some (I k) := (hb2.cell (by exact hlt)).trans c0
             have d1 : w2.cell? ⟨g, 1, none⟩ = some (.pointer qa) := (hb2.cell (by exact hlt)).trans c1
             have d2 : w2.cell? ⟨g, 2, none⟩ = some (.pointer qb) := (hb2.cell (by exact hlt)).trans c2
             have HR2 := Lib.hid hr2
             have HB2 : Hid (Below w.heap.size w w2) := (Below.refl _ _).drew.trans hb2
             clear hr2 hb2))
      all_goals go_wp2
      all_goals go_ret
      all_goals exact ⟨_, rfl, RT.box k (HA.out.below HB2.out) HR2.out, HB2.out.alloc HB2.out.size _⟩

end Go.Proofs.Ytanmakgnjehcfaa
