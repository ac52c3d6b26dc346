/-
  slices.Index of texts; hedgref.ToldKeys, node first.
-/
import Derived.Test.YtpnjnedfcdppaaaGreatDoorDLinePAll
import Derived.Test.YtpnjnedfcdppaaaGreatDoorOInAll
namespace Go.Proofs.YtpnjnedfcdppaaaGreatDoor
open Go.RowKit

set_option maxRecDepth 100000 in
set_option maxHeartbeats 1000000 in
theorem index_any (A : Option Addr) (n c : Nat) (l : List (List UInt8)) (x : List UInt8) (w : World) (h : WS w A n c l) (hn : n ≤ 1000000) :
    Calls Tryz.prog 101 #[.slice A n c, .string (bsv x)] w fun e w' => e = .returned (I (ixA x 0 l)) ∧ w' = w := by
  have H := Lib.hid h
  have HL := Lib.hid h.len
  clear h
  go_enter Tryz.func101, Tryz.ntmps101
  go_wp2
  go_loopw [8] (fun i wr => ∃ k : Nat, k ≤ n ∧ i = .int .i64 k ∧ Hid (ixA x 0 l = ixA x k (l.drop k)) ∧ wr = w) (fun i _ => n - (intOf i).toNat)
  case atStart => exact ⟨0, Nat.zero_le _, rfl, rfl, rfl⟩
  case round =>
    obtain ⟨k, hk, rfl, HX, rfl⟩ := hrel
    by_cases hlt : k < n
    · obtain ⟨b, off, rfl, hb, hc⟩ := H.out.at_ (by omega)
      have hkl : k < l.length := by rw [HL.out]; exact hlt
      have hc0 : wr.cell? ⟨b, off + k, none⟩ = some (.string (bsv l[k])) := hc k hlt
      have hd : l.drop k = l[k] :: l.drop (k + 1) := (List.getElem_cons_drop ..).symm
      obtain ⟨y, hy⟩ : ∃ y, l[k] = y := ⟨_, rfl⟩
      rw [hy] at hc0 hd
      have hstep : ixA x k (l.drop k) = if x = y then (k : Int) else ixA x (k + 1) (l.drop (k + 1)) := by rw [hd]; rfl
      by_cases he : x = y
      · have hE : Hid (ixA x 0 l = k) := by show _ = _; rw [HX.out, hstep, if_pos he]
        have hxy : (x == y) = true := by rw [he]; exact beq_self_eq_true y
        clear hc hd hy hstep he HX
        go_wp2
        go_ret
        exact ⟨congrArg (fun z => Ending.returned (.int .i64 z)) hE.out.symm, rfl⟩
      · have hE : Hid (ixA x 0 l = ixA x (k + 1) (l.drop (k + 1))) := by show _ = _; rw [HX.out, hstep, if_neg he]
        have hxy : (x == y) = false := by simpa using he
        clear hc hd hy hstep he HX
        go_wp2
        go_roundw
        case rel => exact ⟨k + 1, by omega, by go_num, hE.out, by first | rfl | trivial⟩
        case measure => simp [intOf]; omega
    · obtain rfl : k = n := by omega
      have hE : Hid (ixA x 0 l = -1) := by
        show _ = _
        rw [HX.out, List.drop_eq_nil_of_le (by rw [HL.out]; exact Nat.le_refl _)]
        rfl
      clear HX
      go_wp2
      go_ret
      exact ⟨congrArg (fun z => Ending.returned (.int .i64 z)) hE.out.symm, rfl⟩

theorem ln_own1 (w : World) (k : Int) : OwnI (w.alloc (.cells #[I k] 3)) w.heap.size (.slice (some ⟨w.heap.size, 0, none⟩) 1 1) [k] :=
  ⟨rfl, .inr ⟨w.heap.size, 1, #[I k], rfl, Nat.le_refl _, heap_alloc_new w _, Nat.le_refl _, by unfold maxLen; omega, rfl, rfl⟩⟩
theorem own_one_d (w : World) (k : Int) : OwnI ((w.alloc (inO k)).drew) w.heap.size (.slice (some ⟨w.heap.size, 0, none⟩) 1 1) [k] := ln_own1 w k
theorem is_apart {w w' : World} {B n c g : Nat} {A : Option Addr} {L : List Int} (h : OwnI w B (.slice A n c) L) (hl : L.length = n) (hne : ∀ gg, (Value.slice A n c).ownBlock = some gg → gg ≠ g) (hg : w.grownBy w' (some g)) : IS w' A n c L := by
  have h' : OwnI w' B (.slice A n c) L := by
    refine World.ownsRow.kept h hg ?_
    cases hb : (Value.slice A n c).ownBlock with
    | none => exact .inl rfl
    | some gg => exact .inr fun e => hne gg hb (Option.some.inj e)
  obtain ⟨A', c', e', _, hp⟩ := ownI_told h' hl
  cases e'
  exact hp

set_option maxRecDepth 100000 in
set_option maxHeartbeats 16000000 in
theorem toldKeys_own (t : Tr) : ∀ (q : Option Addr) (w : World), RT w q t → t.size ≤ 1000 → Calls Tryz.prog 116 #[.pointer q, I 1] w (RetOwn t.pre w.heap.size w) := by
  induction t with
  | nil =>
    intro q w h hz
    obtain rfl : q = none := h
    go_enter Tryz.func116, Tryz.ntmps116
    go_wp2
    go_ret
    exact ⟨_, rfl, World.ownsRow_nil _ _ _ _, Below.refl _ _⟩
  | node a k b iha ihb =>
    intro q w h hz
    simp only [Tr.size] at hz
    obtain ⟨g, qa, qb, rfl, hg, ha, hb⟩ := h
    obtain ⟨hlt, c0, c1, c2⟩ := tree_cells hg
    have HA := Lib.hid ha
    have HB := Lib.hid hb
    have IHA : Hid (∀ W : World, RT W qa a → Calls Tryz.prog 116 #[.pointer qa, I 1] W (RetOwn a.pre W.heap.size W)) := fun W hW => iha qa W hW (by omega)
    have IHB : Hid (∀ W : World, RT W qb b → Calls Tryz.prog 116 #[.pointer qb, I 1] W (RetOwn b.pre W.heap.size W)) := fun W hW => ihb qb W hW (by omega)
    have hsp : (Tr.node a k b).pre = [k] ++ a.pre ++ b.pre := by simp [Tr.pre]
    have la := pre_length a
    have lb := pre_length b
    obtain ⟨na, hna⟩ : ∃ na, a.size = na := ⟨_, rfl⟩
    obtain ⟨nb, hnb⟩ : ∃ nb, b.size = nb := ⟨_, rfl⟩
    rw [hnb] at lb hz
    rw [hna] at la hz
    have hna1 : na ≤ 1000 := by omega
    have hnb1 : nb ≤ 1000 := by omega
    have HLA := Lib.hid la
    have HLB := Lib.hid lb
    rw [hsp]
    generalize a.pre = La at *
    generalize b.pre = Lb at *
    clear hg ha hb iha ihb hsp la lb hna hnb
    go_enter Tryz.func116, Tryz.ntmps116
    go_wp2
    go_region_held3 (fun W => W.cell? ⟨g, 0, none⟩ = some (I k) ∧ W.cell? ⟨g, 1, none⟩ = some (.pointer qa) ∧ W.cell? ⟨g, 2, none⟩ = some (.pointer qb))
      (first
        | exact ⟨d0, d1, d2⟩
        | exact ⟨ck d0 _, ck d1 _, ck d2 _⟩
        | exact ⟨c0, c1, c2⟩
        | exact ⟨ck c0 _, ck c1 _, ck c2 _⟩)
      (first
        | (go_at_call 116
           with_reducible refine (IHA.out _ (by first | exact HA.out.drew | exact (HA.out.alloc _).drew)).mono ?_
           rintro e w2 ⟨v2, rfl, ho2, hb2⟩
           have hB2 : Below w.heap.size w w2 := by
             first
               | exact (Below.refl w.heap.size w).drew.trans hb2
               | exact ((Below.refl w.heap.size w).alloc (Nat.le_refl _) _).drew.trans (hb2.mono (by simp))
           have d0 : w2.cell? ⟨g, 0, none⟩ = some (I k) := (hB2.cell (by exact hlt)).trans c0
           have d1 : w2.cell? ⟨g, 1, none⟩ = some (.pointer qa) := (hB2.cell (by exact hlt)).trans c1
           have d2 : w2.cell? ⟨g, 2, none⟩ = some (.pointer qb) := (hB2.cell (by exact hlt)).trans c2
           obtain ⟨A2, cc2, hv2, _, his2⟩ := ownI_told ho2 HLA.out
           have HV2 := Lib.hid hv2
           have HIS2 := Lib.hid his2
           try (have HLT2 : Hid (OwnI w2 w.heap.size (.slice (some ⟨w.heap.size, 0, none⟩) 1 1) [k]) := ownI_below (own_one_d w k) hb2)
           try (have hwz2 : w.heap.size < w2.heap.size := by have h9 : (w.alloc (inO k)).heap.size ≤ w2.heap.size := hb2.size; rw [World.size_alloc] at h9; omega)
           have HRB2 : Hid (RT w2 qb b) := HB.out.below hB2
           have HB2 := Lib.hid hB2
           clear ho2 hb2 hB2 his2 hv2)
        | (go_at_call 116
           with_reducible refine (IHB.out _ (by first | exact HRB4.out | exact HRB2.out | exact HRB2.out.alloc _)).mono ?_
           rintro e w3 ⟨v3, rfl, ho3, hb3⟩
           have hB3 : Below w.heap.size w w3 := by
             first
               | exact HB4.out.trans (hb3.mono HB4.out.size)
               | exact HB2.out.trans (hb3.mono HB2.out.size)
               | exact (HB2.out.alloc HB2.out.size _).trans (hb3.mono (by have := HB2.out.size; simp; omega))
           have d0 : w3.cell? ⟨g, 0, none⟩ = some (I k) := (hB3.cell (by exact hlt)).trans c0
           have d1 : w3.cell? ⟨g, 1, none⟩ = some (.pointer qa) := (hB3.cell (by exact hlt)).trans c1
           have d2 : w3.cell? ⟨g, 2, none⟩ = some (.pointer qb) := (hB3.cell (by exact hlt)).trans c2
           obtain ⟨A3, c3, rfl, ho3', his3⟩ := ownI_told ho3 HLB.out
           have HIS3 := Lib.hid his3
           try (have HO43 : Hid (OwnI w3 w.heap.size v4 ([k] ++ La)) := ownI_below HO4.out hb3)
           try (have HIS23 : Hid (IS w3 A2 na cc2 La) := (by first | exact HIS2.out.below hb3 | exact (HIS2.out.alloc _).below hb3))
           try (have HLT3 : Hid (OwnI w3 w.heap.size (.slice (some ⟨w.heap.size, 0, none⟩) 1 1) [k]) := ownI_below HLT2.out hb3
                have HD3 : Hid (∀ gg, (Value.slice A3 nb c3).ownBlock = some gg → gg ≠ w.heap.size) := fun gg hgg => by have h9 := own_ge1 ho3' gg hgg; omega)
           try (have HLT3 : Hid (OwnI w3 w2.heap.size (.slice (some ⟨w2.heap.size, 0, none⟩) 1 1) [k]) := ownI_below (ln_own1 w2 k) hb3
                have HD3 : Hid (∀ gg, (Value.slice A3 nb c3).ownBlock = some gg → gg ≠ w2.heap.size) := fun gg hgg => by have h9 := own_ge1 ho3' gg hgg; rw [World.size_alloc] at h9; omega)
           have HO3 : Hid (∃ B', OwnI w3 B' (.slice A3 nb c3) Lb) := ⟨_, ho3'⟩
           have HB3 := Lib.hid hB3
           clear ho3 hb3 hB3 ho3' his3)
        | (first
             | refine step_app1 rfl (.tmp 22) (.tmp 27) 46 rfl 3 Tryz.underlying46 int_info w.heap.size _ [k] La A2 na cc2 rfl HV2.out (ownI_row HLT2.out) (IS.src HIS2.out) (by simp; omega) HB2.out.size ?_
             | refine step_app1 rfl (.tmp 22) (.tmp 27) 46 rfl 3 Tryz.underlying46 int_info w.heap.size _ [k] La A2 na cc2 rfl HV2.out (ownI_row (ownI_mono (ln_own1 w2 k) HB2.out.size)) (IS.src (HIS2.out.alloc _)) (by simp; omega) (by have := HB2.out.size; simp; omega) ?_
           intro v4 w4 hown4 hgrow4
           have hB4 : Below w.heap.size w w4 := by
             first
               | exact HB2.out.grown hgrow4 HB2.out.size (own_ge1 HLT2.out)
               | exact (HB2.out.alloc HB2.out.size _).grown hgrow4 (by have := HB2.out.size; simp; omega) (own_ge1 (ownI_mono (ln_own1 w2 k) HB2.out.size))
           have d0 : w4.cell? ⟨g, 0, none⟩ = some (I k) := (hB4.cell (by exact hlt)).trans c0
           have d1 : w4.cell? ⟨g, 1, none⟩ = some (.pointer qa) := (hB4.cell (by exact hlt)).trans c1
           have d2 : w4.cell? ⟨g, 2, none⟩ = some (.pointer qb) := (hB4.cell (by exact hlt)).trans c2
           have HO4 : Hid (OwnI w4 w.heap.size v4 ([k] ++ La)) := hown4
           have HRB4 : Hid (RT w4 qb b) := HB.out.below hB4
           have HB4 := Lib.hid hB4
           clear hown4 hgrow4 hB4)
        | (first
             | refine step_app1 rfl (.tmp 22) (.tmp 27) 46 rfl 3 Tryz.underlying46 int_info w.heap.size _ [k] La A2 na cc2 rfl HV2.out (ownI_row (ownI_mono HLT3.out (by first | exact Nat.le_refl _ | exact HB2.out.size))) (IS.src HIS23.out) (by simp; omega) HB3.out.size ?_
             | refine step_app1 rfl (.tmp 22) (.tmp 27) 46 rfl 3 Tryz.underlying46 int_info w.heap.size _ [k] La A2 na cc2 rfl HV2.out (ownI_row (ownI_mono (ln_own1 w3 k) HB3.out.size)) (IS.src (HIS23.out.alloc _)) (by simp; omega) (by have := HB3.out.size; simp; omega) ?_
           intro v4 w4 hown4 hgrow4
           have hB4 : Below w.heap.size w w4 := by
             first
               | exact HB3.out.grown hgrow4 HB3.out.size (own_ge1 (ownI_mono HLT3.out (by first | exact Nat.le_refl _ | exact HB2.out.size)))
               | exact (HB3.out.alloc HB3.out.size _).grown hgrow4 (by have := HB3.out.size; simp; omega) (own_ge1 (ownI_mono (ln_own1 w3 k) HB3.out.size))
           have d0 : w4.cell? ⟨g, 0, none⟩ = some (I k) := (hB4.cell (by exact hlt)).trans c0
           have d1 : w4.cell? ⟨g, 1, none⟩ = some (.pointer qa) := (hB4.cell (by exact hlt)).trans c1
           have d2 : w4.cell? ⟨g, 2, none⟩ = some (.pointer qb) := (hB4.cell (by exact hlt)).trans c2
           have HO4 : Hid (OwnI w4 w.heap.size v4 ([k] ++ La)) := hown4
           have HIS4 : Hid (IS w4 A3 nb c3 Lb) := by
             obtain ⟨B', h1⟩ := HO3.out
             first
               | exact is_apart h1 HLB.out HD3.out hgrow4
               | exact is_apart (ownI_below h1 ((Below.refl _ _).alloc (Nat.le_refl _) _)) HLB.out (fun gg hgg => by have := ownI_lt h1 gg hgg; omega) hgrow4
           have HB4 := Lib.hid hB4
           clear hown4 hgrow4 hB4)
        | (refine step_app1 rfl (.tmp 28) (.tmp 33) 46 rfl 3 Tryz.underlying46 int_info w.heap.size v4 ([k] ++ La) Lb A3 nb c3 rfl rfl (ownI_row HO43.out) (IS.src HIS3.out) (by have := HLA.out; simp; omega) HB3.out.size ?_
           intro v6 w6 hown6 hgrow6
           have hB6 : Below w.heap.size w w6 := HB3.out.grown hgrow6 HB3.out.size (own_ge1 HO43.out)
           have d0 : w6.cell? ⟨g, 0, none⟩ = some (I k) := (hB6.cell (by exact hlt)).trans c0
           have d1 : w6.cell? ⟨g, 1, none⟩ = some (.pointer qa) := (hB6.cell (by exact hlt)).trans c1
           have d2 : w6.cell? ⟨g, 2, none⟩ = some (.pointer qb) := (hB6.cell (by exact hlt)).trans c2
           have HO6 : Hid (OwnI w6 w.heap.size v6 ([k] ++ La ++ Lb)) := hown6
           have HB6 := Lib.hid hB6
           clear hown6 hgrow6 hB6)
        | (refine step_app1 rfl (.tmp 28) (.tmp 33) 46 rfl 3 Tryz.underlying46 int_info w.heap.size v4 ([k] ++ La) Lb A3 nb c3 rfl rfl (ownI_row HO4.out) (IS.src HIS4.out) (by have := HLA.out; simp; omega) HB4.out.size ?_
           intro v6 w6 hown6 hgrow6
           have hB6 : Below w.heap.size w w6 := HB4.out.grown hgrow6 HB4.out.size (own_ge1 HO4.out)
           have d0 : w6.cell? ⟨g, 0, none⟩ = some (I k) := (hB6.cell (by exact hlt)).trans c0
           have d1 : w6.cell? ⟨g, 1, none⟩ = some (.pointer qa) := (hB6.cell (by exact hlt)).trans c1
           have d2 : w6.cell? ⟨g, 2, none⟩ = some (.pointer qb) := (hB6.cell (by exact hlt)).trans c2
           have HO6 : Hid (OwnI w6 w.heap.size v6 ([k] ++ La ++ Lb)) := hown6
           have HB6 := Lib.hid hB6
           clear hown6 hgrow6 hB6)
        | fail)
    all_goals go_wp2
    all_goals go_ret
    all_goals exact ⟨v6, rfl, HO6.out, HB6.out⟩
theorem toldKeys_any (t : Tr) (q : Option Addr) (w : World) (h : RT w q t) (hz : t.size ≤ 1000) : Calls Tryz.prog 116 #[.pointer q, I 1] w fun e w' => ∃ A c, e = .returned (.slice A t.size c) ∧ IS w' A t.size c t.pre ∧ Below w.heap.size w w' := by
  refine (toldKeys_own t q w h hz).mono ?_
  rintro e w' ⟨v, rfl, ho, hb⟩
  obtain ⟨A, c, rfl, _, his⟩ := ownI_told ho (show t.pre.length = t.size from pre_length t)
  exact ⟨A, c, rfl, his, hb⟩
end Go.Proofs.YtpnjnedfcdppaaaGreatDoor
