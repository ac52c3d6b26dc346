/-
  Joined texts: YtpnjnedfcdppaaaGreatDoorHRef, YtpnjnedfcdppaaaGreatDoorGRefK, YtpnjnedfcdppaaaGreatDoorZBase, YtpnjnedfcdppaaaGreatDoorZRuns.
-/
import Derived.Test.YtpnjnedfcdppaaaGreatDoorOSpotsAll
import Derived.Test.YtpnjnedfcdppaaaGreatDoorGRefUAll
import Derived.Test.YtpnjnedfcdppaaaGreatDoorSChkAll
import Derived.Deep.LoopGhost
import Derived.BigQuiet
import Derived.Deep.QuietTactic
import Derived.Deep.RegionHeld3
import Derived.Test.YtpnjnedfcdppaaaGreatDoorOInAll
import Derived.Test.YtpnjnedfcdppaaaGreatDoorEqTAll
import Derived.Test.YtpnjnedfcdppaaaGreatDoorZStand
import Derived.Test.YtpnjnedfcdppaaaGreatDoorRanksAll
import Derived.Test.YtpnjnedfcdppaaaGreatDoorZRunAll
import Derived.Test.YtpnjnedfcdppaaaGreatDoorKRef1All
import Derived.Test.YtpnjnedfcdppaaaGreatDoorKOpsAll
/-
  hedgref.HeapTree.
-/
namespace Go.Proofs.YtpnjnedfcdppaaaGreatDoor
open Go.RowKit

theorem HeapTree_zero (A : Option Addr) (c : Nat) (w : World) : Calls Tryz.prog 176 #[.slice A 0 c] w fun e w' => e = .returned (.pointer none) ∧ w' = w := by
  go_enter Tryz.func176, Tryz.ntmps176
  go_wp2
  go_ret
  exact ⟨rfl, rfl⟩

set_option maxRecDepth 100000 in
set_option maxHeartbeats 8000000 in
theorem HeapTree_any (t : Tr) : ∀ (A : Option Addr) (n c : Nat) (l : PL) (w : World), Hp t l → PS w A n c l → n ≤ 1000 → Calls Tryz.prog 176 #[.slice A n c] w (RetT t w) := by
  induction t with
  | nil =>
    intro A n c l w hp h hn
    obtain rfl : n = 0 := by rw [← h.len, show l = [] from hp]; rfl
    clear h hp
    go_enter Tryz.func176, Tryz.ntmps176
    go_wp2
    go_ret
    exact ⟨none, rfl, rfl, Below.refl _ _⟩
  | node a k b iha ihb =>
    intro A n c l w hp h hn1000
    obtain ⟨la, v0, lb, hl, ha, hb, h1, h2⟩ := hp
    have hn : n = la.length + 1 + lb.length := by rw [← h.len, hl]; simp; omega
    have htop := topTo_top hl h1 h2
    rw [h.len] at htop
    have hcap := h.rd.1
    obtain ⟨bb, off, rfl, hbb, hcs⟩ := h.dat (by omega)
    have hky : ky l la.length = k := by rw [hl]; exact ky_mid la lb (k, v0)
    have hk0 : w.cell? ⟨bb, off + la.length * 2, none⟩ = some (I k) := by rw [← hky]; exact (hcs la.length (by omega)).1
    have HTK : Hid (∀ w', Below w.heap.size w w' → PS w' (some ⟨bb, off, none⟩) la.length c la) := fun w' hb' => by
      have := (h.below hb').take la.length (by omega)
      rwa [show l.take la.length = la by rw [hl, List.take_left]] at this
    have HDR : Hid (∀ w' sp c', Below w.heap.size w w' → (la.length + 1 < n → sp = some ⟨bb, off + (la.length + 1) * 2, none⟩) → n - (la.length + 1) ≤ c' → PS w' sp (n - (la.length + 1)) c' lb) := fun w' sp c' hb' hs hc' => by
      have := (h.below hb').drop (c' := c') (la.length + 1) (by omega) sp (fun hlt b' off' e => by cases e; exact hs hlt) hc'
      rwa [show l.drop (la.length + 1) = lb by rw [hl, List.drop_append]; simp] at this
    have IHA := Lib.hid iha
    have IHB := Lib.hid ihb
    have HA := Lib.hid ha
    have HB := Lib.hid hb
    have HC := Lib.hid hcs
    have HTOP := Lib.hid htop
    obtain ⟨y, hy⟩ : ∃ y, lb.length = y := ⟨_, rfl⟩
    have HLB := Lib.hid hy
    rw [hy] at hn
    clear hy
    clear iha ihb ha hb h hl h1 h2 htop hcs hky
    generalize la.length = x at *
    have hn0 : ((n : Int) == 0) = false := by simp; omega
    have hn1 : x + 1 + y ≤ n := by omega
    have hn2 : n ≤ x + 1 + y := by omega
    have h0 : 0 < n := by omega
    clear hn
    go_enter Tryz.func176, Tryz.ntmps176
    go_wp2
    go_loopg [3, 11] n (fun m t i wr => ∃ k : Nat, k ≤ n ∧ n - k ≤ m ∧ i = .int .i64 k ∧ t = .int .i64 (topTo l k) ∧ Below w.heap.size w wr)
    case atStart => exact ⟨0, Nat.zero_le _, by omega, rfl, rfl, Below.refl _ _⟩
    case round =>
      obtain ⟨j, hj, hjm, rfl, rfl, hnx⟩ := hrel
      have HNX := Lib.hid hnx
      have hsz := hnx.size
      clear hnx
      by_cases hlt : j < n
      · have htl : topTo l j < n := by
          rcases Nat.eq_zero_or_pos j with h | h
          · subst h; simpa [topTo] using h0
          · have := topTo_lt l j h; omega
        have hc0 : wr.cell? ⟨bb, off + j * 2, none⟩ = some (I (ky l j)) := (HNX.out.cell (by exact hbb)).trans (HC.out j hlt).1
        have hc1 : wr.cell? ⟨bb, off + j * 2 + 1, none⟩ = some (I (dp l j)) := (HNX.out.cell (by exact hbb)).trans (HC.out j hlt).2
        have ht1 : wr.cell? ⟨bb, off + topTo l j * 2 + 1, none⟩ = some (I (dp l (topTo l j))) := (HNX.out.cell (by exact hbb)).trans (HC.out _ htl).2
        have hbw : bb < wr.heap.size := by omega
        have HT := Lib.hid (show topTo l (j + 1) = if dp l (topTo l j) < dp l j then j else topTo l j from rfl)
        generalize topTo l j = t at *
        generalize dp l t = yy at *
        generalize dp l j = xx at *
        generalize ky l j = z at *
        by_cases hg : yy < xx
        · have HT2 : Hid (topTo l (j + 1) = j) := by show _ = _; rw [HT.out, if_pos hg]
          go_wp2
          go_quiet (fail)
          go_wp2
          go_roundg (gk - 1)
          case measure => omega
          case rel => exact ⟨j + 1, by omega, by omega, by go_num, by rw [HT2.out], below_drewN (HNX.out.alloc hsz _) _⟩
        · have HT2 : Hid (topTo l (j + 1) = t) := by show _ = _; rw [HT.out, if_neg hg]
          go_wp2
          go_quiet (fail)
          go_wp2
          go_roundg (gk - 1)
          case measure => omega
          case rel => exact ⟨j + 1, by omega, by omega, by go_num, by rw [HT2.out], below_drewN (HNX.out.alloc hsz _) _⟩
      · obtain rfl : j = n := by omega
        rw [HTOP.out]
        have c0 : wr.cell? ⟨bb, off + x * 2, none⟩ = some (I k) := (HNX.out.cell (by exact hbb)).trans hk0
        have hbw : bb < wr.heap.size := by omega
        have hxj : x < j := by omega
        have hx1 : x + 1 ≤ j := by omega
        have i0 : (0 : Int) ≤ (x : Int) := by omega
        have i1 : (x : Int) ≤ (c : Int) := by omega
        have i2 : (x : Int) < (j : Int) := by omega
        have i3 : IntKind.i64.wrap ((x : Int) + 1) = (x : Int) + 1 := IntWalk.i64_in _ (by omega)
        have i4 : (0 : Int) ≤ (x : Int) + 1 := by omega
        have i5 : (x : Int) + 1 ≤ (j : Int) := by omega
        have i6 : (j : Int) ≤ (c : Int) := by omega
        have i7 : ((x : Int) + 1).toNat = x + 1 := by omega
        have i8 : x ≤ c := by omega
        have i9 : (0 : Int) ≤ (j : Int) := by omega
        clear hk0
        by_cases hcx : c = x + 1
        · have hjc : j - c = 0 := by omega
          have hb0 : b = .nil := by
            have hl0 : lb = [] := List.eq_nil_of_length_eq_zero (by rw [HLB.out]; omega)
            have := HB.out
            rw [hl0] at this
            cases b with
            | nil => rfl
            | node b1 bk b2 =>
              obtain ⟨u1, u2, u3, e, _⟩ := this
              simp at e
          subst hb0
          have z0 : ((x : Int) + 1).toNat = c := by omega
          clear hcx i7 HDR
          go_wp2
          go_region_held3 (fun W => W.cell? ⟨bb, off + x * 2, none⟩ = some (I k))
            (first
              | exact d0
              | exact ck d0 _
              | exact c0)
            (first
              | (go_at_call 176
                 with_reducible refine (HeapTree_zero _ _ _).mono ?_
                 rintro e w3 ⟨rfl, rfl⟩)
              | (go_at_call 176
                 with_reducible refine (IHA.out _ x _ la _ HA.out (HTK.out _ (HNX.out.drew)) (by omega)).mono ?_
                 rintro e w2 ⟨q2, rfl, hr2, hb2⟩
                 have d0 : w2.cell? ⟨bb, off + x * 2, none⟩ = some (I k) := (hb2.cell (by exact hbw)).trans c0
                 have HR2 := Lib.hid hr2
                 have HB2 : Hid (Below w.heap.size w w2) := HNX.out.drew.trans (hb2.mono (by exact hsz))
                 clear hr2 hb2))
          all_goals go_wp2
          all_goals go_ret
          all_goals exact ⟨_, rfl, RT.box k HR2.out (b := .nil) rfl, HB2.out.alloc HB2.out.size _⟩
        · go_wp2
          go_region_held3 (fun W => W.cell? ⟨bb, off + x * 2, none⟩ = some (I k))
            (first
              | exact d0
              | exact e0
              | exact ck e0 _
              | exact c0)
            (first
              | (go_at_call 176
                 with_reducible refine (IHA.out _ x _ la _ HA.out (HTK.out _ (HNX.out.drew)) (by omega)).mono ?_
                 rintro e w2 ⟨q2, rfl, hr2, hb2⟩
                 have d0 : w2.cell? ⟨bb, off + x * 2, none⟩ = some (I k) := (hb2.cell (by exact hbw)).trans c0
                 have HR2 := Lib.hid hr2
                 have HB2 : Hid (Below w.heap.size w w2) := HNX.out.drew.trans (hb2.mono (by exact hsz))
                 clear hr2 hb2)
              | (go_at_call 176
                 refine (IHB.out _ _ _ lb _ HB.out (HDR.out _ _ _ HB2.out (by intro hlt; first | (exfalso; omega) | rfl) (by omega)) (by omega)).mono ?_
                 rintro e w3 ⟨q3, rfl, hr3, hb3⟩
                 have e0 : w3.cell? ⟨bb, off + x * 2, none⟩ = some (I k) := (hb3.cell (by have := HB2.out.size; show bb < _; omega)).trans d0
                 have HR3 := Lib.hid hr3
                 have HR23 : Hid (RT w3 q2 a) := HR2.out.below hb3
                 have HB3 : Hid (Below w.heap.size w w3) := HB2.out.trans (hb3.mono HB2.out.size)
                 clear hr3 hb3))
          all_goals go_wp2
          all_goals go_ret
          all_goals exact ⟨_, rfl, RT.box k HR23.out HR3.out, HB3.out.alloc HB3.out.size _⟩

end Go.Proofs.YtpnjnedfcdppaaaGreatDoor

/-
  package hedgref on keys: UnlikeKeys, SortedKeys, HeldOften, SameInts, SameSpots.
-/
namespace Go.Proofs.YtpnjnedfcdppaaaGreatDoor
open Go.RowKit

end Go.Proofs.YtpnjnedfcdppaaaGreatDoor

/-
  ZIPPED TREES: keys, rows of pairs of the call's own; what the laws share. Nothing is walked here.
-/
namespace Go.Proofs.YtpnjnedfcdppaaaGreatDoor
open Go.RowKit

theorem zpair_info : (Tryz.prog.info? 48).map (fun i => (i.zero, i.size, i.bytes)) = some (some (.agg #[I 0, I 0]), 2, 16) := by kernel_rfl
theorem zsrc_one (w : World) (k d : Int) (t : Nat) : Src (w.alloc (.cells #[I k, I d] t)) (some ⟨w.heap.size, 0, none⟩) 1 [(k, d)] := by
  refine ⟨rfl, fun _ => ⟨_, rfl, fun j u hu => ?_⟩⟩
  match j with
  | 0 => simp [flat] at hu; simp [Addr.add, ← hu]
  | 1 => simp [flat] at hu; simp [Addr.add, ← hu]
  | j + 2 => simp [flat] at hu
theorem zpl_take (ks : List Int) (k : Nat) (h : k < ks.length) : zpl (ks.take (k + 1)) = zpl (ks.take k) ++ [(ks[k], (ht ks[k] : Int))] := by
  unfold zpl
  rw [List.take_succ_eq_append_getElem h, List.map_append]
  rfl
end Go.Proofs.YtpnjnedfcdppaaaGreatDoor

/-
  hedgref.ZipTree; the law ZipRuns.
-/
namespace Go.Proofs.YtpnjnedfcdppaaaGreatDoor
open Go.RowKit

set_option maxRecDepth 100000 in
set_option maxHeartbeats 1000000 in
theorem ZipTree_any (A : Option Addr) (n c : Nat) (ks : List Int) (t : Tr) (w : World) (h : IS w A n c ks) (hn : n ≤ 1000) (ht' : Hp t (zpl ks)) :
    Calls Tryz.prog 113 #[.slice A n c] w (RetT t w) := by
  have H := Lib.hid h
  have HL := Lib.hid h.len
  have HP := Lib.hid ht'
  clear h ht'
  go_enter Tryz.func113, Tryz.ntmps113
  go_wp2
  go_loopw [3, 8] (fun v i wr => ∃ k : Nat, k ≤ n ∧ i = .int .i64 k ∧ OwnR wr w.heap.size 48 v (zpl (ks.take k)) ∧ Below w.heap.size w wr) (fun _ i _ => n - (intOf i).toNat)
  case atStart => exact ⟨0, Nat.zero_le _, rfl, World.ownsRow_nil _ _ _ _, Below.refl _ _⟩
  case round =>
    obtain ⟨k, hk, rfl, hown, hnx⟩ := hrel
    by_cases hlt : k < n
    · have hkl : k < ks.length := by rw [HL.out]; exact hlt
      obtain ⟨b, off, rfl, hbw, hc⟩ := (H.out.below hnx).cell_at hlt
      have hct := zpl_take ks k hkl
      obtain ⟨x, hx⟩ : ∃ x, ks[k] = x := ⟨_, rfl⟩
      obtain ⟨y, hy⟩ : ∃ y, ht x = y := ⟨_, rfl⟩
      rw [hx] at hc hct
      rw [hy] at hct
      have HCT := Lib.hid hct
      have HH : Hid (Calls Tryz.prog 172 #[I x] wr fun e w' => e = .returned (I (y : Int)) ∧ w' = wr) := by
        show Calls _ _ _ _ _
        rw [← hy]
        exact HeightOf_any x wr
      obtain ⟨xs, hxs⟩ : ∃ xs, zpl (ks.take k) = xs := ⟨_, rfl⟩
      have hxl : xs.length ≤ 1000 := by rw [← hxs, zpl_length]; simp; omega
      rw [hxs] at hown HCT
      have HOWN := Lib.hid hown
      have HNX := Lib.hid hnx
      have hzi := hnx.size
      clear hx hy hct hown hnx hxs
      go_wp2_with fail
      refine HH.out.mono ?_
      rintro e w1 ⟨rfl, rfl⟩
      obtain ⟨wq, hwq⟩ : ∃ wq, wq = w1 := ⟨_, rfl⟩
      rw [← hwq] at HOWN HNX hzi hc hbw ⊢
      clear hwq HH
      go_wp2_with (first
        | (at_builtin
           refine wpList_app2 rfl (.tmp 12) (.tmp 17) 33 rfl 48 Tryz.underlying33 zpair_info w.heap.size _ xs [(x, (y : Int))] (some ⟨wq.heap.size, 0, none⟩) 1 1 rfl rfl (own_below HOWN.out ((Below.refl _ _).alloc (Nat.le_refl _) _)) (zsrc_one wq x y _) (by omega) (by simp; omega) ?_
           intro v2 w9 hown2 hgrow2 _)
        | fail)
      go_roundw
      case rel =>
        refine ⟨k + 1, by omega, by go_num, ?_, ?_⟩
        · rw [HCT.out]
          exact hown2
        · exact Below.grown (HNX.out.alloc hzi _) hgrow2 (by simp; omega) (OwnR.ge HOWN.out)
      case measure => simp [intOf]; omega
    · rw [List.take_of_length_le (by rw [HL.out]; omega)] at hown
      obtain ⟨A2, c2, rfl, hps, _⟩ := hown.ps
      rw [zpl_length, HL.out] at hps ⊢
      have HHT := Lib.hid (HeapTree_any t A2 n c2 (zpl ks) wr HP.out hps (by omega))
      have HNX := Lib.hid hnx
      clear hown hnx hps
      go_wp2_with fail
      refine HHT.out.mono ?_
      rintro e w2 ⟨q, rfl, hrt, hb2⟩
      have HRT := Lib.hid hrt
      have HB2 := Lib.hid (below_next HNX.out hb2)
      clear hrt hb2
      go_wp2
      go_ret
      exact ⟨q, rfl, HRT.out, HB2.out⟩

end Go.Proofs.YtpnjnedfcdppaaaGreatDoor
