/-
  GrowHoare: all Depths of the tree together are as often as two are held against each other.
-/
import Derived.Test.YtanmakgnjehcfaaGSum
namespace Go.Proofs.Ytanmakgnjehcfaa
open Go.RowKit

set_option maxRecDepth 100000 in
set_option maxHeartbeats 4000000 in
theorem hoare_any (A : Option Addr) (n c : Nat) (l : List Int) (w : World) (h : IS w A n c l) (_ : n ≤ 9223372036854775807) :
    Calls Try.prog 4 #[.slice A n c] w fun e w' => e = .returned (.bool true) ∧ Below w.heap.size w w' := by
  have H := Lib.hid h
  by_cases hu : unl l = 0
  · have HO := Lib.hid (GOf_ok A n c l w h hu)
    obtain ⟨hl2, _, hnd⟩ := unl_zero.1 hu
    have hn : n ≤ 200 := by rw [← h.len]; exact hl2
    have HU := Lib.hid hu
    have hup : Up (gro .nil l).ks := up_gro up_nil l
    have hsz : (gro .nil l).size = n := by rw [size_gro l .nil hnd (by simp [Tr.ks]), h.len]; simp [Tr.size]
    have HT := Lib.hid (istree_of hup (by omega))
    have HH := Lib.hid (hel_dsum _ l (Nat.le_refl _) hnd)
    have HQ := Lib.hid (qs_gro _ l (Nat.le_refl _) hnd)
    have HSZ := Lib.hid hsz
    generalize gro .nil l = t at *
    clear h hu hl2 hnd hup hsz
    go_enter Try.func4, Try.ntmps4
    go_wp2_with fail
    refine HO.out.mono ?_
    rintro e w1 ⟨A1, n1, c1, rfl, hps1, hb1⟩
    obtain rfl : n1 = n := by rw [← hps1.len, sp_length, HSZ.out]
    have HB1 := Lib.hid hb1
    have HP1 := Lib.hid hps1
    have HS := Lib.hid (Sort_ok A n1 c l w1 (H.out.below hb1) HU.out)
    clear hb1 hps1 HO
    go_wp2_with fail
    refine HS.out.mono ?_
    rw [HQ.out, HH.out]
    rintro e w2 ⟨A2, n2, c2, rfl, his2, hb2⟩
    obtain rfl : n2 = n1 := by rw [← his2.len, ks_length, HSZ.out]
    have HB2 := Lib.hid (gbelow_on HB1.out hb2)
    have HP2 := Lib.hid (HP1.out.below hb2)
    have HI2 := Lib.hid his2
    clear hb2 his2 HS HP1
    go_wp2_with fail
    refine (growLives_any w2).mono ?_
    rintro e w3 ⟨rfl, hb3⟩
    have HB3 := Lib.hid (gbelow_on HB2.out hb3)
    have HP3 := Lib.hid (HP2.out.below hb3)
    have HI3 := Lib.hid (HI2.out.below hb3)
    clear hb3 HP2 HI2
    go_wp2_with fail
    refine (Sum_ok A1 _ c1 _ w3 HP3.out HT.out).mono ?_
    rintro e w4 ⟨x4, rfl, hb4⟩
    have HB4 := Lib.hid (gbelow_on HB3.out hb4)
    have HP4 := Lib.hid (HP3.out.below hb4)
    have HI4 := Lib.hid (HI3.out.below hb4)
    clear hb4 HP3 HI3
    generalize dsum (t.sp 0) = S
    go_wp2
    go_loopg [55] n2 (fun m i wr => ∃ k : Nat, k ≤ n2 ∧ n2 - k ≤ m ∧ i = .int .i64 k ∧ Below w4.heap.size w4 wr)
    case atStart => exact ⟨0, Nat.zero_le _, by omega, rfl, Below.refl _ _⟩
    case round =>
      obtain ⟨k, hk, hkm, rfl, hnx⟩ := hrel
      have HNX := Lib.hid hnx
      have hsz := hnx.size
      clear hnx
      by_cases hlt : k < n2
      · obtain ⟨b, off, rfl, hb, hc⟩ := HP4.out.dat (by omega)
        obtain ⟨b', off', rfl, hb', hc'⟩ := HI4.out.at_ (by omega)
        have hks := ks_ky t 0 k (by rw [HSZ.out]; exact hlt)
        have hc0 : wr.cell? ⟨b, off + k * 2, none⟩ = some (I (ky (t.sp 0) k)) := (HNX.out.cell (by exact hb)).trans (hc k hlt).1
        have hc1 : wr.cell? ⟨b, off + k * 2 + 1, none⟩ = some (I (dp (t.sp 0) k)) := (HNX.out.cell (by exact hb)).trans (hc k hlt).2
        have hcl : wr.cell? ⟨b', off' + k, none⟩ = some (I (ky (t.sp 0) k)) := by rw [hks]; exact (HNX.out.cell (by exact hb')).trans (hc' k hlt)
        have hbw : b < wr.heap.size := by omega
        have hbw' : b' < wr.heap.size := by omega
        clear hc hc' hks
        generalize ky (t.sp 0) k = kk at *
        generalize dp (t.sp 0) k = dd at *
        go_wp2
        go_quiet (fail)
        go_wp2
        go_roundg (gk - 1)
        case measure => omega
        case rel => exact ⟨k + 1, by omega, by omega, by go_num, below_drewN (HNX.out.alloc hsz _) _⟩
      · go_wp2
        go_ret
        exact ⟨rfl, gbelow_on HB4.out HNX.out⟩
  · obtain ⟨E, hE⟩ : ∃ E, unl l = E := ⟨_, rfl⟩
    rw [hE] at hu
    have HE := Lib.hid hE
    have HU := Lib.hid hu
    have HO := Lib.hid (Of_bad A n c l w h E hE hu)
    have hne := gerr_ne hu
    clear h hE hu
    go_enter Try.func4, Try.ntmps4
    go_wp2_with fail
    refine HO.out.mono ?_
    rintro e w1 ⟨rfl, hb1⟩
    have HB1 := Lib.hid hb1
    have HS := Lib.hid (Sort_bad A n c l w1 (H.out.below hb1) E HE.out HU.out)
    clear hb1 HO
    go_wp2_with fail
    refine HS.out.mono ?_
    rintro e w2 ⟨rfl, hb2⟩
    have HB2 := Lib.hid (gbelow_on HB1.out hb2)
    clear hb2 HS
    go_wp2_with fail
    refine (growLives_any w2).mono ?_
    rintro e w3 ⟨rfl, hb3⟩
    have HB3 := Lib.hid (gbelow_on HB2.out hb3)
    clear hb3
    go_wp2
    go_ret
    exact ⟨rfl, HB3.out⟩

end Go.Proofs.Ytanmakgnjehcfaa
