/-
  GrowTree: it is a tree, of just the keys that are there.
-/
import Derived.Test.YtanmakgnjehcfaaGSum
namespace Go.Proofs.Ytanmakgnjehcfaa
open Go.RowKit

set_option maxRecDepth 100000 in
set_option maxHeartbeats 4000000 in
theorem gtree_any (A : Option Addr) (n c : Nat) (ops : List OP) (w : World) (h : OS w A n c ops) (hm : n ≤ 9223372036854775807) :
    Calls Try.prog 5 #[.slice A n c] w fun e w' => e = .returned (.bool true) ∧ Below w.heap.size w w' := by
  have H := Lib.hid h
  by_cases hn : n ≤ 300
  · have HR := Lib.hid (GRun_any A n c ops w h hn)
    have hS := grT_same ops
    have hlen : (grT ops).size = (runR ops).1.length := by rw [← ks_length, hS.ks]; simp
    have hz := grT_size ops
    have HT := Lib.hid (istree_of hS.up hz)
    have HC := Lib.hid (chkS_zero.2 (istree_of hS.up hz))
    have HKS := Lib.hid hS.ks
    have HLEN := Lib.hid hlen
    have HZ := Lib.hid hz
    have hnb : n ≤ 300 := hn
    clear h hS hlen hz hn hm
    go_enter Try.func5, Try.ntmps5
    go_wp2_with fail
    refine HR.out.mono ?_
    rintro e w1 ⟨A1, n1, c1, A2, n2, c2, rfl, hps1, _, hb1⟩
    have hn1 : n1 ≤ 200 := by have := hps1.len; rw [sp_length] at this; have := HZ.out; omega
    have HN1 : Hid (n1 = (runR ops).1.length) := by show _ = _; rw [← hps1.len, sp_length, HLEN.out]
    have HB1 := Lib.hid hb1
    have HP1 := Lib.hid hps1
    have H1 := Lib.hid (H.out.below hb1)
    clear hb1 hps1 HR H
    go_wp2_with fail
    refine (growLives_any w1).mono ?_
    rintro e w2 ⟨rfl, hb2⟩
    have HB2 := Lib.hid (gbelow_on HB1.out hb2)
    have HP2 := Lib.hid (HP1.out.below hb2)
    have HAN := Lib.hid (Answered_any A n c ops w2 (H1.out.below hb2) hnb)
    clear hb2 HP1 H1
    go_wp2_with fail
    refine HAN.out.mono ?_
    rintro e w3 ⟨A3, n3, c3, A4, n4, c4, rfl, hps3, _, hb3⟩
    obtain rfl : n3 = n1 := by rw [HN1.out]; exact hps3.len.symm
    have HB3 := Lib.hid (gbelow_on HB2.out hb3)
    have HP3 := Lib.hid (HP2.out.below hb3)
    have HL3 := Lib.hid hps3
    have HCK := Lib.hid (CheckS_any A1 n3 c1 _ w3 (HP2.out.below hb3) (by omega))
    rw [HC.out] at HCK
    clear hb3 hps3 HP2 HAN
    go_wp2_with fail
    refine HCK.out.mono ?_
    rintro e w4 ⟨rfl, hb4⟩
    have HB4 := Lib.hid (gbelow_on HB3.out hb4)
    have HP4 := Lib.hid (HP3.out.below hb4)
    have HL4 := Lib.hid (HL3.out.below hb4)
    clear hb4 HP3 HL3 HCK
    go_wp2
    go_loopg [45] n3 (fun m i wr => ∃ k : Nat, k ≤ n3 ∧ n3 - k ≤ m ∧ i = .int .i64 k ∧ Below w4.heap.size w4 wr)
    case atStart => exact ⟨0, Nat.zero_le _, by omega, rfl, Below.refl _ _⟩
    case round =>
      obtain ⟨k, hk, hkm, rfl, hnx⟩ := hrel
      have HNX := Lib.hid hnx
      have hsz := hnx.size
      clear hnx
      by_cases hlt : k < n3
      · obtain ⟨b, off, rfl, hb, hc⟩ := HP4.out.dat (by omega)
        obtain ⟨b', off', rfl, hb', hc'⟩ := HL4.out.at_ (by omega)
        have hkl : k < (runR ops).1.length := by rw [← HN1.out]; exact hlt
        have hks : ky ((grT ops).sp 0) k = ((runR ops).1[k]'hkl).1 := by
          rw [ks_ky (grT ops) 0 k (by rw [HLEN.out]; exact hkl)]
          have : (grT ops).ks[k]'(by rw [ks_length, HLEN.out]; exact hkl) = (pk (runR ops).1)[k]'(by simpa using hkl) := by congr 1
          rw [this]
          simp
        have hc0 : wr.cell? ⟨b, off + k * 2, none⟩ = some (I (ky ((grT ops).sp 0) k)) := (HNX.out.cell (by exact hb)).trans (hc k hlt).1
        have hc1 : wr.cell? ⟨b, off + k * 2 + 1, none⟩ = some (I (dp ((grT ops).sp 0) k)) := (HNX.out.cell (by exact hb)).trans (hc k hlt).2
        have hd0 : wr.cell? ⟨b', off' + k * 2, none⟩ = some (I (ky ((grT ops).sp 0) k)) := by rw [hks]; exact (HNX.out.cell (by exact hb')).trans (hc' k hlt).1
        have hd1 : wr.cell? ⟨b', off' + k * 2 + 1, none⟩ = some (I ((runR ops).1[k]'hkl).2) := (HNX.out.cell (by exact hb')).trans (hc' k hlt).2
        have hbw : b < wr.heap.size := by omega
        have hbw' : b' < wr.heap.size := by omega
        clear hc hc' hks
        generalize ky ((grT ops).sp 0) k = kk at *
        generalize dp ((grT ops).sp 0) k = dd at *
        generalize ((runR ops).1[k]'hkl).2 = vv at *
        go_wp2
        go_quiet (fail)
        go_wp2
        go_roundg (gk - 1)
        case measure => omega
        case rel => exact ⟨k + 1, by omega, by omega, by go_num, below_drewN (HNX.out.alloc hsz _) _⟩
      · go_wp2
        go_ret
        exact ⟨rfl, gbelow_on HB4.out HNX.out⟩
  · have HR := Lib.hid (GRun_large A n c w (by omega) hm)
    clear h hm
    go_enter Try.func5, Try.ntmps5
    go_wp2_with fail
    refine HR.out.mono ?_
    rintro e w1 ⟨A1, n1, c1, A2, n2, c2, rfl, hps1, _, hb1⟩
    obtain rfl : n1 = 0 := by rw [← hps1.len]; rfl
    have HB1 := Lib.hid hb1
    clear hb1 hps1 HR
    go_wp2_with fail
    refine (growLives_any w1).mono ?_
    rintro e w2 ⟨rfl, hb2⟩
    have HB2 := Lib.hid (gbelow_on HB1.out hb2)
    clear hb2
    go_wp2_with fail
    refine (growLives_any w2).mono ?_
    rintro e w3 ⟨rfl, hb3⟩
    have HB3 := Lib.hid (gbelow_on HB2.out hb3)
    clear hb3
    go_wp2
    go_ret
    exact ⟨rfl, HB3.out⟩

end Go.Proofs.Ytanmakgnjehcfaa
