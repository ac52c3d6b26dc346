/-
  HeapRanks: none stands below one that ranks lower, nor, of one rank, below one whose key is more.
-/
import Derived.Test.YtcjhglejmmphbaaHLaw
namespace Go.Proofs.Ytcjhglejmmphbaa
open Go.RowKit

set_option maxRecDepth 100000 in
set_option maxHeartbeats 8000000 in
theorem hranks_ok (A : Option Addr) (n c : Nat) (l : PL) (w : World) (h : PS w A n c l) (hc : chk l = 0) :
    Calls Try.prog 5 #[.slice A n c] w fun e w' => e = .returned (.bool true) ∧ Below w.heap.size w w' := by
  obtain ⟨t, ht⟩ := hp_has l.length l (Nat.le_refl _)
  have hn : n ≤ 200 := by rw [← h.len]; exact (chk_right.1 hc).1
  have HO := Lib.hid (HOf_ok A n c l t w h hc ht)
  have HT := Lib.hid (hp_tree ht hc)
  have HL := Lib.hid h.len
  have HPR : Hid (∀ i, i < n → par (t.sp 0) i = -1 ∨ ∃ p : Nat, par (t.sp 0) i = p ∧ p < n ∧ (dp l i < dp l p ∨ (dp l i = dp l p ∧ ky l p < ky l i))) := fun i hi => by
    have := par_ranks ht (chk_right.1 hc).2.2 (i := i) (by rw [h.len]; exact hi)
    rwa [h.len] at this
  have HSL : Hid ((t.sp 0).length = n) := by show _ = _; rw [sp_length, ← hp_len ht, h.len]
  have H := Lib.hid h
  clear h hc ht
  go_enter Try.func5, Try.ntmps5
  go_wp2_with fail
  refine HO.out.mono ?_
  rintro e w1 ⟨A1, c1, rfl, hp1, hb1⟩
  have HB1 := Lib.hid hb1
  have H1 := Lib.hid (H.out.below hb1)
  have HP1 := Lib.hid hp1
  clear hb1 hp1 HO H
  go_wp2_with fail
  refine (Parents_is A1 n c1 (t.sp 0) w1 HP1.out HT.out).mono ?_
  rintro e w2 ⟨A2, c2, rfl, hi2, hb2⟩
  have HB2 := Lib.hid (below_next HB1.out hb2)
  have H2 := Lib.hid (H1.out.below hb2)
  have HI2 := Lib.hid hi2
  clear hb2 hi2 HB1 H1 HP1
  go_wp2_with fail
  refine (heapLives_any w2).mono ?_
  rintro e w3 ⟨rfl, hb3⟩
  have HB3 := Lib.hid (below_next HB2.out hb3)
  have H3 := Lib.hid (H2.out.below hb3)
  have HI3 := Lib.hid (HI2.out.below hb3)
  clear hb3 HB2 H2 HI2
  go_wp2
  go_loopg [42] n (fun g i wr => ∃ k : Nat, k ≤ n ∧ n - k ≤ g ∧ i = .int .i64 k ∧ Below w3.heap.size w3 wr)
  case atStart => exact ⟨0, Nat.zero_le _, by omega, rfl, Below.refl _ _⟩
  case round =>
    obtain ⟨k, hk, hkm, rfl, hnx⟩ := hrel
    have HNX := Lib.hid hnx
    have hsz := hnx.size
    clear hnx
    by_cases hlt : k < n
    · obtain ⟨b0, o0, rfl, hb0, hc0⟩ := H3.out.dat (by omega)
      obtain ⟨b1, o1, rfl, hb1, hc1⟩ := HI3.out.dat (by omega)
      have hcp : wr.cell? ⟨b1, o1 + k, none⟩ = some (I (par (t.sp 0) k)) := by
        have := (HNX.out.cell (by exact hb1)).trans (hc1 k hlt)
        rwa [parL_get _ k (by rw [HSL.out]; exact hlt)] at this
      have hk0 : wr.cell? ⟨b0, o0 + k * 2, none⟩ = some (I (ky l k)) := (HNX.out.cell (by exact hb0)).trans (hc0 k hlt).1
      have hk1 : wr.cell? ⟨b0, o0 + k * 2 + 1, none⟩ = some (I (dp l k)) := (HNX.out.cell (by exact hb0)).trans (hc0 k hlt).2
      have hbw : b0 < wr.heap.size := by omega
      rcases HPR.out k hlt with hp | ⟨p, hp, hpn, hrk⟩
      · rw [hp] at hcp
        clear hc0 hc1 hp
        go_wp2
        go_quiet (fail)
        go_wp2
        go_roundg (gk - 1)
        case measure => omega
        case rel => exact ⟨k + 1, by omega, by omega, by go_num, below_drewN HNX.out _⟩
      · rw [hp] at hcp
        have hp0 : wr.cell? ⟨b0, o0 + p * 2, none⟩ = some (I (ky l p)) := (HNX.out.cell (by exact hb0)).trans (hc0 p hpn).1
        have hp1 : wr.cell? ⟨b0, o0 + p * 2 + 1, none⟩ = some (I (dp l p)) := (HNX.out.cell (by exact hb0)).trans (hc0 p hpn).2
        have hpi : (0 : Int) ≤ (p : Int) := by omega
        have hpi2 : (p : Int) < (n : Int) := by omega
        clear hc0 hc1 hp
        generalize ky l p = kp at *
        generalize dp l p = vp at *
        generalize ky l k = kk at *
        generalize dp l k = vk at *
        rcases hrk with hrk | ⟨hrk, hkk⟩
        · have e1 : decide (vp < vk) = false := by simp; omega
          have e2 : (vp == vk) = false := by simp; omega
          go_wp2
          go_quiet (fail)
          go_wp2
          go_roundg (gk - 1)
          case measure => omega
          case rel => exact ⟨k + 1, by omega, by omega, by go_num, below_drewN HNX.out _⟩
        · subst hrk
          have e1 : decide (vk < vk) = false := by simp
          have e2 : (vk == vk) = true := by simp
          have e3 : decide (kk < kp) = false := by simp; omega
          go_wp2
          go_quiet (fail)
          go_wp2
          go_roundg (gk - 1)
          case measure => omega
          case rel => exact ⟨k + 1, by omega, by omega, by go_num, below_drewN HNX.out _⟩
    · go_wp2
      go_ret
      exact ⟨rfl, below_next HB3.out HNX.out⟩

set_option maxRecDepth 100000 in
set_option maxHeartbeats 4000000 in
theorem hranks_bad (A : Option Addr) (n c : Nat) (l : PL) (w : World) (h : PS w A n c l) (hn : n ≤ 9223372036854775807) (E : Int) (hE : chk l = E) (hE0 : E ≠ 0) :
    Calls Try.prog 5 #[.slice A n c] w fun e w' => e = .returned (.bool true) ∧ Below w.heap.size w w' := by
  have HO := Lib.hid (HOf_bad A n c l w h hn E hE hE0)
  have hne := herr_ne hE0
  clear h hE hE0
  go_enter Try.func5, Try.ntmps5
  go_wp2_with fail
  refine HO.out.mono ?_
  rintro e w1 ⟨rfl, hb1⟩
  have HB1 := Lib.hid hb1
  clear hb1 HO
  go_wp2_with fail
  refine (Parents_is none 0 0 [] w1 ⟨rfl, Rd.none_⟩ istree_nil).mono ?_
  rintro e w2 ⟨A2, c2, rfl, _, hb2⟩
  have HB2 := Lib.hid (below_next HB1.out hb2)
  clear hb2 HB1
  go_wp2_with fail
  refine (heapLives_any w2).mono ?_
  rintro e w3 ⟨rfl, hb3⟩
  have HB3 := Lib.hid (below_next HB2.out hb3)
  clear hb3 HB2
  go_wp2_with fail
  refine (heapLives_any w3).mono ?_
  rintro e w4 ⟨rfl, hb4⟩
  have HB4 := Lib.hid (below_next HB3.out hb4)
  clear hb4 HB3
  go_wp2
  go_ret
  exact ⟨rfl, HB4.out⟩
theorem hranks_any (A : Option Addr) (n c : Nat) (l : PL) (w : World) (h : PS w A n c l) (hn : n ≤ 9223372036854775807) :
    Calls Try.prog 5 #[.slice A n c] w fun e w' => e = .returned (.bool true) ∧ Below w.heap.size w w' := by
  by_cases hc : chk l = 0
  · exact hranks_ok A n c l w h hc
  · exact hranks_bad A n c l w h hn _ rfl hc

end Go.Proofs.Ytcjhglejmmphbaa
