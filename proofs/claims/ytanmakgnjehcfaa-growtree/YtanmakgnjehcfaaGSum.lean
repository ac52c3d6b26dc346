/-
  shape.Sum at a tree: all Depths together.
-/
import Derived.Test.YtanmakgnjehcfaaGLives
import Derived.Test.YtanmakgnjehcfaaSChk
namespace Go.Proofs.Ytanmakgnjehcfaa
open Go.RowKit

theorem ks_ky (t : Tr) (d : Int) (i : Nat) (h : i < t.size) : ky (t.sp d) i = t.ks[i]'(by rw [ks_length]; exact h) := by
  have hl : i < (t.sp d).length := by rw [sp_length]; exact h
  rw [ky_in hl]
  have e := sp_ks t d
  have : ((t.sp d).map Prod.fst)[i]'(by simpa using hl) = t.ks[i]'(by rw [ks_length]; exact h) := by congr 1
  rw [← this]
  simp
theorem istree_of {t : Tr} (hu : Up t.ks) (hs : t.size ≤ 200) : IsTree (t.sp 0) := by
  refine ⟨by rw [sp_length]; exact hs, fun i hi => ?_, t, rfl⟩
  rw [sp_length] at hi
  rw [ks_ky t 0 i (by omega), ks_ky t 0 (i + 1) hi]
  exact List.pairwise_iff_getElem.1 hu i (i + 1) _ _ (by omega)
theorem dsum_take (l : PL) (k : Nat) (h : k < l.length) : dsum (l.take (k + 1)) = dsum (l.take k) + dp l k := by
  rw [List.take_succ_eq_append_getElem h, dsum_app, dsum_cons, dp_in h]
  simp [dsum]
theorem dsum_bd {l : PL} (h : ∀ i, 0 ≤ dp l i ∧ dp l i ≤ 200) : ∀ k, k ≤ l.length → 0 ≤ dsum (l.take k) ∧ dsum (l.take k) ≤ 200 * (k : Int)
  | 0, _ => by simp [dsum]
  | k + 1, hk => by
    have ih := dsum_bd h k (by omega)
    have := h k
    rw [dsum_take l k (by omega)]
    omega

def RetSum (S : Int) (w : World) (e : Ending) (w' : World) : Prop := ∃ x : Int, e = .returned (.tuple #[I x, I S, I 0]) ∧ Below w.heap.size w w'
set_option maxRecDepth 100000 in
set_option maxHeartbeats 2000000 in
theorem Sum_ok (A : Option Addr) (n c : Nat) (l : PL) (w : World) (h : PS w A n c l) (hT : IsTree l) :
    Calls Try.prog 21 #[.slice A n c] w (RetSum (dsum l) w) := by
  have hn : n ≤ 200 := by rw [← h.len]; exact hT.1
  have HC := Lib.hid (CheckS_any A n c l w h (by omega))
  rw [chkS_zero.2 hT] at HC
  have H := Lib.hid h
  have HL := Lib.hid h.len
  have HD := Lib.hid (tree_dp hT)
  clear h hT
  go_enter Try.func21, Try.ntmps21
  go_wp2_with fail
  refine HC.out.mono ?_
  rintro e w1 ⟨rfl, hb1⟩
  have HB1 := Lib.hid hb1
  have hs1 := hb1.size
  clear hb1 HC
  go_wp2
  go_loopg [6, 7, 17] n (fun m u v i wr => ∃ (k : Nat) (x : Int), k ≤ n ∧ n - k ≤ m ∧ i = .int .i64 k ∧ u = I x ∧ v = I (dsum (l.take k)) ∧ Below w.heap.size w wr)
  case atStart => exact ⟨0, -1, Nat.zero_le _, by omega, rfl, rfl, rfl, HB1.out⟩
  case round =>
    obtain ⟨k, x, hk, hkm, rfl, rfl, rfl, hnx⟩ := hrel
    have HNX := Lib.hid hnx
    have hsz := hnx.size
    clear hnx
    by_cases hlt : k < n
    · obtain ⟨b, off, rfl, hb, hc⟩ := H.out.dat (by omega)
      have hkl : k < l.length := by rw [HL.out]; exact hlt
      have hc0 : wr.cell? ⟨b, off + k * 2, none⟩ = some (I (ky l k)) := (HNX.out.cell (by exact hb)).trans (hc k hlt).1
      have hc1 : wr.cell? ⟨b, off + k * 2 + 1, none⟩ = some (I (dp l k)) := (HNX.out.cell (by exact hb)).trans (hc k hlt).2
      have hbd := dsum_bd HD.out k (by omega)
      have hd := HD.out k
      have HS := Lib.hid (dsum_take l k hkl)
      have hbw : b < wr.heap.size := by omega
      clear hc
      generalize dsum (l.take k) = S at *
      generalize ky l k = kk at *
      generalize dp l k = dd at *
      have h1 := hbd.1
      have h2 := hbd.2
      have h3 := hd.1
      have h4 := hd.2
      clear hbd hd
      go_wp2
      all_goals go_roundg (gk - 1)
      all_goals first
        | omega
        | exact ⟨k + 1, _, by omega, by omega, by go_num, rfl, by rw [HS.out], HNX.out.alloc hsz _⟩
    · have HS := Lib.hid (show l.take k = l from List.take_of_length_le (by rw [HL.out]; omega))
      rw [HS.out]
      go_wp2
      go_ret3
      exact ⟨x, rfl, HNX.out⟩

end Go.Proofs.Ytanmakgnjehcfaa
