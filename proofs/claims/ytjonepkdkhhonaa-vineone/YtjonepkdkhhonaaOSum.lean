/-
  shape.Sum at a tree: the greatest Depth, and all together.
-/
import Derived.Test.YtjonepkdkhhonaaOPure
import Derived.Test.YtjonepkdkhhonaaSChk
import Derived.Test.YtjonepkdkhhonaaSRow
import Derived.Deep.LoopGhost
namespace Go.Proofs.Ytjonepkdkhhonaa
open Go.RowKit

/-- the greatest Depth of the first ones -/
def mxd (l : PL) : Nat → Int
  | 0 => -1
  | k + 1 => max (mxd l k) (dp l k)
theorem mxd_ge {l : PL} : ∀ {k i : Nat}, i < k → dp l i ≤ mxd l k
  | 0, i, h => by omega
  | k + 1, i, h => by
    show _ ≤ max (mxd l k) (dp l k)
    rcases Nat.lt_or_ge i k with h1 | h1
    · have := mxd_ge (l := l) h1
      omega
    · obtain rfl : i = k := by omega
      omega
theorem mxd_le {l : PL} {B : Int} (hB : -1 ≤ B) : ∀ {k : Nat}, (∀ i, i < k → dp l i ≤ B) → mxd l k ≤ B
  | 0, _ => hB
  | k + 1, h => by
    show max (mxd l k) (dp l k) ≤ B
    have h1 := mxd_le (k := k) hB (fun i hi => h i (by omega))
    have h2 := h k (by omega)
    omega
theorem mxd_tall (t : Tr) : mxd (t.sp 0) t.size = (t.tall : Int) - 1 := by
  have h1 : mxd (t.sp 0) t.size ≤ (t.tall : Int) - 1 := mxd_le (by omega) fun i hi => by
    have := sp_tall t 0 i hi
    omega
  rcases Nat.eq_zero_or_pos t.size with h0 | h0
  · cases t with
    | nil => rfl
    | node a k b => simp only [Tr.size] at h0; omega
  · obtain ⟨i, hi, he⟩ := sp_tall_has t 0 h0
    have := mxd_ge (l := t.sp 0) hi
    omega

def RetSum2 (X S : Int) (w : World) (e : Ending) (w' : World) : Prop := e = .returned (.tuple #[I X, I S, I 0]) ∧ Below w.heap.size w w'
set_option maxRecDepth 100000 in
set_option maxHeartbeats 2000000 in
theorem Sum2_ok (A : Option Addr) (n c : Nat) (t : Tr) (w : World) (h : PS w A n c (t.sp 0)) (hT : IsTree (t.sp 0)) :
    Calls Try.prog 11 #[.slice A n c] w (RetSum2 ((t.tall : Int) - 1) (dsum (t.sp 0)) w) := by
  have hn : n ≤ 200 := by rw [← h.len]; exact hT.1
  have hsz0 : t.size = n := by rw [← sp_length t 0, h.len]
  have HMX := Lib.hid (mxd_tall t)
  rw [hsz0] at HMX
  obtain ⟨l, hl⟩ : ∃ l, t.sp 0 = l := ⟨_, rfl⟩
  rw [hl] at h hT HMX ⊢
  have HC := Lib.hid (CheckS_any A n c l w h (by omega))
  rw [chkS_zero.2 hT] at HC
  have H := Lib.hid h
  have HL := Lib.hid h.len
  have HD := Lib.hid (tree_dp hT)
  clear h hT hl hsz0
  go_enter Try.func11, Try.ntmps11
  go_wp2_with fail
  refine HC.out.mono ?_
  rintro e w1 ⟨rfl, hb1⟩
  have HB1 := Lib.hid hb1
  have hs1 := hb1.size
  clear hb1 HC
  go_wp2
  go_loopg [6, 7, 17] n (fun m u v i wr => ∃ k : Nat, k ≤ n ∧ n - k ≤ m ∧ i = .int .i64 k ∧ u = I (mxd l k) ∧ v = I (dsum (l.take k)) ∧ Below w.heap.size w wr)
  case atStart => exact ⟨0, Nat.zero_le _, by omega, rfl, rfl, rfl, HB1.out⟩
  case round =>
    obtain ⟨k, hk, hkm, rfl, rfl, rfl, hnx⟩ := hrel
    have HNX := Lib.hid hnx
    have hsz := hnx.size
    clear hnx
    by_cases hlt : k < n
    · obtain ⟨b, off, rfl, hb, hc⟩ := H.out.dat (by omega)
      have hkl : k < l.length := by rw [HL.out]; exact hlt
      have hc0 : wr.cell? ⟨b, off + k * 2, none⟩ = some (I (ky l k)) := (HNX.out.cell (by exact hb)).trans (hc k hlt).1
      have hc1 : wr.cell? ⟨b, off + k * 2 + 1, none⟩ = some (I (dp l k)) := (HNX.out.cell (by exact hb)).trans (hc k hlt).2
      have hbd := dsum_bd HD.out k (by omega)
      have hd := HD.out k
      have HS := Lib.hid (dsum_take l k hkl)
      have HM := Lib.hid (show mxd l (k + 1) = max (mxd l k) (dp l k) from rfl)
      have hbw : b < wr.heap.size := by omega
      clear hc
      generalize dsum (l.take k) = S at *
      generalize mxd l k = x at *
      generalize ky l k = kk at *
      generalize dp l k = dd at *
      have h1 := hbd.1
      have h2 := hbd.2
      have h3 := hd.1
      have h4 := hd.2
      clear hbd hd
      go_wp2
      all_goals go_roundg (gk - 1)
      all_goals first
        | omega
        | exact ⟨k + 1, by omega, by omega, by go_num, by rw [HM.out]; congr 1; omega, by rw [HS.out], HNX.out.alloc hsz _⟩
    · obtain rfl : n = k := by omega
      have HS := Lib.hid (show l.take n = l from List.take_of_length_le (by rw [HL.out]; omega))
      rw [HS.out, HMX.out]
      go_wp2
      go_ret3
      exact ⟨rfl, HNX.out⟩

end Go.Proofs.Ytjonepkdkhhonaa
