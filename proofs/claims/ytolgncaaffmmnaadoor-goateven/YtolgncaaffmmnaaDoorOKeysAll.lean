/-
  Joined texts: YtolgncaaffmmnaaDoorOSum, YtolgncaaffmmnaaDoorOKeys.
-/
import Derived.Test.YtolgncaaffmmnaaDoorOMaps
import Derived.Test.YtolgncaaffmmnaaDoorSChk
import Derived.Test.YtolgncaaffmmnaaDoorSRow
import Derived.Deep.LoopGhost
import Derived.Test.YtolgncaaffmmnaaDoorMapKAll
/-
  shape.Sum at a tree: the greatest Depth, and all together.
-/
namespace Go.Proofs.YtolgncaaffmmnaaDoor
open Go.RowKit

/-- the greatest Depth of the first ones -/
def mxd (l : PL) : Nat → Int
  | 0 => -1
  | k + 1 => max (mxd l k) (dp l k)
theorem mxd_ge {l : PL} : ∀ {k i : Nat}, i < k → dp l i ≤ mxd l k
  | 0, i, h => by omega
  | k + 1, i, h => by
    show _ ≤ max (mxd l k) (dp l k)
    rcases Nat.lt_or_ge i k with h1 | h1
    · have := mxd_ge (l := l) h1
      omega
    · obtain rfl : i = k := by omega
      omega
theorem mxd_le {l : PL} {B : Int} (hB : -1 ≤ B) : ∀ {k : Nat}, (∀ i, i < k → dp l i ≤ B) → mxd l k ≤ B
  | 0, _ => hB
  | k + 1, h => by
    show max (mxd l k) (dp l k) ≤ B
    have h1 := mxd_le (k := k) hB (fun i hi => h i (by omega))
    have h2 := h k (by omega)
    omega
theorem mxd_tall (t : Tr) : mxd (t.sp 0) t.size = (t.tall : Int) - 1 := by
  have h1 : mxd (t.sp 0) t.size ≤ (t.tall : Int) - 1 := mxd_le (by omega) fun i hi => by
    have := sp_tall t 0 i hi
    omega
  rcases Nat.eq_zero_or_pos t.size with h0 | h0
  · cases t with
    | nil => rfl
    | node a k b => simp only [Tr.size] at h0; omega
  · obtain ⟨i, hi, he⟩ := sp_tall_has t 0 h0
    have := mxd_ge (l := t.sp 0) hi
    omega

def RetSum2 (X S : Int) (w : World) (e : Ending) (w' : World) : Prop := e = .returned (.tuple #[I X, I S, I 0]) ∧ Below w.heap.size w w'
set_option maxRecDepth 100000 in
set_option maxHeartbeats 2000000 in
theorem Sum2_ok (A : Option Addr) (n c : Nat) (t : Tr) (w : World) (h : PS w A n c (t.sp 0)) (hT : IsTree (t.sp 0)) :
    Calls Tryd.prog 21 #[.slice A n c] w (RetSum2 ((t.tall : Int) - 1) (dsum (t.sp 0)) w) := by
  have hn : n ≤ 200 := by rw [← h.len]; exact hT.1
  have hsz0 : t.size = n := by rw [← sp_length t 0, h.len]
  have HMX := Lib.hid (mxd_tall t)
  rw [hsz0] at HMX
  obtain ⟨l, hl⟩ : ∃ l, t.sp 0 = l := ⟨_, rfl⟩
  rw [hl] at h hT HMX ⊢
  have HC := Lib.hid (CheckS_any A n c l w h (by omega))
  rw [chkS_zero.2 hT] at HC
  have H := Lib.hid h
  have HL := Lib.hid h.len
  have HD := Lib.hid (tree_dp hT)
  clear h hT hl hsz0
  go_enter Tryd.func21, Tryd.ntmps21
  go_wp2_with fail
  refine HC.out.mono ?_
  rintro e w1 ⟨rfl, hb1⟩
  have HB1 := Lib.hid hb1
  have hs1 := hb1.size
  clear hb1 HC
  go_wp2
  go_loopg [6, 7, 17] n (fun m u v i wr => ∃ k : Nat, k ≤ n ∧ n - k ≤ m ∧ i = .int .i64 k ∧ u = I (mxd l k) ∧ v = I (dsum (l.take k)) ∧ Below w.heap.size w wr)
  case atStart => exact ⟨0, Nat.zero_le _, by omega, rfl, rfl, rfl, HB1.out⟩
  case round =>
    obtain ⟨k, hk, hkm, rfl, rfl, rfl, hnx⟩ := hrel
    have HNX := Lib.hid hnx
    have hsz := hnx.size
    clear hnx
    by_cases hlt : k < n
    · obtain ⟨b, off, rfl, hb, hc⟩ := H.out.dat (by omega)
      have hkl : k < l.length := by rw [HL.out]; exact hlt
      have hc0 : wr.cell? ⟨b, off + k * 2, none⟩ = some (I (ky l k)) := (HNX.out.cell (by exact hb)).trans (hc k hlt).1
      have hc1 : wr.cell? ⟨b, off + k * 2 + 1, none⟩ = some (I (dp l k)) := (HNX.out.cell (by exact hb)).trans (hc k hlt).2
      have hbd := dsum_bd HD.out k (by omega)
      have hd := HD.out k
      have HS := Lib.hid (dsum_take l k hkl)
      have HM := Lib.hid (show mxd l (k + 1) = max (mxd l k) (dp l k) from rfl)
      have hbw : b < wr.heap.size := by omega
      clear hc
      generalize dsum (l.take k) = S at *
      generalize mxd l k = x at *
      generalize ky l k = kk at *
      generalize dp l k = dd at *
      have h1 := hbd.1
      have h2 := hbd.2
      have h3 := hd.1
      have h4 := hd.2
      clear hbd hd
      go_wp2
      all_goals go_roundg (gk - 1)
      all_goals first
        | omega
        | exact ⟨k + 1, by omega, by omega, by go_num, by rw [HM.out]; congr 1; omega, by rw [HS.out], HNX.out.alloc hsz _⟩
    · obtain rfl : n = k := by omega
      have HS := Lib.hid (show l.take n = l from List.take_of_length_le (by rw [HL.out]; omega))
      rw [HS.out, HMX.out]
      go_wp2
      go_ret3
      exact ⟨rfl, HNX.out⟩

end Go.Proofs.YtolgncaaffmmnaaDoor

/-
  hedgref.SpotKeys.
-/
namespace Go.Proofs.YtolgncaaffmmnaaDoor
open Go.RowKit

set_option maxRecDepth 100000 in
set_option maxHeartbeats 1000000 in
theorem SpotKeys_any (A : Option Addr) (n c : Nat) (l : PL) (w : World) (h : PS w A n c l) (hn : n ≤ 1000) :
    Calls Tryd.prog 24 #[.slice A n c] w (RetI (kys l) w) := by
  have H := Lib.hid h
  have HL := Lib.hid h.len
  clear h
  obtain ⟨i0, hi, hz0, hz1, hz2⟩ := info_parts int_info
  have HI := Lib.hid hi
  have HZ0 := Lib.hid hz0
  have HZ1 := Lib.hid hz1
  have HZ2 := Lib.hid hz2
  clear hi hz0 hz1 hz2
  go_enter Tryd.func24, Tryd.ntmps24
  go_wp2
  go_loopw [3, 8] (fun v i wr => ∃ k : Nat, k ≤ n ∧ i = .int .i64 k ∧ OwnI wr w.heap.size v (kys (l.take k)) ∧ Below w.heap.size w wr) (fun _ i _ => n - (intOf i).toNat)
  case atStart => exact ⟨0, Nat.zero_le _, rfl, World.ownsRow_nil _ _ _ _, Below.refl _ _⟩
  case round =>
    obtain ⟨k, hk, rfl, hown, hnx⟩ := hrel
    by_cases hlt : k < n
    · have hkl : k < l.length := by rw [HL.out]; exact hlt
      obtain ⟨b, off, rfl, hbw, hcs⟩ := H.out.at_ (by omega)
      obtain ⟨x, hx⟩ : ∃ x, l[k].1 = x := ⟨_, rfl⟩
      obtain ⟨y, hy⟩ : ∃ y, l[k].2 = y := ⟨_, rfl⟩
      have hc0 : wr.cell? ⟨b, off + k * 2, none⟩ = some (I x) := by rw [← hx]; exact (hnx.cell (by exact hbw)).trans (hcs k hlt).1
      have hc1 : wr.cell? ⟨b, off + k * 2 + 1, none⟩ = some (I y) := by rw [← hy]; exact (hnx.cell (by exact hbw)).trans (hcs k hlt).2
      have HK := Lib.hid (kys_take l k hkl)
      rw [hx] at HK
      obtain ⟨xs, hxs⟩ : ∃ xs, kys (l.take k) = xs := ⟨_, rfl⟩
      have hxl : xs.length ≤ 1000 := by rw [← hxs]; simp [kys]; omega
      rw [hxs] at hown HK
      have HOWN := Lib.hid hown
      have HNX := Lib.hid hnx
      have hz := hnx.size
      clear hcs hx hy hown hnx hxs
      go_wp2_with (first
        | (at_builtin
           refine wpList_append_own_at _ rfl (.tmp 12) (.tmp 15) 22 rfl w.heap.size 3 i0 _ 1 8 Tryd.underlying22 HI.out HZ0.out HZ1.out HZ2.out rfl (by omega) _ xs.length (xs.map I) rfl (own_below HOWN.out (((Below.refl _ _).alloc (Nat.le_refl _) _).alloc (by simp) _)) ⟨wr.heap.size + 1, 0, none⟩ 1 1 [I x] rfl rfl (by have := cell_one_new (wr.alloc (.cells #[I x, I y] 65)) (I x) 3; simpa using this) (one_I x) (by unfold maxLen; omega) (by omega) (by simp; omega) ?_
           intro v2 w2 hown2 hgrow2 _ hat2)
        | fail)
      go_roundw
      case rel =>
        refine ⟨k + 1, by omega, by go_num, ?_, ?_⟩
        · rw [HK.out]
          unfold OwnI
          simpa using hown2
        · exact Below.grown ((HNX.out.alloc hz _).alloc (by simp; omega) _) hgrow2 (by simp; omega) (own_ge1 HOWN.out)
      case measure => simp [intOf]; omega
    · rw [List.take_of_length_le (by rw [HL.out]; omega)] at hown
      obtain ⟨A', c', rfl, his, _⟩ := hown.is_
      have HIS := Lib.hid his
      have HNX := Lib.hid hnx
      clear his hnx hown
      go_wp2
      go_ret
      exact ⟨A', c', rfl, HIS.out, HNX.out⟩

end Go.Proofs.YtolgncaaffmmnaaDoor
