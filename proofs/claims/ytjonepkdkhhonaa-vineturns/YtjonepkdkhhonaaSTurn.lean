/-
  slices.IndexFunc at Spot, slices.Clone at Spot, shift.
-/
import Derived.Test.YtjonepkdkhhonaaSPar
import Derived.Test.YtjonepkdkhhonaaSRow
import Derived.WalkSpells
namespace Go.Proofs.Ytjonepkdkhhonaa
open Go.RowKit

theorem spot_info : (Try.prog.info? 31).map (fun i => (i.zero, i.size, i.bytes)) = some (some (.agg #[I 0, I 0]), 2, 16) := by kernel_rfl

theorem turn1_any (k d key : Int) (g : Nat) (w : World) (hc : w.cell? ⟨g, 0, none⟩ = some (I key)) (hg : g < w.heap.size) :
    Calls Try.prog 21 #[.agg #[I k, I d], .pointer (some ⟨g, 0, none⟩)] w fun e w' => e = .returned (.bool (k == key)) ∧ Below w.heap.size w w' := by
  go_enter Try.func21, Try.ntmps21
  go_wp2
  go_ret
  exact ⟨rfl, (Below.refl _ _).alloc (Nat.le_refl _) _⟩

set_option maxRecDepth 100000 in
set_option maxHeartbeats 1000000 in
theorem ixTurn_any (A : Option Addr) (n c g : Nat) (l : PL) (key : Int) (w : World) (h : PS w A n c l) (hn : n ≤ 1000) (hc : w.cell? ⟨g, 0, none⟩ = some (I key)) (hg : g < w.heap.size) :
    Calls Try.prog 20 #[.slice A n c, .func (.func 21) #[] #[.pointer (some ⟨g, 0, none⟩)]] w fun e w' => e = .returned (I (ixK l key)) ∧ Below w.heap.size w w' := by
  have H := Lib.hid h
  have Hlen := Lib.hid h.len
  have HC := Lib.hid hc
  clear h hc
  go_enter Try.func20, Try.ntmps20
  go_wp2
  go_loopw [8] (fun i wr => ∃ k : Nat, k ≤ n ∧ i = .int .i64 k ∧ (∀ j, j < k → ky l j ≠ key) ∧ Below w.heap.size w wr) (fun i _ => n - (intOf i).toNat)
  case atStart => exact ⟨0, Nat.zero_le _, rfl, fun j hj => absurd hj (by omega), Below.refl _ _⟩
  case round =>
    obtain ⟨k, hk, rfl, hno, hnx⟩ := hrel
    by_cases hlt : k < n
    · obtain ⟨b, off, rfl, hb, hcs⟩ := H.out.dat (by omega)
      have hc0 : wr.cell? ⟨b, off + k * 2, none⟩ = some (I (ky l k)) := (hnx.cell (by exact hb)).trans (hcs k hlt).1
      have hc1 : wr.cell? ⟨b, off + k * 2 + 1, none⟩ = some (I (dp l k)) := (hnx.cell (by exact hb)).trans (hcs k hlt).2
      have hcall := turn1_any (ky l k) (dp l k) key g wr ((hnx.cell (by exact hg)).trans HC.out) (by have := hnx.size; omega)
      have HNX := Lib.hid hnx
      clear hcs hnx
      by_cases hkey : ky l k = key
      · have HF : Hid (ixK l key = k) := ixK_hit (by rw [Hlen.out]; exact hlt) hkey hno
        have e1 : (ky l k == key) = true := by simp [hkey]
        rw [e1] at hcall
        have HCALL := Lib.hid hcall
        clear hcall hkey hno e1
        go_wp2_with fail
        refine HCALL.out.mono ?_
        rintro e w1 ⟨rfl, hb1⟩
        have HB1 := Lib.hid (HNX.out.trans (hb1.mono HNX.out.size))
        clear hb1
        go_wp2
        go_ret
        exact ⟨ret_int (by rw [HF.out]), HB1.out⟩
      · have HN : Hid (∀ j, j < k + 1 → ky l j ≠ key) := fun j hj => by
          rcases Nat.lt_or_ge j k with h1 | h1
          · exact hno j h1
          · obtain rfl : j = k := by omega
            exact hkey
        have e1 : (ky l k == key) = false := by simp [hkey]
        rw [e1] at hcall
        have HCALL := Lib.hid hcall
        clear hcall hkey hno e1
        go_wp2_with fail
        refine HCALL.out.mono ?_
        rintro e w1 ⟨rfl, hb1⟩
        have HB1 := Lib.hid (HNX.out.trans (hb1.mono HNX.out.size))
        clear hb1
        go_wp2
        go_roundw
        case rel => exact ⟨k + 1, by omega, by go_num, HN.out, HB1.out⟩
        case measure => simp [intOf]; omega
    · have HF : Hid (ixK l key = -1) := ixK_none (fun j hj => hno j (by rw [Hlen.out] at hj; omega))
      clear hno
      go_wp2
      go_ret
      exact ⟨ret_int (by rw [HF.out]), hnx⟩

set_option maxRecDepth 100000 in
set_option maxHeartbeats 1000000 in
theorem clone_any (A : Option Addr) (n c : Nat) (l : PL) (w : World) (h : PS w A n c l) (hn : n ≤ 1000) :
    Calls Try.prog 24 #[.slice A n c] w fun e w' => ∃ v, e = .returned v ∧ OwnR w' w.heap.size 31 v l ∧ Below w.heap.size w w' := by
  have H := Lib.hid h
  have Hlen := Lib.hid h.len
  clear h
  have heq := fun w => Lib.run_eql_slice_nil (P := Try.prog) w 22 31 A n c 0 0 Try.underlying22
  cases A with
  | none =>
    have hl : l = [] := by
      rcases Nat.eq_zero_or_pos n with h0 | h0
      · exact List.eq_nil_of_length_eq_zero (by rw [Hlen.out]; exact h0)
      · obtain ⟨b, off, e, _⟩ := H.out.dat h0; cases e
    have HL := Lib.hid hl
    clear hl
    go_enter Try.func24, Try.ntmps24
    go_wp2
    go_ret
    refine ⟨_, rfl, ?_, Below.refl _ _⟩
    rw [HL.out]
    exact World.ownsRow_nil _ _ _ _
  | some ad =>
    go_enter Try.func24, Try.ntmps24
    go_wp2_with (at_builtin; refine wpList_app2 rfl (.tmp 5) (.tmp 6) 22 rfl 31 Try.underlying22 spot_info w.heap.size (.slice (some ⟨w.heap.size, 0, none⟩) 0 0) [] l (some ad) n c rfl rfl (own2_empty (heap_alloc_new w _) (Nat.le_refl _)) (H.out.alloc _).src (by simp; omega) (by simp) ?_; intro v' w' hown hgrow _)
    go_ret
    refine ⟨_, rfl, by simpa [OwnR] using hown, ?_⟩
    exact (((Below.refl _ _).alloc (Nat.le_refl _) _)).grown hgrow (by simp) (by simp [Value.ownBlock])

set_option maxRecDepth 100000 in
set_option maxHeartbeats 1000000 in
theorem shift_any (g x m c : Nat) (by_ : Int) (L : PL) (w : World) (h : SB w g 31 L) (hx : x + m ≤ L.length) (hL : L.length ≤ 1000) (hmc : m ≤ c) (hd : ∀ i, -1000 ≤ dp L i ∧ dp L i ≤ 1000) (hby : -1 ≤ by_ ∧ by_ ≤ 1) :
    Calls Try.prog 25 #[.slice (some ⟨g, x * 2, none⟩) m c, I by_] w fun e w' => e = .returned (.tuple #[]) ∧ SB w' g 31 (shf L x (x + m) by_) ∧ ∀ B, B ≤ g → Below B w w' := by
  have H := Lib.hid h
  have HD := Lib.hid hd
  clear h hd
  obtain ⟨hy1, hy2⟩ := hby
  go_enter Try.func25, Try.ntmps25
  go_wp2
  go_loopw [7] (fun i wr => ∃ k : Nat, k ≤ m ∧ i = .int .i64 k ∧ SB wr g 31 (shf L x (x + k) by_) ∧ ∀ B, B ≤ g → Below B w wr) (fun i _ => m - (intOf i).toNat)
  case atStart => exact ⟨0, Nat.zero_le _, rfl, by rw [Nat.add_zero, shf_none]; exact H.out, fun B _ => Below.refl _ _⟩
  case round =>
    obtain ⟨k, hk, rfl, hsb, hnx⟩ := hrel
    by_cases hlt : k < m
    · have hsl := shf_length L x (x + k) by_ (by omega)
      have hfar := shf_far L x (x + k) by_ (by omega) (by omega)
      obtain ⟨hd1, hd2⟩ := HD.out (x + k)
      have hcell := (hsb.cell (x + k) (by omega)).2
      rw [hfar] at hcell
      have hcell2 : wr.cell? ⟨g, x * 2 + k * 2 + 1, none⟩ = some (I (dp L (x + k))) := by rw [← Nat.add_mul]; exact hcell
      have hfz : wr.frozen? ⟨g, x * 2 + k * 2 + 1, none⟩ = false := hsb.frozen _
      have hset := hsb.set1 (x + k) (dp L (x + k) + by_) (by omega)
      have hst := shf_step L x (x + k) by_ (by omega) (by omega)
      rw [hfar] at hst
      rw [hst] at hset
      have HSET : Hid (SB (wr.setCell ⟨g, x * 2 + k * 2 + 1, none⟩ (I (dp L (x + k) + by_))) g 31 (shf L x (x + (k + 1)) by_)) := by
        show SB _ _ _ _
        rw [← Nat.add_mul]
        exact hset
      have HNX := Lib.hid hnx
      clear hsl hfar hcell hset hst hsb hnx
      go_wp2
      go_roundw
      case rel => exact ⟨k + 1, by omega, by go_num, HSET.out, fun B hB => (HNX.out B hB).setCell hB _⟩
      case measure => simp [intOf]; omega
    · obtain rfl : k = m := by omega
      have HSB := Lib.hid hsb
      have HNX := Lib.hid hnx
      clear hsb hnx
      go_wp2
      go_end0
      exact ⟨rfl, HSB.out, HNX.out⟩

end Go.Proofs.Ytjonepkdkhhonaa
