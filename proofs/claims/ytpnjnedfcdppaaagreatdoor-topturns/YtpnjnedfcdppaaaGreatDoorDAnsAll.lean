/-
  Joined texts: YtpnjnedfcdppaaaGreatDoorSTurn, YtpnjnedfcdppaaaGreatDoorSTurn2, YtpnjnedfcdppaaaGreatDoorSOrd, YtpnjnedfcdppaaaGreatDoorKOne0, YtpnjnedfcdppaaaGreatDoorDAns.
-/
import Derived.Test.YtpnjnedfcdppaaaGreatDoorSParAll
import Derived.Test.YtpnjnedfcdppaaaGreatDoorSpotBAll
import Derived.WalkSpells
import Derived.Test.YtpnjnedfcdppaaaGreatDoorDOpAll
import Derived.Test.YtpnjnedfcdppaaaGreatDoorKPath0All
import Derived.Test.YtpnjnedfcdppaaaGreatDoorOPureAll
import Derived.Test.YtpnjnedfcdppaaaGreatDoorDDesk
import Derived.Test.YtpnjnedfcdppaaaGreatDoorKTowAll
/-
  slices.IndexFunc at Spot, slices.Clone at Spot, shift.
-/
namespace Go.Proofs.YtpnjnedfcdppaaaGreatDoor
open Go.RowKit

theorem spot_info : (Tryz.prog.info? 82).map (fun i => (i.zero, i.size, i.bytes)) = some (some (.agg #[I 0, I 0]), 2, 16) := by kernel_rfl

theorem turn1_any (k d key : Int) (g : Nat) (w : World) (hc : w.cell? ⟨g, 0, none⟩ = some (I key)) (hg : g < w.heap.size) :
    Calls Tryz.prog 81 #[.agg #[I k, I d], .pointer (some ⟨g, 0, none⟩)] w fun e w' => e = .returned (.bool (k == key)) ∧ Below w.heap.size w w' := by
  go_enter Tryz.func81, Tryz.ntmps81
  go_wp2
  go_ret
  exact ⟨rfl, (Below.refl _ _).alloc (Nat.le_refl _) _⟩

set_option maxRecDepth 100000 in
set_option maxHeartbeats 1000000 in
theorem ixTurn_any (A : Option Addr) (n c g : Nat) (l : PL) (key : Int) (w : World) (h : PS w A n c l) (hn : n ≤ 1000) (hc : w.cell? ⟨g, 0, none⟩ = some (I key)) (hg : g < w.heap.size) :
    Calls Tryz.prog 80 #[.slice A n c, .func (.func 81) #[] #[.pointer (some ⟨g, 0, none⟩)]] w fun e w' => e = .returned (I (ixK l key)) ∧ Below w.heap.size w w' := by
  have H := Lib.hid h
  have Hlen := Lib.hid h.len
  have HC := Lib.hid hc
  clear h hc
  go_enter Tryz.func80, Tryz.ntmps80
  go_wp2
  go_loopw [8] (fun i wr => ∃ k : Nat, k ≤ n ∧ i = .int .i64 k ∧ (∀ j, j < k → ky l j ≠ key) ∧ Below w.heap.size w wr) (fun i _ => n - (intOf i).toNat)
  case atStart => exact ⟨0, Nat.zero_le _, rfl, fun j hj => absurd hj (by omega), Below.refl _ _⟩
  case round =>
    obtain ⟨k, hk, rfl, hno, hnx⟩ := hrel
    by_cases hlt : k < n
    · obtain ⟨b, off, rfl, hb, hcs⟩ := H.out.dat (by omega)
      have hc0 : wr.cell? ⟨b, off + k * 2, none⟩ = some (I (ky l k)) := (hnx.cell (by exact hb)).trans (hcs k hlt).1
      have hc1 : wr.cell? ⟨b, off + k * 2 + 1, none⟩ = some (I (dp l k)) := (hnx.cell (by exact hb)).trans (hcs k hlt).2
      have hcall := turn1_any (ky l k) (dp l k) key g wr ((hnx.cell (by exact hg)).trans HC.out) (by have := hnx.size; omega)
      have HNX := Lib.hid hnx
      clear hcs hnx
      by_cases hkey : ky l k = key
      · have HF : Hid (ixK l key = k) := ixK_hit (by rw [Hlen.out]; exact hlt) hkey hno
        have e1 : (ky l k == key) = true := by simp [hkey]
        rw [e1] at hcall
        have HCALL := Lib.hid hcall
        clear hcall hkey hno e1
        go_wp2_with fail
        refine HCALL.out.mono ?_
        rintro e w1 ⟨rfl, hb1⟩
        have HB1 := Lib.hid (HNX.out.trans (hb1.mono HNX.out.size))
        clear hb1
        go_wp2
        go_ret
        exact ⟨ret_int (by rw [HF.out]), HB1.out⟩
      · have HN : Hid (∀ j, j < k + 1 → ky l j ≠ key) := fun j hj => by
          rcases Nat.lt_or_ge j k with h1 | h1
          · exact hno j h1
          · obtain rfl : j = k := by omega
            exact hkey
        have e1 : (ky l k == key) = false := by simp [hkey]
        rw [e1] at hcall
        have HCALL := Lib.hid hcall
        clear hcall hkey hno e1
        go_wp2_with fail
        refine HCALL.out.mono ?_
        rintro e w1 ⟨rfl, hb1⟩
        have HB1 := Lib.hid (HNX.out.trans (hb1.mono HNX.out.size))
        clear hb1
        go_wp2
        go_roundw
        case rel => exact ⟨k + 1, by omega, by go_num, HN.out, HB1.out⟩
        case measure => simp [intOf]; omega
    · have HF : Hid (ixK l key = -1) := ixK_none (fun j hj => hno j (by rw [Hlen.out] at hj; omega))
      clear hno
      go_wp2
      go_ret
      exact ⟨ret_int (by rw [HF.out]), hnx⟩

set_option maxRecDepth 100000 in
set_option maxHeartbeats 1000000 in
theorem clone_any (A : Option Addr) (n c : Nat) (l : PL) (w : World) (h : PS w A n c l) (hn : n ≤ 1000) :
    Calls Tryz.prog 84 #[.slice A n c] w fun e w' => ∃ v, e = .returned v ∧ OwnR w' w.heap.size 82 v l ∧ Below w.heap.size w w' := by
  have H := Lib.hid h
  have Hlen := Lib.hid h.len
  clear h
  have heq := fun w => Lib.run_eql_slice_nil (P := Tryz.prog) w 41 82 A n c 0 0 Tryz.underlying41
  cases A with
  | none =>
    have hl : l = [] := by
      rcases Nat.eq_zero_or_pos n with h0 | h0
      · exact List.eq_nil_of_length_eq_zero (by rw [Hlen.out]; exact h0)
      · obtain ⟨b, off, e, _⟩ := H.out.dat h0; cases e
    have HL := Lib.hid hl
    clear hl
    go_enter Tryz.func84, Tryz.ntmps84
    go_wp2
    go_ret
    refine ⟨_, rfl, ?_, Below.refl _ _⟩
    rw [HL.out]
    exact World.ownsRow_nil _ _ _ _
  | some ad =>
    go_enter Tryz.func84, Tryz.ntmps84
    go_wp2_with (at_builtin; refine wpList_app2 rfl (.tmp 5) (.tmp 6) 41 rfl 82 Tryz.underlying41 spot_info w.heap.size (.slice (some ⟨w.heap.size, 0, none⟩) 0 0) [] l (some ad) n c rfl rfl (own2_empty (heap_alloc_new w _) (Nat.le_refl _)) (H.out.alloc _).src (by simp; omega) (by simp) ?_; intro v' w' hown hgrow _)
    go_ret
    refine ⟨_, rfl, by simpa [OwnR] using hown, ?_⟩
    exact (((Below.refl _ _).alloc (Nat.le_refl _) _)).grown hgrow (by simp) (by simp [Value.ownBlock])

set_option maxRecDepth 100000 in
set_option maxHeartbeats 1000000 in
theorem shift_any (g x m c : Nat) (by_ : Int) (L : PL) (w : World) (h : SB w g 82 L) (hx : x + m ≤ L.length) (hL : L.length ≤ 1000) (hmc : m ≤ c) (hd : ∀ i, -1000 ≤ dp L i ∧ dp L i ≤ 1000) (hby : -1 ≤ by_ ∧ by_ ≤ 1) :
    Calls Tryz.prog 85 #[.slice (some ⟨g, x * 2, none⟩) m c, I by_] w fun e w' => e = .returned (.tuple #[]) ∧ SB w' g 82 (shf L x (x + m) by_) ∧ ∀ B, B ≤ g → Below B w w' := by
  have H := Lib.hid h
  have HD := Lib.hid hd
  clear h hd
  obtain ⟨hy1, hy2⟩ := hby
  go_enter Tryz.func85, Tryz.ntmps85
  go_wp2
  go_loopw [7] (fun i wr => ∃ k : Nat, k ≤ m ∧ i = .int .i64 k ∧ SB wr g 82 (shf L x (x + k) by_) ∧ ∀ B, B ≤ g → Below B w wr) (fun i _ => m - (intOf i).toNat)
  case atStart => exact ⟨0, Nat.zero_le _, rfl, by rw [Nat.add_zero, shf_none]; exact H.out, fun B _ => Below.refl _ _⟩
  case round =>
    obtain ⟨k, hk, rfl, hsb, hnx⟩ := hrel
    by_cases hlt : k < m
    · have hsl := shf_length L x (x + k) by_ (by omega)
      have hfar := shf_far L x (x + k) by_ (by omega) (by omega)
      obtain ⟨hd1, hd2⟩ := HD.out (x + k)
      have hcell := (hsb.cell (x + k) (by omega)).2
      rw [hfar] at hcell
      have hcell2 : wr.cell? ⟨g, x * 2 + k * 2 + 1, none⟩ = some (I (dp L (x + k))) := by rw [← Nat.add_mul]; exact hcell
      have hfz : wr.frozen? ⟨g, x * 2 + k * 2 + 1, none⟩ = false := hsb.frozen _
      have hset := hsb.set1 (x + k) (dp L (x + k) + by_) (by omega)
      have hst := shf_step L x (x + k) by_ (by omega) (by omega)
      rw [hfar] at hst
      rw [hst] at hset
      have HSET : Hid (SB (wr.setCell ⟨g, x * 2 + k * 2 + 1, none⟩ (I (dp L (x + k) + by_))) g 82 (shf L x (x + (k + 1)) by_)) := by
        show SB _ _ _ _
        rw [← Nat.add_mul]
        exact hset
      have HNX := Lib.hid hnx
      clear hsl hfar hcell hset hst hsb hnx
      go_wp2
      go_roundw
      case rel => exact ⟨k + 1, by omega, by go_num, HSET.out, fun B hB => (HNX.out B hB).setCell hB _⟩
      case measure => simp [intOf]; omega
    · obtain rfl : k = m := by omega
      have HSB := Lib.hid hsb
      have HNX := Lib.hid hnx
      clear hsb hnx
      go_wp2
      go_end0
      exact ⟨rfl, HSB.out, HNX.out⟩

end Go.Proofs.YtpnjnedfcdppaaaGreatDoor

/-
  shape.Turn.
-/
namespace Go.Proofs.YtpnjnedfcdppaaaGreatDoor
open Go.RowKit

/-- a list of spots in new memory, and no error -/
def RetSp (L : PL) (w : World) (e : Ending) (w' : World) : Prop :=
  ∃ A n c, e = .returned (.tuple #[.slice A n c, I 0]) ∧ PS w' A n c L ∧ Below w.heap.size w w' ∧ ∀ ad, A = some ad → w.heap.size ≤ ad.block

theorem below_box {w w1 : World} {o : Obj} (h : Below (w.alloc o).heap.size (w.alloc o) w1) : Below w.heap.size w w1 := ((Below.refl _ _).alloc (Nat.le_refl _) o).trans (h.mono (by simp))
theorem below_on {w w1 w2 : World} (h : Below w.heap.size w w1) (h2 : Below w1.heap.size w1 w2) : Below w.heap.size w w2 := h.trans (h2.mono h.size)

theorem Turn_bad (A : Option Addr) (n c : Nat) (l : PL) (key : Int) (w : World) (h : PS w A n c l) (hn : n ≤ 9223372036854775807) (E : Int) (hE : chkS l = E) (hE0 : E ≠ 0) :
    Calls Tryz.prog 41 #[.slice A n c, I key] w fun e w' => e = .returned (.tuple #[.slice none 0 0, I E]) ∧ Below w.heap.size w w' := by
  have H := Lib.hid h
  have hq : (E != 0) = true := by simpa using hE0
  have HE := Lib.hid hE
  clear h hE hE0
  go_enter Tryz.func41, Tryz.ntmps41
  go_wp2_with fail
  refine (CheckS_is A n c l _ (H.out.alloc _) hn E HE.out).mono ?_
  rintro e w1 ⟨rfl, hb1⟩
  have HB1 := Lib.hid (below_box hb1)
  clear hb1
  go_wp2
  go_ret2
  exact ⟨rfl, HB1.out⟩

theorem box_cell {w w1 : World} {v : Value} {t : Nat} (h : Below (w.alloc (.cells #[v] t)).heap.size (w.alloc (.cells #[v] t)) w1) : w1.cell? ⟨w.heap.size, 0, none⟩ = some v ∧ w.heap.size < w1.heap.size := by
  refine ⟨?_, by have := h.size; simp at this; omega⟩
  rw [h.cell (p := ⟨w.heap.size, 0, none⟩) (by simp)]
  rw [cell_of_row _ _ _ _ _ _ (heap_alloc_new w _)]
  rfl

set_option maxRecDepth 100000 in
set_option maxHeartbeats 1000000 in
theorem Turn_none (A : Option Addr) (n c : Nat) (l : PL) (key : Int) (w : World) (h : PS w A n c l) (hT : IsTree l) (hx : ixK l key = -1) :
    Calls Tryz.prog 41 #[.slice A n c, I key] w fun e w' => e = .returned (.tuple #[.slice none 0 0, I 4]) ∧ Below w.heap.size w w' := by
  have hn : n ≤ 200 := by have := hT.1; rw [h.len] at this; exact this
  have H := Lib.hid h
  have HT := Lib.hid (chkS_zero.2 hT)
  have HX := Lib.hid hx
  clear h hT hx
  go_enter Tryz.func41, Tryz.ntmps41
  go_wp2_with fail
  refine (CheckS_is A n c l _ (H.out.alloc _) (by omega) 0 HT.out).mono ?_
  rintro e w1 ⟨rfl, hb1⟩
  have HB1 := Lib.hid (below_box hb1)
  have HBX := Lib.hid (box_cell hb1)
  clear hb1
  go_wp2_with fail
  refine (ixTurn_any A n c _ l key w1 (H.out.below HB1.out) (by omega) HBX.out.1 HBX.out.2).mono ?_
  rintro e w2 ⟨rfl, hb2⟩
  rw [HX.out]
  have HB2 := Lib.hid (below_on HB1.out hb2)
  clear hb2
  go_wp2
  go_ret2
  exact ⟨rfl, HB2.out⟩

set_option maxRecDepth 100000 in
set_option maxHeartbeats 1000000 in
theorem Turn_root (A : Option Addr) (n c i : Nat) (l : PL) (key : Int) (w : World) (h : PS w A n c l) (hT : IsTree l) (hx : ixK l key = i) (hi : i < n) (hd : dp l i = 0) :
    Calls Tryz.prog 41 #[.slice A n c, I key] w fun e w' => e = .returned (.tuple #[.slice none 0 0, I 4]) ∧ Below w.heap.size w w' := by
  have hn : n ≤ 200 := by have := hT.1; rw [h.len] at this; exact this
  have H := Lib.hid h
  have HT := Lib.hid (chkS_zero.2 hT)
  have HX := Lib.hid hx
  obtain ⟨b, off, rfl, hb, hc⟩ := H.out.dat (by omega)
  have HC : Hid (w.cell? ⟨b, off + i * 2 + 1, none⟩ = some (I 0)) := by show _ = _; rw [(hc i hi).2, hd]
  clear h hT hx hd hc
  go_enter Tryz.func41, Tryz.ntmps41
  go_wp2_with fail
  refine (CheckS_is _ n c l _ (H.out.alloc _) (by omega) 0 HT.out).mono ?_
  rintro e w1 ⟨rfl, hb1⟩
  have HB1 := Lib.hid (below_box hb1)
  have HBX := Lib.hid (box_cell hb1)
  clear hb1
  go_wp2_with fail
  refine (ixTurn_any _ n c _ l key w1 (H.out.below HB1.out) (by omega) HBX.out.1 HBX.out.2).mono ?_
  rintro e w2 ⟨rfl, hb2⟩
  rw [HX.out]
  have hc2 : w2.cell? ⟨b, off + i * 2 + 1, none⟩ = some (I 0) := ((below_on HB1.out hb2).cell (by exact hb)).trans HC.out
  have HB2 := Lib.hid (below_on HB1.out hb2)
  clear hb2
  go_wp2
  go_ret2
  exact ⟨rfl, HB2.out⟩

set_option maxRecDepth 100000 in
set_option maxHeartbeats 2000000 in
theorem Turn_ok (A : Option Addr) (n c i : Nat) (l : PL) (key : Int) (w : World) (h : PS w A n c l) (hT : IsTree l) (hx : ixK l key = i) (hi : i < n) (hd : dp l i ≠ 0) :
    Calls Tryz.prog 41 #[.slice A n c, I key] w (RetSp (turnL l i) w) := by
  have hn : n ≤ 200 := by have := hT.1; rw [h.len] at this; exact this
  have H := Lib.hid h
  have Hlen := Lib.hid h.len
  have HTR := Lib.hid hT
  have HT := Lib.hid (chkS_zero.2 hT)
  have HX := Lib.hid hx
  obtain ⟨j, hj, htd⟩ := turned_of hT (by rw [h.len]; exact hi) hd
  have hjn : j < n := by have := htd.lt; rw [h.len] at this; exact this
  have hne := htd.ne
  have HJ := Lib.hid hj
  have hz : (dp l i == 0) = false := by simpa using hd
  obtain ⟨b, off, rfl, hb, hc⟩ := H.out.dat (by omega)
  have HC := Lib.hid (hc i hi).2
  have hf := frR_le l j
  have hfi := htd.fr
  have hti := htd.to
  have ht := toR_bd l j htd.lt
  have HF : Hid (turnL l i = if i < j then shf (shf l (frR l j) (i + 1) (-1)) j (toR l j) 1 else shf (shf l (frR l j) (j + 1) 1) i (toR l j) (-1)) := by
    show _ = _
    unfold turnL
    rw [hj, Int.toNat_natCast]
  rw [h.len] at ht
  clear h hT hx hd hc hj htd
  go_enter Tryz.func41, Tryz.ntmps41
  go_wp2_with fail
  refine (CheckS_is _ n c l _ (H.out.alloc _) (by omega) 0 HT.out).mono ?_
  rintro e w1 ⟨rfl, hb1⟩
  have HB1 := Lib.hid (below_box hb1)
  have HBX := Lib.hid (box_cell hb1)
  clear hb1
  go_wp2_with fail
  refine (ixTurn_any _ n c _ l key w1 (H.out.below HB1.out) (by omega) HBX.out.1 HBX.out.2).mono ?_
  rintro e w2 ⟨rfl, hb2⟩
  rw [HX.out]
  have hc2 : w2.cell? ⟨b, off + i * 2 + 1, none⟩ = some (I (dp l i)) := ((below_on HB1.out hb2).cell (by exact hb)).trans HC.out
  have HB2 := Lib.hid (below_on HB1.out hb2)
  clear hb2
  go_wp2_with fail
  refine (parentOf_any _ n c i l w2 (H.out.below HB2.out) (by omega) hi).mono ?_
  rintro e w3 ⟨rfl, hb3⟩
  rw [HJ.out]
  have HB3 := Lib.hid (below_on HB2.out hb3)
  clear hb3 hc2
  go_wp2_with fail
  refine (partOf_any _ n c j l w3 (H.out.below HB3.out) (by omega) hjn).mono ?_
  rintro e w4 ⟨rfl, hb4⟩
  have HB4 := Lib.hid (below_on HB3.out hb4)
  clear hb4
  generalize frR l j = f at *
  generalize toR l j = t at *
  go_wp2_with fail
  refine (clone_any _ n c l w4 (H.out.below HB4.out) (by omega)).mono ?_
  rintro e w5 ⟨v, rfl, hown, hb5⟩
  obtain ⟨A5, c5, rfl, -, -⟩ := hown.ps
  obtain ⟨g, rfl, -, hg, hc5, hsb⟩ := hown.sb (by rw [Hlen.out]; omega)
  rw [Hlen.out] at hc5 ⊢
  have hgw : w.heap.size ≤ g := Nat.le_trans HB4.out.size hg
  have HB5 := Lib.hid (below_on HB4.out hb5)
  have HSB := Lib.hid hsb
  clear hb5 hown hsb
  have HD : Hid (∀ x, 0 ≤ dp l x ∧ dp l x ≤ 200) := tree_dp HTR.out
  rcases Nat.lt_or_ge i j with hij | hij
  · have hc1 : ¬ c5 = f := by omega
    have hc3 : ¬ c5 = j := by omega
    rw [if_pos hij] at HF
    go_wp2_with fail
    refine (shift_any g f (i + 1 - f) _ (-1) l w5 HSB.out (by rw [Hlen.out]; omega) (by rw [Hlen.out]; omega) (by omega) (fun x => by have := HD.out x; omega) (by omega)).mono ?_
    rintro e w6 ⟨rfl, hsb6, hb6⟩
    have e6 : f + (i + 1 - f) = i + 1 := by omega
    rw [e6] at hsb6
    have hl6 := shf_length l f (i + 1) (-1) (by omega)
    have HD6 : Hid (∀ x, -1000 ≤ dp (shf l f (i + 1) (-1)) x ∧ dp (shf l f (i + 1) (-1)) x ≤ 1000) := fun x => by
      have h1 := HD.out x
      rcases (shf_pt l f (i + 1) (-1) (by omega) (by rw [Hlen.out]; omega) x).2 with h2 | h2 <;> rw [h2] <;> omega
    have HB6 := Lib.hid (HB5.out.trans (hb6 w.heap.size hgw))
    have HSB6 := Lib.hid hsb6
    have HL6 := Lib.hid hl6
    clear hsb6 hb6 e6 hl6
    go_wp2_with fail
    refine (shift_any g j (t - j) _ 1 _ w6 HSB6.out (by rw [HL6.out, Hlen.out]; omega) (by rw [HL6.out, Hlen.out]; omega) (by omega) HD6.out (by omega)).mono ?_
    rintro e w7 ⟨rfl, hsb7, hb7⟩
    have e7 : j + (t - j) = t := by omega
    rw [e7, ← HF.out] at hsb7
    have HB7 := Lib.hid (HB6.out.trans (hb7 w.heap.size hgw))
    have hl7 : (turnL l i).length = n := by rw [HF.out, shf_length _ _ _ _ (by omega), HL6.out, Hlen.out]
    have hps := hsb7.ps (c := c5) (by omega)
    rw [hl7] at hps
    have HPS := Lib.hid hps
    clear hsb7 hb7 e7 hl7 hps
    go_wp2
    go_ret2
    exact ⟨_, n, c5, rfl, HPS.out, HB7.out, fun ad h => by cases h; exact hgw⟩
  · have hlt : j < i := by omega
    have hnij : ¬ i < j := by omega
    have hc1 : ¬ c5 = f := by omega
    have hc3 : ¬ c5 = i := by omega
    rw [if_neg hnij] at HF
    go_wp2_with fail
    refine (shift_any g f (j + 1 - f) _ 1 l w5 HSB.out (by rw [Hlen.out]; omega) (by rw [Hlen.out]; omega) (by omega) (fun x => by have := HD.out x; omega) (by omega)).mono ?_
    rintro e w6 ⟨rfl, hsb6, hb6⟩
    have e6 : f + (j + 1 - f) = j + 1 := by omega
    rw [e6] at hsb6
    have hl6 := shf_length l f (j + 1) 1 (by omega)
    have HD6 : Hid (∀ x, -1000 ≤ dp (shf l f (j + 1) 1) x ∧ dp (shf l f (j + 1) 1) x ≤ 1000) := fun x => by
      have h1 := HD.out x
      rcases (shf_pt l f (j + 1) 1 (by omega) (by rw [Hlen.out]; omega) x).2 with h2 | h2 <;> rw [h2] <;> omega
    have HB6 := Lib.hid (HB5.out.trans (hb6 w.heap.size hgw))
    have HSB6 := Lib.hid hsb6
    have HL6 := Lib.hid hl6
    clear hsb6 hb6 e6 hl6
    go_wp2_with fail
    refine (shift_any g i (t - i) _ (-1) _ w6 HSB6.out (by rw [HL6.out, Hlen.out]; omega) (by rw [HL6.out, Hlen.out]; omega) (by omega) HD6.out (by omega)).mono ?_
    rintro e w7 ⟨rfl, hsb7, hb7⟩
    have e7 : i + (t - i) = t := by omega
    rw [e7, ← HF.out] at hsb7
    have HB7 := Lib.hid (HB6.out.trans (hb7 w.heap.size hgw))
    have hl7 : (turnL l i).length = n := by rw [HF.out, shf_length _ _ _ _ (by omega), HL6.out, Hlen.out]
    have hps := hsb7.ps (c := c5) (by omega)
    rw [hl7] at hps
    have HPS := Lib.hid hps
    clear hsb7 hb7 e7 hl7 hps
    go_wp2
    go_ret2
    exact ⟨_, n, c5, rfl, HPS.out, HB7.out, fun ad h => by cases h; exact hgw⟩

end Go.Proofs.YtpnjnedfcdppaaaGreatDoor

/-
  nodeFirst; shape.Order, by way 1.
-/
namespace Go.Proofs.YtpnjnedfcdppaaaGreatDoor
open Go.RowKit

/-- node first -/
def Tr.pre : Tr → List Int
  | .nil => []
  | .node a k b => k :: (a.pre ++ b.pre)
theorem pre_length (t : Tr) : t.pre.length = t.size := by induction t <;> simp [Tr.pre, Tr.size, *]; omega

set_option maxRecDepth 100000 in
set_option maxHeartbeats 2000000 in
theorem nodeFirst_any (t : Tr) : ∀ (A : Option Addr) (n c base : Nat) (d : Int) (v : Value) (K : List Int) (w : World), PS w A n c (t.sp d) → (0 < n → ∀ ad, A = some ad → ad.block < base) → OwnI w base v K → base ≤ w.heap.size → K.length + n ≤ 1000 →
    Calls Tryz.prog 210 #[v, .slice A n c] w (RetOwn (K ++ t.pre) base w) := by
  induction t with
  | nil =>
    intro A n c base d v K w h hA hown hbase hK
    obtain rfl : n = 0 := by have := h.len; simpa [Tr.sp] using this.symm
    have HO := Lib.hid hown
    clear h hown
    go_enter Tryz.func210, Tryz.ntmps210
    go_wp2
    go_ret
    exact ⟨v, rfl, by simpa [Tr.pre] using HO.out, Below.refl _ _⟩
  | node a k b iha ihb =>
    intro A n c base d v K w h hA hown hbase hK
    have hlen : n = a.size + 1 + b.size := by rw [← h.len, sp_length]; rfl
    have hcap := h.rd.1
    have htop := topOf_any A n c _ w h (by omega) (by omega)
    rw [topR_sp] at htop
    obtain ⟨x, hx⟩ : ∃ x, a.size = x := ⟨_, rfl⟩
    have hxn : x < n := by omega
    have HL : Hid (PS w A x c (a.sp (d + 1))) := by
      have := h.take x (by omega)
      rw [← hx, (sp_parts a b k d).1] at this
      rw [← hx]
      exact this
    have HR : Hid (∀ sp c', (x + 1 < n → ∀ b off, A = some ⟨b, off, none⟩ → sp = some ⟨b, off + (x + 1) * 2, none⟩) → n - (x + 1) ≤ c' → PS w sp (n - (x + 1)) c' (b.sp (d + 1))) := fun sp c' h1 h2 => by
      have := h.drop (x + 1) (by omega) sp h1 h2
      rw [← hx, (sp_parts a b k d).2] at this
      rw [← hx]
      exact this
    obtain ⟨bb, off, rfl, hbl, hcs⟩ := h.dat (by omega)
    have hbb : bb < base := hA (by omega) _ rfl
    have HC : Hid (w.cell? ⟨bb, off + x * 2, none⟩ = some (I k)) := by
      show _ = _
      rw [(hcs x hxn).1, ← hx, (sp_root a b k d).2]
    rw [hx] at htop
    have HTOP := Lib.hid htop
    have HO := Lib.hid hown
    have IHA := Lib.hid iha
    have IHB := Lib.hid ihb
    have HX := Lib.hid hx
    have HN := Lib.hid hlen
    have hsb : n - (x + 1) = b.size := by omega
    have HSB := Lib.hid hsb
    have hnb : ((n : Int) == 0) = false := by simp; omega
    have hn1 : n ≤ 1000 := by omega
    obtain ⟨i0, hi, hz0, hz1, hz2⟩ := info_parts int_info
    have HI := Lib.hid hi
    have HZ0 := Lib.hid hz0
    have HZ1 := Lib.hid hz1
    have HZ2 := Lib.hid hz2
    clear h htop hown iha ihb hx hlen hsb hi hz0 hz1 hz2 hcs hA
    go_enter Tryz.func210, Tryz.ntmps210
    go_wp2_with fail
    refine HTOP.out.mono ?_
    rintro e w1 ⟨rfl, hb1⟩
    have hc1 : w1.cell? ⟨bb, off + x * 2, none⟩ = some (I k) := (hb1.cell (by exact hbl)).trans HC.out
    have HO1 := Lib.hid (own_below HO.out hb1)
    have hz1 : base ≤ w1.heap.size := Nat.le_trans hbase hb1.size
    have HB1 := Lib.hid (hb1.mono hbase)
    clear hb1
    go_wp2_with (first
      | (at_builtin
         refine wpList_append_own_at _ rfl (.tmp 12) (.tmp 18) 46 rfl base 3 i0 _ 1 8 Tryz.underlying46 HI.out HZ0.out HZ1.out HZ2.out rfl (by omega) v K.length (K.map I) rfl (own_below HO1.out ((Below.refl _ _).alloc (Nat.le_refl _) _)) ⟨w1.heap.size, 0, none⟩ 1 1 [I k] rfl rfl (cell_one_new _ _ _) (one_I k) (by unfold maxLen; omega) (by omega) (by simp; omega) ?_
         intro v2 w2 hown2 hgrow2 _ _)
      | fail)
    have hb2 : Below base w w2 := ((HB1.out.alloc hz1 _)).grown hgrow2 (by simp; omega) (own_ge1 HO1.out)
    have ho2 : OwnI w2 base v2 (K ++ [k]) := by
      have : (K ++ [k]).length = K.length + 1 := by simp
      unfold OwnI
      rw [this]
      simpa using hown2
    have hz2 : base ≤ w2.heap.size := Nat.le_trans hbase hb2.size
    have HB2 := Lib.hid hb2
    have HO2 := Lib.hid ho2
    clear hown2 hgrow2 hb2 ho2
    refine (IHA.out _ x c base (d + 1) v2 (K ++ [k]) w2 (HL.out.low (fun ad h => by cases h; exact hbb) HB2.out) (fun _ ad h => by cases h; exact hbb) HO2.out hz2 (by simp; omega)).mono ?_
    rintro e w3 ⟨v3, rfl, ho3, hb3⟩
    have HB3 := Lib.hid (HB2.out.trans hb3)
    have HO3 := Lib.hid ho3
    clear hb3 ho3
    go_wp2_with fail
    all_goals
      refine (IHB.out _ (n - (x + 1)) _ base (d + 1) v3 (K ++ [k] ++ a.pre) w3 ((HR.out _ _ ?hs ?hcc).low ?hlow HB3.out) (fun _ => ?hlow2) HO3.out (Nat.le_trans hbase HB3.out.size) ?hl).mono ?_
      case hs =>
        intro hlt b' off' he
        cases he
        first | rfl | (exfalso; omega)
      case hcc => omega
      case hlow => intro ad h; cases h; exact hbb
      case hlow2 => intro ad h; cases h; exact hbb
      case hl => simp [pre_length, HX.out]; omega
      rintro e w4 ⟨v4, rfl, ho4, hb4⟩
      have HB4 := Lib.hid (HB3.out.trans hb4)
      have HO4 := Lib.hid ho4
      clear hb4 ho4
      go_wp2
      go_ret
      exact ⟨v4, rfl, by simpa [Tr.pre] using HO4.out, HB4.out⟩

set_option maxRecDepth 100000 in
set_option maxHeartbeats 1000000 in
theorem Order1_ok (A : Option Addr) (n c : Nat) (l : PL) (t : Tr) (w : World) (h : PS w A n c l) (hT : IsTree l) (ht : l = t.sp 0) :
    Calls Tryz.prog 164 #[.slice A n c, I 1] w (RetIs t.pre w) := by
  have hn : n ≤ 200 := by have := hT.1; rw [h.len] at this; exact this
  have H := Lib.hid h
  have HCH := Lib.hid (CheckS_is A n c l w h (by omega) 0 (chkS_zero.2 hT))
  have HT := Lib.hid ht
  have hlow : ∀ ad, A = some ad → 0 < n → ad.block < w.heap.size := by
    intro ad e h0
    obtain ⟨b, off, e', hb, _⟩ := h.dat h0
    rw [e'] at e
    cases e
    exact hb
  have HLOW := Lib.hid hlow
  clear h hT ht hlow
  obtain ⟨O, HO, hmk⟩ : ∃ O, Hid (O = .cells ((List.replicate n (0 : Int)).map I).toArray 3) ∧ ∀ w, (Instr.makeSlice 46 (.int .i64 0) (.int .i64 (n : Int))).run Tryz.prog w = .ok (.slice (some ⟨w.heap.size, 0, none⟩) 0 n) (w.alloc O) :=
    ⟨_, Lib.hid rfl, fun w => run_makeI (P := Tryz.prog) 46 3 Tryz.underlying46 int_info 0 n (by omega) (by omega) w⟩
  go_enter Tryz.func164, Tryz.ntmps164
  go_wp2_with fail
  refine HCH.out.mono ?_
  rintro e w1 ⟨rfl, hb1⟩
  have HB1 := Lib.hid hb1
  have hz1 := hb1.size
  clear hb1
  go_wp2_with fail
  have hown : OwnI (w1.alloc O) w1.heap.size (.slice (some ⟨w1.heap.size, 0, none⟩) 0 n) [] := by
    rw [HO.out]
    exact ⟨rfl, .inr ⟨w1.heap.size, n, _, rfl, Nat.le_refl _, heap_alloc_new w1 _, Nat.zero_le _, by unfold maxLen; omega, by simp, rfl⟩⟩
  have hps := (H.out.below HB1.out).alloc O
  rw [HT.out] at hps
  refine (nodeFirst_any t A n c w1.heap.size 0 _ [] _ hps (fun h0 ad e => Nat.lt_of_lt_of_le (HLOW.out ad e h0) hz1) hown (by simp) (by simp; omega)).mono ?_
  rintro e w2 ⟨v2, rfl, ho2, hb2⟩
  obtain ⟨A2, c2, rfl, his, hge⟩ := ho2.is_
  have HB2 : Hid (Below w.heap.size w w2) := (HB1.out.alloc hz1 _).trans (hb2.mono hz1)
  have HIS := Lib.hid his
  have HGE := Lib.hid hge
  clear hps ho2 hb2 his hge hown
  go_wp2
  go_ret2
  exact ⟨A2, _, c2, rfl, HIS.out, HB2.out, fun ad h => Nat.le_trans hz1 (HGE.out ad h)⟩

end Go.Proofs.YtpnjnedfcdppaaaGreatDoor

/-
  BY OTHER OPS TO THE SAME KEYS, as lists. Nothing is walked here.
-/
namespace Go.Proofs.YtpnjnedfcdppaaaGreatDoor

def foldL (ops : List OP) (l : PL) : PL := ops.foldl (fun l o => doL l o.1 o.2.1 o.2.2) l
theorem step_fst (ops : List OP) : ∀ s : PL × List An, (ops.foldl stepR s).1 = foldL ops s.1 := by
  induction ops with
  | nil => intro s; rfl
  | cons o t ih => intro s; rw [List.foldl_cons, ih]; rfl
theorem runR_fst (ops : List OP) : (runR ops).1 = foldL ops [] := step_fst ops ([], [])
theorem foldL_append (a b : List OP) (l : PL) : foldL (a ++ b) l = foldL b (foldL a l) := by simp [foldL, List.foldl_append]
theorem doL_grow (l : PL) (kind key val : Int) : (doL l kind key val).length ≤ l.length + 1 := by
  unfold doL
  by_cases hc : chk l = 0
  · rw [if_neg (by simpa using hc)]
    split
    · omega
    · split
      · unfold putL
        split
        · simp
        · split
          · omega
          · have := cnt_le l key
            simp
            omega
      · split
        · unfold cutL
          split
          · simp
            omega
          · omega
        · omega
  · rw [if_pos hc]; simp
theorem foldL_len (ops : List OP) : ∀ l : PL, (foldL ops l).length ≤ l.length + ops.length := by
  induction ops with
  | nil => intro l; simp [foldL]
  | cons o t ih =>
    intro l
    have h1 := ih (doL l o.1 o.2.1 o.2.2)
    have h2 := doL_grow l o.1 o.2.1 o.2.2
    show (foldL t (doL l o.1 o.2.1 o.2.2)).length ≤ _
    rw [List.length_cons]
    omega
theorem runR_grow (ops : List OP) : (runR ops).1.length ≤ ops.length := by
  rw [runR_fst]
  simpa using foldL_len ops []

def cutsOf (ks : List Int) : List OP := ks.map fun k => (3, k, 0)
def putsOf (ks : List Int) : List OP := ks.map fun k => (1, k, 0)
theorem srt_pw : ∀ (l : PL) (lo : Int), Srt lo l → (kys l).Pairwise (· < ·) ∧ ∀ x ∈ kys l, lo ≤ x ∧ x ≤ 1000000
  | [], _, _ => ⟨List.Pairwise.nil, fun x h => by cases h⟩
  | p :: t, lo, h => by
    obtain ⟨h1, h2, h3⟩ := h
    obtain ⟨h4, h5⟩ := srt_pw t (p.1 + 1) h3
    refine ⟨List.Pairwise.cons (fun x hx => ?_) h4, fun x hx => ?_⟩
    · have := h5 x hx
      omega
    · rcases List.mem_cons.1 hx with rfl | hx
      · exact ⟨h1, h2⟩
      · have := h5 x hx
        omega
theorem rise_kys {l : PL} (h : chk l = 0) : Rise (kys l) := by
  obtain ⟨h1, h2⟩ := (chk_zero l).1 h
  obtain ⟨h3, h4⟩ := srt_pw l 0 h2
  exact ⟨by rw [kys_len]; exact h1, h3, h4⟩
theorem srt_of : ∀ (t : List Int) (lo : Int), t.Pairwise (· < ·) → (∀ x ∈ t, lo ≤ x ∧ x ≤ 1000000) → Srt lo (t.map fun k => (k, (0 : Int)))
  | [], _, _, _ => trivial
  | k :: t, lo, hp, hb => by
    have h1 := hb k (by simp)
    refine ⟨h1.1, h1.2, srt_of t (k + 1) (List.pairwise_cons.1 hp).2 fun x hx => ?_⟩
    have h2 := (List.pairwise_cons.1 hp).1 x hx
    have h3 := hb x (by simp [hx])
    omega
theorem cuts_all : ∀ (l : PL) (lo : Int), 0 ≤ lo → Srt lo l → l.length ≤ 200 → foldL (cutsOf (kys l)) l = []
  | [], _, _, _, _ => rfl
  | p :: t, lo, h0, hs, hl => by
    have hc : chk (p :: t) = 0 := (chk_zero _).2 ⟨hl, hs.mono h0⟩
    obtain ⟨h1, h2, h3⟩ := hs
    have hk : keyB p.1 = true := by simp [keyB]; omega
    have e : doL (p :: t) 3 p.1 0 = t := by
      rw [doL_cut hc, hk, if_pos rfl, cutL_eq]
      show (if p.1 < p.1 then _ else _) = t
      rw [if_neg (by omega), if_pos rfl]
    show foldL (cutsOf (kys t)) (doL (p :: t) 3 p.1 0) = []
    rw [e]
    exact cuts_all t (p.1 + 1) (by omega) h3 (by rw [List.length_cons] at hl; omega)
theorem puts_all : ∀ (ks : List Int), Rise ks → foldL (putsOf ks.reverse) [] = ks.map fun k => (k, (0 : Int))
  | [], _ => rfl
  | k :: t, h => by
    have hp := List.pairwise_cons.1 h.pw
    have hl : (k :: t).length ≤ 200 := h.len
    rw [List.length_cons] at hl
    have ht : Rise t := ⟨by omega, hp.2, fun x hx => h.bd x (by simp [hx])⟩
    have hkb := h.bd k (by simp)
    have hs : Srt (k + 1) (t.map fun k => (k, (0 : Int))) := srt_of t (k + 1) hp.2 fun x hx => by
      have := hp.1 x hx
      have := h.bd x (by simp [hx])
      omega
    have hc : chk (t.map fun k => (k, (0 : Int))) = 0 := (chk_zero _).2 ⟨by simp; omega, hs.mono (by omega)⟩
    have hk : keyB k = true := by simp [keyB]; omega
    rw [List.reverse_cons]
    unfold putsOf
    rw [List.map_append, foldL_append]
    have ih := puts_all t ht
    unfold putsOf at ih
    rw [ih]
    show doL _ 1 k 0 = _
    rw [doL_put hc, hk, if_pos rfl, putL_eq, if_pos (.inr (by simp; omega)), ins_low _ k 0 (k + 1) hs (by omega)]
    rfl
theorem kys_zero (ks : List Int) : kys (ks.map fun k => (k, (0 : Int))) = ks := by
  unfold kys
  rw [List.map_map]
  exact List.map_id'' (fun _ => rfl) ks
theorem kys_final (mo : List OP) (ks : List Int) (hR : Rise ks) : kys (runR (mo ++ cutsOf (kys (runR mo).1) ++ putsOf ks.reverse)).1 = ks := by
  obtain ⟨h1, h2⟩ := (chk_zero _).1 (chk_runR mo)
  rw [runR_fst, foldL_append, foldL_append, ← runR_fst, cuts_all _ 0 (Int.le_refl _) h2 h1, puts_all ks hR, kys_zero]
end Go.Proofs.YtpnjnedfcdppaaaGreatDoor

/-
  What the desk answers: plain.
-/
namespace Go.Proofs.YtpnjnedfcdppaaaGreatDoor

/-- where the highest one stands, of one rank the first -/
def spM : PL → Option (PL × (Int × Int) × PL)
  | [] => none
  | p :: t => match spM t with
    | none => some ([], p, [])
    | some (la, q, lb) => if p.2 < q.2 then some (p :: la, q, lb) else some ([], p, t)
def zTF : Nat → PL → Tr
  | 0, _ => .nil
  | n + 1, l => match spM l with
    | none => .nil
    | some (la, q, lb) => .node (zTF n la) q.1 (zTF n lb)
/-- the tree of keys by heights -/
def zT (ks : List Int) : Tr := zTF ks.length (zpl ks)
theorem spM_none : ∀ {l : PL}, spM l = none → l = []
  | [], _ => rfl
  | p :: t, h => by
    unfold spM at h
    split at h
    · cases h
    · split at h <;> cases h
theorem spM_some : ∀ {l la lb : PL} {q : Int × Int}, spM l = some (la, q, lb) → l = la ++ q :: lb ∧ (∀ p ∈ la, p.2 < q.2) ∧ (∀ p ∈ lb, p.2 ≤ q.2)
  | [], la, lb, q, h => by cases h
  | p :: t, la, lb, q, h => by
    unfold spM at h
    cases hs : spM t with
    | none =>
      rw [hs] at h
      cases h
      have := spM_none hs
      subst this
      exact ⟨rfl, by simp, by simp⟩
    | some x =>
      obtain ⟨la', q', lb'⟩ := x
      rw [hs] at h
      obtain ⟨e, h1, h2⟩ := spM_some hs
      by_cases hlt : p.2 < q'.2
      · simp only [hlt, if_true, Option.some.injEq, Prod.mk.injEq] at h
        obtain ⟨rfl, rfl, rfl⟩ := h
        refine ⟨by rw [e]; rfl, fun r hr => ?_, h2⟩
        rcases List.mem_cons.mp hr with rfl | hr
        · exact hlt
        · exact h1 r hr
      · simp only [hlt, if_false, Option.some.injEq, Prod.mk.injEq] at h
        obtain ⟨rfl, rfl, rfl⟩ := h
        refine ⟨rfl, by simp, fun r hr => ?_⟩
        rw [e] at hr
        rcases List.mem_append.mp hr with hr | hr
        · have := h1 r hr; omega
        · rcases List.mem_cons.mp hr with rfl | hr
          · omega
          · have := h2 r hr; omega
theorem zTF_hp : ∀ (n : Nat) (l : PL), l.length ≤ n → Hp (zTF n l) l
  | 0, l, h => List.eq_nil_of_length_eq_zero (by omega)
  | n + 1, l, h => by
    unfold zTF
    cases hs : spM l with
    | none => exact spM_none hs
    | some x =>
      obtain ⟨la, q, lb⟩ := x
      obtain ⟨e, h1, h2⟩ := spM_some hs
      have hl : la.length + lb.length + 1 = l.length := by rw [e]; simp; omega
      exact ⟨la, q.2, lb, e, zTF_hp n la (by omega), zTF_hp n lb (by omega), h1, h2⟩
theorem zT_hp (ks : List Int) : Hp (zT ks) (zpl ks) := zTF_hp _ _ (by rw [zpl_length]; exact Nat.le_refl _)

/-- the tree of that name -/
def dTree (ops : List OP) (x : List UInt8) : Option Tr :=
  if x = [103, 114, 111, 119] then some (grT ops)
  else if x = [122, 105, 112] then some (zT (kys (runR ops).1))
  else if x = [103, 111, 97, 116] then some (goT ops).t
  else if x = [101, 118, 101, 110] then some (ev (kys (runR ops).1))
  else none
def rowsT (rs : List (List Int)) : List UInt8 := Lib.join (rs.map jnd) [124]
def deepT (t : Tr) : List UInt8 := if t.tall = 0 then [110, 111, 110, 101] else dg (t.tall - 1)
def e1T : List UInt8 := errT 1
/- dAns by parts -/
def pathR (ops : List OP) : Option (List Nat) → List UInt8 × List OP
  | some [k] => (if kyB (k : Int) then orN (jnd ((stops (kys (runR ops).1) k).map Prod.snd)) else e1T, ops)
  | _ => (e1T, ops)
def ordR (ops : List OP) : List (List UInt8) → List UInt8 × List OP
  | [x] => (match dTree ops x with | some t => orN (jnd t.pre) | none => e1T, ops)
  | _ => (e1T, ops)
def deepR (ops : List OP) : List (List UInt8) → List UInt8 × List OP
  | [x] => (match dTree ops x with | some t => deepT t | none => e1T, ops)
  | _ => (e1T, ops)
def opR (ops : List OP) : Option (Int × Int × Int) → List UInt8 × List OP
  | none => (e1T, ops)
  | some (k, a, b) => if (doA (runR ops).1 k a).e ≠ 0 then (errT (doA (runR ops).1 k a).e.toNat, ops) else (dTold k (doA (runR ops).1 k a), ops ++ [(k, a, b)])
theorem pathR_t {ops : List OP} {k : Nat} (h : kyB (k : Int) = true) : pathR ops (some [k]) = (orN (jnd ((stops (kys (runR ops).1) k).map Prod.snd)), ops) := by
  show ((if kyB (k : Int) = true then _ else _), ops) = _
  rw [if_pos h]
theorem pathR_f {ops : List OP} {k : Nat} (h : kyB (k : Int) = false) : pathR ops (some [k]) = (e1T, ops) := by
  show ((if kyB (k : Int) = true then _ else _), ops) = _
  rw [if_neg (by rw [h]; decide)]
theorem ordR_some {ops : List OP} {x : List UInt8} {t : Tr} (h : dTree ops x = some t) : ordR ops [x] = (orN (jnd t.pre), ops) := by
  show ((match dTree ops x with | some t => orN (jnd t.pre) | none => e1T), ops) = _
  rw [h]
theorem ordR_none {ops : List OP} {x : List UInt8} (h : dTree ops x = none) : ordR ops [x] = (e1T, ops) := by
  show ((match dTree ops x with | some t => orN (jnd t.pre) | none => e1T), ops) = _
  rw [h]
theorem deepR_some {ops : List OP} {x : List UInt8} {t : Tr} (h : dTree ops x = some t) : deepR ops [x] = (deepT t, ops) := by
  show ((match dTree ops x with | some t => deepT t | none => e1T), ops) = _
  rw [h]
theorem deepR_none {ops : List OP} {x : List UInt8} (h : dTree ops x = none) : deepR ops [x] = (e1T, ops) := by
  show ((match dTree ops x with | some t => deepT t | none => e1T), ops) = _
  rw [h]
/-- a line's answer, and the ops behind it -/
def dAns (ops : List OP) : List (List UInt8) → List UInt8 × List OP
  | [] => ([], ops)
  | first :: rest =>
    if kindB first ≠ 0 then opR ops (dOp (kindB first) rest)
    else if first = [112, 97, 116, 104] then pathR ops (nms 1 rest)
    else if first = [114, 111, 119, 115] then (if rest.length = 0 then orN (rowsT (rowsL (kys (runR ops).1))) else e1T, ops)
    else if first = [116, 114, 101, 101] then ordR ops rest
    else if first = [100, 101, 101, 112] then deepR ops rest
    else (e1T, ops)
/-- all answers -/
def dRunL : List OP → List (List (List UInt8)) → List UInt8
  | _, [] => []
  | ops, w :: r => (dAns ops w).1 ++ [10] ++ dRunL (dAns ops w).2 r
def deskP (text : List UInt8) : List UInt8 :=
  if 8192 < text.length then errT 2 ++ [10] else if 100 < (dln text).length then errT 2 ++ [10] else dRunL [] (dln text)

/- what holds of all ops that were done -/
structure OB2 (ops : List OP) : Prop where
  each : ∀ o ∈ ops, 0 ≤ o.2.1 ∧ o.2.1 < 100000000 ∧ 0 ≤ o.2.2 ∧ o.2.2 < 100000000
theorem doL_vals {l : PL} {kind key val : Int} (hl : ∀ p ∈ l, 0 ≤ p.2 ∧ p.2 < 100000000) (hv : 0 ≤ val ∧ val < 100000000) : ∀ p ∈ doL l kind key val, 0 ≤ p.2 ∧ p.2 < 100000000 := by
  intro p hp
  unfold doL at hp
  repeat' split at hp
  · cases hp
  · exact hl p hp
  · unfold putL at hp
    repeat' split at hp
    · rcases List.mem_or_eq_of_mem_set hp with h | rfl
      · exact hl p h
      · exact hv
    · exact hl p hp
    · rcases List.mem_append.mp hp with h | h
      · exact hl p (List.mem_of_mem_take h)
      · rcases List.mem_cons.mp h with rfl | h
        · exact hv
        · exact hl p (List.mem_of_mem_drop h)
  · unfold cutL at hp
    split at hp
    · rcases List.mem_append.mp hp with h | h
      · exact hl p (List.mem_of_mem_take h)
      · exact hl p (List.mem_of_mem_drop h)
    · exact hl p hp
  · exact hl p hp
theorem runR_snoc (ops : List OP) (o : OP) : (runR (ops ++ [o])).1 = doL (runR ops).1 o.1 o.2.1 o.2.2 := by
  unfold runR
  rw [List.foldl_append]
  rfl
theorem runR_vals : ∀ (n : Nat) (ops : List OP), ops.length = n → OB2 ops → ∀ p ∈ (runR ops).1, 0 ≤ p.2 ∧ p.2 < 100000000 := by
  intro n
  induction n with
  | zero =>
    intro ops h _ p hp
    have : ops = [] := List.eq_nil_of_length_eq_zero h
    subst this
    cases hp
  | succ n ih =>
    intro ops h hb
    obtain ⟨ops', o, rfl⟩ : ∃ a o, ops = a ++ [o] := by
      rcases List.eq_nil_or_concat ops with e | ⟨a, o, e⟩
      · subst e; cases h
      · exact ⟨a, o, by rw [e]; simp⟩
    rw [runR_snoc]
    refine doL_vals (ih ops' (by simp at h; exact h) ⟨fun x hx => hb.each x (List.mem_append_left _ hx)⟩) ?_
    have := hb.each o (by simp)
    exact ⟨this.2.2.1, this.2.2.2⟩
theorem getD_mem {l : PL} {i : Nat} (h : i < l.length) : l[i]?.getD (0, 0) ∈ l := by
  rw [List.getElem?_eq_getElem h]
  exact List.getElem_mem h
theorem pairA_bd {l : PL} {p : Int} (hl : ∀ q ∈ l, (0 ≤ q.1 ∧ q.1 < 100000000) ∧ 0 ≤ q.2 ∧ q.2 < 100000000) : 0 ≤ (pairA l p).k ∧ (pairA l p).k < 100000000 ∧ 0 ≤ (pairA l p).v ∧ (pairA l p).v < 100000000 := by
  unfold pairA
  split
  · next h =>
    have := hl _ (getD_mem (l := l) (i := p.toNat) (by omega))
    exact ⟨this.1.1, this.1.2, this.2.1, this.2.2⟩
  · exact ⟨by decide, by decide, by decide, by decide⟩
theorem hasB_in {l : PL} {p : Nat} {key : Int} (h : hasB l p key = true) : p < l.length := hasB_lt h
theorem getA_bd {l : PL} {key : Int} (hl : ∀ q ∈ l, (0 ≤ q.1 ∧ q.1 < 100000000) ∧ 0 ≤ q.2 ∧ q.2 < 100000000) : 0 ≤ (getA l key).k ∧ (getA l key).k < 100000000 ∧ 0 ≤ (getA l key).v ∧ (getA l key).v < 100000000 := by
  unfold getA
  split
  · next h =>
    have := hl _ (getD_mem (l := l) (hasB_lt h))
    exact ⟨Int.le_refl 0, (by decide : (0 : Int) < 100000000), this.2.1, this.2.2⟩
  · exact ⟨by decide, by decide, by decide, by decide⟩
theorem doA_bd {l : PL} {kind key : Int} (hc : chk l = 0) (hl : ∀ q ∈ l, 0 ≤ q.2 ∧ q.2 < 100000000) : 0 ≤ (doA l kind key).k ∧ (doA l kind key).k < 100000000 ∧ 0 ≤ (doA l kind key).v ∧ (doA l kind key).v < 100000000 := by
  have hk : ∀ q ∈ l, (0 ≤ q.1 ∧ q.1 < 100000000) ∧ 0 ≤ q.2 ∧ q.2 < 100000000 := fun q hq => by
    have := (rise_kys hc).bd q.1 (List.mem_map.mpr ⟨q, hq, rfl⟩)
    exact ⟨by omega, hl q hq⟩
  have h200 := chk_len hc
  unfold doA
  rw [if_neg (by rw [hc]; decide)]
  split
  · exact ⟨by decide, by decide, by decide, by decide⟩
  · split
    · unfold putA
      repeat' split
      all_goals exact ⟨by decide, by decide, by decide, by decide⟩
    · split
      · exact getA_bd hk
      · unfold lookA
        split
        · exact getA_bd hk
        · split
          · exact pairA_bd hk
          · split
            · exact pairA_bd hk
            · split
              · have := cnt_le l key
                exact ⟨Int.le_refl 0, (by decide : (0 : Int) < 100000000), by show (0 : Int) ≤ (cnt l key : Nat); omega, by show ((cnt l key : Nat) : Int) < _; omega⟩
              · exact pairA_bd hk
theorem dTree_ks {ops : List OP} {x : List UInt8} {t : Tr} (h : dTree ops x = some t) : t.ks = kys (runR ops).1 := by
  unfold dTree at h
  repeat' split at h
  · cases h; exact (grT_same ops).ks
  · cases h
    rw [hp_ks (zT_hp _)]
    unfold zpl
    rw [List.map_map]
    have e : (Prod.fst ∘ fun k : Int => (k, (ht k : Int))) = id := rfl
    rw [e, List.map_id]
  · cases h; exact (go_inv ops).same.ks
  · cases h; exact ev_ks _ _ (Nat.le_refl _)
  · cases h
theorem dTree_tree {ops : List OP} {x : List UInt8} {t : Tr} (h : dTree ops x = some t) : IsTree (t.sp 0) ∧ t.size ≤ 200 := by
  have hk := dTree_ks h
  have hs : t.size ≤ 200 := by
    rw [← ks_length, hk, kys_len]
    exact chk_len (chk_runR ops)
  refine ⟨istree_of ?_ hs, hs⟩
  rw [hk]
  exact srt_up ((chk_zero _).1 (chk_runR ops)).2
end Go.Proofs.YtpnjnedfcdppaaaGreatDoor
