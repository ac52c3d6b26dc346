/-
  Joined texts: YtpnjnedfcdppaaaGreatDoorSpotB, YtpnjnedfcdppaaaGreatDoorSPar, YtpnjnedfcdppaaaGreatDoorSTurn, YtpnjnedfcdppaaaGreatDoorSTurn2, YtpnjnedfcdppaaaGreatDoorSOrd.
-/
import Derived.Test.YtpnjnedfcdppaaaGreatDoorSRow
import Derived.Test.YtpnjnedfcdppaaaGreatDoorChecked
import Derived.Test.YtpnjnedfcdppaaaGreatDoorInts
import Derived.Test.YtpnjnedfcdppaaaGreatDoorSChkAll
import Derived.WalkSpells
/-
  Rows of spots of the call's own.
-/
namespace Go.Proofs.YtpnjnedfcdppaaaGreatDoor
open Go.RowKit

theorem gspot_info : (Tryz.prog.info? 82).map (fun i => (i.zero, i.size, i.bytes)) = some (some (.agg #[I 0, I 0]), 2, 16) := by kernel_rfl
theorem gsrc_one (w : World) (k d : Int) : Src (w.alloc (.cells #[I k, I d] 82)) (some ⟨w.heap.size, 0, none⟩) 1 [(k, d)] := by
  refine ⟨rfl, fun _ => ⟨_, rfl, fun j u hu => ?_⟩⟩
  match j with
  | 0 => simp [flat] at hu; simp [Addr.add, ← hu]
  | 1 => simp [flat] at hu; simp [Addr.add, ← hu]
  | j + 2 => simp [flat] at hu

def RetSO (L : PL) (base : Nat) (w : World) (e : Ending) (w' : World) : Prop := ∃ v, e = .returned v ∧ OwnR w' base 82 v L ∧ Below base w w'

end Go.Proofs.YtpnjnedfcdppaaaGreatDoor

/-
  A row of numbers of the call's own; shape.Parents.
-/
namespace Go.Proofs.YtpnjnedfcdppaaaGreatDoor
open Go.RowKit

def parL (l : PL) : List Int := (List.range l.length).map (par l)
theorem parL_length (l : PL) : (parL l).length = l.length := by simp [parL]
theorem parL_at (l : PL) (i : Nat) (h : i < l.length) : (parL l)[i]? = some (par l i) := by simp [parL, h]
/-- the first k of them -/
def parTo (l : PL) (n k : Nat) : List Int := (List.range k).map (par l) ++ List.replicate (n - k) 0
theorem parTo_set (l : PL) (n k : Nat) (h : k < n) : (parTo l n k).set k (par l k) = parTo l n (k + 1) := by
  unfold parTo
  rw [List.set_append_right _ _ (by simp), List.range_succ, List.map_append]
  simp only [List.length_map, List.length_range, Nat.sub_self]
  rw [show n - k = n - (k + 1) + 1 by omega, List.replicate_succ]
  simp
theorem parTo_length (l : PL) (n k : Nat) (h : k ≤ n) : (parTo l n k).length = n := by simp [parTo]; omega

theorem Parents_bad (A : Option Addr) (n c : Nat) (l : PL) (w : World) (h : PS w A n c l) (hn : n ≤ 9223372036854775807) (E : Int) (hE : chkS l = E) (hE0 : E ≠ 0) :
    Calls Tryz.prog 196 #[.slice A n c] w fun e w' => e = .returned (.tuple #[.slice none 0 0, I E]) ∧ Below w.heap.size w w' := by
  have HCH := Lib.hid (CheckS_is A n c l w h hn E hE)
  have hq : (E != 0) = true := by simpa using hE0
  clear h hE hE0
  go_enter Tryz.func196, Tryz.ntmps196
  go_wp2_with fail
  refine HCH.out.mono ?_
  rintro e w1 ⟨rfl, hb1⟩
  have HB1 := Lib.hid hb1
  clear hb1
  go_wp2
  go_ret2
  exact ⟨rfl, HB1.out⟩

set_option maxRecDepth 100000 in
set_option maxHeartbeats 1000000 in
theorem Parents_ok (A : Option Addr) (n c : Nat) (l : PL) (w : World) (h : PS w A n c l) (hT : IsTree l) :
    Calls Tryz.prog 196 #[.slice A n c] w (RetIs (parL l) w) := by
  have hn : n ≤ 200 := by have := hT.1; rw [h.len] at this; exact this
  have H := Lib.hid h
  have Hlen := Lib.hid h.len
  have HCH := Lib.hid (CheckS_is A n c l w h (by omega) 0 (chkS_zero.2 hT))
  clear h hT
  have hmk := fun w => run_makeI (P := Tryz.prog) 46 3 Tryz.underlying46 int_info n n (Nat.le_refl _) (by omega) w
  go_enter Tryz.func196, Tryz.ntmps196
  go_wp2_with fail
  refine HCH.out.mono ?_
  rintro e w1 ⟨rfl, hb1⟩
  have HB1 := Lib.hid hb1
  have hz1 := hb1.size
  clear hb1
  go_wp2
  go_loopw [17] (fun i wr => ∃ k : Nat, k ≤ n ∧ i = .int .i64 k ∧ IB wr w1.heap.size 3 (parTo l n k) ∧ Below w.heap.size w wr) (fun i _ => n - (intOf i).toNat)
  case atStart => exact ⟨0, Nat.zero_le _, rfl, by have := IB.new w1 3 (List.replicate n 0); simpa [parTo] using this, HB1.out.alloc hz1 _⟩
  case round =>
    obtain ⟨k, hk, rfl, hib, hnx⟩ := hrel
    by_cases hlt : k < n
    · have hpar := parentOf_any A n c k l wr (H.out.below hnx) (by omega) hlt
      have HPAR := Lib.hid hpar
      have HIB := Lib.hid hib
      have HNX := Lib.hid hnx
      clear hpar hib hnx
      go_wp2_with fail
      refine HPAR.out.mono ?_
      rintro e w2 ⟨rfl, hb2⟩
      have hib2 : IB w2 w1.heap.size 3 (parTo l n k) := HIB.out.below hb2 HIB.out.lt
      have HB2 := Lib.hid (HNX.out.trans (hb2.mono HNX.out.size))
      have hl2 := parTo_length l n k (by omega)
      obtain ⟨old, hcell⟩ : ∃ old, w2.cell? ⟨w1.heap.size, k, none⟩ = some (I old) := ⟨_, by rw [hib2.cell, List.getElem?_eq_getElem (by omega)]; rfl⟩
      have hfz : w2.frozen? ⟨w1.heap.size, k, none⟩ = false := hib2.frozen k
      have HI3 : Hid (IB (w2.setCell ⟨w1.heap.size, k, none⟩ (I (par l k))) w1.heap.size 3 (parTo l n (k + 1))) := by
        show IB _ _ _ _
        rw [← parTo_set l n k hlt]
        exact hib2.set k _
      clear hb2 hib2 hl2
      go_wp2
      go_roundw
      case rel => exact ⟨k + 1, by omega, by go_num, HI3.out, HB2.out.setCell hz1 _⟩
      case measure => simp [intOf]; omega
    · have HIS : Hid (IS wr (some ⟨w1.heap.size, 0, none⟩) n n (parL l)) := by
        have e1 : parTo l n k = parL l := by
          unfold parTo parL
          rw [Hlen.out, show k = n by omega]
          simp
        rw [e1] at hib
        have hl := parL_length l
        rw [Hlen.out] at hl
        have := hib.is_ (c := n) (by omega)
        rw [hl] at this
        exact this
      have HNX := Lib.hid hnx
      clear hib hnx
      go_wp2
      go_ret2
      exact ⟨_, n, n, rfl, HIS.out, HNX.out, fun ad h => by cases h; exact hz1⟩

end Go.Proofs.YtpnjnedfcdppaaaGreatDoor

/-
  slices.IndexFunc at Spot, slices.Clone at Spot, shift.
-/
namespace Go.Proofs.YtpnjnedfcdppaaaGreatDoor
open Go.RowKit

theorem spot_info : (Tryz.prog.info? 82).map (fun i => (i.zero, i.size, i.bytes)) = some (some (.agg #[I 0, I 0]), 2, 16) := by kernel_rfl

theorem turn1_any (k d key : Int) (g : Nat) (w : World) (hc : w.cell? ⟨g, 0, none⟩ = some (I key)) (hg : g < w.heap.size) :
    Calls Tryz.prog 81 #[.agg #[I k, I d], .pointer (some ⟨g, 0, none⟩)] w fun e w' => e = .returned (.bool (k == key)) ∧ Below w.heap.size w w' := by
  go_enter Tryz.func81, Tryz.ntmps81
  go_wp2
  go_ret
  exact ⟨rfl, (Below.refl _ _).alloc (Nat.le_refl _) _⟩

set_option maxRecDepth 100000 in
set_option maxHeartbeats 1000000 in
theorem ixTurn_any (A : Option Addr) (n c g : Nat) (l : PL) (key : Int) (w : World) (h : PS w A n c l) (hn : n ≤ 1000) (hc : w.cell? ⟨g, 0, none⟩ = some (I key)) (hg : g < w.heap.size) :
    Calls Tryz.prog 80 #[.slice A n c, .func (.func 81) #[] #[.pointer (some ⟨g, 0, none⟩)]] w fun e w' => e = .returned (I (ixK l key)) ∧ Below w.heap.size w w' := by
  have H := Lib.hid h
  have Hlen := Lib.hid h.len
  have HC := Lib.hid hc
  clear h hc
  go_enter Tryz.func80, Tryz.ntmps80
  go_wp2
  go_loopw [8] (fun i wr => ∃ k : Nat, k ≤ n ∧ i = .int .i64 k ∧ (∀ j, j < k → ky l j ≠ key) ∧ Below w.heap.size w wr) (fun i _ => n - (intOf i).toNat)
  case atStart => exact ⟨0, Nat.zero_le _, rfl, fun j hj => absurd hj (by omega), Below.refl _ _⟩
  case round =>
    obtain ⟨k, hk, rfl, hno, hnx⟩ := hrel
    by_cases hlt : k < n
    · obtain ⟨b, off, rfl, hb, hcs⟩ := H.out.dat (by omega)
      have hc0 : wr.cell? ⟨b, off + k * 2, none⟩ = some (I (ky l k)) := (hnx.cell (by exact hb)).trans (hcs k hlt).1
      have hc1 : wr.cell? ⟨b, off + k * 2 + 1, none⟩ = some (I (dp l k)) := (hnx.cell (by exact hb)).trans (hcs k hlt).2
      have hcall := turn1_any (ky l k) (dp l k) key g wr ((hnx.cell (by exact hg)).trans HC.out) (by have := hnx.size; omega)
      have HNX := Lib.hid hnx
      clear hcs hnx
      by_cases hkey : ky l k = key
      · have HF : Hid (ixK l key = k) := ixK_hit (by rw [Hlen.out]; exact hlt) hkey hno
        have e1 : (ky l k == key) = true := by simp [hkey]
        rw [e1] at hcall
        have HCALL := Lib.hid hcall
        clear hcall hkey hno e1
        go_wp2_with fail
        refine HCALL.out.mono ?_
        rintro e w1 ⟨rfl, hb1⟩
        have HB1 := Lib.hid (HNX.out.trans (hb1.mono HNX.out.size))
        clear hb1
        go_wp2
        go_ret
        exact ⟨ret_int (by rw [HF.out]), HB1.out⟩
      · have HN : Hid (∀ j, j < k + 1 → ky l j ≠ key) := fun j hj => by
          rcases Nat.lt_or_ge j k with h1 | h1
          · exact hno j h1
          · obtain rfl : j = k := by omega
            exact hkey
        have e1 : (ky l k == key) = false := by simp [hkey]
        rw [e1] at hcall
        have HCALL := Lib.hid hcall
        clear hcall hkey hno e1
        go_wp2_with fail
        refine HCALL.out.mono ?_
        rintro e w1 ⟨rfl, hb1⟩
        have HB1 := Lib.hid (HNX.out.trans (hb1.mono HNX.out.size))
        clear hb1
        go_wp2
        go_roundw
        case rel => exact ⟨k + 1, by omega, by go_num, HN.out, HB1.out⟩
        case measure => simp [intOf]; omega
    · have HF : Hid (ixK l key = -1) := ixK_none (fun j hj => hno j (by rw [Hlen.out] at hj; omega))
      clear hno
      go_wp2
      go_ret
      exact ⟨ret_int (by rw [HF.out]), hnx⟩

set_option maxRecDepth 100000 in
set_option maxHeartbeats 1000000 in
theorem clone_any (A : Option Addr) (n c : Nat) (l : PL) (w : World) (h : PS w A n c l) (hn : n ≤ 1000) :
    Calls Tryz.prog 84 #[.slice A n c] w fun e w' => ∃ v, e = .returned v ∧ OwnR w' w.heap.size 82 v l ∧ Below w.heap.size w w' := by
  have H := Lib.hid h
  have Hlen := Lib.hid h.len
  clear h
  have heq := fun w => Lib.run_eql_slice_nil (P := Tryz.prog) w 41 82 A n c 0 0 Tryz.underlying41
  cases A with
  | none =>
    have hl : l = [] := by
      rcases Nat.eq_zero_or_pos n with h0 | h0
      · exact List.eq_nil_of_length_eq_zero (by rw [Hlen.out]; exact h0)
      · obtain ⟨b, off, e, _⟩ := H.out.dat h0; cases e
    have HL := Lib.hid hl
    clear hl
    go_enter Tryz.func84, Tryz.ntmps84
    go_wp2
    go_ret
    refine ⟨_, rfl, ?_, Below.refl _ _⟩
    rw [HL.out]
    exact World.ownsRow_nil _ _ _ _
  | some ad =>
    go_enter Tryz.func84, Tryz.ntmps84
    go_wp2_with (at_builtin; refine wpList_app2 rfl (.tmp 5) (.tmp 6) 41 rfl 82 Tryz.underlying41 spot_info w.heap.size (.slice (some ⟨w.heap.size, 0, none⟩) 0 0) [] l (some ad) n c rfl rfl (own2_empty (heap_alloc_new w _) (Nat.le_refl _)) (H.out.alloc _).src (by simp; omega) (by simp) ?_; intro v' w' hown hgrow _)
    go_ret
    refine ⟨_, rfl, by simpa [OwnR] using hown, ?_⟩
    exact (((Below.refl _ _).alloc (Nat.le_refl _) _)).grown hgrow (by simp) (by simp [Value.ownBlock])

set_option maxRecDepth 100000 in
set_option maxHeartbeats 1000000 in
theorem shift_any (g x m c : Nat) (by_ : Int) (L : PL) (w : World) (h : SB w g 82 L) (hx : x + m ≤ L.length) (hL : L.length ≤ 1000) (hmc : m ≤ c) (hd : ∀ i, -1000 ≤ dp L i ∧ dp L i ≤ 1000) (hby : -1 ≤ by_ ∧ by_ ≤ 1) :
    Calls Tryz.prog 85 #[.slice (some ⟨g, x * 2, none⟩) m c, I by_] w fun e w' => e = .returned (.tuple #[]) ∧ SB w' g 82 (shf L x (x + m) by_) ∧ ∀ B, B ≤ g → Below B w w' := by
  have H := Lib.hid h
  have HD := Lib.hid hd
  clear h hd
  obtain ⟨hy1, hy2⟩ := hby
  go_enter Tryz.func85, Tryz.ntmps85
  go_wp2
  go_loopw [7] (fun i wr => ∃ k : Nat, k ≤ m ∧ i = .int .i64 k ∧ SB wr g 82 (shf L x (x + k) by_) ∧ ∀ B, B ≤ g → Below B w wr) (fun i _ => m - (intOf i).toNat)
  case atStart => exact ⟨0, Nat.zero_le _, rfl, by rw [Nat.add_zero, shf_none]; exact H.out, fun B _ => Below.refl _ _⟩
  case round =>
    obtain ⟨k, hk, rfl, hsb, hnx⟩ := hrel
    by_cases hlt : k < m
    · have hsl := shf_length L x (x + k) by_ (by omega)
      have hfar := shf_far L x (x + k) by_ (by omega) (by omega)
      obtain ⟨hd1, hd2⟩ := HD.out (x + k)
      have hcell := (hsb.cell (x + k) (by omega)).2
      rw [hfar] at hcell
      have hcell2 : wr.cell? ⟨g, x * 2 + k * 2 + 1, none⟩ = some (I (dp L (x + k))) := by rw [← Nat.add_mul]; exact hcell
      have hfz : wr.frozen? ⟨g, x * 2 + k * 2 + 1, none⟩ = false := hsb.frozen _
      have hset := hsb.set1 (x + k) (dp L (x + k) + by_) (by omega)
      have hst := shf_step L x (x + k) by_ (by omega) (by omega)
      rw [hfar] at hst
      rw [hst] at hset
      have HSET : Hid (SB (wr.setCell ⟨g, x * 2 + k * 2 + 1, none⟩ (I (dp L (x + k) + by_))) g 82 (shf L x (x + (k + 1)) by_)) := by
        show SB _ _ _ _
        rw [← Nat.add_mul]
        exact hset
      have HNX := Lib.hid hnx
      clear hsl hfar hcell hset hst hsb hnx
      go_wp2
      go_roundw
      case rel => exact ⟨k + 1, by omega, by go_num, HSET.out, fun B hB => (HNX.out B hB).setCell hB _⟩
      case measure => simp [intOf]; omega
    · obtain rfl : k = m := by omega
      have HSB := Lib.hid hsb
      have HNX := Lib.hid hnx
      clear hsb hnx
      go_wp2
      go_end0
      exact ⟨rfl, HSB.out, HNX.out⟩

end Go.Proofs.YtpnjnedfcdppaaaGreatDoor

/-
  shape.Turn.
-/
namespace Go.Proofs.YtpnjnedfcdppaaaGreatDoor
open Go.RowKit

/-- a list of spots in new memory, and no error -/
def RetSp (L : PL) (w : World) (e : Ending) (w' : World) : Prop :=
  ∃ A n c, e = .returned (.tuple #[.slice A n c, I 0]) ∧ PS w' A n c L ∧ Below w.heap.size w w' ∧ ∀ ad, A = some ad → w.heap.size ≤ ad.block

theorem below_box {w w1 : World} {o : Obj} (h : Below (w.alloc o).heap.size (w.alloc o) w1) : Below w.heap.size w w1 := ((Below.refl _ _).alloc (Nat.le_refl _) o).trans (h.mono (by simp))
theorem below_on {w w1 w2 : World} (h : Below w.heap.size w w1) (h2 : Below w1.heap.size w1 w2) : Below w.heap.size w w2 := h.trans (h2.mono h.size)

theorem Turn_bad (A : Option Addr) (n c : Nat) (l : PL) (key : Int) (w : World) (h : PS w A n c l) (hn : n ≤ 9223372036854775807) (E : Int) (hE : chkS l = E) (hE0 : E ≠ 0) :
    Calls Tryz.prog 41 #[.slice A n c, I key] w fun e w' => e = .returned (.tuple #[.slice none 0 0, I E]) ∧ Below w.heap.size w w' := by
  have H := Lib.hid h
  have hq : (E != 0) = true := by simpa using hE0
  have HE := Lib.hid hE
  clear h hE hE0
  go_enter Tryz.func41, Tryz.ntmps41
  go_wp2_with fail
  refine (CheckS_is A n c l _ (H.out.alloc _) hn E HE.out).mono ?_
  rintro e w1 ⟨rfl, hb1⟩
  have HB1 := Lib.hid (below_box hb1)
  clear hb1
  go_wp2
  go_ret2
  exact ⟨rfl, HB1.out⟩

theorem box_cell {w w1 : World} {v : Value} {t : Nat} (h : Below (w.alloc (.cells #[v] t)).heap.size (w.alloc (.cells #[v] t)) w1) : w1.cell? ⟨w.heap.size, 0, none⟩ = some v ∧ w.heap.size < w1.heap.size := by
  refine ⟨?_, by have := h.size; simp at this; omega⟩
  rw [h.cell (p := ⟨w.heap.size, 0, none⟩) (by simp)]
  rw [cell_of_row _ _ _ _ _ _ (heap_alloc_new w _)]
  rfl

set_option maxRecDepth 100000 in
set_option maxHeartbeats 1000000 in
theorem Turn_none (A : Option Addr) (n c : Nat) (l : PL) (key : Int) (w : World) (h : PS w A n c l) (hT : IsTree l) (hx : ixK l key = -1) :
    Calls Tryz.prog 41 #[.slice A n c, I key] w fun e w' => e = .returned (.tuple #[.slice none 0 0, I 4]) ∧ Below w.heap.size w w' := by
  have hn : n ≤ 200 := by have := hT.1; rw [h.len] at this; exact this
  have H := Lib.hid h
  have HT := Lib.hid (chkS_zero.2 hT)
  have HX := Lib.hid hx
  clear h hT hx
  go_enter Tryz.func41, Tryz.ntmps41
  go_wp2_with fail
  refine (CheckS_is A n c l _ (H.out.alloc _) (by omega) 0 HT.out).mono ?_
  rintro e w1 ⟨rfl, hb1⟩
  have HB1 := Lib.hid (below_box hb1)
  have HBX := Lib.hid (box_cell hb1)
  clear hb1
  go_wp2_with fail
  refine (ixTurn_any A n c _ l key w1 (H.out.below HB1.out) (by omega) HBX.out.1 HBX.out.2).mono ?_
  rintro e w2 ⟨rfl, hb2⟩
  rw [HX.out]
  have HB2 := Lib.hid (below_on HB1.out hb2)
  clear hb2
  go_wp2
  go_ret2
  exact ⟨rfl, HB2.out⟩

set_option maxRecDepth 100000 in
set_option maxHeartbeats 1000000 in
theorem Turn_root (A : Option Addr) (n c i : Nat) (l : PL) (key : Int) (w : World) (h : PS w A n c l) (hT : IsTree l) (hx : ixK l key = i) (hi : i < n) (hd : dp l i = 0) :
    Calls Tryz.prog 41 #[.slice A n c, I key] w fun e w' => e = .returned (.tuple #[.slice none 0 0, I 4]) ∧ Below w.heap.size w w' := by
  have hn : n ≤ 200 := by have := hT.1; rw [h.len] at this; exact this
  have H := Lib.hid h
  have HT := Lib.hid (chkS_zero.2 hT)
  have HX := Lib.hid hx
  obtain ⟨b, off, rfl, hb, hc⟩ := H.out.dat (by omega)
  have HC : Hid (w.cell? ⟨b, off + i * 2 + 1, none⟩ = some (I 0)) := by show _ = _; rw [(hc i hi).2, hd]
  clear h hT hx hd hc
  go_enter Tryz.func41, Tryz.ntmps41
  go_wp2_with fail
  refine (CheckS_is _ n c l _ (H.out.alloc _) (by omega) 0 HT.out).mono ?_
  rintro e w1 ⟨rfl, hb1⟩
  have HB1 := Lib.hid (below_box hb1)
  have HBX := Lib.hid (box_cell hb1)
  clear hb1
  go_wp2_with fail
  refine (ixTurn_any _ n c _ l key w1 (H.out.below HB1.out) (by omega) HBX.out.1 HBX.out.2).mono ?_
  rintro e w2 ⟨rfl, hb2⟩
  rw [HX.out]
  have hc2 : w2.cell? ⟨b, off + i * 2 + 1, none⟩ = some (I 0) := ((below_on HB1.out hb2).cell (by exact hb)).trans HC.out
  have HB2 := Lib.hid (below_on HB1.out hb2)
  clear hb2
  go_wp2
  go_ret2
  exact ⟨rfl, HB2.out⟩

set_option maxRecDepth 100000 in
set_option maxHeartbeats 2000000 in
theorem Turn_ok (A : Option Addr) (n c i : Nat) (l : PL) (key : Int) (w : World) (h : PS w A n c l) (hT : IsTree l) (hx : ixK l key = i) (hi : i < n) (hd : dp l i ≠ 0) :
    Calls Tryz.prog 41 #[.slice A n c, I key] w (RetSp (turnL l i) w) := by
  have hn : n ≤ 200 := by have := hT.1; rw [h.len] at this; exact this
  have H := Lib.hid h
  have Hlen := Lib.hid h.len
  have HTR := Lib.hid hT
  have HT := Lib.hid (chkS_zero.2 hT)
  have HX := Lib.hid hx
  obtain ⟨j, hj, htd⟩ := turned_of hT (by rw [h.len]; exact hi) hd
  have hjn : j < n := by have := htd.lt; rw [h.len] at this; exact this
  have hne := htd.ne
  have HJ := Lib.hid hj
  have hz : (dp l i == 0) = false := by simpa using hd
  obtain ⟨b, off, rfl, hb, hc⟩ := H.out.dat (by omega)
  have HC := Lib.hid (hc i hi).2
  have hf := frR_le l j
  have hfi := htd.fr
  have hti := htd.to
  have ht := toR_bd l j htd.lt
  have HF : Hid (turnL l i = if i < j then shf (shf l (frR l j) (i + 1) (-1)) j (toR l j) 1 else shf (shf l (frR l j) (j + 1) 1) i (toR l j) (-1)) := by
    show _ = _
    unfold turnL
    rw [hj, Int.toNat_natCast]
  rw [h.len] at ht
  clear h hT hx hd hc hj htd
  go_enter Tryz.func41, Tryz.ntmps41
  go_wp2_with fail
  refine (CheckS_is _ n c l _ (H.out.alloc _) (by omega) 0 HT.out).mono ?_
  rintro e w1 ⟨rfl, hb1⟩
  have HB1 := Lib.hid (below_box hb1)
  have HBX := Lib.hid (box_cell hb1)
  clear hb1
  go_wp2_with fail
  refine (ixTurn_any _ n c _ l key w1 (H.out.below HB1.out) (by omega) HBX.out.1 HBX.out.2).mono ?_
  rintro e w2 ⟨rfl, hb2⟩
  rw [HX.out]
  have hc2 : w2.cell? ⟨b, off + i * 2 + 1, none⟩ = some (I (dp l i)) := ((below_on HB1.out hb2).cell (by exact hb)).trans HC.out
  have HB2 := Lib.hid (below_on HB1.out hb2)
  clear hb2
  go_wp2_with fail
  refine (parentOf_any _ n c i l w2 (H.out.below HB2.out) (by omega) hi).mono ?_
  rintro e w3 ⟨rfl, hb3⟩
  rw [HJ.out]
  have HB3 := Lib.hid (below_on HB2.out hb3)
  clear hb3 hc2
  go_wp2_with fail
  refine (partOf_any _ n c j l w3 (H.out.below HB3.out) (by omega) hjn).mono ?_
  rintro e w4 ⟨rfl, hb4⟩
  have HB4 := Lib.hid (below_on HB3.out hb4)
  clear hb4
  generalize frR l j = f at *
  generalize toR l j = t at *
  go_wp2_with fail
  refine (clone_any _ n c l w4 (H.out.below HB4.out) (by omega)).mono ?_
  rintro e w5 ⟨v, rfl, hown, hb5⟩
  obtain ⟨A5, c5, rfl, -, -⟩ := hown.ps
  obtain ⟨g, rfl, -, hg, hc5, hsb⟩ := hown.sb (by rw [Hlen.out]; omega)
  rw [Hlen.out] at hc5 ⊢
  have hgw : w.heap.size ≤ g := Nat.le_trans HB4.out.size hg
  have HB5 := Lib.hid (below_on HB4.out hb5)
  have HSB := Lib.hid hsb
  clear hb5 hown hsb
  have HD : Hid (∀ x, 0 ≤ dp l x ∧ dp l x ≤ 200) := tree_dp HTR.out
  rcases Nat.lt_or_ge i j with hij | hij
  · have hc1 : ¬ c5 = f := by omega
    have hc3 : ¬ c5 = j := by omega
    rw [if_pos hij] at HF
    go_wp2_with fail
    refine (shift_any g f (i + 1 - f) _ (-1) l w5 HSB.out (by rw [Hlen.out]; omega) (by rw [Hlen.out]; omega) (by omega) (fun x => by have := HD.out x; omega) (by omega)).mono ?_
    rintro e w6 ⟨rfl, hsb6, hb6⟩
    have e6 : f + (i + 1 - f) = i + 1 := by omega
    rw [e6] at hsb6
    have hl6 := shf_length l f (i + 1) (-1) (by omega)
    have HD6 : Hid (∀ x, -1000 ≤ dp (shf l f (i + 1) (-1)) x ∧ dp (shf l f (i + 1) (-1)) x ≤ 1000) := fun x => by
      have h1 := HD.out x
      rcases (shf_pt l f (i + 1) (-1) (by omega) (by rw [Hlen.out]; omega) x).2 with h2 | h2 <;> rw [h2] <;> omega
    have HB6 := Lib.hid (HB5.out.trans (hb6 w.heap.size hgw))
    have HSB6 := Lib.hid hsb6
    have HL6 := Lib.hid hl6
    clear hsb6 hb6 e6 hl6
    go_wp2_with fail
    refine (shift_any g j (t - j) _ 1 _ w6 HSB6.out (by rw [HL6.out, Hlen.out]; omega) (by rw [HL6.out, Hlen.out]; omega) (by omega) HD6.out (by omega)).mono ?_
    rintro e w7 ⟨rfl, hsb7, hb7⟩
    have e7 : j + (t - j) = t := by omega
    rw [e7, ← HF.out] at hsb7
    have HB7 := Lib.hid (HB6.out.trans (hb7 w.heap.size hgw))
    have hl7 : (turnL l i).length = n := by rw [HF.out, shf_length _ _ _ _ (by omega), HL6.out, Hlen.out]
    have hps := hsb7.ps (c := c5) (by omega)
    rw [hl7] at hps
    have HPS := Lib.hid hps
    clear hsb7 hb7 e7 hl7 hps
    go_wp2
    go_ret2
    exact ⟨_, n, c5, rfl, HPS.out, HB7.out, fun ad h => by cases h; exact hgw⟩
  · have hlt : j < i := by omega
    have hnij : ¬ i < j := by omega
    have hc1 : ¬ c5 = f := by omega
    have hc3 : ¬ c5 = i := by omega
    rw [if_neg hnij] at HF
    go_wp2_with fail
    refine (shift_any g f (j + 1 - f) _ 1 l w5 HSB.out (by rw [Hlen.out]; omega) (by rw [Hlen.out]; omega) (by omega) (fun x => by have := HD.out x; omega) (by omega)).mono ?_
    rintro e w6 ⟨rfl, hsb6, hb6⟩
    have e6 : f + (j + 1 - f) = j + 1 := by omega
    rw [e6] at hsb6
    have hl6 := shf_length l f (j + 1) 1 (by omega)
    have HD6 : Hid (∀ x, -1000 ≤ dp (shf l f (j + 1) 1) x ∧ dp (shf l f (j + 1) 1) x ≤ 1000) := fun x => by
      have h1 := HD.out x
      rcases (shf_pt l f (j + 1) 1 (by omega) (by rw [Hlen.out]; omega) x).2 with h2 | h2 <;> rw [h2] <;> omega
    have HB6 := Lib.hid (HB5.out.trans (hb6 w.heap.size hgw))
    have HSB6 := Lib.hid hsb6
    have HL6 := Lib.hid hl6
    clear hsb6 hb6 e6 hl6
    go_wp2_with fail
    refine (shift_any g i (t - i) _ (-1) _ w6 HSB6.out (by rw [HL6.out, Hlen.out]; omega) (by rw [HL6.out, Hlen.out]; omega) (by omega) HD6.out (by omega)).mono ?_
    rintro e w7 ⟨rfl, hsb7, hb7⟩
    have e7 : i + (t - i) = t := by omega
    rw [e7, ← HF.out] at hsb7
    have HB7 := Lib.hid (HB6.out.trans (hb7 w.heap.size hgw))
    have hl7 : (turnL l i).length = n := by rw [HF.out, shf_length _ _ _ _ (by omega), HL6.out, Hlen.out]
    have hps := hsb7.ps (c := c5) (by omega)
    rw [hl7] at hps
    have HPS := Lib.hid hps
    clear hsb7 hb7 e7 hl7 hps
    go_wp2
    go_ret2
    exact ⟨_, n, c5, rfl, HPS.out, HB7.out, fun ad h => by cases h; exact hgw⟩

end Go.Proofs.YtpnjnedfcdppaaaGreatDoor

/-
  nodeFirst; shape.Order, by way 1.
-/
namespace Go.Proofs.YtpnjnedfcdppaaaGreatDoor
open Go.RowKit

/-- node first -/
def Tr.pre : Tr → List Int
  | .nil => []
  | .node a k b => k :: (a.pre ++ b.pre)
theorem pre_length (t : Tr) : t.pre.length = t.size := by induction t <;> simp [Tr.pre, Tr.size, *]; omega

set_option maxRecDepth 100000 in
set_option maxHeartbeats 2000000 in
theorem nodeFirst_any (t : Tr) : ∀ (A : Option Addr) (n c base : Nat) (d : Int) (v : Value) (K : List Int) (w : World), PS w A n c (t.sp d) → (0 < n → ∀ ad, A = some ad → ad.block < base) → OwnI w base v K → base ≤ w.heap.size → K.length + n ≤ 1000 →
    Calls Tryz.prog 210 #[v, .slice A n c] w (RetOwn (K ++ t.pre) base w) := by
  induction t with
  | nil =>
    intro A n c base d v K w h hA hown hbase hK
    obtain rfl : n = 0 := by have := h.len; simpa [Tr.sp] using this.symm
    have HO := Lib.hid hown
    clear h hown
    go_enter Tryz.func210, Tryz.ntmps210
    go_wp2
    go_ret
    exact ⟨v, rfl, by simpa [Tr.pre] using HO.out, Below.refl _ _⟩
  | node a k b iha ihb =>
    intro A n c base d v K w h hA hown hbase hK
    have hlen : n = a.size + 1 + b.size := by rw [← h.len, sp_length]; rfl
    have hcap := h.rd.1
    have htop := topOf_any A n c _ w h (by omega) (by omega)
    rw [topR_sp] at htop
    obtain ⟨x, hx⟩ : ∃ x, a.size = x := ⟨_, rfl⟩
    have hxn : x < n := by omega
    have HL : Hid (PS w A x c (a.sp (d + 1))) := by
      have := h.take x (by omega)
      rw [← hx, (sp_parts a b k d).1] at this
      rw [← hx]
      exact this
    have HR : Hid (∀ sp c', (x + 1 < n → ∀ b off, A = some ⟨b, off, none⟩ → sp = some ⟨b, off + (x + 1) * 2, none⟩) → n - (x + 1) ≤ c' → PS w sp (n - (x + 1)) c' (b.sp (d + 1))) := fun sp c' h1 h2 => by
      have := h.drop (x + 1) (by omega) sp h1 h2
      rw [← hx, (sp_parts a b k d).2] at this
      rw [← hx]
      exact this
    obtain ⟨bb, off, rfl, hbl, hcs⟩ := h.dat (by omega)
    have hbb : bb < base := hA (by omega) _ rfl
    have HC : Hid (w.cell? ⟨bb, off + x * 2, none⟩ = some (I k)) := by
      show _ = _
      rw [(hcs x hxn).1, ← hx, (sp_root a b k d).2]
    rw [hx] at htop
    have HTOP := Lib.hid htop
    have HO := Lib.hid hown
    have IHA := Lib.hid iha
    have IHB := Lib.hid ihb
    have HX := Lib.hid hx
    have HN := Lib.hid hlen
    have hsb : n - (x + 1) = b.size := by omega
    have HSB := Lib.hid hsb
    have hnb : ((n : Int) == 0) = false := by simp; omega
    have hn1 : n ≤ 1000 := by omega
    obtain ⟨i0, hi, hz0, hz1, hz2⟩ := info_parts int_info
    have HI := Lib.hid hi
    have HZ0 := Lib.hid hz0
    have HZ1 := Lib.hid hz1
    have HZ2 := Lib.hid hz2
    clear h htop hown iha ihb hx hlen hsb hi hz0 hz1 hz2 hcs hA
    go_enter Tryz.func210, Tryz.ntmps210
    go_wp2_with fail
    refine HTOP.out.mono ?_
    rintro e w1 ⟨rfl, hb1⟩
    have hc1 : w1.cell? ⟨bb, off + x * 2, none⟩ = some (I k) := (hb1.cell (by exact hbl)).trans HC.out
    have HO1 := Lib.hid (own_below HO.out hb1)
    have hz1 : base ≤ w1.heap.size := Nat.le_trans hbase hb1.size
    have HB1 := Lib.hid (hb1.mono hbase)
    clear hb1
    go_wp2_with (first
      | (at_builtin
         refine wpList_append_own_at _ rfl (.tmp 12) (.tmp 18) 46 rfl base 3 i0 _ 1 8 Tryz.underlying46 HI.out HZ0.out HZ1.out HZ2.out rfl (by omega) v K.length (K.map I) rfl (own_below HO1.out ((Below.refl _ _).alloc (Nat.le_refl _) _)) ⟨w1.heap.size, 0, none⟩ 1 1 [I k] rfl rfl (cell_one_new _ _ _) (one_I k) (by unfold maxLen; omega) (by omega) (by simp; omega) ?_
         intro v2 w2 hown2 hgrow2 _ _)
      | fail)
    have hb2 : Below base w w2 := ((HB1.out.alloc hz1 _)).grown hgrow2 (by simp; omega) (own_ge1 HO1.out)
    have ho2 : OwnI w2 base v2 (K ++ [k]) := by
      have : (K ++ [k]).length = K.length + 1 := by simp
      unfold OwnI
      rw [this]
      simpa using hown2
    have hz2 : base ≤ w2.heap.size := Nat.le_trans hbase hb2.size
    have HB2 := Lib.hid hb2
    have HO2 := Lib.hid ho2
    clear hown2 hgrow2 hb2 ho2
    refine (IHA.out _ x c base (d + 1) v2 (K ++ [k]) w2 (HL.out.low (fun ad h => by cases h; exact hbb) HB2.out) (fun _ ad h => by cases h; exact hbb) HO2.out hz2 (by simp; omega)).mono ?_
    rintro e w3 ⟨v3, rfl, ho3, hb3⟩
    have HB3 := Lib.hid (HB2.out.trans hb3)
    have HO3 := Lib.hid ho3
    clear hb3 ho3
    go_wp2_with fail
    all_goals
      refine (IHB.out _ (n - (x + 1)) _ base (d + 1) v3 (K ++ [k] ++ a.pre) w3 ((HR.out _ _ ?hs ?hcc).low ?hlow HB3.out) (fun _ => ?hlow2) HO3.out (Nat.le_trans hbase HB3.out.size) ?hl).mono ?_
      case hs =>
        intro hlt b' off' he
        cases he
        first | rfl | (exfalso; omega)
      case hcc => omega
      case hlow => intro ad h; cases h; exact hbb
      case hlow2 => intro ad h; cases h; exact hbb
      case hl => simp [pre_length, HX.out]; omega
      rintro e w4 ⟨v4, rfl, ho4, hb4⟩
      have HB4 := Lib.hid (HB3.out.trans hb4)
      have HO4 := Lib.hid ho4
      clear hb4 ho4
      go_wp2
      go_ret
      exact ⟨v4, rfl, by simpa [Tr.pre] using HO4.out, HB4.out⟩

set_option maxRecDepth 100000 in
set_option maxHeartbeats 1000000 in
theorem Order1_ok (A : Option Addr) (n c : Nat) (l : PL) (t : Tr) (w : World) (h : PS w A n c l) (hT : IsTree l) (ht : l = t.sp 0) :
    Calls Tryz.prog 164 #[.slice A n c, I 1] w (RetIs t.pre w) := by
  have hn : n ≤ 200 := by have := hT.1; rw [h.len] at this; exact this
  have H := Lib.hid h
  have HCH := Lib.hid (CheckS_is A n c l w h (by omega) 0 (chkS_zero.2 hT))
  have HT := Lib.hid ht
  have hlow : ∀ ad, A = some ad → 0 < n → ad.block < w.heap.size := by
    intro ad e h0
    obtain ⟨b, off, e', hb, _⟩ := h.dat h0
    rw [e'] at e
    cases e
    exact hb
  have HLOW := Lib.hid hlow
  clear h hT ht hlow
  obtain ⟨O, HO, hmk⟩ : ∃ O, Hid (O = .cells ((List.replicate n (0 : Int)).map I).toArray 3) ∧ ∀ w, (Instr.makeSlice 46 (.int .i64 0) (.int .i64 (n : Int))).run Tryz.prog w = .ok (.slice (some ⟨w.heap.size, 0, none⟩) 0 n) (w.alloc O) :=
    ⟨_, Lib.hid rfl, fun w => run_makeI (P := Tryz.prog) 46 3 Tryz.underlying46 int_info 0 n (by omega) (by omega) w⟩
  go_enter Tryz.func164, Tryz.ntmps164
  go_wp2_with fail
  refine HCH.out.mono ?_
  rintro e w1 ⟨rfl, hb1⟩
  have HB1 := Lib.hid hb1
  have hz1 := hb1.size
  clear hb1
  go_wp2_with fail
  have hown : OwnI (w1.alloc O) w1.heap.size (.slice (some ⟨w1.heap.size, 0, none⟩) 0 n) [] := by
    rw [HO.out]
    exact ⟨rfl, .inr ⟨w1.heap.size, n, _, rfl, Nat.le_refl _, heap_alloc_new w1 _, Nat.zero_le _, by unfold maxLen; omega, by simp, rfl⟩⟩
  have hps := (H.out.below HB1.out).alloc O
  rw [HT.out] at hps
  refine (nodeFirst_any t A n c w1.heap.size 0 _ [] _ hps (fun h0 ad e => Nat.lt_of_lt_of_le (HLOW.out ad e h0) hz1) hown (by simp) (by simp; omega)).mono ?_
  rintro e w2 ⟨v2, rfl, ho2, hb2⟩
  obtain ⟨A2, c2, rfl, his, hge⟩ := ho2.is_
  have HB2 : Hid (Below w.heap.size w w2) := (HB1.out.alloc hz1 _).trans (hb2.mono hz1)
  have HIS := Lib.hid his
  have HGE := Lib.hid hge
  clear hps ho2 hb2 his hge hown
  go_wp2
  go_ret2
  exact ⟨A2, _, c2, rfl, HIS.out, HB2.out, fun ad h => Nat.le_trans hz1 (HGE.out ad h)⟩

end Go.Proofs.YtpnjnedfcdppaaaGreatDoor
