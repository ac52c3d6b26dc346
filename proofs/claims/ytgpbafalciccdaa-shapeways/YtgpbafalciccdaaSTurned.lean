/-
  The walk of the law ShapeTurned.
-/
import Derived.Test.YtgpbafalciccdaaSLives
import Derived.IntWalk
namespace Go.Proofs.Ytgpbafalciccdaa
open Go.RowKit

theorem turned1_any (k d key : Int) (g : Nat) (w : World) (hc : w.cell? ⟨g, 0, none⟩ = some (I key)) (hg : g < w.heap.size) :
    Calls Try.prog 10 #[.agg #[I k, I d], .pointer (some ⟨g, 0, none⟩)] w fun e w' => e = .returned (.bool (k == key)) ∧ Below w.heap.size w w' := by
  go_enter Try.func10, Try.ntmps10
  go_wp2
  go_ret
  exact ⟨rfl, (Below.refl _ _).alloc (Nat.le_refl _) _⟩

set_option maxRecDepth 100000 in
set_option maxHeartbeats 1000000 in
theorem ixTurned_any (A : Option Addr) (n c g : Nat) (l : PL) (key : Int) (w : World) (h : PS w A n c l) (hn : n ≤ 1000) (hc : w.cell? ⟨g, 0, none⟩ = some (I key)) (hg : g < w.heap.size) :
    Calls Try.prog 9 #[.slice A n c, .func (.func 10) #[] #[.pointer (some ⟨g, 0, none⟩)]] w fun e w' => e = .returned (I (ixK l key)) ∧ Below w.heap.size w w' := by
  have H := Lib.hid h
  have Hlen := Lib.hid h.len
  have HC := Lib.hid hc
  clear h hc
  go_enter Try.func9, Try.ntmps9
  go_wp2
  go_loopw [8] (fun i wr => ∃ k : Nat, k ≤ n ∧ i = .int .i64 k ∧ (∀ j, j < k → ky l j ≠ key) ∧ Below w.heap.size w wr) (fun i _ => n - (intOf i).toNat)
  case atStart => exact ⟨0, Nat.zero_le _, rfl, fun j hj => absurd hj (by omega), Below.refl _ _⟩
  case round =>
    obtain ⟨k, hk, rfl, hno, hnx⟩ := hrel
    by_cases hlt : k < n
    · obtain ⟨b, off, rfl, hb, hcs⟩ := H.out.dat (by omega)
      have hc0 : wr.cell? ⟨b, off + k * 2, none⟩ = some (I (ky l k)) := (hnx.cell (by exact hb)).trans (hcs k hlt).1
      have hc1 : wr.cell? ⟨b, off + k * 2 + 1, none⟩ = some (I (dp l k)) := (hnx.cell (by exact hb)).trans (hcs k hlt).2
      have hcall := turned1_any (ky l k) (dp l k) key g wr ((hnx.cell (by exact hg)).trans HC.out) (by have := hnx.size; omega)
      have HNX := Lib.hid hnx
      clear hcs hnx
      by_cases hkey : ky l k = key
      · have HF : Hid (ixK l key = k) := ixK_hit (by rw [Hlen.out]; exact hlt) hkey hno
        have e1 : (ky l k == key) = true := by simp [hkey]
        rw [e1] at hcall
        have HCALL := Lib.hid hcall
        clear hcall hkey hno e1
        go_wp2_with fail
        refine HCALL.out.mono ?_
        rintro e w1 ⟨rfl, hb1⟩
        have HB1 := Lib.hid (HNX.out.trans (hb1.mono HNX.out.size))
        clear hb1
        go_wp2
        go_ret
        exact ⟨ret_int (by rw [HF.out]), HB1.out⟩
      · have HN : Hid (∀ j, j < k + 1 → ky l j ≠ key) := fun j hj => by
          rcases Nat.lt_or_ge j k with h1 | h1
          · exact hno j h1
          · obtain rfl : j = k := by omega
            exact hkey
        have e1 : (ky l k == key) = false := by simp [hkey]
        rw [e1] at hcall
        have HCALL := Lib.hid hcall
        clear hcall hkey hno e1
        go_wp2_with fail
        refine HCALL.out.mono ?_
        rintro e w1 ⟨rfl, hb1⟩
        have HB1 := Lib.hid (HNX.out.trans (hb1.mono HNX.out.size))
        clear hb1
        go_wp2
        go_roundw
        case rel => exact ⟨k + 1, by omega, by go_num, HN.out, HB1.out⟩
        case measure => simp [intOf]; omega
    · have HF : Hid (ixK l key = -1) := ixK_none (fun j hj => hno j (by rw [Hlen.out] at hj; omega))
      clear hno
      go_wp2
      go_ret
      exact ⟨ret_int (by rw [HF.out]), hnx⟩


def YesS (w : World) (e : Ending) (w' : World) : Prop := e = .returned (.bool true) ∧ Below w.heap.size w w'

theorem ixK_own {l : PL} (h : upTo l l.length) {j : Nat} (hj : j < l.length) : ixK l (ky l j) = j :=
  ixK_hit hj rfl (fun i hi e => by have := up_lt h i j hi hj; omega)

set_option maxRecDepth 100000 in
set_option maxHeartbeats 1000000 in
theorem Turned_bad (A : Option Addr) (n c : Nat) (l : PL) (key : Int) (w : World) (h : PS w A n c l) (hn : n ≤ 9223372036854775807) (hc : chkS l ≠ 0) :
    Calls Try.prog 3 #[.slice A n c, I key] w (YesS w) := by
  have H := Lib.hid h
  clear h
  obtain ⟨E, hE0⟩ : ∃ E, chkS l = E := ⟨_, rfl⟩
  rw [hE0] at hc
  have HE := Lib.hid hE0
  have HC := Lib.hid hc
  have hE : (E != 0) = true := by simpa using hc
  clear hc hE0
  go_enter Try.func3, Try.ntmps3
  go_wp2_with fail
  refine (Turn_bad A n c l key _ (H.out.alloc _) hn E HE.out HC.out).mono ?_
  rintro e w1 ⟨rfl, hb⟩
  have HB1 := Lib.hid (below_box hb)
  clear hb
  go_wp2_with fail
  refine (Parents_bad A n c l _ (H.out.below HB1.out) hn E HE.out HC.out).mono ?_
  rintro e w2 ⟨rfl, hb⟩
  have HB2 := Lib.hid (below_on HB1.out hb)
  clear hb
  go_wp2_with fail
  refine (shapeLives_any _).mono ?_
  rintro e w3 ⟨rfl, hb⟩
  have HB3 := Lib.hid (below_on HB2.out hb)
  clear hb
  go_wp2_with fail
  refine (shapeLives_any _).mono ?_
  rintro e w4 ⟨rfl, hb⟩
  have HB4 := Lib.hid (below_on HB3.out hb)
  clear hb
  go_wp2
  go_ret
  exact ⟨rfl, HB4.out⟩

set_option maxRecDepth 100000 in
set_option maxHeartbeats 1000000 in
theorem Turned_none (A : Option Addr) (n c : Nat) (l : PL) (key : Int) (w : World) (h : PS w A n c l) (hT : IsTree l) (hno : ixK l key = -1 ∨ ∃ i : Nat, ixK l key = i ∧ i < n ∧ dp l i = 0) :
    Calls Try.prog 3 #[.slice A n c, I key] w (YesS w) := by
  have H := Lib.hid h
  have HT := Lib.hid hT
  have HTN : Hid (∀ W, PS W A n c l → Calls Try.prog 6 #[.slice A n c, I key] W fun e w' => e = .returned (.tuple #[.slice none 0 0, I 4]) ∧ Below W.heap.size W w') := fun W hW => by
    rcases hno with h1 | ⟨i, h1, h2, h3⟩
    · exact Turn_none A n c l key W hW hT h1
    · exact Turn_root A n c i l key W hW hT h1 h2 h3
  clear h hT hno
  go_enter Try.func3, Try.ntmps3
  go_wp2_with fail
  refine (HTN.out _ (H.out.alloc _)).mono ?_
  rintro e w1 ⟨rfl, hb⟩
  have HB1 := Lib.hid (below_box hb)
  clear hb
  go_wp2_with fail
  refine (Parents_ok A n c l _ (H.out.below HB1.out) HT.out).mono ?_
  rintro e w2 ⟨A2, n2, c2, rfl, -, hb, -⟩
  have HB2 := Lib.hid (below_on HB1.out hb)
  clear hb
  go_wp2_with fail
  refine (shapeLives_any _).mono ?_
  rintro e w3 ⟨rfl, hb⟩
  have HB3 := Lib.hid (below_on HB2.out hb)
  clear hb
  go_wp2_with fail
  refine (shapeLives_any _).mono ?_
  rintro e w4 ⟨rfl, hb⟩
  have HB4 := Lib.hid (below_on HB3.out hb)
  clear hb
  go_wp2
  go_ret
  exact ⟨rfl, HB4.out⟩

set_option maxRecDepth 100000 in
set_option maxHeartbeats 4000000 in
theorem Turned_ok (A : Option Addr) (n c i : Nat) (l : PL) (key : Int) (w : World) (h : PS w A n c l) (hT : IsTree l) (hx : ixK l key = i) (hi : i < n) (hd : dp l i ≠ 0) :
    Calls Try.prog 3 #[.slice A n c, I key] w (YesS w) := by
  have hn : n ≤ 200 := by have := hT.1; rw [h.len] at this; exact this
  have H := Lib.hid h
  have Hlen := Lib.hid h.len
  have HT := Lib.hid hT
  have HX := Lib.hid hx
  have HD := Lib.hid hd
  obtain ⟨j, hj, htd⟩ := turned_of hT (by rw [h.len]; exact hi) hd
  have hjn : j < n := by have := htd.lt; rw [h.len] at this; exact this
  have HJ := Lib.hid hj
  have HTD := Lib.hid htd
  have hsl := htd.len
  rw [h.len] at hsl
  have HSL := Lib.hid hsl
  have HBK : Hid (ixK (turnL l i) (ky l j) = j) := by
    show _ = _
    rw [← htd.keys j]
    exact ixK_own htd.tree.2.1 (by rw [hsl]; exact hjn)
  have HLOW := Lib.hid htd.low
  have HBACK := Lib.hid htd.back
  have HST := Lib.hid htd.tree
  clear h hT hx hd hj htd hsl
  go_enter Try.func3, Try.ntmps3
  go_wp2_with fail
  refine (Turn_ok A n c i l key _ (H.out.alloc _) HT.out HX.out hi HD.out).mono ?_
  rintro e w1 ⟨A1, n1, c1, rfl, hps1, hb, -⟩
  obtain rfl : n = n1 := by rw [← hps1.len, HSL.out]
  have HBX := Lib.hid (box_cell hb)
  have HB1 := Lib.hid (below_box hb)
  have HS1 := Lib.hid hps1
  clear hb hps1
  go_wp2_with fail
  refine (Parents_ok A n c l _ (H.out.below HB1.out) HT.out).mono ?_
  rintro e w2 ⟨A2, n2, c2, rfl, his2, hb, -⟩
  obtain rfl : n = n2 := by rw [← his2.len, parL_length, Hlen.out]
  have hkey2 : w2.cell? ⟨w.heap.size, 0, none⟩ = some (I key) := (hb.cell (by exact HBX.out.2)).trans HBX.out.1
  have hkz2 : w.heap.size < w2.heap.size := Nat.lt_of_lt_of_le HBX.out.2 hb.size
  have HB2 := Lib.hid (below_on HB1.out hb)
  have HS2 := Lib.hid (HS1.out.below hb)
  have HI2 := Lib.hid his2
  have HKEY2 := Lib.hid hkey2
  clear hb his2 HS1 HBX hkey2
  go_wp2_with fail
  refine (shapeLives_any _).mono ?_
  rintro e w3 ⟨rfl, hb⟩
  have HB3 := Lib.hid (below_on HB2.out hb)
  have HS3 := Lib.hid (HS2.out.below hb)
  have HI3 := Lib.hid (HI2.out.below hb)
  have HKEY3 : Hid (w3.cell? ⟨w.heap.size, 0, none⟩ = some (I key)) := (hb.cell (by exact hkz2)).trans HKEY2.out
  have hkz3 : w.heap.size < w3.heap.size := Nat.lt_of_lt_of_le hkz2 hb.size
  clear hb HS2 HI2 HKEY2
  go_wp2_with fail
  refine (ixTurned_any A n c _ l key w3 (H.out.below HB3.out) (by omega) HKEY3.out hkz3).mono ?_
  rintro e w4 ⟨rfl, hb⟩
  rw [HX.out]
  have HB4 := Lib.hid (below_on HB3.out hb)
  have HS4 := Lib.hid (HS3.out.below hb)
  have HI4 := Lib.hid (HI3.out.below hb)
  clear hb HS3 HI3 HKEY3
  obtain ⟨b2, off2, rfl, hb2, hcs2⟩ := HI4.out.at_ (by omega)
  have hp4 : w4.cell? ⟨b2, off2 + i, none⟩ = some (I j) := by
    rw [hcs2 i hi]
    have := parL_at l i (by rw [Hlen.out]; exact hi)
    rw [List.getElem?_eq_getElem (by rw [parL_length, Hlen.out]; exact hi)] at this
    rw [Option.some.inj this, HJ.out]
  clear hcs2
  have hnn : ((n : Int) != (n : Int)) = false := by simp
  go_wp2_with fail
  refine (CheckS_is A1 n c1 (turnL l i) w4 HS4.out (by omega) 0 (chkS_zero.2 HST.out)).mono ?_
  rintro e w5 ⟨rfl, hb5⟩
  have HB5 := Lib.hid (below_on HB4.out hb5)
  have HS5 := Lib.hid (HS4.out.below hb5)
  have HP5 : Hid (w5.cell? ⟨b2, off2 + i, none⟩ = some (I j)) := (hb5.cell (by exact hb2)).trans hp4
  have hb25 : b2 < w5.heap.size := Nat.lt_of_lt_of_le hb2 hb5.size
  clear hb5 HS4 hp4
  obtain ⟨b, off, rfl, hbl, hcl⟩ := (H.out.below HB5.out).dat (by omega)
  obtain ⟨b1, off1, rfl, hbs, hcs⟩ := HS5.out.dat (by omega)
  have HCL := Lib.hid hcl
  have HCS := Lib.hid hcs
  clear hcl hcs
  go_wp2
  go_loopw [66] (fun x wr => ∃ k : Nat, k ≤ n ∧ x = .int .i64 k ∧ Below w5.heap.size w5 wr) (fun x _ => n - (intOf x).toNat)
  case atStart => exact ⟨0, Nat.zero_le _, rfl, Below.refl _ _⟩
  case round =>
    obtain ⟨k, hk, rfl, hnx⟩ := hrel
    by_cases hlt : k < n
    · have hl0 : wr.cell? ⟨b, off + k * 2, none⟩ = some (I (ky l k)) := (hnx.cell (by exact hbl)).trans (HCL.out k hlt).1
      have hl1 : wr.cell? ⟨b, off + k * 2 + 1, none⟩ = some (I (dp l k)) := (hnx.cell (by exact hbl)).trans (HCL.out k hlt).2
      have hs0 : wr.cell? ⟨b1, off1 + k * 2, none⟩ = some (I (ky l k)) := by rw [← HTD.out.keys k]; exact (hnx.cell (by exact hbs)).trans (HCS.out k hlt).1
      have hs1 : wr.cell? ⟨b1, off1 + k * 2 + 1, none⟩ = some (I (dp (turnL l i) k)) := (hnx.cell (by exact hbs)).trans (HCS.out k hlt).2
      obtain ⟨hm1, hm2⟩ := HTD.out.near k
      obtain ⟨hr1, hr2⟩ := tree_dp HT.out k
      generalize dp (turnL l i) k = ds at *
      generalize dp l k = dl at *
      have hq0 : (ky l k != ky l k) = false := by simp
      have hq1 : decide (dl + 1 < ds) = false := by simp; omega
      have hq2 : decide (ds < dl - 1) = false := by simp; omega
      have hq1' : ¬ dl + 1 < ds := by omega
      have hq2' : ¬ ds < dl - 1 := by omega
      have hw1 : IntKind.i64.wrap (dl + 1) = dl + 1 := IntWalk.i64_in _ (by omega)
      have hw2 : IntKind.i64.wrap (dl - 1) = dl - 1 := IntWalk.i64_in _ (by omega)
      have HNX := Lib.hid hnx
      clear hnx
      go_wp2
      go_quiet (fail)
      go_wp2
      go_roundw
      case rel => exact ⟨k + 1, by omega, by go_num, below_drewN HNX.out _⟩
      case measure => simp [intOf]; omega
    · have HNX := Lib.hid hnx
      have hpr : wr.cell? ⟨b2, off2 + i, none⟩ = some (I j) := (hnx.cell (by exact hb25)).trans HP5.out
      have hlr : wr.cell? ⟨b, off + j * 2, none⟩ = some (I (ky l j)) := (hnx.cell (by exact hbl)).trans (HCL.out j hjn).1
      have HBR := Lib.hid (below_on HB5.out hnx)
      have HSR := Lib.hid (HS5.out.below hnx)
      clear hnx
      go_wp2_with fail
      refine (Turn_ok _ n c1 j (turnL l i) (ky l j) wr HSR.out HST.out HBK.out hjn HLOW.out).mono ?_
      rw [HBACK.out]
      rintro e w6 ⟨A6, n6, c6, rfl, hps6, hb6, -⟩
      obtain rfl : n = n6 := by rw [← hps6.len, Hlen.out]
      have HB6 := Lib.hid (below_on HBR.out hb6)
      have HS6 := Lib.hid hps6
      clear hb6 hps6
      go_wp2_with fail
      refine (eqSpot_any A6 _ n n c6 c l l w6 HS6.out (H.out.below HB6.out) (by omega) (by omega)).mono ?_
      rintro e w7 ⟨rfl, hb7⟩
      have HB7 := Lib.hid (below_on HB6.out hb7)
      clear hb7
      go_wp2
      go_ret
      exact ⟨by simp, HB7.out⟩

theorem Turned_any (A : Option Addr) (n c : Nat) (l : PL) (key : Int) (w : World) (h : PS w A n c l) (hn : n ≤ 9223372036854775807) :
    Calls Try.prog 3 #[.slice A n c, I key] w (YesS w) := by
  by_cases hc : chkS l = 0
  · have hT := chkS_zero.1 hc
    rcases ixK_cases l key with ⟨h1, _⟩ | ⟨i, h1, h2, h3⟩
    · exact Turned_none A n c l key w h hT (.inl h1)
    · rw [h.len] at h2
      by_cases hd : dp l i = 0
      · exact Turned_none A n c l key w h hT (.inr ⟨i, h1, h2, hd⟩)
      · exact Turned_ok A n c i l key w h hT h1 h2 hd
  · exact Turned_bad A n c l key w h hn hc

end Go.Proofs.Ytgpbafalciccdaa
