/-
  shape.Turn.
-/
import Derived.Test.YtjonepkdkhhonaaSTurn
namespace Go.Proofs.Ytjonepkdkhhonaa
open Go.RowKit

/-- a list of spots in new memory, and no error -/
def RetSp (L : PL) (w : World) (e : Ending) (w' : World) : Prop :=
  ∃ A n c, e = .returned (.tuple #[.slice A n c, I 0]) ∧ PS w' A n c L ∧ Below w.heap.size w w' ∧ ∀ ad, A = some ad → w.heap.size ≤ ad.block

theorem below_box {w w1 : World} {o : Obj} (h : Below (w.alloc o).heap.size (w.alloc o) w1) : Below w.heap.size w w1 := ((Below.refl _ _).alloc (Nat.le_refl _) o).trans (h.mono (by simp))
theorem below_on {w w1 w2 : World} (h : Below w.heap.size w w1) (h2 : Below w1.heap.size w1 w2) : Below w.heap.size w w2 := h.trans (h2.mono h.size)

theorem Turn_bad (A : Option Addr) (n c : Nat) (l : PL) (key : Int) (w : World) (h : PS w A n c l) (hn : n ≤ 9223372036854775807) (E : Int) (hE : chkS l = E) (hE0 : E ≠ 0) :
    Calls Try.prog 9 #[.slice A n c, I key] w fun e w' => e = .returned (.tuple #[.slice none 0 0, I E]) ∧ Below w.heap.size w w' := by
  have H := Lib.hid h
  have hq : (E != 0) = true := by simpa using hE0
  have HE := Lib.hid hE
  clear h hE hE0
  go_enter Try.func9, Try.ntmps9
  go_wp2_with fail
  refine (CheckS_is A n c l _ (H.out.alloc _) hn E HE.out).mono ?_
  rintro e w1 ⟨rfl, hb1⟩
  have HB1 := Lib.hid (below_box hb1)
  clear hb1
  go_wp2
  go_ret2
  exact ⟨rfl, HB1.out⟩

theorem box_cell {w w1 : World} {v : Value} {t : Nat} (h : Below (w.alloc (.cells #[v] t)).heap.size (w.alloc (.cells #[v] t)) w1) : w1.cell? ⟨w.heap.size, 0, none⟩ = some v ∧ w.heap.size < w1.heap.size := by
  refine ⟨?_, by have := h.size; simp at this; omega⟩
  rw [h.cell (p := ⟨w.heap.size, 0, none⟩) (by simp)]
  rw [cell_of_row _ _ _ _ _ _ (heap_alloc_new w _)]
  rfl

set_option maxRecDepth 100000 in
set_option maxHeartbeats 1000000 in
theorem Turn_none (A : Option Addr) (n c : Nat) (l : PL) (key : Int) (w : World) (h : PS w A n c l) (hT : IsTree l) (hx : ixK l key = -1) :
    Calls Try.prog 9 #[.slice A n c, I key] w fun e w' => e = .returned (.tuple #[.slice none 0 0, I 4]) ∧ Below w.heap.size w w' := by
  have hn : n ≤ 200 := by have := hT.1; rw [h.len] at this; exact this
  have H := Lib.hid h
  have HT := Lib.hid (chkS_zero.2 hT)
  have HX := Lib.hid hx
  clear h hT hx
  go_enter Try.func9, Try.ntmps9
  go_wp2_with fail
  refine (CheckS_is A n c l _ (H.out.alloc _) (by omega) 0 HT.out).mono ?_
  rintro e w1 ⟨rfl, hb1⟩
  have HB1 := Lib.hid (below_box hb1)
  have HBX := Lib.hid (box_cell hb1)
  clear hb1
  go_wp2_with fail
  refine (ixTurn_any A n c _ l key w1 (H.out.below HB1.out) (by omega) HBX.out.1 HBX.out.2).mono ?_
  rintro e w2 ⟨rfl, hb2⟩
  rw [HX.out]
  have HB2 := Lib.hid (below_on HB1.out hb2)
  clear hb2
  go_wp2
  go_ret2
  exact ⟨rfl, HB2.out⟩

set_option maxRecDepth 100000 in
set_option maxHeartbeats 1000000 in
theorem Turn_root (A : Option Addr) (n c i : Nat) (l : PL) (key : Int) (w : World) (h : PS w A n c l) (hT : IsTree l) (hx : ixK l key = i) (hi : i < n) (hd : dp l i = 0) :
    Calls Try.prog 9 #[.slice A n c, I key] w fun e w' => e = .returned (.tuple #[.slice none 0 0, I 4]) ∧ Below w.heap.size w w' := by
  have hn : n ≤ 200 := by have := hT.1; rw [h.len] at this; exact this
  have H := Lib.hid h
  have HT := Lib.hid (chkS_zero.2 hT)
  have HX := Lib.hid hx
  obtain ⟨b, off, rfl, hb, hc⟩ := H.out.dat (by omega)
  have HC : Hid (w.cell? ⟨b, off + i * 2 + 1, none⟩ = some (I 0)) := by show _ = _; rw [(hc i hi).2, hd]
  clear h hT hx hd hc
  go_enter Try.func9, Try.ntmps9
  go_wp2_with fail
  refine (CheckS_is _ n c l _ (H.out.alloc _) (by omega) 0 HT.out).mono ?_
  rintro e w1 ⟨rfl, hb1⟩
  have HB1 := Lib.hid (below_box hb1)
  have HBX := Lib.hid (box_cell hb1)
  clear hb1
  go_wp2_with fail
  refine (ixTurn_any _ n c _ l key w1 (H.out.below HB1.out) (by omega) HBX.out.1 HBX.out.2).mono ?_
  rintro e w2 ⟨rfl, hb2⟩
  rw [HX.out]
  have hc2 : w2.cell? ⟨b, off + i * 2 + 1, none⟩ = some (I 0) := ((below_on HB1.out hb2).cell (by exact hb)).trans HC.out
  have HB2 := Lib.hid (below_on HB1.out hb2)
  clear hb2
  go_wp2
  go_ret2
  exact ⟨rfl, HB2.out⟩

set_option maxRecDepth 100000 in
set_option maxHeartbeats 2000000 in
theorem Turn_ok (A : Option Addr) (n c i : Nat) (l : PL) (key : Int) (w : World) (h : PS w A n c l) (hT : IsTree l) (hx : ixK l key = i) (hi : i < n) (hd : dp l i ≠ 0) :
    Calls Try.prog 9 #[.slice A n c, I key] w (RetSp (turnL l i) w) := by
  have hn : n ≤ 200 := by have := hT.1; rw [h.len] at this; exact this
  have H := Lib.hid h
  have Hlen := Lib.hid h.len
  have HTR := Lib.hid hT
  have HT := Lib.hid (chkS_zero.2 hT)
  have HX := Lib.hid hx
  obtain ⟨j, hj, htd⟩ := turned_of hT (by rw [h.len]; exact hi) hd
  have hjn : j < n := by have := htd.lt; rw [h.len] at this; exact this
  have hne := htd.ne
  have HJ := Lib.hid hj
  have hz : (dp l i == 0) = false := by simpa using hd
  obtain ⟨b, off, rfl, hb, hc⟩ := H.out.dat (by omega)
  have HC := Lib.hid (hc i hi).2
  have hf := frR_le l j
  have hfi := htd.fr
  have hti := htd.to
  have ht := toR_bd l j htd.lt
  have HF : Hid (turnL l i = if i < j then shf (shf l (frR l j) (i + 1) (-1)) j (toR l j) 1 else shf (shf l (frR l j) (j + 1) 1) i (toR l j) (-1)) := by
    show _ = _
    unfold turnL
    rw [hj, Int.toNat_natCast]
  rw [h.len] at ht
  clear h hT hx hd hc hj htd
  go_enter Try.func9, Try.ntmps9
  go_wp2_with fail
  refine (CheckS_is _ n c l _ (H.out.alloc _) (by omega) 0 HT.out).mono ?_
  rintro e w1 ⟨rfl, hb1⟩
  have HB1 := Lib.hid (below_box hb1)
  have HBX := Lib.hid (box_cell hb1)
  clear hb1
  go_wp2_with fail
  refine (ixTurn_any _ n c _ l key w1 (H.out.below HB1.out) (by omega) HBX.out.1 HBX.out.2).mono ?_
  rintro e w2 ⟨rfl, hb2⟩
  rw [HX.out]
  have hc2 : w2.cell? ⟨b, off + i * 2 + 1, none⟩ = some (I (dp l i)) := ((below_on HB1.out hb2).cell (by exact hb)).trans HC.out
  have HB2 := Lib.hid (below_on HB1.out hb2)
  clear hb2
  go_wp2_with fail
  refine (parentOf_any _ n c i l w2 (H.out.below HB2.out) (by omega) hi).mono ?_
  rintro e w3 ⟨rfl, hb3⟩
  rw [HJ.out]
  have HB3 := Lib.hid (below_on HB2.out hb3)
  clear hb3 hc2
  go_wp2_with fail
  refine (partOf_any _ n c j l w3 (H.out.below HB3.out) (by omega) hjn).mono ?_
  rintro e w4 ⟨rfl, hb4⟩
  have HB4 := Lib.hid (below_on HB3.out hb4)
  clear hb4
  generalize frR l j = f at *
  generalize toR l j = t at *
  go_wp2_with fail
  refine (clone_any _ n c l w4 (H.out.below HB4.out) (by omega)).mono ?_
  rintro e w5 ⟨v, rfl, hown, hb5⟩
  obtain ⟨A5, c5, rfl, -, -⟩ := hown.ps
  obtain ⟨g, rfl, -, hg, hc5, hsb⟩ := hown.sb (by rw [Hlen.out]; omega)
  rw [Hlen.out] at hc5 ⊢
  have hgw : w.heap.size ≤ g := Nat.le_trans HB4.out.size hg
  have HB5 := Lib.hid (below_on HB4.out hb5)
  have HSB := Lib.hid hsb
  clear hb5 hown hsb
  have HD : Hid (∀ x, 0 ≤ dp l x ∧ dp l x ≤ 200) := tree_dp HTR.out
  rcases Nat.lt_or_ge i j with hij | hij
  · have hc1 : ¬ c5 = f := by omega
    have hc3 : ¬ c5 = j := by omega
    rw [if_pos hij] at HF
    go_wp2_with fail
    refine (shift_any g f (i + 1 - f) _ (-1) l w5 HSB.out (by rw [Hlen.out]; omega) (by rw [Hlen.out]; omega) (by omega) (fun x => by have := HD.out x; omega) (by omega)).mono ?_
    rintro e w6 ⟨rfl, hsb6, hb6⟩
    have e6 : f + (i + 1 - f) = i + 1 := by omega
    rw [e6] at hsb6
    have hl6 := shf_length l f (i + 1) (-1) (by omega)
    have HD6 : Hid (∀ x, -1000 ≤ dp (shf l f (i + 1) (-1)) x ∧ dp (shf l f (i + 1) (-1)) x ≤ 1000) := fun x => by
      have h1 := HD.out x
      rcases (shf_pt l f (i + 1) (-1) (by omega) (by rw [Hlen.out]; omega) x).2 with h2 | h2 <;> rw [h2] <;> omega
    have HB6 := Lib.hid (HB5.out.trans (hb6 w.heap.size hgw))
    have HSB6 := Lib.hid hsb6
    have HL6 := Lib.hid hl6
    clear hsb6 hb6 e6 hl6
    go_wp2_with fail
    refine (shift_any g j (t - j) _ 1 _ w6 HSB6.out (by rw [HL6.out, Hlen.out]; omega) (by rw [HL6.out, Hlen.out]; omega) (by omega) HD6.out (by omega)).mono ?_
    rintro e w7 ⟨rfl, hsb7, hb7⟩
    have e7 : j + (t - j) = t := by omega
    rw [e7, ← HF.out] at hsb7
    have HB7 := Lib.hid (HB6.out.trans (hb7 w.heap.size hgw))
    have hl7 : (turnL l i).length = n := by rw [HF.out, shf_length _ _ _ _ (by omega), HL6.out, Hlen.out]
    have hps := hsb7.ps (c := c5) (by omega)
    rw [hl7] at hps
    have HPS := Lib.hid hps
    clear hsb7 hb7 e7 hl7 hps
    go_wp2
    go_ret2
    exact ⟨_, n, c5, rfl, HPS.out, HB7.out, fun ad h => by cases h; exact hgw⟩
  · have hlt : j < i := by omega
    have hnij : ¬ i < j := by omega
    have hc1 : ¬ c5 = f := by omega
    have hc3 : ¬ c5 = i := by omega
    rw [if_neg hnij] at HF
    go_wp2_with fail
    refine (shift_any g f (j + 1 - f) _ 1 l w5 HSB.out (by rw [Hlen.out]; omega) (by rw [Hlen.out]; omega) (by omega) (fun x => by have := HD.out x; omega) (by omega)).mono ?_
    rintro e w6 ⟨rfl, hsb6, hb6⟩
    have e6 : f + (j + 1 - f) = j + 1 := by omega
    rw [e6] at hsb6
    have hl6 := shf_length l f (j + 1) 1 (by omega)
    have HD6 : Hid (∀ x, -1000 ≤ dp (shf l f (j + 1) 1) x ∧ dp (shf l f (j + 1) 1) x ≤ 1000) := fun x => by
      have h1 := HD.out x
      rcases (shf_pt l f (j + 1) 1 (by omega) (by rw [Hlen.out]; omega) x).2 with h2 | h2 <;> rw [h2] <;> omega
    have HB6 := Lib.hid (HB5.out.trans (hb6 w.heap.size hgw))
    have HSB6 := Lib.hid hsb6
    have HL6 := Lib.hid hl6
    clear hsb6 hb6 e6 hl6
    go_wp2_with fail
    refine (shift_any g i (t - i) _ (-1) _ w6 HSB6.out (by rw [HL6.out, Hlen.out]; omega) (by rw [HL6.out, Hlen.out]; omega) (by omega) HD6.out (by omega)).mono ?_
    rintro e w7 ⟨rfl, hsb7, hb7⟩
    have e7 : i + (t - i) = t := by omega
    rw [e7, ← HF.out] at hsb7
    have HB7 := Lib.hid (HB6.out.trans (hb7 w.heap.size hgw))
    have hl7 : (turnL l i).length = n := by rw [HF.out, shf_length _ _ _ _ (by omega), HL6.out, Hlen.out]
    have hps := hsb7.ps (c := c5) (by omega)
    rw [hl7] at hps
    have HPS := Lib.hid hps
    clear hsb7 hb7 e7 hl7 hps
    go_wp2
    go_ret2
    exact ⟨_, n, c5, rfl, HPS.out, HB7.out, fun ad h => by cases h; exact hgw⟩

end Go.Proofs.Ytjonepkdkhhonaa
