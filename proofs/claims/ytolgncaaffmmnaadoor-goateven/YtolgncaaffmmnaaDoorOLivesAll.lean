/-
  Joined texts: YtolgncaaffmmnaaDoorSEq, YtolgncaaffmmnaaDoorOLives.
-/
import Derived.Test.YtolgncaaffmmnaaDoorKLiftAll
import Derived.Test.YtolgncaaffmmnaaDoorORun
import Derived.Test.YtolgncaaffmmnaaDoorThreeAll
/-
  slices.Equal at Spot.
-/
namespace Go.Proofs.YtolgncaaffmmnaaDoor
open Go.RowKit

set_option maxHeartbeats 1000000 in
theorem eqSpot_any (A A' : Option Addr) (n n' c c' : Nat) (l m : PL) (w : World) (h : PS w A n c l) (h' : PS w A' n' c' m) (hn : n ≤ 1000000) (hn' : n' ≤ 1000000) :
    Calls Tryd.prog 41 #[.slice A n c, .slice A' n' c'] w fun e w' => e = .returned (.bool (decide (l = m))) ∧ Below w.heap.size w w' := by
  have H := Lib.hid h
  have H' := Lib.hid h'
  clear h h'
  by_cases hnn : n = n'
  · subst hnn
    have hne : ((n : Int) != (n : Int)) = false := by simp
    go_enter Tryd.func41, Tryd.ntmps41
    go_wp2
    go_loopw [13] (fun i wr => ∃ k : Nat, k ≤ n ∧ i = .int .i64 k ∧ sameTo l m k ∧ Below w.heap.size w wr) (fun i _ => n - (intOf i).toNat)
    case atStart => exact ⟨0, Nat.zero_le _, rfl, fun i hi => absurd hi (by omega), Below.refl _ _⟩
    case round =>
      obtain ⟨k, hk, rfl, hsame, hnx⟩ := hrel
      have hsz := hnx.size
      by_cases hlt : k < n
      · obtain ⟨b, off, rfl, hb, hc⟩ := H.out.at_ (by omega)
        obtain ⟨b', off', rfl, hb', hc'⟩ := H'.out.at_ (by omega)
        have hkl : k < l.length := by have := H.out.len; omega
        have hkm : k < m.length := by have := H'.out.len; omega
        have hc0 : wr.cell? ⟨b, off + k * 2, none⟩ = some (I l[k].1) := (hnx.cell (by exact hb)).trans (hc k hlt).1
        have hc1 : wr.cell? ⟨b, off + k * 2 + 1, none⟩ = some (I l[k].2) := (hnx.cell (by exact hb)).trans (hc k hlt).2
        have hd0 : wr.cell? ⟨b', off' + k * 2, none⟩ = some (I m[k].1) := (hnx.cell (by exact hb')).trans (hc' k hlt).1
        have hd1 : wr.cell? ⟨b', off' + k * 2 + 1, none⟩ = some (I m[k].2) := (hnx.cell (by exact hb')).trans (hc' k hlt).2
        clear hc hc'
        by_cases heq : l[k] = m[k]
        · have HS : Hid (sameTo l m (k + 1)) := sameTo_succ hsame (by rw [List.getElem?_eq_getElem hkl, List.getElem?_eq_getElem hkm, heq])
          have hb0 : (l[k].1 == m[k].1) = true := by simp [heq]
          have hb1 : (l[k].2 == m[k].2) = true := by simp [heq]
          have HE := Lib.hid heq
          clear heq hsame
          go_wp2
          go_quiet (fail)
          go_wp2
          go_roundw
          case rel => exact ⟨k + 1, by omega, by go_num, HS.out, below_drewN hnx _⟩
          case measure => simp [intOf]; omega
        · have HF : Hid (decide (l = m) = false) := by
            refine decide_eq_false ?_
            intro e
            subst e
            exact heq rfl
          have hne2 : l[k].1 ≠ m[k].1 ∨ l[k].2 ≠ m[k].2 := by
            by_cases h1 : l[k].1 = m[k].1
            · right; intro h2; exact heq (Prod.ext h1 h2)
            · left; exact h1
          clear heq hsame
          by_cases h1 : l[k].1 = m[k].1
          · have hb0 : (l[k].1 == m[k].1) = true := by simp [h1]
            have hb1 : (l[k].2 == m[k].2) = false := by
              rcases hne2 with h2 | h2
              · exact absurd h1 h2
              · simp [h2]
            clear hne2 h1
            go_wp2
            go_quiet (fail)
            go_wp2
            go_ret
            exact ⟨by rw [HF.out]; rfl, below_drewN hnx _⟩
          · have hb0 : (l[k].1 == m[k].1) = false := by simp [h1]
            clear hne2 h1
            go_wp2
            go_quiet (fail)
            go_wp2
            go_ret
            exact ⟨by rw [HF.out]; rfl, below_drewN hnx _⟩
      · have HF : Hid (decide (l = m) = true) := decide_eq_true (eq_step H.out.len H'.out.len (by omega) hsame)
        clear hsame
        go_wp2
        go_ret
        exact ⟨by rw [HF.out]; rfl, hnx⟩
  · have HF : Hid (decide (l = m) = false) := by
      refine decide_eq_false ?_
      intro e
      subst e
      exact hnn (H.out.len.symm.trans H'.out.len)
    have hne : ((n : Int) != (n' : Int)) = true := by simp; omega
    clear hnn
    go_enter Tryd.func41, Tryd.ntmps41
    go_wp2
    go_ret
    exact ⟨by rw [HF.out]; rfl, Below.refl _ _⟩

end Go.Proofs.YtolgncaaffmmnaaDoor

/-
  goatLives: keys that rise.
-/
namespace Go.Proofs.YtolgncaaffmmnaaDoor
open Go.RowKit

theorem oeqSpot_t (A A' : Option Addr) (n c c' : Nat) (l : PL) (w : World) (h : PS w A n c l) (h' : PS w A' n c' l) (hn : n ≤ 1000000) :
    Calls Tryd.prog 41 #[.slice A n c, .slice A' n c'] w fun e w' => e = .returned (.bool true) ∧ Below w.heap.size w w' := by
  refine (eqSpot_any A A' n n c c' l l w h h' hn hn).mono ?_
  rintro e w' ⟨rfl, hb⟩
  exact ⟨by simp, hb⟩
theorem ol_size : (goT (putsOf [1, 2, 3, 4, 5])).t.size = 5 := by decide +kernel
theorem ol_built : (goT (putsOf [1, 2, 3, 4, 5])).built = 4 := by decide +kernel
theorem ol_ev : (ev [1, 2, 3]).sp 0 = gth := by decide +kernel
theorem ol_rise : Rise [1, 2, 3] := ⟨by decide, by decide, by decide⟩
theorem ol_deep : dpst 4 = 3 := by decide +kernel

set_option maxRecDepth 100000 in
set_option maxHeartbeats 4000000 in
theorem goatLives_any (w : World) (hT : Tb w) : Calls Tryd.prog 20 #[] w fun e w' => e = .returned (.bool true) ∧ Below w.heap.size w w' := by
  have HT := Lib.hid hT
  clear hT
  go_enter Tryd.func20, Tryd.ntmps20
  go_wp2_with fail
  refine (putAll_any _ 5 5 [1, 2, 3, 4, 5] _ (is_new w 3 [1, 2, 3, 4, 5]) (by omega)).mono ?_
  rintro e w1 ⟨v1, rfl, ho1, hb1⟩
  obtain ⟨A1, c1, rfl, hos1⟩ := ho1.os
  have HB1 := Lib.hid (gbelow_box hb1)
  have HT1 := Lib.hid (HT.out.next (gbelow_box hb1))
  have HR := Lib.hid (ORun_any A1 5 c1 5 (putsOf [1, 2, 3, 4, 5]) w1 hos1 (by omega) ol_size)
  rw [ol_built] at HR
  clear ho1 hb1 hos1
  go_wp2_with fail
  refine HR.out.mono ?_
  rintro e w2 ⟨A2, c2, A3, n3, c3, rfl, hps2, has2, hb2⟩
  obtain rfl : n3 = 5 := by rw [← has2.len, runR_len]; rfl
  have HB2 := Lib.hid (below_next HB1.out hb2)
  have HT2 := Lib.hid (HT1.out.next hb2)
  have HEV := Lib.hid (Even_ok _ 3 3 [1, 2, 3] _ (is_new w2 3 [1, 2, 3]) ol_rise ((HT1.out.next hb2).next ((Below.refl _ _).alloc (Nat.le_refl _) _)))
  rw [ol_ev] at HEV
  clear hb2 hps2 has2 HR
  go_wp2_with fail
  refine HEV.out.mono ?_
  rintro e w3 ⟨A4, c4, rfl, hps4, hb3⟩
  have HB3 := Lib.hid (below_next HB2.out (gbelow_box hb3))
  have HP3 := Lib.hid hps4
  have HD := Lib.hid (ODeepest_ok 4 w3 (by omega))
  rw [ol_deep] at HD
  clear hps4 hb3 HEV
  go_wp2_with fail
  refine HD.out.mono ?_
  rintro e w3' ⟨rfl, hw3⟩
  subst hw3
  go_wp2_with fail
  refine (ok_any _ 3 3 [0, 0, 0] _ (is_new w3' 25 [0, 0, 0]) (by omega) (by simp)).mono ?_
  rintro e w5 ⟨rfl, rfl⟩
  obtain ⟨w5, hw5⟩ : ∃ W, w3'.alloc (Obj.cells (List.map I [0, 0, 0]).toArray 25) = W := ⟨_, rfl⟩
  have hbx : Below w3'.heap.size w3' w5 := by rw [← hw5]; exact (Below.refl _ _).alloc (Nat.le_refl _) _
  rw [hw5]
  have HB5 := Lib.hid (below_next HB3.out hbx)
  have HP5 := Lib.hid (HP3.out.below hbx)
  clear hbx hw5 HD
  go_wp2_with fail
  refine (gthree_any w5).mono ?_
  rintro e w6 ⟨rfl, hpb6, hb6⟩
  have HB6 := Lib.hid (below_next HB5.out hb6)
  have HE := Lib.hid (oeqSpot_t A4 _ 3 c4 3 gth w6 (HP5.out.below hb6) (hpb6.ps (Nat.le_refl _)) (by omega))
  clear hpb6 hb6
  go_wp2_with fail
  refine HE.out.mono ?_
  rintro e w7 ⟨rfl, hb7⟩
  have HB7 := Lib.hid (below_next HB6.out hb7)
  clear hb7
  go_wp2
  go_ret
  exact ⟨rfl, HB7.out⟩

end Go.Proofs.YtolgncaaffmmnaaDoor
