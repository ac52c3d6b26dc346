/-
  slices.Equal at Spot.
-/
import Derived.Test.YtjonepkdkhhonaaEqInt
namespace Go.Proofs.Ytjonepkdkhhonaa
open Go.RowKit

set_option maxHeartbeats 1000000 in
theorem eqSpot_any (A A' : Option Addr) (n n' c c' : Nat) (l m : PL) (w : World) (h : PS w A n c l) (h' : PS w A' n' c' m) (hn : n ≤ 1000000) (hn' : n' ≤ 1000000) :
    Calls Try.prog 15 #[.slice A n c, .slice A' n' c'] w fun e w' => e = .returned (.bool (decide (l = m))) ∧ Below w.heap.size w w' := by
  have H := Lib.hid h
  have H' := Lib.hid h'
  clear h h'
  by_cases hnn : n = n'
  · subst hnn
    have hne : ((n : Int) != (n : Int)) = false := by simp
    go_enter Try.func15, Try.ntmps15
    go_wp2
    go_loopw [13] (fun i wr => ∃ k : Nat, k ≤ n ∧ i = .int .i64 k ∧ sameTo l m k ∧ Below w.heap.size w wr) (fun i _ => n - (intOf i).toNat)
    case atStart => exact ⟨0, Nat.zero_le _, rfl, fun i hi => absurd hi (by omega), Below.refl _ _⟩
    case round =>
      obtain ⟨k, hk, rfl, hsame, hnx⟩ := hrel
      have hsz := hnx.size
      by_cases hlt : k < n
      · obtain ⟨b, off, rfl, hb, hc⟩ := H.out.at_ (by omega)
        obtain ⟨b', off', rfl, hb', hc'⟩ := H'.out.at_ (by omega)
        have hkl : k < l.length := by have := H.out.len; omega
        have hkm : k < m.length := by have := H'.out.len; omega
        have hc0 : wr.cell? ⟨b, off + k * 2, none⟩ = some (I l[k].1) := (hnx.cell (by exact hb)).trans (hc k hlt).1
        have hc1 : wr.cell? ⟨b, off + k * 2 + 1, none⟩ = some (I l[k].2) := (hnx.cell (by exact hb)).trans (hc k hlt).2
        have hd0 : wr.cell? ⟨b', off' + k * 2, none⟩ = some (I m[k].1) := (hnx.cell (by exact hb')).trans (hc' k hlt).1
        have hd1 : wr.cell? ⟨b', off' + k * 2 + 1, none⟩ = some (I m[k].2) := (hnx.cell (by exact hb')).trans (hc' k hlt).2
        clear hc hc'
        by_cases heq : l[k] = m[k]
        · have HS : Hid (sameTo l m (k + 1)) := sameTo_succ hsame (by rw [List.getElem?_eq_getElem hkl, List.getElem?_eq_getElem hkm, heq])
          have hb0 : (l[k].1 == m[k].1) = true := by simp [heq]
          have hb1 : (l[k].2 == m[k].2) = true := by simp [heq]
          have HE := Lib.hid heq
          clear heq hsame
          go_wp2
          go_quiet (fail)
          go_wp2
          go_roundw
          case rel => exact ⟨k + 1, by omega, by go_num, HS.out, below_drewN hnx _⟩
          case measure => simp [intOf]; omega
        · have HF : Hid (decide (l = m) = false) := by
            refine decide_eq_false ?_
            intro e
            subst e
            exact heq rfl
          have hne2 : l[k].1 ≠ m[k].1 ∨ l[k].2 ≠ m[k].2 := by
            by_cases h1 : l[k].1 = m[k].1
            · right; intro h2; exact heq (Prod.ext h1 h2)
            · left; exact h1
          clear heq hsame
          by_cases h1 : l[k].1 = m[k].1
          · have hb0 : (l[k].1 == m[k].1) = true := by simp [h1]
            have hb1 : (l[k].2 == m[k].2) = false := by
              rcases hne2 with h2 | h2
              · exact absurd h1 h2
              · simp [h2]
            clear hne2 h1
            go_wp2
            go_quiet (fail)
            go_wp2
            go_ret
            exact ⟨by rw [HF.out]; rfl, below_drewN hnx _⟩
          · have hb0 : (l[k].1 == m[k].1) = false := by simp [h1]
            clear hne2 h1
            go_wp2
            go_quiet (fail)
            go_wp2
            go_ret
            exact ⟨by rw [HF.out]; rfl, below_drewN hnx _⟩
      · have HF : Hid (decide (l = m) = true) := decide_eq_true (eq_step H.out.len H'.out.len (by omega) hsame)
        clear hsame
        go_wp2
        go_ret
        exact ⟨by rw [HF.out]; rfl, hnx⟩
  · have HF : Hid (decide (l = m) = false) := by
      refine decide_eq_false ?_
      intro e
      subst e
      exact hnn (H.out.len.symm.trans H'.out.len)
    have hne : ((n : Int) != (n' : Int)) = true := by simp; omega
    clear hnn
    go_enter Try.func15, Try.ntmps15
    go_wp2
    go_ret
    exact ⟨by rw [HF.out]; rfl, Below.refl _ _⟩

end Go.Proofs.Ytjonepkdkhhonaa
