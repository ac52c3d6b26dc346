/-
  A slice of numbers; slices.Equal at int.
-/
import Derived.Test.YtolfpjleckckiaaChecked
import Derived.Test.YtolfpjleckckiaaWords
import Derived.BigQuiet
import Derived.Deep.QuietTactic
namespace Go.Proofs.Ytolfpjleckckiaa
open Go.RowKit

/-- a slice of numbers -/
structure IS (w : World) (A : Option Addr) (n c : Nat) (l : List Int) : Prop where
  len : l.length = n
  rd : Rd w w.heap.size 1 A n c (fun i _ => I (l[i]?.getD 0))
theorem IS.below {w w' : World} {n c : Nat} {A : Option Addr} {l : List Int} (h : IS w A n c l) (hb : Below w.heap.size w w') : IS w' A n c l := ⟨h.len, h.rd.below hb⟩
theorem IS.at_ {w : World} {n c : Nat} {A : Option Addr} {l : List Int} (h : IS w A n c l) (hn : 0 < n) :
    ∃ b off, A = some ⟨b, off, none⟩ ∧ b < w.heap.size ∧ ∀ i (hi : i < n), w.cell? ⟨b, off + i, none⟩ = some (I (l[i]'(by rw [h.len]; exact hi))) := by
  obtain ⟨b, off, e, hb, hc⟩ := h.rd.2 hn
  refine ⟨b, off, e, hb, fun i hi => ?_⟩
  have hl : i < l.length := by rw [h.len]; exact hi
  have h0 := hc i hi 0 (by omega)
  simpa [List.getElem?_eq_getElem hl] using h0

theorem eq_step {α : Type} {l m : List α} {n k : Nat} (hl : l.length = n) (hm : m.length = n) (hk : n ≤ k) (h : ∀ i, i < k → l[i]? = m[i]?) : l = m := by
  apply List.ext_getElem?
  intro i
  rcases Nat.lt_or_ge i k with h1 | h1
  · exact h i h1
  · rw [List.getElem?_eq_none (by omega), List.getElem?_eq_none (by omega)]
def sameTo {α : Type} (l m : List α) (k : Nat) : Prop := ∀ i, i < k → l[i]? = m[i]?
theorem sameTo_succ {α : Type} {l m : List α} {k : Nat} (h : sameTo l m k) (h1 : l[k]? = m[k]?) : sameTo l m (k + 1) := fun i hi => by
  rcases Nat.lt_or_ge i k with h2 | h2
  · exact h i h2
  · obtain rfl : i = k := by omega
    exact h1

set_option maxHeartbeats 1000000 in
theorem eqInt_any (A A' : Option Addr) (n n' c c' : Nat) (l m : List Int) (w : World) (h : IS w A n c l) (h' : IS w A' n' c' m) (hn : n ≤ 1000000) (hn' : n' ≤ 1000000) :
    Calls Try.prog 20 #[.slice A n c, .slice A' n' c'] w fun e w' => e = .returned (.bool (decide (l = m))) ∧ Below w.heap.size w w' := by
  have H := Lib.hid h
  have H' := Lib.hid h'
  clear h h'
  by_cases hnn : n = n'
  · subst hnn
    have hne : ((n : Int) != (n : Int)) = false := by simp
    go_enter Try.func20, Try.ntmps20
    go_wp2
    go_loopw [13] (fun i wr => ∃ k : Nat, k ≤ n ∧ i = .int .i64 k ∧ sameTo l m k ∧ Below w.heap.size w wr) (fun i _ => n - (intOf i).toNat)
    case atStart => exact ⟨0, Nat.zero_le _, rfl, fun i hi => absurd hi (by omega), Below.refl _ _⟩
    case round =>
      obtain ⟨k, hk, rfl, hsame, hnx⟩ := hrel
      have hsz := hnx.size
      by_cases hlt : k < n
      · obtain ⟨b, off, rfl, hb, hc⟩ := H.out.at_ (by omega)
        obtain ⟨b', off', rfl, hb', hc'⟩ := H'.out.at_ (by omega)
        have hkl : k < l.length := by have := H.out.len; omega
        have hkm : k < m.length := by have := H'.out.len; omega
        have hc0 : wr.cell? ⟨b, off + k, none⟩ = some (I l[k]) := (hnx.cell (by exact hb)).trans (hc k hlt)
        have hc1 : wr.cell? ⟨b', off' + k, none⟩ = some (I m[k]) := (hnx.cell (by exact hb')).trans (hc' k hlt)
        clear hc hc'
        by_cases heq : l[k] = m[k]
        · have HS : Hid (sameTo l m (k + 1)) := sameTo_succ hsame (by rw [List.getElem?_eq_getElem hkl, List.getElem?_eq_getElem hkm, heq])
          have hb0 : (l[k] != m[k]) = false := by simp [heq]
          have HE := Lib.hid heq
          clear heq hsame
          go_wp2
          go_quiet (fail)
          go_wp2
          go_roundw
          case rel => exact ⟨k + 1, by omega, by go_num, HS.out, below_drewN hnx _⟩
          case measure => simp [intOf]; omega
        · have HF : Hid (decide (l = m) = false) := by
            refine decide_eq_false ?_
            intro e
            subst e
            exact heq rfl
          have hb0 : (l[k] != m[k]) = true := by simp [heq]
          clear heq hsame
          go_wp2
          go_quiet (fail)
          go_wp2
          go_ret
          exact ⟨by rw [HF.out]; rfl, below_drewN hnx _⟩
      · have HF : Hid (decide (l = m) = true) := decide_eq_true (eq_step H.out.len H'.out.len (by omega) hsame)
        clear hsame
        go_wp2
        go_ret
        exact ⟨by rw [HF.out]; rfl, hnx⟩
  · have HF : Hid (decide (l = m) = false) := by
      refine decide_eq_false ?_
      intro e
      subst e
      exact hnn (H.out.len.symm.trans H'.out.len)
    have hne : ((n : Int) != (n' : Int)) = true := by simp; omega
    clear hnn
    go_enter Try.func20, Try.ntmps20
    go_wp2
    go_ret
    exact ⟨by rw [HF.out]; rfl, Below.refl _ _⟩

end Go.Proofs.Ytolfpjleckckiaa
