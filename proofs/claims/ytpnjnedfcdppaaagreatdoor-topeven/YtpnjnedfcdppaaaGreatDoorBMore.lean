/-
  ASKED MORE OFTEN, SO MANY TIMES AS OFTEN, THE OTHER WAY ROUND: what the least costs come to: plain mathematics. Nothing of the program.
-/
import Derived.Test.YtpnjnedfcdppaaaGreatDoorBPure
namespace Go.Proofs.YtpnjnedfcdppaaaGreatDoor

/-- the least costs of all parts, whatever is asked -/
structure MinC (w c : Nat → Nat → Int) (n : Nat) : Prop where
  zero : ∀ i, i ≤ n → c i i = 0
  le : ∀ i j k, i ≤ k → k < j → j ≤ n → c i j ≤ w i j + c i k + c (k + 1) j
  has : ∀ i j, i < j → j ≤ n → ∃ k, i ≤ k ∧ k < j ∧ c i j = w i j + c i k + c (k + 1) j
theorem OptC.min {w c : Nat → Nat → Int} {n : Nat} (h : OptC w c n) : MinC w c n := ⟨h.zero, h.le, h.has⟩
theorem MinC.mono {w c w' c' : Nat → Nat → Int} {n : Nat} (h : MinC w c n) (h' : MinC w' c' n) (hw : ∀ i j, i < j → j ≤ n → w i j ≤ w' i j) : ∀ (m i j : Nat), j - i ≤ m → i ≤ j → j ≤ n → c i j ≤ c' i j
  | 0, i, j, hm, hij, hj => by
    obtain rfl : i = j := by omega
    rw [h.zero i hj, h'.zero i hj]
    exact Int.le_refl _
  | m + 1, i, j, hm, hij, hj => by
    rcases Nat.eq_or_lt_of_le hij with e | hlt
    · subst e
      rw [h.zero i hj, h'.zero i hj]
      exact Int.le_refl _
    · obtain ⟨k, h1, h2, h3⟩ := h'.has i j hlt hj
      have a1 := h.le i j k h1 h2 hj
      have a2 := MinC.mono h h' hw m i k (by omega) h1 (by omega)
      have a3 := MinC.mono h h' hw m (k + 1) j (by omega) (by omega) hj
      have a4 := hw i j hlt hj
      omega
/-- the least costs are told by the sums alone -/
theorem MinC.same {w c w' c' : Nat → Nat → Int} {n : Nat} (h : MinC w c n) (h' : MinC w' c' n) (hw : ∀ i j, i < j → j ≤ n → w i j = w' i j) (i j : Nat) (hij : i ≤ j) (hj : j ≤ n) : c i j = c' i j :=
  Int.le_antisymm (h.mono h' (fun i j a b => Int.le_of_eq (hw i j a b)) _ i j (Nat.le_refl _) hij hj) (h'.mono h (fun i j a b => Int.le_of_eq (hw i j a b).symm) _ i j (Nat.le_refl _) hij hj)
/-- so many times as often: so many times as much -/
theorem MinC.times {w c : Nat → Nat → Int} {n : Nat} (h : MinC w c n) {t : Int} (ht : 0 ≤ t) : MinC (fun i j => w i j * t) (fun i j => c i j * t) n := by
  refine ⟨fun i hi => ?_, fun i j k h1 h2 h3 => ?_, fun i j h1 h2 => ?_⟩
  · show c i i * t = 0
    rw [h.zero i hi, Int.zero_mul]
  · have := Int.mul_le_mul_of_nonneg_right (h.le i j k h1 h2 h3) ht
    show c i j * t ≤ w i j * t + c i k * t + c (k + 1) j * t
    rw [Int.add_mul, Int.add_mul] at this
    exact this
  · obtain ⟨k, a, b, e⟩ := h.has i j h1 h2
    refine ⟨k, a, b, ?_⟩
    show c i j * t = w i j * t + c i k * t + c (k + 1) j * t
    rw [e, Int.add_mul, Int.add_mul]
/-- the other way round -/
theorem MinC.turned {w c : Nat → Nat → Int} {n : Nat} (h : MinC w c n) : MinC (fun i j => w (n - j) (n - i)) (fun i j => c (n - j) (n - i)) n := by
  refine ⟨fun i hi => h.zero _ (by omega), fun i j k h1 h2 h3 => ?_, fun i j h1 h2 => ?_⟩
  · have := h.le (n - j) (n - i) (n - 1 - k) (by omega) (by omega) (by omega)
    rw [show n - 1 - k + 1 = n - k by omega, show n - 1 - k = n - (k + 1) by omega] at this
    show c (n - j) (n - i) ≤ w (n - j) (n - i) + c (n - k) (n - i) + c (n - j) (n - (k + 1))
    omega
  · obtain ⟨k, a, b, e⟩ := h.has (n - j) (n - i) (by omega) (by omega)
    refine ⟨n - 1 - k, by omega, by omega, ?_⟩
    show c (n - j) (n - i) = w (n - j) (n - i) + c (n - (n - 1 - k)) (n - i) + c (n - j) (n - (n - 1 - k + 1))
    rw [show n - (n - 1 - k) = k + 1 by omega, show n - (n - 1 - k + 1) = k by omega]
    omega
/-- asked for m times more: no more than that for each key costs it more -/
theorem MinC.more {w c w' c' : Nat → Nat → Int} {n x : Nat} {m : Int} (hm : 0 ≤ m) (h : MinC w c n) (h' : MinC w' c' n) (hw : ∀ i j, i < j → j ≤ n → w' i j = w i j + (if i ≤ x ∧ x < j then m else 0)) :
    ∀ (q i j : Nat), j - i ≤ q → i ≤ j → j ≤ n → c' i j ≤ c i j + (if i ≤ x ∧ x < j then m * ((j : Int) - (i : Int)) else 0)
  | 0, i, j, hq, hij, hj => by
    obtain rfl : i = j := by omega
    rw [h.zero i hj, h'.zero i hj, if_neg (by omega)]
    exact Int.le_refl _
  | q + 1, i, j, hq, hij, hj => by
    rcases Nat.eq_or_lt_of_le hij with e | hlt
    · subst e
      rw [h.zero i hj, h'.zero i hj, if_neg (by omega)]
      exact Int.le_refl _
    · obtain ⟨k, h1, h2, h3⟩ := h.has i j hlt hj
      have a1 := h'.le i j k h1 h2 hj
      have a2 := MinC.more hm h h' hw q i k (by omega) h1 (by omega)
      have a3 := MinC.more hm h h' hw q (k + 1) j (by omega) (by omega) hj
      rw [hw i j hlt hj] at a1
      have mul_le : ∀ u v : Int, u ≤ v → m * u ≤ m * v := fun u v huv => Int.mul_le_mul_of_nonneg_left huv hm
      by_cases hin : i ≤ x ∧ x < j
      · rw [if_pos hin] at a1 ⊢
        have split : m * ((j : Int) - (i : Int)) = m + m * ((j : Int) - (i : Int) - 1) := by
          rw [Int.mul_sub m _ 1, Int.mul_one]
          omega
        rw [split]
        by_cases hl : x < k
        · rw [if_pos ⟨hin.1, hl⟩] at a2
          rw [if_neg (by omega)] at a3
          have := mul_le ((k : Int) - (i : Int)) ((j : Int) - (i : Int) - 1) (by omega)
          omega
        · rw [if_neg (by omega)] at a2
          by_cases hr : k + 1 ≤ x
          · rw [if_pos ⟨hr, hin.2⟩] at a3
            have := mul_le ((j : Int) - ((k + 1 : Nat) : Int)) ((j : Int) - (i : Int) - 1) (by omega)
            omega
          · rw [if_neg (by omega)] at a3
            have := mul_le 0 ((j : Int) - (i : Int) - 1) (by omega)
            rw [Int.mul_zero] at this
            omega
      · rw [if_neg hin] at a1 ⊢
        rw [if_neg (by omega)] at a2 a3
        omega

/-- the sums: more of one, so many times all, the other way round -/
theorem wij_times (hits gaps : List Int) (t : Int) (i : Nat) : ∀ d, wgt (hits.map (· * t)) (gaps.map (· * t)) i d = wgt hits gaps i d * t := by
  have g : ∀ (l : List Int) (q : Nat), (l.map (· * t))[q]?.getD 0 = l[q]?.getD 0 * t := fun l q => by
    rw [List.getElem?_map]
    cases l[q]? <;> simp
  intro d
  induction d with
  | zero => simp only [wgt]; exact g gaps i
  | succ d ih => simp only [wgt]; rw [ih, g, g, Int.add_mul, Int.add_mul]
theorem wij_set (hits gaps : List Int) (x : Nat) (m : Int) (hx : x < hits.length) (i : Nat) : ∀ d, wgt (hits.set x (hits[x] + m)) gaps i d = wgt hits gaps i d + (if i ≤ x ∧ x < i + d then m else 0) := by
  intro d
  induction d with
  | zero => simp only [wgt]; rw [if_neg (by omega)]; omega
  | succ d ih =>
    simp only [wgt]
    rw [ih, List.getElem?_set]
    by_cases he : x = i + d
    · subst he
      rw [if_pos rfl, if_pos hx, if_neg (by omega), if_pos (by omega), List.getElem?_eq_getElem hx]
      simp only [Option.getD_some]
      omega
    · rw [if_neg he]
      by_cases hin : i ≤ x ∧ x < i + d
      · rw [if_pos hin, if_pos (by omega)]
        omega
      · rw [if_neg hin, if_neg (by omega)]
        omega
/-- all of a part: gaps, and hits with the gaps behind them -/
theorem wij_turned {hits gaps : List Int} {n : Nat} (hh : hits.length = n) (hg : gaps.length = n + 1) : ∀ (d i : Nat), i + d ≤ n → wij hits.reverse gaps.reverse i (i + d) = wij hits gaps (n - (i + d)) (n - i) := by
  have gr : ∀ q, q ≤ n → gaps.reverse[q]?.getD 0 = gaps[n - q]?.getD 0 := fun q hq => by
    rw [List.getElem?_reverse (by omega), hg]
    congr 2
  have hr : ∀ q, q < n → hits.reverse[q]?.getD 0 = hits[n - 1 - q]?.getD 0 := fun q hq => by
    rw [List.getElem?_reverse (by omega), hh]
  intro d
  induction d with
  | zero =>
    intro i hi
    rw [Nat.add_zero, wij_same, wij_same, gr i (by omega)]
  | succ d ih =>
    intro i hi
    rw [← Nat.add_assoc, wij_succ _ _ (by omega), ih i (by omega), hr (i + d) (by omega), gr (i + d + 1) (by omega)]
    have hp := wij_part hits gaps (i := n - (i + d + 1)) (k := n - (i + d + 1)) (Nat.le_refl _) (n - i) (by omega)
    rw [wij_same, show n - (i + d + 1) + 1 = n - (i + d) by omega] at hp
    rw [hp, show n - 1 - (i + d) = n - (i + d + 1) by omega]
    omega

end Go.Proofs.YtpnjnedfcdppaaaGreatDoor
