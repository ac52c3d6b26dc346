/-
  TREES THAT ASK LEAST: KNUTH on the tops of parts; what trees cost: plain mathematics. Nothing of the program.
-/
import Derived.Test.YtpnjnedfcdppaaaGreatDoorOPureAll
namespace Go.Proofs.YtpnjnedfcdppaaaGreatDoor

/-- the least costs of all parts -/
structure OptC (w c : Nat → Nat → Int) (n : Nat) : Prop where
  quad : ∀ i i' j j', i ≤ i' → i' ≤ j → j ≤ j' → j' ≤ n → w i j + w i' j' = w i' j + w i j'
  mono : ∀ i i' j j', i ≤ i' → i' ≤ j → j ≤ j' → j' ≤ n → w i' j ≤ w i j'
  zero : ∀ i, i ≤ n → c i i = 0
  le : ∀ i j k, i ≤ k → k < j → j ≤ n → c i j ≤ w i j + c i k + c (k + 1) j
  has : ∀ i j, i < j → j ≤ n → ∃ k, i ≤ k ∧ k < j ∧ c i j = w i j + c i k + c (k + 1) j
/-- the quadrangle's inequality -/
theorem OptC.qi {w c : Nat → Nat → Int} {n : Nat} (h : OptC w c n) : ∀ (m i i' j j' : Nat), j' - i ≤ m → i ≤ i' → i' ≤ j → j ≤ j' → j' ≤ n → c i j + c i' j' ≤ c i' j + c i j' := by
  intro m
  induction m with
  | zero =>
    intro i i' j j' hm h1 h2 h3 h4
    have e1 : i' = i := by omega
    have e2 : j' = j := by omega
    subst e1 e2
    omega
  | succ m ih =>
    intro i i' j j' hm h1 h2 h3 h4
    by_cases hi : i = i'
    · subst hi
      omega
    · by_cases hj : j = j'
      · subst hj
        omega
      · by_cases hij : i' = j
        · subst hij
          obtain ⟨k, k1, k2, hk⟩ := h.has i j' (by omega) h4
          rw [h.zero i' (by omega), hk]
          by_cases hki : k < i'
          · have a1 := h.le i i' k k1 hki (by omega)
            have a2 := ih (k + 1) i' i' j' (by omega) (by omega) (Nat.le_refl _) h3 h4
            rw [h.zero i' (by omega)] at a2
            have a3 := h.mono i i i' j' (Nat.le_refl _) h1 h3 h4
            omega
          · have a1 := h.le i' j' k (by omega) k2 h4
            have a2 := ih i i' i' k (by omega) h1 (Nat.le_refl _) (by omega) (by omega)
            rw [h.zero i' (by omega)] at a2
            have a3 := h.mono i i' j' j' h1 (by omega) (Nat.le_refl _) h4
            omega
        · obtain ⟨y, y1, y2, hy⟩ := h.has i' j (by omega) (by omega)
          obtain ⟨z, z1, z2, hz⟩ := h.has i j' (by omega) h4
          have hq := h.quad i i' j j' h1 h2 h3 h4
          rw [hy, hz]
          by_cases hzy : z ≤ y
          · have a1 := h.le i j z z1 (by omega) (by omega)
            have a2 := h.le i' j' y y1 (by omega) h4
            have a3 := ih (z + 1) (y + 1) j j' (by omega) (by omega) (by omega) h3 h4
            omega
          · have a1 := h.le i j y (by omega) y2 (by omega)
            have a2 := h.le i' j' z (by omega) z2 h4
            have a3 := ih i i' y z (by omega) h1 y1 (by omega) (by omega)
            omega
/-- the least top of a part -/
structure TopL (w c : Nat → Nat → Int) (i j r : Nat) : Prop where
  ge : i ≤ r
  lt : r < j
  is_ : c i j = w i j + c i r + c (r + 1) j
  least : ∀ k, i ≤ k → k < r → c i j < w i j + c i k + c (k + 1) j
/-- KNUTH -/
theorem OptC.right {w c : Nat → Nat → Int} {n i j r s : Nat} (h : OptC w c n) (hr : TopL w c i j r) (hs : TopL w c i (j + 1) s) (hj : j + 1 ≤ n) : r ≤ s := by
  apply Classical.byContradiction
  intro hlt
  have h1 := hr.least s hs.ge (by omega)
  have h2 := hr.is_
  have h3 := hs.is_
  have h4 := h.le i (j + 1) r hr.ge (by have := hr.lt; omega) hj
  have h5 := h.qi _ (s + 1) (r + 1) j (j + 1) (Nat.le_refl _) (by omega) (by have := hr.lt; omega) (by omega) hj
  omega
theorem OptC.left {w c : Nat → Nat → Int} {n i j r s : Nat} (h : OptC w c n) (hr : TopL w c i j r) (hs : TopL w c (i + 1) j s) (hj : j ≤ n) : r ≤ s := by
  apply Classical.byContradiction
  intro hlt
  have h1 := hr.least s (by have := hs.ge; omega) (by omega)
  have h2 := hr.is_
  have h3 := hs.is_
  have h4 := h.le (i + 1) j r (by have := hs.ge; omega) hr.lt hj
  have h5 := h.qi _ i (i + 1) s r (Nat.le_refl _) (by omega) hs.ge (by omega) (by have := hr.lt; omega)
  omega

/-- what is asked of a part: hits of its keys, gaps between and beside them -/
def wgt (hits gaps : List Int) (i : Nat) : Nat → Int
  | 0 => gaps[i]?.getD 0
  | d + 1 => wgt hits gaps i d + hits[i + d]?.getD 0 + gaps[i + d + 1]?.getD 0
def wij (hits gaps : List Int) (i j : Nat) : Int := wgt hits gaps i (j - i)
theorem wij_same (hits gaps : List Int) (i : Nat) : wij hits gaps i i = gaps[i]?.getD 0 := by unfold wij; rw [Nat.sub_self]; rfl
theorem wij_succ (hits gaps : List Int) {i j : Nat} (h : i ≤ j) : wij hits gaps i (j + 1) = wij hits gaps i j + hits[j]?.getD 0 + gaps[j + 1]?.getD 0 := by
  unfold wij
  rw [show j + 1 - i = (j - i) + 1 by omega, wgt, show i + (j - i) = j by omega]
theorem wij_part (hits gaps : List Int) {i k : Nat} (h : i ≤ k) : ∀ j, k + 1 ≤ j → wij hits gaps i j = wij hits gaps i k + hits[k]?.getD 0 + wij hits gaps (k + 1) j := by
  intro j hj
  obtain ⟨d, rfl⟩ : ∃ d, j = k + 1 + d := ⟨j - (k + 1), by omega⟩
  induction d with
  | zero => rw [Nat.add_zero, wij_succ _ _ h, wij_same]
  | succ d ih =>
    rw [show k + 1 + (d + 1) = (k + 1 + d) + 1 by omega, wij_succ _ _ (by omega), wij_succ hits gaps (show k + 1 ≤ k + 1 + d by omega), ih (by omega)]
    omega
theorem wij_diff (hits gaps : List Int) {i i' j : Nat} (h1 : i ≤ i') (h2 : i' ≤ j) : ∀ j', j ≤ j' → wij hits gaps i j' - wij hits gaps i j = wij hits gaps i' j' - wij hits gaps i' j := by
  intro j' hj
  obtain ⟨d, rfl⟩ : ∃ d, j' = j + d := ⟨j' - j, by omega⟩
  induction d with
  | zero => rw [Nat.add_zero]; omega
  | succ d ih =>
    have := ih (by omega)
    rw [← Nat.add_assoc, wij_succ _ _ (by omega), wij_succ hits gaps (show i' ≤ j + d by omega)]
    omega
theorem get_pos {l : List Int} (h : ∀ x ∈ l, 0 ≤ x) (i : Nat) : 0 ≤ l[i]?.getD 0 := by
  rcases Nat.lt_or_ge i l.length with hi | hi
  · rw [List.getElem?_eq_getElem hi]
    exact h _ (List.getElem_mem hi)
  · rw [List.getElem?_eq_none hi]
    exact Int.le_refl _
theorem wij_pos {hits gaps : List Int} (hh : ∀ x ∈ hits, 0 ≤ x) (hg : ∀ x ∈ gaps, 0 ≤ x) {i j : Nat} (h : i ≤ j) : 0 ≤ wij hits gaps i j := by
  obtain ⟨d, rfl⟩ : ∃ d, j = i + d := ⟨j - i, by omega⟩
  induction d with
  | zero => rw [Nat.add_zero, wij_same]; exact get_pos hg i
  | succ d ih =>
    have h1 := ih (by omega)
    have h2 := get_pos hh (i + d)
    have h3 := get_pos hg (i + d + 1)
    rw [← Nat.add_assoc, wij_succ _ _ (by omega)]
    omega
theorem wij_mono {hits gaps : List Int} (hh : ∀ x ∈ hits, 0 ≤ x) (hg : ∀ x ∈ gaps, 0 ≤ x) {i i' j j' : Nat} (h1 : i ≤ i') (h2 : i' ≤ j) (h3 : j ≤ j') : wij hits gaps i' j ≤ wij hits gaps i j' := by
  have a : wij hits gaps i' j ≤ wij hits gaps i j := by
    rcases Nat.lt_or_ge i i' with h | h
    · obtain ⟨q, rfl⟩ : ∃ q, i' = q + 1 := ⟨i' - 1, by omega⟩
      have e := wij_part hits gaps (show i ≤ q by omega) j h2
      have p1 := wij_pos hh hg (show i ≤ q by omega)
      have p2 := get_pos hh q
      omega
    · obtain rfl : i = i' := by omega
      exact Int.le_refl _
  have b : wij hits gaps i j ≤ wij hits gaps i j' := by
    rcases Nat.lt_or_ge j j' with h | h
    · have e := wij_part hits gaps (show i ≤ j by omega) j' h
      have p1 := wij_pos hh hg (show j + 1 ≤ j' by omega)
      have p2 := get_pos hh j
      omega
    · obtain rfl : j = j' := by omega
      exact Int.le_refl _
  omega
/-- the sums of parts are as KNUTH asks -/
theorem optC_of {hits gaps : List Int} {c : Nat → Nat → Int} {n : Nat} (hh : ∀ x ∈ hits, 0 ≤ x) (hg : ∀ x ∈ gaps, 0 ≤ x) (h0 : ∀ i, i ≤ n → c i i = 0)
    (h1 : ∀ i j k, i ≤ k → k < j → j ≤ n → c i j ≤ wij hits gaps i j + c i k + c (k + 1) j) (h2 : ∀ i j, i < j → j ≤ n → ∃ k, i ≤ k ∧ k < j ∧ c i j = wij hits gaps i j + c i k + c (k + 1) j) : OptC (wij hits gaps) c n :=
  ⟨fun i i' j j' a b d _ => by have := wij_diff hits gaps a b j' d; omega, fun i i' j j' a b d _ => wij_mono hh hg a b d, h0, h1, h2⟩

/-- what a tree costs, each node by its depth: keys are places -/
def Tr.ask (hits gaps : List Int) : Tr → Nat → Int → Int
  | .nil, i, d => gaps[i]?.getD 0 * d
  | .node a k b, i, d => hits[k.toNat]?.getD 0 * (d + 1) + a.ask hits gaps i (d + 1) + b.ask hits gaps (k.toNat + 1) (d + 1)
/-- a tree of just the keys from i to j, less 1 -/
def Rng : Tr → Nat → Nat → Prop
  | .nil, i, j => i = j
  | .node a k b, i, j => 0 ≤ k ∧ Rng a i k.toNat ∧ Rng b (k.toNat + 1) j
theorem rng_le : ∀ {t : Tr} {i j : Nat}, Rng t i j → i ≤ j := by
  intro t
  induction t with
  | nil => intro i j h; exact Nat.le_of_eq h
  | node a k b iha ihb =>
    intro i j h
    have h1 := iha h.2.1
    have h2 := ihb h.2.2
    omega
theorem ask_deep (hits gaps : List Int) : ∀ {t : Tr} {i j : Nat} (d : Int), Rng t i j → t.ask hits gaps i (d + 1) = t.ask hits gaps i d + wij hits gaps i j := by
  intro t
  induction t with
  | nil =>
    intro i j d h
    obtain rfl : i = j := h
    rw [wij_same]
    show gaps[i]?.getD 0 * (d + 1) = gaps[i]?.getD 0 * d + _
    rw [Int.mul_add, Int.mul_one]
  | node a k b iha ihb =>
    intro i j d h
    have h1 := iha (d + 1) h.2.1
    have h2 := ihb (d + 1) h.2.2
    have h3 := wij_part hits gaps (rng_le h.2.1) j (rng_le h.2.2)
    show hits[k.toNat]?.getD 0 * (d + 1 + 1) + a.ask hits gaps i (d + 1 + 1) + b.ask hits gaps (k.toNat + 1) (d + 1 + 1) = hits[k.toNat]?.getD 0 * (d + 1) + a.ask hits gaps i (d + 1) + b.ask hits gaps (k.toNat + 1) (d + 1) + _
    rw [h1, h2, h3, Int.mul_add _ (d + 1) 1, Int.mul_one]
    omega
theorem ask_node (hits gaps : List Int) {a b : Tr} {k : Int} {i j : Nat} (h : Rng (.node a k b) i j) : (Tr.node a k b).ask hits gaps i 0 = wij hits gaps i j + a.ask hits gaps i 0 + b.ask hits gaps (k.toNat + 1) 0 := by
  have h1 := ask_deep hits gaps 0 h.2.1
  have h2 := ask_deep hits gaps 0 h.2.2
  have h3 := wij_part hits gaps (rng_le h.2.1) j (rng_le h.2.2)
  show hits[k.toNat]?.getD 0 * (0 + 1) + a.ask hits gaps i (0 + 1) + b.ask hits gaps (k.toNat + 1) (0 + 1) = _
  rw [h1, h2, h3, Int.zero_add, Int.mul_one]
  omega
/-- KNUTH: no tree costs less -/
theorem ask_least {hits gaps : List Int} {c : Nat → Nat → Int} {n : Nat} (h : OptC (wij hits gaps) c n) : ∀ {t : Tr} {i j : Nat}, Rng t i j → j ≤ n → c i j ≤ t.ask hits gaps i 0 := by
  intro t
  induction t with
  | nil =>
    intro i j hr hj
    obtain rfl : i = j := hr
    rw [h.zero i hj]
    show 0 ≤ gaps[i]?.getD 0 * 0
    rw [Int.mul_zero]
    exact Int.le_refl _
  | node a k b iha ihb =>
    intro i j hr hj
    have e := ask_node hits gaps hr
    have l1 := rng_le hr.2.1
    have l2 := rng_le hr.2.2
    have h1 := iha hr.2.1 (by omega)
    have h2 := ihb hr.2.2 hj
    have h3 := h.le i j k.toNat l1 (by omega) hj
    omega

end Go.Proofs.YtpnjnedfcdppaaaGreatDoor
