/-
  ROWS AND PATHS, AS LISTS. Nothing of the program but a key's height.
-/
import Derived.Test.YtolfpjleckckiaaKTabAll
namespace Go.Proofs.Ytolfpjleckckiaa

/-- may it be a key? -/
def kyB (k : Int) : Bool := decide (0 ≤ k ∧ k ≤ 1000000)
def okK (l : List Int) (i : Nat) : Prop := kyB (l[i]?.getD 0) = true ∧ (0 < i → l[i - 1]?.getD 0 < l[i]?.getD 0)
def okKs (l : List Int) (n : Nat) : Prop := ∀ i, i < n → okK l i
theorem okKs_succ {l : List Int} {n : Nat} (h : okKs l n) (h1 : okK l n) : okKs l (n + 1) := fun i hi => by
  rcases Nat.lt_or_ge i n with h2 | h2
  · exact h i h2
  · obtain rfl : i = n := by omega
    exact h1
open Classical in
/-- what Rows says of a list -/
noncomputable def chkK (l : List Int) : Int := if 200 < l.length then 2 else if okKs l l.length then 0 else 3
/-- keys that rise -/
structure Rise (l : List Int) : Prop where
  len : l.length ≤ 200
  pw : l.Pairwise (· < ·)
  bd : ∀ k ∈ l, 0 ≤ k ∧ k ≤ 1000000
theorem okKs_pw (l : List Int) (h : okKs l l.length) : l.Pairwise (· < ·) := by
  rw [List.pairwise_iff_getElem]
  have key : ∀ d i (hi : i + d + 1 < l.length), l[i]'(by omega) < l[i + d + 1] := by
    intro d
    induction d with
    | zero =>
      intro i hi
      have h1 := (h (i + 1) (by omega)).2 (by omega)
      simpa [List.getElem?_eq_getElem (show i < l.length by omega), List.getElem?_eq_getElem (show i + 1 < l.length by omega)] using h1
    | succ d ih =>
      intro i hi
      have h1 := ih i (by omega)
      have h2 := (h (i + (d + 1) + 1) (by omega)).2 (by omega)
      simp only [show i + (d + 1) + 1 - 1 = i + d + 1 by omega, List.getElem?_eq_getElem (show i + d + 1 < l.length by omega), List.getElem?_eq_getElem hi, Option.getD_some] at h2
      omega
  intro i j hi hj hij
  have := key (j - i - 1) i (by omega)
  simpa only [show i + (j - i - 1) + 1 = j by omega] using this
theorem okKs_iff (l : List Int) : okKs l l.length ↔ l.Pairwise (· < ·) ∧ ∀ k ∈ l, 0 ≤ k ∧ k ≤ 1000000 := by
  constructor
  · intro h
    refine ⟨okKs_pw l h, fun k hk => ?_⟩
    obtain ⟨i, hi, rfl⟩ := List.mem_iff_getElem.1 hk
    have := (h i hi).1
    simpa [kyB, List.getElem?_eq_getElem hi] using this
  · rintro ⟨h1, h2⟩ i hi
    refine ⟨?_, fun h0 => ?_⟩
    · have := h2 l[i] (List.getElem_mem hi)
      simpa [kyB, List.getElem?_eq_getElem hi] using this
    · have := List.pairwise_iff_getElem.1 h1 (i - 1) i (by omega) hi (by omega)
      simpa [List.getElem?_eq_getElem hi, List.getElem?_eq_getElem (show i - 1 < l.length by omega)] using this
theorem chkK_zero {l : List Int} : chkK l = 0 ↔ Rise l := by
  unfold chkK
  constructor
  · intro h
    split at h
    · cases h
    · split at h
      · rename_i h1 h2
        obtain ⟨h3, h4⟩ := (okKs_iff l).1 h2
        exact ⟨by omega, h3, h4⟩
      · cases h
  · rintro ⟨h1, h2, h3⟩
    rw [if_neg (by omega), if_pos ((okKs_iff l).2 ⟨h2, h3⟩)]

/-- the row r -/
def rowL (l : List Int) (r : Nat) : List Int := l.filter fun k => decide (r < ht k)
theorem rowL_zero (l : List Int) : rowL l 0 = l := List.filter_eq_self.2 fun k _ => by have := ht_pos k; simp; omega
theorem rowL_high (l : List Int) (r : Nat) (h : 12 ≤ r) : rowL l r = [] := List.filter_eq_nil_iff.2 fun k _ => by have := ht_le k; simp; omega
theorem rowL_succ (l : List Int) (r : Nat) : rowL l (r + 1) = (rowL l r).filter fun k => decide (r + 1 < ht k) := by
  unfold rowL
  rw [List.filter_filter]
  congr 1
  funext k
  by_cases h : r + 1 < ht k
  · simp [h]; omega
  · simp [h]
theorem rowL_sub (l : List Int) (r : Nat) : (rowL l (r + 1)).Sublist (rowL l r) := by rw [rowL_succ]; exact List.filter_sublist
theorem rowL_mono (l : List Int) {r s : Nat} (h : r ≤ s) (hs : rowL l s ≠ []) : rowL l r ≠ [] := by
  obtain ⟨k, hk⟩ := List.exists_mem_of_ne_nil _ hs
  unfold rowL at hk
  rw [List.mem_filter] at hk
  refine List.ne_nil_of_mem (a := k) ?_
  unfold rowL
  rw [List.mem_filter]
  exact ⟨hk.1, by have := hk.2; simp at *; omega⟩
theorem rowL_append (l : List Int) (k : Int) (r : Nat) : rowL (l ++ [k]) r = if r < ht k then rowL l r ++ [k] else rowL l r := by
  unfold rowL
  rw [List.filter_append]
  by_cases h : r < ht k <;> simp [h]
theorem rowL_pw {l : List Int} (h : l.Pairwise (· < ·)) (r : Nat) : (rowL l r).Pairwise (· < ·) := h.sublist List.filter_sublist
theorem rowL_len (l : List Int) (r : Nat) : (rowL l r).length ≤ l.length := List.length_filter_le _ _

/-- how many rows have keys -/
def hiTo (l : List Int) : Nat → Nat
  | 0 => 0
  | n + 1 => if rowL l n = [] then hiTo l n else n + 1
def hiR (l : List Int) : Nat := hiTo l 12
theorem hiTo_le (l : List Int) (n : Nat) : hiTo l n ≤ n := by
  induction n with
  | zero => exact Nat.le_refl _
  | succ n ih => unfold hiTo; split <;> omega
theorem hiTo_some (l : List Int) (n : Nat) : ∀ r, r < hiTo l n → rowL l r ≠ [] := by
  induction n with
  | zero => intro r h; simp [hiTo] at h
  | succ n ih =>
    intro r h
    unfold hiTo at h
    split at h
    · exact ih r h
    · rename_i h1
      exact rowL_mono l (by omega) h1
theorem hiTo_none (l : List Int) (n : Nat) : ∀ r, hiTo l n ≤ r → r < n → rowL l r = [] := by
  induction n with
  | zero => intro r _ h; omega
  | succ n ih =>
    intro r h h2
    unfold hiTo at h
    split at h
    · rename_i h1
      rcases Nat.lt_or_ge r n with h3 | h3
      · exact ih r h h3
      · obtain rfl : r = n := by omega
        exact h1
    · omega
theorem hiR_le (l : List Int) : hiR l ≤ 12 := hiTo_le l 12
theorem hiR_some (l : List Int) (r : Nat) (h : r < hiR l) : rowL l r ≠ [] := hiTo_some l 12 r h
theorem hiR_none (l : List Int) (r : Nat) (h : hiR l ≤ r) : rowL l r = [] := by
  rcases Nat.lt_or_ge r 12 with h1 | h1
  · exact hiTo_none l 12 r h h1
  · exact rowL_high l r h1
theorem hiR_pos (l : List Int) : 0 < hiR l ↔ l ≠ [] := by
  constructor
  · intro h
    have := hiR_some l 0 h
    rwa [rowL_zero] at this
  · intro h
    rcases Nat.eq_zero_or_pos (hiR l) with h0 | h0
    · have := hiR_none l 0 (by omega)
      rw [rowL_zero] at this
      exact absurd this h
    · exact h0
/-- all rows there may be; those that have keys -/
def towL (l : List Int) : List (List Int) := (List.range 12).map (rowL l)
def rowsL (l : List Int) : List (List Int) := (List.range (hiR l)).map (rowL l)
theorem towL_len (l : List Int) : (towL l).length = 12 := by simp [towL]
theorem rowsL_len (l : List Int) : (rowsL l).length = hiR l := by simp [rowsL]
theorem towL_at (l : List Int) (i : Nat) (h : i < 12) : (towL l)[i]? = some (rowL l i) := by simp [towL, h]
theorem rowsL_at (l : List Int) (i : Nat) (h : i < hiR l) : (rowsL l)[i]? = some (rowL l i) := by simp [rowsL, h]
theorem rowsL_take (l : List Int) : rowsL l = (towL l).take (hiR l) := by
  unfold rowsL towL
  rw [← List.map_take, List.take_range, Nat.min_eq_left (hiR_le l)]
theorem rowsL_nil : rowsL [] = [] := by
  have : hiR [] = 0 := by
    rcases Nat.eq_zero_or_pos (hiR []) with h | h
    · exact h
    · exact absurd rfl ((hiR_pos []).1 h)
  simp [rowsL, this]

/-- the greedy look for x in what comes -/
def gk (x : List Int) : Nat → List Int → Nat
  | k, [] => k
  | k, y :: t => gk x (if x[k]? = some y then k + 1 else k) t
theorem gk_sub (x : List Int) : ∀ (t : List Int) (k : Nat), k ≤ x.length → (x.drop k).Sublist t → gk x k t = x.length
  | [], k, hk, h => by
    have := List.sublist_nil.1 h
    have : (x.drop k).length = 0 := by rw [this]; rfl
    simp at this
    show k = _
    omega
  | y :: t, k, hk, h => by
    unfold gk
    by_cases he : x[k]? = some y
    · rw [if_pos he]
      obtain ⟨h1, h2⟩ := List.getElem?_eq_some_iff.1 he
      refine gk_sub x t (k + 1) (by omega) ?_
      rw [List.drop_eq_getElem_cons h1, h2] at h
      exact List.cons_sublist_cons.1 h
    · rw [if_neg he]
      refine gk_sub x t k hk ?_
      cases hd : x.drop k with
      | nil => exact List.nil_sublist _
      | cons z d =>
        rw [hd] at h
        have hz : x[k]? = some z := by
          have := congrArg (·[0]?) hd
          simpa [List.getElem?_drop] using this
        rcases List.sublist_cons_iff.1 h with h1 | ⟨r, h1, h2⟩
        · exact h1
        · injection h1 with h3 h4
          exact absurd (by rw [hz, h3]) he
theorem gk_snoc (x : List Int) : ∀ (t : List Int) (k : Nat) (y : Int), gk x k (t ++ [y]) = if x[gk x k t]? = some y then gk x k t + 1 else gk x k t
  | [], k, y => rfl
  | z :: t, k, y => by
    show gk x _ (t ++ [y]) = _
    rw [gk_snoc x t _ y]
    rfl
theorem gk_le (x : List Int) : ∀ (t : List Int) (k : Nat), k ≤ x.length → gk x k t ≤ x.length
  | [], k, h => h
  | y :: t, k, h => by
    unfold gk
    refine gk_le x t _ ?_
    split
    · rename_i h1
      have := (List.getElem?_eq_some_iff.1 h1).1
      omega
    · exact h

end Go.Proofs.Ytolfpjleckckiaa
