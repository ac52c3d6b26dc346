/-
  NEXT AND PREV, told by what they are; by halves; and found by looking at all keys in whatever order: plain mathematics. Nothing of the program.
-/
import Derived.Test.YtpnjnedfcdppaaaGreatDoorQPure
namespace Go.Proofs.YtpnjnedfcdppaaaGreatDoor

/-- y is the next one behind k among those of P -/
def NxP (P : Int → Prop) (k y : Int) : Prop := P y ∧ k < y ∧ ∀ z, P z → k < z → y ≤ z
/-- y is the next one ahead of k -/
def PvP (P : Int → Prop) (k y : Int) : Prop := P y ∧ y < k ∧ ∀ z, P z → z < k → z ≤ y
theorem NxP.one {P : Int → Prop} {k y y' : Int} (h : NxP P k y) (h' : NxP P k y') : y = y' := by
  have a := h.2.2 y' h'.1 h'.2.1
  have b := h'.2.2 y h.1 h.2.1
  omega
theorem PvP.one {P : Int → Prop} {k y y' : Int} (h : PvP P k y) (h' : PvP P k y') : y = y' := by
  have a := h.2.2 y' h'.1 h'.2.1
  have b := h'.2.2 y h.1 h.2.1
  omega
theorem qnx_none {l : List Int} {k : Int} : qnx k l = none ↔ ∀ z ∈ l, ¬ k < z := by
  unfold qnx
  rw [List.head?_eq_none_iff, List.filter_eq_nil_iff]
  simp
theorem qpv_none {l : List Int} {k : Int} : qpv k l = none ↔ ∀ z ∈ l, ¬ z < k := by
  unfold qpv
  rw [List.getLast?_eq_none_iff, List.filter_eq_nil_iff]
  simp
theorem qnx_some {l : List Int} {k y : Int} (h : Up l) (hy : qnx k l = some y) : NxP (· ∈ l) k y := by
  unfold qnx at hy
  have hu : Up (l.filter fun x => decide (k < x)) := List.Pairwise.filter _ h
  have hm : ∀ z, z ∈ (l.filter fun x => decide (k < x)) ↔ z ∈ l ∧ k < z := fun z => by simp
  generalize (l.filter fun x => decide (k < x)) = m at *
  cases m with
  | nil => simp at hy
  | cons a t =>
    simp at hy
    subst hy
    have ha := (hm a).1 (by simp)
    rw [Up, List.pairwise_cons] at hu
    refine ⟨ha.1, ha.2, fun z hz hkz => ?_⟩
    rcases List.mem_cons.1 ((hm z).2 ⟨hz, hkz⟩) with e | e
    · omega
    · have := hu.1 z e
      omega
theorem qpv_some {l : List Int} {k y : Int} (h : Up l) (hy : qpv k l = some y) : PvP (· ∈ l) k y := by
  unfold qpv at hy
  have hu : Up (l.filter fun x => decide (x < k)) := List.Pairwise.filter _ h
  have hm : ∀ z, z ∈ (l.filter fun x => decide (x < k)) ↔ z ∈ l ∧ z < k := fun z => by simp
  generalize (l.filter fun x => decide (x < k)) = m at *
  have hne : m ≠ [] := by rintro rfl; simp at hy
  rw [List.getLast?_eq_some_getLast hne] at hy
  injection hy with hy
  have hs := List.dropLast_concat_getLast hne
  rw [hy] at hs
  have ha := (hm y).1 (by rw [← hs]; simp)
  refine ⟨ha.1, ha.2, fun z hz hkz => ?_⟩
  have hz2 := (hm z).2 ⟨hz, hkz⟩
  rw [← hs, Up, List.pairwise_append] at hu
  rw [← hs, List.mem_append] at hz2
  rcases hz2 with e | e
  · have := hu.2.2 z e y (by simp)
    omega
  · simp at e
    omega
theorem qnx_is {l : List Int} {k y : Int} (h : Up l) (hy : NxP (· ∈ l) k y) : qnx k l = some y := by
  cases he : qnx k l with
  | none => exact absurd hy.2.1 (qnx_none.1 he y hy.1)
  | some z => rw [(qnx_some h he).one hy]
theorem qpv_is {l : List Int} {k y : Int} (h : Up l) (hy : PvP (· ∈ l) k y) : qpv k l = some y := by
  cases he : qpv k l with
  | none => exact absurd hy.2.1 (qpv_none.1 he y hy.1)
  | some z => rw [(qpv_some h he).one hy]

/-! by halves: q is how many a part has room for -/
theorem half_lt {q a b : Int} (hq : 0 < q) (h : a / q < b / q) : a < b := by
  apply Classical.byContradiction
  intro hn
  have := Int.ediv_le_ediv hq (show b ≤ a by omega)
  omega
/-- in the same part there is one -/
theorem nx_in {P : Int → Prop} {q k y : Int} (hq : 0 < q) (hp : P y) (hh : y / q = k / q) (hk : k < y) (hl : ∀ z, P z → z / q = k / q → k < z → y ≤ z) : NxP P k y := by
  refine ⟨hp, hk, fun z hz hkz => ?_⟩
  rcases Int.lt_trichotomy (z / q) (k / q) with h | h | h
  · have := half_lt hq h
    omega
  · exact hl z hz h hkz
  · exact Int.le_of_lt (half_lt hq (by omega))
/-- in the same part there is none: the least of the next part that has one -/
theorem nx_out {P : Int → Prop} {q k y : Int} (hq : 0 < q) (hno : ∀ z, P z → z / q = k / q → ¬ k < z) (hp : P y) (hk : k / q < y / q) (hn : ∀ z, P z → k / q < z / q → y / q ≤ z / q) (hl : ∀ z, P z → z / q = y / q → y ≤ z) : NxP P k y := by
  refine ⟨hp, half_lt hq hk, fun z hz hkz => ?_⟩
  rcases Int.lt_trichotomy (z / q) (k / q) with h | h | h
  · have := half_lt hq h
    omega
  · exact absurd hkz (hno z hz h)
  · have h1 := hn z hz h
    rcases Int.lt_trichotomy (y / q) (z / q) with h2 | h2 | h2
    · exact Int.le_of_lt (half_lt hq h2)
    · exact hl z hz h2.symm
    · omega
theorem pv_in {P : Int → Prop} {q k y : Int} (hq : 0 < q) (hp : P y) (hh : y / q = k / q) (hk : y < k) (hl : ∀ z, P z → z / q = k / q → z < k → z ≤ y) : PvP P k y := by
  refine ⟨hp, hk, fun z hz hkz => ?_⟩
  rcases Int.lt_trichotomy (z / q) (k / q) with h | h | h
  · exact Int.le_of_lt (half_lt hq (by omega))
  · exact hl z hz h hkz
  · have := half_lt hq h
    omega
theorem pv_out {P : Int → Prop} {q k y : Int} (hq : 0 < q) (hno : ∀ z, P z → z / q = k / q → ¬ z < k) (hp : P y) (hk : y / q < k / q) (hn : ∀ z, P z → z / q < k / q → z / q ≤ y / q) (hl : ∀ z, P z → z / q = y / q → z ≤ y) : PvP P k y := by
  refine ⟨hp, half_lt hq hk, fun z hz hkz => ?_⟩
  rcases Int.lt_trichotomy (z / q) (k / q) with h | h | h
  · have h1 := hn z hz h
    rcases Int.lt_trichotomy (z / q) (y / q) with h2 | h2 | h2
    · exact Int.le_of_lt (half_lt hq h2)
    · exact hl z hz h2
    · omega
  · exact absurd hkz (hno z hz h)
  · have := half_lt hq h
    omega
/-- a key by its halves, and back -/
theorem halves {q x : Int} (hq : 0 < q) : x / q * q + x % q = x ∧ 0 ≤ x % q ∧ x % q < q := by
  have h1 := Int.emod_add_mul_ediv x q
  have h2 : q * (x / q) = x / q * q := Int.mul_comm _ _
  exact ⟨by omega, Int.emod_nonneg x (by omega), Int.emod_lt_of_pos x hq⟩
theorem halves_of {q h lo : Int} (hq : 0 < q) (h0 : 0 ≤ lo) (h1 : lo < q) : (h * q + lo) / q = h ∧ (h * q + lo) % q = lo := by
  refine ⟨?_, ?_⟩
  · rw [Int.add_comm, Int.add_mul_ediv_right _ _ (by omega), Int.ediv_eq_zero_of_lt h0 h1, Int.zero_add]
  · rw [Int.add_comm, Int.add_mul_emod_self_right, Int.emod_eq_of_lt h0 h1]

/-! looked for among all, in whatever order -/
/-- one key is looked at: step 1 upwards, -1 downwards -/
def nst (key step : Int) (st : Int × Bool) (k : Int) : Int × Bool := if 0 < (k - key) * step ∧ (st.2 = false ∨ 0 < (st.1 - k) * step) then (k, true) else st
theorem nst_up (key : Int) : ∀ (ks seen : List Int) (st : Int × Bool), (st = (0, false) ∧ (∀ z ∈ seen, ¬ key < z)) ∨ (st.2 = true ∧ NxP (· ∈ seen) key st.1) →
    (ks.foldl (nst key 1) st = (0, false) ∧ ∀ z ∈ seen ++ ks, ¬ key < z) ∨ ((ks.foldl (nst key 1) st).2 = true ∧ NxP (· ∈ seen ++ ks) key (ks.foldl (nst key 1) st).1)
  | [], seen, st, h => by rw [List.append_nil]; exact h
  | k :: ks, seen, st, h => by
    rw [List.foldl_cons]
    have e : seen ++ k :: ks = (seen ++ [k]) ++ ks := by simp
    rw [e]
    refine nst_up key ks (seen ++ [k]) _ ?_
    unfold nst
    rw [Int.mul_one, Int.mul_one]
    split
    · rename_i hc
      refine .inr ⟨rfl, by simp, by show key < k; omega, fun z hz hkz => ?_⟩
      show k ≤ z
      rcases List.mem_append.1 hz with h1 | h1
      · rcases h with ⟨rfl, hno⟩ | ⟨ht, hn⟩
        · exact absurd hkz (hno z h1)
        · have := hn.2.2 z h1 hkz
          rcases hc.2 with h2 | h2
          · rw [ht] at h2; cases h2
          · omega
      · simp at h1; omega
    · rename_i hc
      rcases h with ⟨rfl, hno⟩ | ⟨ht, hn⟩
      · refine .inl ⟨rfl, fun z hz hkz => ?_⟩
        rcases List.mem_append.1 hz with h1 | h1
        · exact hno z h1 hkz
        · simp at h1
          subst h1
          exact hc ⟨by omega, .inl rfl⟩
      · refine .inr ⟨ht, List.mem_append.2 (.inl hn.1), hn.2.1, fun z hz hkz => ?_⟩
        rcases List.mem_append.1 hz with h1 | h1
        · exact hn.2.2 z h1 hkz
        · simp at h1
          subst h1
          apply Classical.byContradiction
          intro hlt
          exact hc ⟨by omega, .inr (by omega)⟩
theorem nst_down (key : Int) : ∀ (ks seen : List Int) (st : Int × Bool), (st = (0, false) ∧ (∀ z ∈ seen, ¬ z < key)) ∨ (st.2 = true ∧ PvP (· ∈ seen) key st.1) →
    (ks.foldl (nst key (-1)) st = (0, false) ∧ ∀ z ∈ seen ++ ks, ¬ z < key) ∨ ((ks.foldl (nst key (-1)) st).2 = true ∧ PvP (· ∈ seen ++ ks) key (ks.foldl (nst key (-1)) st).1)
  | [], seen, st, h => by rw [List.append_nil]; exact h
  | k :: ks, seen, st, h => by
    rw [List.foldl_cons]
    have e : seen ++ k :: ks = (seen ++ [k]) ++ ks := by simp
    rw [e]
    refine nst_down key ks (seen ++ [k]) _ ?_
    unfold nst
    have m1 : ∀ x : Int, x * (-1) = -x := fun x => by omega
    rw [m1, m1]
    split
    · rename_i hc
      refine .inr ⟨rfl, by simp, by show k < key; omega, fun z hz hkz => ?_⟩
      show z ≤ k
      rcases List.mem_append.1 hz with h1 | h1
      · rcases h with ⟨rfl, hno⟩ | ⟨ht, hn⟩
        · exact absurd hkz (hno z h1)
        · have := hn.2.2 z h1 hkz
          rcases hc.2 with h2 | h2
          · rw [ht] at h2; cases h2
          · omega
      · simp at h1; omega
    · rename_i hc
      rcases h with ⟨rfl, hno⟩ | ⟨ht, hn⟩
      · refine .inl ⟨rfl, fun z hz hkz => ?_⟩
        rcases List.mem_append.1 hz with h1 | h1
        · exact hno z h1 hkz
        · simp at h1
          subst h1
          exact hc ⟨by omega, .inl rfl⟩
      · refine .inr ⟨ht, List.mem_append.2 (.inl hn.1), hn.2.1, fun z hz hkz => ?_⟩
        rcases List.mem_append.1 hz with h1 | h1
        · exact hn.2.2 z h1 hkz
        · simp at h1
          subst h1
          apply Classical.byContradiction
          intro hlt
          exact hc ⟨by omega, .inr (by omega)⟩
/-- in whatever order all keys are looked at: it is the next one -/
theorem near_up {key : Int} {ks l : List Int} (hu : Up l) (hm : ∀ z, z ∈ ks ↔ z ∈ l) : ks.foldl (nst key 1) (0, false) = match qnx key l with | some y => (y, true) | none => (0, false) := by
  have h := nst_up key ks [] (0, false) (.inl ⟨rfl, fun z hz => by cases hz⟩)
  rw [List.nil_append] at h
  generalize ks.foldl (nst key 1) (0, false) = st at *
  rcases h with ⟨h1, h2⟩ | ⟨h1, h2⟩
  · rw [qnx_none.2 (fun z hz => h2 z ((hm z).2 hz))]
    exact h1
  · have hy : NxP (· ∈ l) key st.1 := ⟨(hm _).1 h2.1, h2.2.1, fun z hz hk => h2.2.2 z ((hm z).2 hz) hk⟩
    rw [qnx_is hu hy]
    exact Prod.ext rfl h1
theorem near_down {key : Int} {ks l : List Int} (hu : Up l) (hm : ∀ z, z ∈ ks ↔ z ∈ l) : ks.foldl (nst key (-1)) (0, false) = match qpv key l with | some y => (y, true) | none => (0, false) := by
  have h := nst_down key ks [] (0, false) (.inl ⟨rfl, fun z hz => by cases hz⟩)
  rw [List.nil_append] at h
  generalize ks.foldl (nst key (-1)) (0, false) = st at *
  rcases h with ⟨h1, h2⟩ | ⟨h1, h2⟩
  · rw [qpv_none.2 (fun z hz => h2 z ((hm z).2 hz))]
    exact h1
  · have hy : PvP (· ∈ l) key st.1 := ⟨(hm _).1 h2.1, h2.2.1, fun z hz hk => h2.2.2 z ((hm z).2 hz) hk⟩
    rw [qpv_is hu hy]
    exact Prod.ext rfl h1

end Go.Proofs.YtpnjnedfcdppaaaGreatDoor
