/-
  Joined texts: YtjnkfpagaajfeaaDoorHMap, YtjnkfpagaajfeaaDoorHConc.
-/
import Derived.Test.YtjnkfpagaajfeaaDoorChk
import Derived.Test.YtjnkfpagaajfeaaDoorSTree
import Derived.Test.YtjnkfpagaajfeaaDoorSlR
import Derived.Test.YtjnkfpagaajfeaaDoorChecked
import Derived.WalkSpells
/-
  LISTS OF KEYS WITH RANKS that are right, one behind the other: plain mathematics. Nothing of the program.
-/
namespace Go.Proofs.YtjnkfpagaajfeaaDoor

abbrev HRise (l : PL) : Prop := l.Pairwise fun p q => p.1 < q.1
theorem ok_key {l : PL} (h : okTo l l.length) : ∀ p ∈ l, 0 ≤ p.1 ∧ p.1 ≤ 1000000 := by
  intro p hp
  obtain ⟨i, hi, rfl⟩ := List.getElem_of_mem hp
  have := (h i hi).1
  simpa [keyB, List.getElem?_eq_getElem hi] using this
theorem ok_rise {l : PL} (h : okTo l l.length) : HRise l := by
  refine List.pairwise_iff_getElem.2 fun i j hi hj hij => ?_
  have key : ∀ d, ∀ h2 : i + 1 + d < l.length, l[i].1 < (l[i + 1 + d]'h2).1 := by
    intro d
    induction d with
    | zero =>
      intro h2
      have := (h (i + 1) h2).2 (by omega)
      simpa [List.getElem?_eq_getElem h2, List.getElem?_eq_getElem hi] using this
    | succ d ih =>
      intro h2
      have h3 := ih (by omega)
      have := (h (i + 1 + (d + 1)) h2).2 (by omega)
      simp only [List.getElem?_eq_getElem h2, show i + 1 + (d + 1) - 1 = i + 1 + d by omega, List.getElem?_eq_getElem (show i + 1 + d < l.length by omega), Option.getD_some] at this
      omega
  have := key (j - i - 1) (by omega)
  simpa [show i + 1 + (j - i - 1) = j by omega] using this
theorem ok_of {l : PL} (hk : ∀ p ∈ l, 0 ≤ p.1 ∧ p.1 ≤ 1000000) (hr : HRise l) : okTo l l.length := by
  intro i hi
  refine ⟨?_, fun h0 => ?_⟩
  · have := hk _ (List.getElem_mem hi)
    simpa [keyB, List.getElem?_eq_getElem hi] using this
  · have := List.pairwise_iff_getElem.1 hr (i - 1) i (by omega) hi (by omega)
    simpa [List.getElem?_eq_getElem hi, List.getElem?_eq_getElem (show i - 1 < l.length by omega)] using this
theorem chk_right {l : PL} : chk l = 0 ↔ l.length ≤ 200 ∧ (∀ p ∈ l, 0 ≤ p.1 ∧ p.1 ≤ 1000000) ∧ HRise l := by
  unfold chk
  constructor
  · intro h
    split at h
    · cases h
    · split at h
      · rename_i h1 h2
        exact ⟨by omega, ok_key h2, ok_rise h2⟩
      · cases h
  · rintro ⟨h1, h2, h3⟩
    rw [if_neg (by omega), if_pos (ok_of h2 h3)]
/-- all keys of a are less than all of b -/
def Bhd (a b : PL) : Prop := ∀ x ∈ a, ∀ y ∈ b, x.1 < y.1
instance (a b : PL) : Decidable (Bhd a b) := by unfold Bhd; infer_instance
def isB (a b : PL) : Bool := if a.length = 0 then true else if b.length = 0 then true else decide (ky a (a.length - 1) < ky b 0)
theorem isB_is {a b : PL} (ha : HRise a) (hb : HRise b) : isB a b = decide (Bhd a b) := by
  unfold isB
  split
  · rename_i h
    have := List.eq_nil_of_length_eq_zero h
    subst this
    simp [Bhd]
  · split
    · rename_i h
      have := List.eq_nil_of_length_eq_zero h
      subst this
      simp [Bhd]
    · rename_i h1 h2
      have l1 : a.length - 1 < a.length := by omega
      have l2 : 0 < b.length := by omega
      rw [ky_in l1, ky_in l2]
      apply decide_eq_decide.2
      constructor
      · intro h x hx y hy
        obtain ⟨i, hi, rfl⟩ := List.getElem_of_mem hx
        obtain ⟨j, hj, rfl⟩ := List.getElem_of_mem hy
        have e1 : a[i].1 ≤ a[a.length - 1].1 := by
          rcases Nat.lt_or_ge i (a.length - 1) with h3 | h3
          · exact Int.le_of_lt (List.pairwise_iff_getElem.1 ha i _ hi l1 h3)
          · have : i = a.length - 1 := by omega
            subst this
            exact Int.le_refl _
        have e2 : b[0].1 ≤ b[j].1 := by
          rcases Nat.eq_zero_or_pos j with h3 | h3
          · subst h3
            exact Int.le_refl _
          · exact Int.le_of_lt (List.pairwise_iff_getElem.1 hb 0 j l2 hj h3)
        omega
      · intro h
        exact h _ (List.getElem_mem l1) _ (List.getElem_mem l2)
theorem chk_both {a b : PL} (ha : chk a = 0) (hb : chk b = 0) (h : Bhd a b) : chk (a ++ b) = if 200 < a.length + b.length then 2 else 0 := by
  obtain ⟨_, k1, r1⟩ := chk_right.1 ha
  obtain ⟨_, k2, r2⟩ := chk_right.1 hb
  split
  · rename_i h3
    unfold chk
    rw [if_pos (by simpa using h3)]
  · rename_i h3
    refine chk_right.2 ⟨by simp; omega, ?_, ?_⟩
    · intro p hp
      rcases List.mem_append.1 hp with hp | hp
      · exact k1 p hp
      · exact k2 p hp
    · exact List.pairwise_append.2 ⟨r1, r2, h⟩
/-- what Join is told to answer -/
def joinE (a b : PL) : Int := if chk a ≠ 0 then chk a else if chk b ≠ 0 then chk b else if Bhd a b then (if 200 < a.length + b.length then 2 else 0) else 3
theorem joinE_zero {a b : PL} (h : joinE a b = 0) : chk a = 0 ∧ chk b = 0 ∧ Bhd a b ∧ a.length + b.length ≤ 200 := by
  unfold joinE at h
  split at h
  · rename_i h1
    exact absurd h h1
  · split at h
    · rename_i h1
      exact absurd h h1
    · split at h
      · split at h
        · cases h
        · rename_i h1 h2 h3 h4
          exact ⟨by simpa using h1, by simpa using h2, h3, by omega⟩
      · cases h

end Go.Proofs.YtjnkfpagaajfeaaDoor

/-
  slices.Grow at nil, slices.Concat, of lists of pairs.
-/
namespace Go.Proofs.YtjnkfpagaajfeaaDoor
open Go.RowKit

theorem hpair_info : (Tryd.prog.info? 46).map (fun i => (i.zero, i.size, i.bytes)) = some (some (.agg #[I 0, I 0]), 2, 16) := by kernel_rfl

end Go.Proofs.YtjnkfpagaajfeaaDoor
