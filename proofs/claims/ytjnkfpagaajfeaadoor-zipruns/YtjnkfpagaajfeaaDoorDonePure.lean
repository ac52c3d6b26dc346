/-
  Done, of a right map.
-/
import Derived.Test.YtjnkfpagaajfeaaDoorApp
namespace Go.Proofs.YtjnkfpagaajfeaaDoor
open Go.RowKit

theorem find_low (l : PL) (k : Int) : ∀ lo, Srt lo l → k < lo → l.find? (fun p => p.1 == k) = none := by
  induction l with
  | nil => intro lo _ _; rfl
  | cons p t ih =>
    intro lo h hk
    have h1 : (p.1 == k) = false := by have := h.1; simp; omega
    simp only [List.find?_cons, h1]
    exact ih _ h.2.2 (by have := h.1; omega)
theorem find_eq (l : PL) (k : Int) : ∀ lo, Srt lo l → (l.find? fun p => p.1 == k).map (·.2) = getR k l := by
  induction l with
  | nil => intro lo _; rfl
  | cons p t ih =>
    intro lo h
    rw [getR]
    by_cases h1 : p.1 < k
    · have h2 : (p.1 == k) = false := by simp; omega
      simp only [List.find?_cons, h2, if_pos h1]
      exact ih _ h.2.2
    · by_cases h2 : p.1 = k
      · have h3 : (p.1 == k) = true := by simpa using h2
        simp [List.find?_cons, h2]
      · have h3 : (p.1 == k) = false := by simpa using h2
        simp only [List.find?_cons, h3, if_neg h1, if_neg h2]
        rw [find_low t k _ h.2.2 (by omega)]
        rfl
theorem hasV_eq {l : PL} (h : Srt 0 l) (k : Int) : hasV l k = (getR k l).getD 0 := by unfold hasV; rw [find_eq l k 0 h]
theorem hasI_eq {l : PL} (h : Srt 0 l) (k : Int) : hasI l k = (getR k l).isSome := by unfold hasI; rw [← find_eq l k 0 h]; simp
theorem wo_low (l : PL) (k : Int) : ∀ lo, Srt lo l → k < lo → wo l k = l := by
  induction l with
  | nil => intro lo _ _; rfl
  | cons p t ih =>
    intro lo h hk
    have h1 : (p.1 != k) = true := by have := h.1; simp; omega
    unfold wo at *
    simp only [List.filter_cons, h1, if_true]
    rw [ih _ h.2.2 (by have := h.1; omega)]
theorem wo_eq (l : PL) (k : Int) : ∀ lo, Srt lo l → wo l k = delR k l := by
  induction l with
  | nil => intro lo _; rfl
  | cons p t ih =>
    intro lo h
    rw [delR]
    by_cases h1 : p.1 < k
    · have h2 : (p.1 != k) = true := by simp; omega
      rw [if_pos h1, ← ih _ h.2.2]
      unfold wo
      simp only [List.filter_cons, h2, if_true]
    · rw [if_neg h1]
      by_cases h2 : p.1 = k
      · have h3 : (p.1 != k) = false := by simpa using h2
        rw [if_pos h2, ← wo_low t k _ h.2.2 (by omega)]
        unfold wo
        simp [List.filter_cons, h3]
      · rw [if_neg h2]
        exact wo_low (p :: t) k (k + 1) ⟨by omega, h.2⟩ (by omega)
theorem blw_eq (l : PL) (k : Int) : ∀ lo, Srt lo l → blw l k = cnt l k := by
  induction l with
  | nil => intro lo _; rfl
  | cons p t ih =>
    intro lo h
    by_cases h1 : p.1 < k
    · rw [cnt_cons_lt h1, ← ih _ h.2.2]
      simp [blw, List.filter_cons, h1]
    · rw [cnt_cons_ge h1]
      have : ∀ (m : PL) (lo : Int), Srt lo m → k ≤ lo → blw m k = 0 := by
        intro m
        induction m with
        | nil => intro lo _ _; rfl
        | cons q u ihu =>
          intro lo hs hk
          have hq : ¬ q.1 < k := by have := hs.1; omega
          have := ihu _ hs.2.2 (by have := hs.1; omega)
          simp [blw, List.filter_cons, hq] at this ⊢
          exact this
      exact this (p :: t) p.1 ⟨Int.le_refl _, h.2⟩ (by omega)
theorem ins_del_any (l : PL) (k v : Int) : ∀ lo, Srt lo l → insR k v (delR k l) = insR k v l := by
  induction l with
  | nil => intro lo _; rfl
  | cons p t ih =>
    intro lo h
    rw [delR, insR]
    by_cases h1 : p.1 < k
    · rw [if_pos h1, if_pos h1, insR, if_pos h1, ih _ h.2.2]
    · rw [if_neg h1, if_neg h1]
      by_cases h2 : p.1 = k
      · rw [if_pos h2, if_pos h2, ins_low t k v _ h.2.2 (by omega)]
      · rw [if_neg h2, if_neg h2, insR, if_neg h1, if_neg h2]
theorem wiL_eq {l : PL} (h : Srt 0 l) (k v : Int) : wiL l k v = insR k v l := by
  unfold wiL
  have hd := srt_del l k 0 h
  rw [wo_eq l k 0 h, blw_eq _ k 0 hd, ← ins_del_any l k v 0 h, ins_eq, has_iff, get_del l k k 0 h]
  simp

end Go.Proofs.YtjnkfpagaajfeaaDoor
