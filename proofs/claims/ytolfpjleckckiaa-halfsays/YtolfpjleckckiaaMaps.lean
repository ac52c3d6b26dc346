/-
  MAPS, PLAINLY: what put, cut, get and look come to, by recursion on the list; what holds of them. Lists alone.
-/
import Derived.Test.YtolfpjleckckiaaRunAAll
namespace Go.Proofs.Ytolfpjleckckiaa

/-- rising keys from lo on -/
def Srt : Int → PL → Prop
  | _, [] => True
  | lo, p :: t => lo ≤ p.1 ∧ p.1 ≤ 1000000 ∧ Srt (p.1 + 1) t
theorem Srt.mono {l : PL} {a b : Int} (h : Srt b l) (hab : a ≤ b) : Srt a l := by
  cases l with
  | nil => trivial
  | cons p t => exact ⟨by have := h.1; omega, h.2⟩
theorem okTo_cons {p : Int × Int} {t : PL} {k : Nat} : okTo (p :: t) (k + 1) ↔ keyB p.1 = true ∧ (∀ i, i < k → keyB (t[i]?.getD (0, 0)).1 = true ∧ (if i = 0 then p.1 else (t[i - 1]?.getD (0, 0)).1) < (t[i]?.getD (0, 0)).1) := by
  constructor
  · intro h
    refine ⟨(h 0 (by omega)).1, fun i hi => ?_⟩
    have := h (i + 1) (by omega)
    refine ⟨by simpa [okAt] using this.1, ?_⟩
    have h2 := this.2 (by omega)
    cases i with
    | zero => simpa using h2
    | succ i => simpa using h2
  · rintro ⟨h0, h⟩ i hi
    cases i with
    | zero => exact ⟨by simpa using h0, fun h => absurd h (by omega)⟩
    | succ i =>
      obtain ⟨h1, h2⟩ := h i (by omega)
      refine ⟨by simpa using h1, fun _ => ?_⟩
      cases i with
      | zero => simpa using h2
      | succ i => simpa using h2
theorem srt_iff_aux (l : PL) : ∀ lo : Int, Srt lo l ↔ (∀ i, i < l.length → ((l[i]?.getD (0, 0)).1 ≤ 1000000 ∧ (if i = 0 then lo else (l[i - 1]?.getD (0, 0)).1 + 1) ≤ (l[i]?.getD (0, 0)).1)) := by
  induction l with
  | nil => intro lo; simp [Srt]
  | cons p t ih =>
    intro lo
    rw [Srt, ih]
    constructor
    · rintro ⟨h1, h2, h3⟩ i hi
      cases i with
      | zero => simpa using ⟨h2, h1⟩
      | succ i =>
        have := h3 i (by simpa using hi)
        cases i with
        | zero => simpa using this
        | succ i => simpa using this
    · intro h
      have h0 := h 0 (by simp)
      simp at h0
      refine ⟨h0.2, h0.1, fun i hi => ?_⟩
      have := h (i + 1) (by simpa using hi)
      cases i with
      | zero => simpa using this
      | succ i => simpa using this
theorem srt_iff (l : PL) : okTo l l.length ↔ Srt 0 l := by
  rw [srt_iff_aux]
  constructor
  · intro h
    have hk : ∀ i, i < l.length → 0 ≤ (l[i]?.getD (0, 0)).1 ∧ (l[i]?.getD (0, 0)).1 ≤ 1000000 := fun i hi => by simpa [keyB] using (h i hi).1
    intro i hi
    refine ⟨(hk i hi).2, ?_⟩
    by_cases h0 : i = 0
    · subst h0; simpa using (hk 0 hi).1
    · have := (h i hi).2 (by omega)
      simp [h0]; omega
  · intro h i hi
    have hk : ∀ j, j ≤ i → 0 ≤ (l[j]?.getD (0, 0)).1 := by
      intro j
      induction j with
      | zero => intro _; have := (h 0 (by omega)).2; simpa using this
      | succ j ihj => intro hj; have := (h (j + 1) (by omega)).2; have := ihj (by omega); simp at *; omega
    refine ⟨by simp [keyB]; exact ⟨hk i (Nat.le_refl _), (h i hi).1⟩, fun h0 => ?_⟩
    have := (h i hi).2
    rw [if_neg (by omega)] at this
    omega
theorem chk_zero (l : PL) : chk l = 0 ↔ l.length ≤ 200 ∧ Srt 0 l := by
  unfold chk
  rw [← srt_iff]
  split
  · constructor
    · intro h; omega
    · intro h; omega
  · split
    · rename_i h1 h2; exact ⟨fun _ => ⟨by omega, h2⟩, fun _ => rfl⟩
    · rename_i h1 h2; exact ⟨fun h => by omega, fun h => absurd h.2 h2⟩

def insR (k v : Int) : PL → PL
  | [] => [(k, v)]
  | p :: t => if p.1 < k then p :: insR k v t else if p.1 = k then (k, v) :: t else (k, v) :: p :: t
def delR (k : Int) : PL → PL
  | [] => []
  | p :: t => if p.1 < k then p :: delR k t else if p.1 = k then t else p :: t
def getR (k : Int) : PL → Option Int
  | [] => none
  | p :: t => if p.1 < k then getR k t else if p.1 = k then some p.2 else none

theorem cnt_cons_lt {p : Int × Int} {t : PL} {k : Int} (h : p.1 < k) : cnt (p :: t) k = cnt t k + 1 := by simp [cnt, List.takeWhile_cons, h]
theorem cnt_cons_ge {p : Int × Int} {t : PL} {k : Int} (h : ¬ p.1 < k) : cnt (p :: t) k = 0 := by simp [cnt, List.takeWhile_cons, h]
theorem hasB_succ {p : Int × Int} {t : PL} {n : Nat} {k : Int} : hasB (p :: t) (n + 1) k = hasB t n k := by simp [hasB]
theorem hasB_zero {p : Int × Int} {t : PL} {k : Int} : hasB (p :: t) 0 k = (p.1 == k) := by simp [hasB]

theorem get_eq (l : PL) (k : Int) : getR k l = if hasB l (cnt l k) k then some (l[cnt l k]?.getD (0, 0)).2 else none := by
  induction l with
  | nil => simp [getR, hasB]
  | cons p t ih =>
    rw [getR]
    by_cases h : p.1 < k
    · rw [if_pos h, cnt_cons_lt h, hasB_succ, ih]; simp
    · rw [if_neg h, cnt_cons_ge h, hasB_zero]
      by_cases h2 : p.1 = k <;> simp [h2]
theorem has_iff (l : PL) (k : Int) : hasB l (cnt l k) k = (getR k l).isSome := by
  rw [get_eq]; cases hasB l (cnt l k) k <;> simp
theorem ins_eq (l : PL) (k v : Int) : insR k v l = if hasB l (cnt l k) k then l.set (cnt l k) (k, v) else l.take (cnt l k) ++ (k, v) :: l.drop (cnt l k) := by
  induction l with
  | nil => simp [insR, hasB, cnt]
  | cons p t ih =>
    rw [insR]
    by_cases h : p.1 < k
    · rw [if_pos h, cnt_cons_lt h, hasB_succ, ih]
      split <;> simp
    · rw [if_neg h, cnt_cons_ge h, hasB_zero]
      by_cases h2 : p.1 = k <;> simp [h2]
theorem del_eq (l : PL) (k : Int) : delR k l = if hasB l (cnt l k) k then l.take (cnt l k) ++ l.drop (cnt l k + 1) else l := by
  induction l with
  | nil => simp [delR]
  | cons p t ih =>
    rw [delR]
    by_cases h : p.1 < k
    · rw [if_pos h, cnt_cons_lt h, hasB_succ, ih]
      split <;> simp
    · rw [if_neg h, cnt_cons_ge h, hasB_zero]
      by_cases h2 : p.1 = k <;> simp [h2]

def gA : Option Int → An
  | some v => ⟨0, 0, v, true⟩
  | none => an0
theorem getA_eq (l : PL) (k : Int) : getA l k = gA (getR k l) := by
  unfold getA; rw [get_eq]; split <;> rfl
theorem cutL_eq (l : PL) (k : Int) : cutL l k = delR k l := by rw [del_eq]; rfl
theorem putL_eq (l : PL) (k v : Int) : putL l k v = if (getR k l).isSome ∨ l.length < 200 then insR k v l else l := by
  unfold putL
  rw [ins_eq, ← has_iff]
  cases hasB l (cnt l k) k with
  | true => simp
  | false =>
    by_cases h : 200 ≤ l.length
    · simp [h]; omega
    · simp [h, Nat.lt_of_not_ge h]
theorem putA_eq (l : PL) (k : Int) : putA l k = if (getR k l).isSome then ⟨0, 0, 0, true⟩ else if 200 ≤ l.length then ⟨2, 0, 0, false⟩ else an0 := by
  unfold putA
  rw [← has_iff]

theorem get_ins (l : PL) (k v o : Int) : getR o (insR k v l) = if o = k then some v else getR o l := by
  induction l with
  | nil =>
    simp only [insR, getR]
    by_cases ho : o = k
    · subst ho; simp
    · have hko : ¬ k = o := fun e => ho e.symm
      simp [ho, hko]
  | cons p t ih =>
    rw [insR]
    by_cases h : p.1 < k
    · rw [if_pos h, getR, getR, ih]
      by_cases ho : o = k
      · subst ho; simp [h]
      · simp [ho]
    · rw [if_neg h]
      by_cases h2 : p.1 = k
      · rw [if_pos h2, getR, getR]
        by_cases ho : o = k
        · subst ho; simp
        · simp [ho, h2, Ne.symm ho]
      · rw [if_neg h2, getR]
        by_cases ho : o = k
        · subst ho; simp
        · have hko : ¬ k = o := fun e => ho e.symm
          simp only [ho, hko, if_false]
          by_cases h3 : k < o
          · simp [h3]
          · rw [if_neg h3, getR, if_neg (by omega), if_neg (by omega)]
theorem ins_ins (l : PL) (k v v' : Int) : insR k v' (insR k v l) = insR k v' l := by
  induction l with
  | nil => simp [insR]
  | cons p t ih =>
    rw [insR]
    by_cases h : p.1 < k
    · rw [if_pos h, insR, if_pos h, ih, insR, if_pos h]
    · rw [if_neg h, insR]
      by_cases h2 : p.1 = k
      · simp [h2, insR]
      · simp [h, h2, insR]
theorem srt_ins (l : PL) (k v : Int) : ∀ lo, Srt lo l → lo ≤ k → k ≤ 1000000 → Srt lo (insR k v l) := by
  induction l with
  | nil => intro lo _ h1 h2; exact ⟨h1, h2, trivial⟩
  | cons p t ih =>
    intro lo h h1 h2
    rw [insR]
    split
    · exact ⟨h.1, h.2.1, ih _ h.2.2 (by omega) h2⟩
    · split
      · rename_i h3 h4
        refine ⟨h1, h2, ?_⟩
        have := h.2.2
        rw [h4] at this
        exact this
      · refine ⟨h1, h2, by show k + 1 ≤ p.1; omega, h.2.1, h.2.2⟩
theorem get_low (l : PL) (k : Int) : ∀ lo, Srt lo l → k < lo → getR k l = none := by
  intro lo h hk
  cases l with
  | nil => rfl
  | cons p t => have := h.1; rw [getR, if_neg (by omega), if_neg (by omega)]
theorem get_del (l : PL) (k o : Int) : ∀ lo, Srt lo l → getR o (delR k l) = if o = k then none else getR o l := by
  induction l with
  | nil => intro lo _; simp [delR, getR]
  | cons p t ih =>
    intro lo h
    rw [delR]
    by_cases h1 : p.1 < k
    · rw [if_pos h1, getR, getR, ih _ h.2.2]
      by_cases ho : o = k
      · subst ho; simp [h1]
      · simp [ho]
    · rw [if_neg h1]
      by_cases h2 : p.1 = k
      · rw [if_pos h2]
        by_cases ho : o = k
        · subst ho
          rw [get_low t o _ h.2.2 (by omega)]; simp
        · simp only [ho, if_false, getR]
          by_cases h3 : p.1 < o
          · simp [h3]
          · rw [if_neg h3, if_neg (by omega), get_low t o _ h.2.2 (by omega)]
      · rw [if_neg h2]
        by_cases ho : o = k
        · subst ho; simp [getR, h1, h2]
        · simp [ho]
theorem srt_del (l : PL) (k : Int) : ∀ lo, Srt lo l → Srt lo (delR k l) := by
  induction l with
  | nil => intro lo h; exact h
  | cons p t ih =>
    intro lo h
    rw [delR]
    split
    · exact ⟨h.1, h.2.1, ih _ h.2.2⟩
    · split
      · exact h.2.2.mono (by have := h.1; omega)
      · exact h
theorem del_ins (l : PL) (k v : Int) (h : getR k l = none) : delR k (insR k v l) = l := by
  induction l with
  | nil => simp [insR, delR]
  | cons p t ih =>
    rw [getR] at h
    rw [insR]
    by_cases h1 : p.1 < k
    · rw [if_pos h1] at h ⊢
      rw [delR, if_pos h1, ih h]
    · rw [if_neg h1] at h ⊢
      by_cases h2 : p.1 = k
      · rw [if_pos h2] at h; cases h
      · simp [h2, delR]
theorem ins_low (l : PL) (k v : Int) : ∀ lo, Srt lo l → k < lo → insR k v l = (k, v) :: l := by
  intro lo h hk
  cases l with
  | nil => rfl
  | cons p t => have := h.1; rw [insR, if_neg (by omega), if_neg (by omega)]
theorem ins_del (l : PL) (k v : Int) : ∀ lo, Srt lo l → getR k l = some v → insR k v (delR k l) = l := by
  induction l with
  | nil => intro lo _ h; cases h
  | cons p t ih =>
    intro lo hs h
    rw [getR] at h
    rw [delR]
    by_cases h1 : p.1 < k
    · rw [if_pos h1] at h ⊢
      rw [insR, if_pos h1, ih _ hs.2.2 h]
    · rw [if_neg h1] at h ⊢
      by_cases h2 : p.1 = k
      · rw [if_pos h2] at h ⊢
        rw [ins_low t k v _ hs.2.2 (by omega)]
        cases p
        simp at h h2
        simp [h, h2]
      · rw [if_neg h2] at h; cases h
theorem len_ins (l : PL) (k v : Int) : (insR k v l).length = if (getR k l).isSome then l.length else l.length + 1 := by
  induction l with
  | nil => simp [insR, getR]
  | cons p t ih =>
    rw [insR, getR]
    by_cases h1 : p.1 < k
    · simp only [h1, if_true, List.length_cons, ih]
      split <;> rfl
    · simp only [h1, if_false]
      by_cases h2 : p.1 = k <;> simp [h2]
theorem len_del (l : PL) (k : Int) : (delR k l).length = if (getR k l).isSome then l.length - 1 else l.length := by
  induction l with
  | nil => simp [delR, getR]
  | cons p t ih =>
    rw [delR, getR]
    by_cases h1 : p.1 < k
    · simp only [h1, if_true, List.length_cons, ih]
      split
      · rename_i h
        cases t with
        | nil => simp [getR] at h
        | cons q t => simp
      · rfl
    · simp only [h1, if_false]
      by_cases h2 : p.1 = k <;> simp [h2]

end Go.Proofs.Ytolfpjleckckiaa
