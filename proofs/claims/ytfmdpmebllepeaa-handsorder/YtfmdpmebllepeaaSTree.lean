/-
  TREES AND THEIR SPOTS: plain mathematics. Nothing of the program.
-/
import Derived.Test.YtfmdpmebllepeaaWords
namespace Go.Proofs.Ytfmdpmebllepeaa

def ky (l : PL) (i : Nat) : Int := (l[i]?.getD (0, 0)).1
def dp (l : PL) (i : Nat) : Int := (l[i]?.getD (0, 0)).2

theorem dp_in {l : PL} {i : Nat} (h : i < l.length) : dp l i = l[i].2 := by simp [dp, List.getElem?_eq_getElem h]
theorem ky_in {l : PL} {i : Nat} (h : i < l.length) : ky l i = l[i].1 := by simp [ky, List.getElem?_eq_getElem h]
theorem dp_left {x y : PL} {i : Nat} (h : i < x.length) : dp (x ++ y) i = dp x i := by simp [dp, List.getElem?_append_left h]
theorem dp_right {x y : PL} {i : Nat} (h : x.length ≤ i) : dp (x ++ y) i = dp y (i - x.length) := by simp [dp, List.getElem?_append_right h]
theorem ky_left {x y : PL} {i : Nat} (h : i < x.length) : ky (x ++ y) i = ky x i := by simp [ky, List.getElem?_append_left h]
theorem ky_right {x y : PL} {i : Nat} (h : x.length ≤ i) : ky (x ++ y) i = ky y (i - x.length) := by simp [ky, List.getElem?_append_right h]
theorem dp_mid (x y : PL) (p : Int × Int) : dp (x ++ p :: y) x.length = p.2 := by simp [dp]
theorem ky_mid (x y : PL) (p : Int × Int) : ky (x ++ p :: y) x.length = p.1 := by simp [ky]
theorem pl_ext {l m : PL} (h : l.length = m.length) (hk : ∀ i, i < l.length → ky l i = ky m i) (hd : ∀ i, i < l.length → dp l i = dp m i) : l = m := by
  apply List.ext_getElem h
  intro i h1 h2
  have a := hk i h1
  have b := hd i h1
  rw [ky_in h1, ky_in h2] at a
  rw [dp_in h1, dp_in h2] at b
  exact Prod.ext a b

inductive Tr
  | nil
  | node (l : Tr) (k : Int) (r : Tr)
def Tr.sp : Tr → Int → PL
  | .nil, _ => []
  | .node a k b, d => a.sp (d + 1) ++ (k, d) :: b.sp (d + 1)
def Tr.size : Tr → Nat
  | .nil => 0
  | .node a _ b => a.size + 1 + b.size
theorem sp_length (t : Tr) (d : Int) : (t.sp d).length = t.size := by
  induction t generalizing d with
  | nil => rfl
  | node a k b iha ihb => simp [Tr.sp, Tr.size, iha, ihb]; omega
theorem sp_ge (t : Tr) (d : Int) : ∀ i, i < t.size → d ≤ dp (t.sp d) i := by
  induction t generalizing d with
  | nil => intro i h; simp [Tr.size] at h
  | node a k b iha ihb =>
    intro i h
    simp only [Tr.size] at h
    simp only [Tr.sp]
    rcases Nat.lt_trichotomy i a.size with h1 | h1 | h1
    · rw [dp_left (by rw [sp_length]; exact h1)]
      have := iha (d + 1) i h1
      omega
    · have := dp_mid (a.sp (d + 1)) (b.sp (d + 1)) (k, d)
      rw [sp_length] at this
      rw [h1, this]
      exact Int.le_refl _
    · rw [dp_right (by rw [sp_length]; omega), sp_length]
      have e : dp ((k, d) :: b.sp (d + 1)) (i - a.size) = dp (b.sp (d + 1)) (i - a.size - 1) := by
        obtain ⟨m, hm⟩ : ∃ m, i - a.size = m + 1 := ⟨i - a.size - 1, by omega⟩
        rw [hm]; simp [dp]
      rw [e]
      have := ihb (d + 1) (i - a.size - 1) (by omega)
      omega
theorem sp_root (a b : Tr) (k d : Int) : dp ((Tr.node a k b).sp d) a.size = d ∧ ky ((Tr.node a k b).sp d) a.size = k := by
  have h1 := dp_mid (a.sp (d + 1)) (b.sp (d + 1)) (k, d)
  have h2 := ky_mid (a.sp (d + 1)) (b.sp (d + 1)) (k, d)
  rw [sp_length] at h1 h2
  exact ⟨h1, h2⟩
theorem sp_gt (a b : Tr) (k d : Int) : ∀ i, i < (Tr.node a k b).size → i ≠ a.size → d < dp ((Tr.node a k b).sp d) i := by
  intro i h hne
  simp only [Tr.size] at h
  simp only [Tr.sp]
  rcases Nat.lt_or_ge i a.size with h1 | h1
  · rw [dp_left (by rw [sp_length]; exact h1)]
    have := sp_ge a (d + 1) i h1
    omega
  · rw [dp_right (by rw [sp_length]; omega), sp_length]
    have e : dp ((k, d) :: b.sp (d + 1)) (i - a.size) = dp (b.sp (d + 1)) (i - a.size - 1) := by
      obtain ⟨m, hm⟩ : ∃ m, i - a.size = m + 1 := ⟨i - a.size - 1, by omega⟩
      rw [hm]; simp [dp]
    rw [e]
    have := sp_ge b (d + 1) (i - a.size - 1) (by omega)
    omega

/-- the first place of the least depth -/
def IsTop (l : PL) (j : Nat) : Prop := j < l.length ∧ (∀ i, i < l.length → dp l j ≤ dp l i) ∧ ∀ i, i < j → dp l j < dp l i
theorem isTop_one {l : PL} {i j : Nat} (h : IsTop l i) (h' : IsTop l j) : i = j := by
  obtain ⟨a1, a2, a3⟩ := h
  obtain ⟨b1, b2, b3⟩ := h'
  rcases Nat.lt_trichotomy i j with h | h | h
  · have := b3 i h; have := a2 j b1; omega
  · exact h
  · have := a3 j h; have := b2 i a1; omega
theorem isTop_has : ∀ (l : PL), l ≠ [] → ∃ j, IsTop l j := by
  intro l
  induction l with
  | nil => intro h; exact absurd rfl h
  | cons p t ih =>
    intro _
    by_cases ht : t = []
    · subst ht
      refine ⟨0, by simp, ?_, ?_⟩
      · intro i hi
        have : i = 0 := by simp at hi; exact hi
        subst this
        exact Int.le_refl _
      · intro i hi; omega
    · obtain ⟨j, h1, h2, h3⟩ := ih ht
      have es : ∀ i, dp (p :: t) (i + 1) = dp t i := fun i => by simp [dp]
      have e0 : dp (p :: t) 0 = p.2 := by simp [dp]
      by_cases hp : p.2 ≤ dp t j
      · refine ⟨0, by simp, ?_, fun i hi => by omega⟩
        intro i hi
        rw [e0]
        cases i with
        | zero => rw [e0]; exact Int.le_refl _
        | succ i => rw [es]; have := h2 i (by simpa using hi); omega
      · refine ⟨j + 1, by simpa using h1, ?_, ?_⟩
        · intro i hi
          rw [es]
          cases i with
          | zero => rw [e0]; omega
          | succ i => rw [es]; exact h2 i (by simpa using hi)
        · intro i hi
          rw [es]
          cases i with
          | zero => rw [e0]; omega
          | succ i => rw [es]; exact h3 i (by omega)
open Classical in
noncomputable def topR (l : PL) : Nat := if h : ∃ j, IsTop l j then Classical.choose h else 0
theorem topR_is {l : PL} (h : l ≠ []) : IsTop l (topR l) := by
  have hx := isTop_has l h
  unfold topR
  rw [dif_pos hx]
  exact Classical.choose_spec hx
theorem topR_eq {l : PL} {j : Nat} (h : IsTop l j) : topR l = j := isTop_one (topR_is (by intro e; subst e; exact absurd h.1 (by simp))) h
theorem topR_lt {l : PL} (h : l ≠ []) : topR l < l.length := (topR_is h).1
theorem topR_sp (a b : Tr) (k d : Int) : topR ((Tr.node a k b).sp d) = a.size := by
  have hr := (sp_root a b k d).1
  refine topR_eq ⟨by rw [sp_length, Tr.size]; omega, fun i hi => ?_, fun i hi => ?_⟩
  · rw [hr]
    rw [sp_length] at hi
    exact sp_ge _ d i hi
  · rw [hr]
    exact sp_gt a b k d i (by rw [Tr.size]; omega) (by omega)

theorem split_at (l : PL) (j : Nat) (h : j < l.length) : l = l.take j ++ (ky l j, dp l j) :: l.drop (j + 1) := by
  rw [ky_in h, dp_in h]
  conv => lhs; rw [← List.take_append_drop j l]
  rw [List.drop_eq_getElem_cons h]

noncomputable def stB (l : PL) (d : Int) : Bool :=
  if h : l = [] then true else decide (dp l (topR l) = d) && (stB (l.take (topR l)) (d + 1) && stB (l.drop (topR l + 1)) (d + 1))
termination_by l.length
decreasing_by
  · have := topR_lt h; simp; omega
  · have := topR_lt h; simp; omega
theorem stB_nil (d : Int) : stB [] d = true := by unfold stB; simp
theorem stB_cons {l : PL} (h : l ≠ []) (d : Int) : stB l d = (decide (dp l (topR l) = d) && (stB (l.take (topR l)) (d + 1) && stB (l.drop (topR l + 1)) (d + 1))) := by
  rw [stB.eq_def, dif_neg h]
theorem sp_parts (a b : Tr) (k d : Int) : ((Tr.node a k b).sp d).take a.size = a.sp (d + 1) ∧ ((Tr.node a k b).sp d).drop (a.size + 1) = b.sp (d + 1) := by
  constructor
  · simp only [Tr.sp]
    rw [← sp_length a (d + 1), List.take_left]
  · simp only [Tr.sp]
    rw [← sp_length a (d + 1), List.drop_append]
    simp
theorem stB_sp (t : Tr) (d : Int) : stB (t.sp d) d = true := by
  induction t generalizing d with
  | nil => exact stB_nil d
  | node a k b iha ihb =>
    rw [stB_cons (by simp [Tr.sp]), topR_sp, (sp_root a b k d).1, (sp_parts a b k d).1, (sp_parts a b k d).2, iha, ihb]
    simp
theorem stB_tree : ∀ (n : Nat) (l : PL) (d : Int), l.length ≤ n → stB l d = true → ∃ t : Tr, l = t.sp d := by
  intro n
  induction n with
  | zero =>
    intro l d h _
    exact ⟨.nil, List.eq_nil_of_length_eq_zero (by omega)⟩
  | succ n ih =>
    intro l d h hs
    by_cases hl : l = []
    · exact ⟨.nil, hl⟩
    · rw [stB_cons hl] at hs
      simp only [Bool.and_eq_true, decide_eq_true_eq] at hs
      obtain ⟨h1, h2, h3⟩ := hs
      have hlt := topR_lt hl
      obtain ⟨a, ha⟩ := ih _ _ (by simp; omega) h2
      obtain ⟨b, hb⟩ := ih _ _ (by simp; omega) h3
      refine ⟨.node a (ky l (topR l)) b, ?_⟩
      rw [Tr.sp, ← ha, ← hb]
      have := split_at l (topR l) hlt
      rw [h1] at this
      exact this
theorem sp_inj (t t' : Tr) (d : Int) (h : t.sp d = t'.sp d) : t = t' := by
  induction t generalizing t' d with
  | nil => cases t' with
    | nil => rfl
    | node a k b => simp [Tr.sp] at h
  | node a k b iha ihb => cases t' with
    | nil => simp [Tr.sp] at h
    | node a' k' b' =>
      have h0 : a.size = a'.size := by rw [← topR_sp a b k d, ← topR_sp a' b' k' d, h]
      have h1 := (sp_parts a b k d).1
      have h2 := (sp_parts a b k d).2
      have h3 := (sp_root a b k d).2
      rw [h, h0] at h1 h2 h3
      rw [(sp_parts a' b' k' d).1] at h1
      rw [(sp_parts a' b' k' d).2] at h2
      rw [(sp_root a' b' k' d).2] at h3
      rw [iha a' _ h1.symm, ihb b' _ h2.symm, h3]

/-- rising keys, up to k -/
def upTo (l : PL) (k : Nat) : Prop := ∀ i, i + 1 < k → ky l i < ky l (i + 1)
open Classical in
noncomputable def chkS (l : PL) : Int := if 200 < l.length then 2 else if upTo l l.length ∧ stB l 0 = true then 0 else 3
/-- it is a tree -/
def IsTree (l : PL) : Prop := l.length ≤ 200 ∧ upTo l l.length ∧ ∃ t : Tr, l = t.sp 0
theorem chkS_zero {l : PL} : chkS l = 0 ↔ IsTree l := by
  unfold chkS IsTree
  by_cases h : 200 < l.length
  · rw [if_pos h]
    constructor
    · intro e; cases e
    · rintro ⟨h1, _⟩; omega
  · rw [if_neg h]
    by_cases h2 : upTo l l.length ∧ stB l 0 = true
    · rw [if_pos h2]
      exact ⟨fun _ => ⟨by omega, h2.1, stB_tree _ l 0 (Nat.le_refl _) h2.2⟩, fun _ => rfl⟩
    · rw [if_neg h2]
      constructor
      · intro e; cases e
      · rintro ⟨_, h3, t, h4⟩
        refine absurd ⟨h3, ?_⟩ h2
        rw [h4]
        exact stB_sp t 0
theorem up_lt {l : PL} (h : upTo l l.length) : ∀ i j, i < j → j < l.length → ky l i < ky l j := by
  intro i j hij hj
  induction j with
  | zero => omega
  | succ j ih =>
    rcases Nat.lt_or_ge i j with h1 | h1
    · have := ih h1 (by omega); have := h j hj; omega
    · obtain rfl : i = j := by omega
      exact h i hj
theorem up_inj {l : PL} (h : upTo l l.length) {i j : Nat} (hi : i < l.length) (hj : j < l.length) (e : ky l i = ky l j) : i = j := by
  rcases Nat.lt_trichotomy i j with h1 | h1 | h1
  · have := up_lt h i j h1 hj; omega
  · exact h1
  · have := up_lt h j i h1 hi; omega

end Go.Proofs.Ytfmdpmebllepeaa
