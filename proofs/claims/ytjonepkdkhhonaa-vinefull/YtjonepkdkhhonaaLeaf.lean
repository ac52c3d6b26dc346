/-
  LEAVES: isKey, Between, countBelow, hasAt.
-/
import Derived.Test.YtjonepkdkhhonaaChecked
import Derived.Test.YtjonepkdkhhonaaWords
import Derived.BigQuiet
import Derived.Deep.QuietTactic
namespace Go.Proofs.Ytjonepkdkhhonaa
open Go.RowKit

def keyB (k : Int) : Bool := decide (0 ≤ k ∧ k ≤ 1000000)
def btwB (n lo hi : Int) : Bool := decide (lo ≤ n ∧ n ≤ hi)

/-- how many, from the beginning on, are less -/
def cnt (l : PL) (key : Int) : Nat := (l.takeWhile fun p => decide (p.1 < key)).length
theorem cnt_le (l : PL) (key : Int) : cnt l key ≤ l.length := by
  unfold cnt
  induction l with
  | nil => simp
  | cons p t ih => rw [List.takeWhile_cons]; split <;> simp; exact ih
theorem cnt_lt (l : PL) (key : Int) : ∀ i (h : i < cnt l key), (l[i]'(Nat.lt_of_lt_of_le h (cnt_le l key))).1 < key := by
  induction l with
  | nil => intro i h; simp [cnt] at h
  | cons p t ih =>
    intro i h
    unfold cnt at h
    rw [List.takeWhile_cons] at h
    split at h
    · rename_i hp
      match i, h with
      | 0, _ => simpa using hp
      | i + 1, h => exact ih i (by simp at h; exact h)
    · simp at h
theorem cnt_stop (l : PL) (key : Int) (h : cnt l key < l.length) : ¬ (l[cnt l key]).1 < key := by
  induction l with
  | nil => simp at h
  | cons p t ih =>
    by_cases hp : p.1 < key
    · have e : cnt (p :: t) key = cnt t key + 1 := by simp [cnt, List.takeWhile_cons, hp]
      simp only [e, List.getElem_cons_succ]
      exact ih (by rw [e] at h; simpa using h)
    · have e : cnt (p :: t) key = 0 := by simp [cnt, List.takeWhile_cons, hp]
      simp only [e, List.getElem_cons_zero]
      exact hp

/-- is the pair in place p one of this key? -/
def hasB (l : PL) (p : Nat) (key : Int) : Bool := match l[p]? with
  | some q => q.1 == key
  | none => false

/-- how many are less -/
def blw (l : PL) (key : Int) : Nat := (l.filter fun p => decide (p.1 < key)).length
theorem blw_le (l : PL) (key : Int) : blw l key ≤ l.length := List.length_filter_le _ _
theorem blw_step (l : PL) (key : Int) (k : Nat) (h : k < l.length) : blw (l.take (k + 1)) key = blw (l.take k) key + if l[k].1 < key then 1 else 0 := by
  rw [List.take_succ_eq_append_getElem h]
  unfold blw
  rw [List.filter_append]
  by_cases hk : l[k].1 < key <;> simp [hk]

end Go.Proofs.Ytjonepkdkhhonaa
