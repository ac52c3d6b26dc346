/-
  ALL TREES OF UP TO SEVEN NODES; depths held against each other: plain mathematics. Nothing of the program.
-/
import Derived.Test.YtconegligedniaaSPure
import Derived.Sort.Statements
namespace Go.Proofs.Ytconegligedniaa
open Go.Sort

/-- by depths, from the first on -/
def cmpD : PL → PL → Int
  | [], [] => 0
  | [], _ :: _ => -1
  | _ :: _, [] => 1
  | p :: s, q :: t => if p.2 < q.2 then -1 else if q.2 < p.2 then 1 else cmpD s t
def ltD (x y : PL) : Bool := decide (cmpD x y < 0)
theorem cmpD_self (x : PL) : cmpD x x = 0 := by
  induction x with
  | nil => rfl
  | cons p s ih => simp [cmpD, ih]
theorem ltD_trans : ∀ x y z : PL, cmpD x y < 0 → cmpD y z < 0 → cmpD x z < 0 := by
  intro x
  induction x with
  | nil =>
    intro y z h1 h2
    cases y with
    | nil => simp [cmpD] at h1
    | cons q t => cases z with
      | nil => simp [cmpD] at h2
      | cons r u => simp [cmpD]
  | cons p s ih =>
    intro y z h1 h2
    cases y with
    | nil => simp [cmpD] at h1
    | cons q t => cases z with
      | nil => simp [cmpD] at h2
      | cons r u =>
        simp only [cmpD] at h1 h2 ⊢
        by_cases a1 : p.2 < q.2 <;> by_cases a2 : q.2 < p.2 <;> by_cases b1 : q.2 < r.2 <;> by_cases b2 : r.2 < q.2 <;> simp only [a1, a2, b1, b2, if_true, if_false] at h1 h2 <;>
          first
          | omega
          | (rw [if_pos (by omega)]; omega)
          | (rw [if_neg (by omega), if_neg (by omega)]; exact ih t u h1 h2)
theorem geD_trans : ∀ x y z : PL, ¬ cmpD x y < 0 → ¬ cmpD y z < 0 → ¬ cmpD x z < 0 := by
  intro x
  induction x with
  | nil =>
    intro y z h1 h2
    cases y with
    | nil => exact h2
    | cons q t => simp [cmpD] at h1
  | cons p s ih =>
    intro y z h1 h2
    cases z with
    | nil => simp [cmpD]
    | cons r u => cases y with
      | nil => simp [cmpD] at h2
      | cons q t =>
        simp only [cmpD] at h1 h2 ⊢
        by_cases a1 : p.2 < q.2 <;> by_cases a2 : q.2 < p.2 <;> by_cases b1 : q.2 < r.2 <;> by_cases b2 : r.2 < q.2 <;> simp only [a1, a2, b1, b2, if_true, if_false] at h1 h2 <;>
          first
          | omega
          | (rw [if_neg (by omega), if_pos (by omega)]; omega)
          | (rw [if_neg (by omega), if_neg (by omega)]; exact ih t u h1 h2)

/-- all trees of the keys from 'from' on, ahead of 'to', the top at depth d -/
def trees : Nat → Nat → Nat → Nat → List PL
  | 0, _, _, _ => [[]]
  | f + 1, a, b, d => if a = b then [[]] else (List.range' a (b - a)).flatMap fun i => (trees f a i (d + 1)).flatMap fun L => (trees f (i + 1) b (d + 1)).map fun R => L ++ ((i : Int), (d : Int)) :: R
/-- the trees with one of the first tops, ahead of k -/
def treesTo (f a b d k : Nat) : List PL := (List.range' a (k - a)).flatMap fun i => (trees f a i (d + 1)).flatMap fun L => (trees f (i + 1) b (d + 1)).map fun R => L ++ ((i : Int), (d : Int)) :: R
theorem range'_snoc (a k : Nat) (h : a ≤ k) : List.range' a (k + 1 - a) = List.range' a (k - a) ++ [k] := by
  rw [show k + 1 - a = k - a + 1 by omega, List.range'_concat]
  congr 2
  omega
theorem treesTo_succ (f a b d k : Nat) (h : a ≤ k) : treesTo f a b d (k + 1) = treesTo f a b d k ++ (trees f a k (d + 1)).flatMap fun L => (trees f (k + 1) b (d + 1)).map fun R => L ++ ((k : Int), (d : Int)) :: R := by
  unfold treesTo
  rw [range'_snoc a k h, List.flatMap_append]
  simp
theorem trees_eq (f a b d : Nat) (h : a ≠ b) : trees (f + 1) a b d = treesTo f a b d b := by
  rw [trees, if_neg h]
  rfl
theorem trees_len : ∀ (f a b d : Nat), a ≤ b → b - a ≤ f → ∀ L ∈ trees f a b d, L.length = b - a := by
  intro f
  induction f with
  | zero => intro a b d h1 h2 L hL; simp [trees] at hL; simp [hL]; omega
  | succ f ih =>
    intro a b d h1 h2 L hL
    rw [trees] at hL
    split at hL
    · simp at hL; simp [hL]; omega
    · rw [List.mem_flatMap] at hL
      obtain ⟨i, hi, hL⟩ := hL
      rw [List.mem_flatMap] at hL
      obtain ⟨X, hX, hL⟩ := hL
      rw [List.mem_map] at hL
      obtain ⟨Y, hY, rfl⟩ := hL
      rw [List.mem_range'_1] at hi
      have e1 := ih a i (d + 1) (by omega) (by omega) X hX
      have e2 := ih (i + 1) b (d + 1) (by omega) (by omega) Y hY
      simp [e1, e2]
      omega

def code (l : PL) : Nat := l.foldl (fun n p => n * 8 + p.2.toNat) 1
def cat (n : Nat) : Nat := [1, 1, 2, 5, 14, 42, 132, 429].getD n 0
theorem trees_cat : ∀ n, n < 8 → (trees 8 0 n 0).length = cat n := by decide +kernel
theorem trees_apart : ∀ n, n < 8 → ((trees 8 0 n 0).map code).Nodup := by decide +kernel
theorem trees_nodup (n : Nat) (h : n < 8) : (trees 8 0 n 0).Nodup := (List.pairwise_map.1 (trees_apart n h)).imp (fun h e => h (by rw [e]))

end Go.Proofs.Ytconegligedniaa
