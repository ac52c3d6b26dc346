/-
  NO TREE HAS LESS DEPTH THAN THE EVEN ONE (TopEven): what it costs when all keys are asked for once: plain mathematics. Nothing of the program.
-/
import Derived.Test.YtpnjnedfcdppaaaGreatDoorVPure
import Derived.Test.YtpnjnedfcdppaaaGreatDoorBTab
namespace Go.Proofs.YtpnjnedfcdppaaaGreatDoor

/-- the levels down to a place, in a tree that is full but for its lowest row -/
def glv : Nat → Nat
  | 0 => 1
  | n + 1 => glv (n / 2) + 1
theorem glv_mono : ∀ (n m : Nat), m ≤ n → glv m ≤ glv n
  | 0, m, h => by
    have : m = 0 := by omega
    subst this
    exact Nat.le_refl _
  | n + 1, 0, _ => by
    rw [glv, glv]
    omega
  | n + 1, m + 1, h => by
    have := glv_mono (n / 2) (m / 2) (by omega)
    rw [glv, glv]
    omega
termination_by n => n
def fSum : Nat → Nat
  | 0 => 0
  | n + 1 => fSum n + glv n
def hSum : Nat → Nat
  | 0 => 0
  | n + 1 => hSum n + glv (n / 2)
theorem fSum_hSum : ∀ m, fSum (m + 1) = m + 1 + hSum m
  | 0 => by simp [fSum, hSum, glv]
  | m + 1 => by
    have h1 := fSum_hSum m
    have h2 : fSum (m + 1 + 1) = fSum (m + 1) + glv (m + 1) := rfl
    have h3 : hSum (m + 1) = hSum m + glv (m / 2) := rfl
    have h4 : glv (m + 1) = glv (m / 2) + 1 := by rw [glv]
    omega
theorem sum_parts : ∀ (n a b : Nat), a + b = n → b ≤ a → hSum (a + b) ≤ fSum a + fSum b
  | 0, a, b, h, _ => by
    have e1 : a = 0 := by omega
    have e2 : b = 0 := by omega
    subst e1 e2
    exact Nat.le_refl _
  | n + 1, 0, b, h, hb => by omega
  | n + 1, a + 1, b, h, hb => by
    have h1 : fSum (a + 1) = fSum a + glv a := rfl
    have e : a + 1 + b = (a + b) + 1 := by omega
    have h2 : hSum (a + b + 1) = hSum (a + b) + glv ((a + b) / 2) := rfl
    have h3 := glv_mono a ((a + b) / 2) (by omega)
    rw [e, h2, h1]
    by_cases hc : b ≤ a
    · have := sum_parts n a b (by omega) hc
      omega
    · have := sum_parts n b a (by omega) (by omega)
      rw [Nat.add_comm b a] at this
      omega
theorem sum_even : ∀ b, hSum (2 * b) = fSum b + fSum b ∧ hSum (2 * b + 1) = fSum (b + 1) + fSum b
  | 0 => by simp [hSum, fSum, glv]
  | b + 1 => by
    obtain ⟨_, h2⟩ := sum_even b
    have e1 : 2 * (b + 1) = 2 * b + 1 + 1 := by omega
    have e2 : hSum (2 * b + 1 + 1) = hSum (2 * b + 1) + glv ((2 * b + 1) / 2) := rfl
    have e3 : hSum (2 * b + 1 + 1 + 1) = hSum (2 * b + 1 + 1) + glv ((2 * b + 1 + 1) / 2) := rfl
    have e4 : (2 * b + 1) / 2 = b := by omega
    have e5 : (2 * b + 1 + 1) / 2 = b + 1 := by omega
    have e6 : fSum (b + 1) = fSum b + glv b := rfl
    have e7 : fSum (b + 1 + 1) = fSum (b + 1) + glv (b + 1) := rfl
    rw [e4] at e2
    rw [e5] at e3
    rw [e1]
    constructor
    · omega
    · omega
/-- no tree has less Depth -/
theorem sd_least : ∀ (t : Tr), fSum t.size ≤ t.sd + t.size
  | .nil => Nat.le_refl _
  | .node a k b => by
    have h1 := sd_least a
    have h2 := sd_least b
    have h3 := fSum_hSum (a.size + b.size)
    have h4 : hSum (a.size + b.size) ≤ fSum a.size + fSum b.size := by
      by_cases hc : b.size ≤ a.size
      · exact sum_parts _ _ _ rfl hc
      · have := sum_parts _ b.size a.size rfl (by omega)
        rw [Nat.add_comm a.size b.size]
        omega
    have e : (Tr.node a k b).size = a.size + b.size + 1 := by simp only [Tr.size]; omega
    have e2 : (Tr.node a k b).sd = a.sd + a.size + (b.sd + b.size) := rfl
    rw [e, e2]
    omega
/-- the even one has just so much -/
theorem ev_sd : ∀ (n : Nat) (l : List Int), l.length ≤ n → (ev l).sd + l.length = fSum l.length
  | 0, l, h => by
    have : l = [] := List.eq_nil_of_length_eq_zero (by omega)
    subst this
    rfl
  | n + 1, l, h => by
    by_cases hl : l = []
    · subst hl; rfl
    · have hp : 0 < l.length := List.length_pos_iff.2 hl
      have l1 : (l.take (l.length / 2)).length = l.length / 2 := by rw [List.length_take]; omega
      have l2 : (l.drop (l.length / 2 + 1)).length = l.length - (l.length / 2 + 1) := List.length_drop
      have h1 := ev_sd n (l.take (l.length / 2)) (by omega)
      have h2 := ev_sd n (l.drop (l.length / 2 + 1)) (by omega)
      rw [ev_eq hl]
      have e2 : (Tr.node (ev (l.take (l.length / 2))) (l[l.length / 2]?.getD 0) (ev (l.drop (l.length / 2 + 1)))).sd = (ev (l.take (l.length / 2))).sd + (ev (l.take (l.length / 2))).size + ((ev (l.drop (l.length / 2 + 1))).sd + (ev (l.drop (l.length / 2 + 1))).size) := rfl
      rw [e2, ev_size, ev_size, l1, l2]
      rw [l1] at h1
      rw [l2] at h2
      generalize (ev (l.take (l.length / 2))).sd = x at h1 ⊢
      generalize (ev (l.drop (l.length / 2 + 1))).sd = y at h2 ⊢
      obtain ⟨m, hm⟩ : ∃ m, l.length = m + 1 := ⟨l.length - 1, by omega⟩
      rw [hm] at h1 h2 ⊢
      rw [fSum_hSum m]
      rcases Nat.mod_two_eq_zero_or_one m with h0 | h0
      · clear e2
        have e3 : m = 2 * (m / 2) := by omega
        have e4 : (m + 1) / 2 = m / 2 := by omega
        have e5 : m + 1 - ((m + 1) / 2 + 1) = m / 2 := by omega
        have h3 := (sum_even (m / 2)).1
        rw [← e3] at h3
        rw [e5] at h2
        rw [e4] at h1
        rw [e5, e4]
        omega
      · clear e2
        have e3 : m = 2 * (m / 2) + 1 := by omega
        have e4 : (m + 1) / 2 = m / 2 + 1 := by omega
        have e5 : m + 1 - ((m + 1) / 2 + 1) = m / 2 := by omega
        have h3 := (sum_even (m / 2)).2
        rw [← e3] at h3
        rw [e5] at h2
        rw [e4] at h1
        rw [e5, e4]
        omega
/-- what a tree costs when each key is asked for once -/
theorem ask_ones {hits gaps : List Int} {n : Nat} (hh : ∀ q : Nat, q < n → hits[q]?.getD 0 = 1) (hg : ∀ q : Nat, gaps[q]?.getD 0 = 0) : ∀ (t : Tr) (i j : Nat) (d : Int), Rng t i j → j ≤ n → t.ask hits gaps i d = (t.sd : Int) + (t.size : Int) * (d + 1)
  | .nil, i, j, d, _, _ => by
    show gaps[i]?.getD 0 * d = _
    rw [hg]
    simp [Tr.sd, Tr.size]
  | .node a k b, i, j, d, hr, hj => by
    obtain ⟨h0, h1, h2⟩ := hr
    have hb := rng_le h2
    have e1 := ask_ones hh hg a i k.toNat (d + 1) h1 (by omega)
    have e2 := ask_ones hh hg b (k.toNat + 1) j (d + 1) h2 hj
    show hits[k.toNat]?.getD 0 * (d + 1) + a.ask hits gaps i (d + 1) + b.ask hits gaps (k.toNat + 1) (d + 1) = _
    rw [e1, e2, hh _ (by omega)]
    have e : (Tr.node a k b).size = a.size + b.size + 1 := by simp only [Tr.size]; omega
    have e3 : (Tr.node a k b).sd = a.sd + a.size + (b.sd + b.size) := rfl
    rw [e, e3]
    push_cast
    simp only [Int.add_mul, Int.mul_add]
    omega
/-- the least is what the even one costs -/
theorem even_least {hits gaps : List Int} {c : Nat → Nat → Int} {n : Nat} (hh : ∀ q : Nat, q < n → hits[q]?.getD 0 = 1) (hg : ∀ q : Nat, gaps[q]?.getD 0 = 0) (hc : OptC (wij hits gaps) c n) {l : List Int} (hl : Rng (ev l) 0 n) {t : Tr} (ht : Rng t 0 n) (hct : t.ask hits gaps 0 0 = c 0 n) : c 0 n = ((ev l).sd : Int) + n := by
  have h1 := ask_least hc hl (Nat.le_refl _)
  have e1 := ask_ones hh hg _ 0 n 0 hl (Nat.le_refl _)
  have e2 := ask_ones hh hg _ 0 n 0 ht (Nat.le_refl _)
  have s1 := rng_size hl
  have s2 := rng_size ht
  have h2 := sd_least t
  have h3 := ev_sd _ l (Nat.le_refl _)
  have h4 := ev_size l
  have s3 : t.size = l.length := by omega
  rw [s3] at h2 e2
  rw [h4] at e1 s1
  have s4 : n = l.length := by omega
  rw [Int.zero_add, Int.mul_one] at e1 e2
  omega
end Go.Proofs.YtpnjnedfcdppaaaGreatDoor
