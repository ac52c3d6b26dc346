/-
  BITS, ONE BY ONE. Nothing is walked here.
-/
import Derived.Test.YtoebnfogkmkomaaDoorKTab
namespace Go.Proofs.YtoebnfogkmkomaaDoor

def bitN (x n : Nat) : Nat := x / 2 ^ n % 2
theorem bitN_lt (x n : Nat) : bitN x n < 2 := Nat.mod_lt _ (by decide)
theorem bitN_high (x n : Nat) (hx : x < 18446744073709551616) (hn : 64 ≤ n) : bitN x n = 0 := by
  have : x < 2 ^ n := Nat.lt_of_lt_of_le hx (by have := Nat.pow_le_pow_right (n := 2) (by decide) hn; simpa using this)
  unfold bitN
  rw [Nat.div_eq_of_lt this]
theorem bitN_test (x n : Nat) : x.testBit n = decide (bitN x n = 1) := by
  unfold bitN
  rw [Nat.testBit_eq_decide_div_mod_eq]
theorem half_step (y k : Nat) : y / 2 ^ k = 2 * (y / 2 ^ (k + 1)) + bitN y k := by
  unfold bitN
  have h : y / 2 ^ (k + 1) = y / 2 ^ k / 2 := by rw [Nat.pow_succ, Nat.div_div_eq_div_mul]
  rw [h]
  omega
/-- each bit exchanged if the one n above it is 1 -/
def exch (x n : Nat) : Nat := x ^^^ x / 2 ^ n
theorem exch_lt (x n : Nat) (hx : x < 18446744073709551616) : exch x n < 18446744073709551616 :=
  Nat.xor_lt_two_pow (n := 64) hx (Nat.lt_of_le_of_lt (Nat.div_le_self _ _) hx)
theorem exch_bit (x n k : Nat) : bitN (exch x n) k = (bitN x k + bitN x (k + n)) % 2 := by
  have h : (exch x n).testBit k = (x.testBit k ^^ x.testBit (k + n)) := by
    unfold exch
    rw [Nat.testBit_xor, ← Nat.shiftRight_eq_div_pow, Nat.testBit_shiftRight, Nat.add_comm n k]
  rw [bitN_test, bitN_test, bitN_test] at h
  have h1 := bitN_lt (exch x n) k
  have h2 := bitN_lt x k
  have h3 := bitN_lt x (k + n)
  rcases (show bitN x k = 0 ∨ bitN x k = 1 by omega) with e1 | e1 <;> rcases (show bitN x (k + n) = 0 ∨ bitN x (k + n) = 1 by omega) with e2 | e2 <;> (rw [e1, e2] at h ⊢; simp at h; omega)
theorem exch_step (x n k : Nat) : 2 * (exch x n / 2 ^ (k + 1)) + (bitN x k + bitN x (k + n)) % 2 = exch x n / 2 ^ k := by
  rw [← exch_bit]
  exact (half_step _ _).symm
theorem exch_top (x n : Nat) (hx : x < 18446744073709551616) : exch x n / 2 ^ 64 = 0 := Nat.div_eq_of_lt (exch_lt x n hx)
/-- times, by the bits of b -/
theorem times_step (a b k : Nat) : ((a * (b / 2 ^ (k + 1)) % 18446744073709551616 + a * (b / 2 ^ (k + 1)) % 18446744073709551616) % 18446744073709551616 + (if bitN b k = 1 then a else 0)) % 18446744073709551616 = a * (b / 2 ^ k) % 18446744073709551616 := by
  rw [half_step b k]
  have h := bitN_lt b k
  generalize b / 2 ^ (k + 1) = c
  rcases (show bitN b k = 0 ∨ bitN b k = 1 by omega) with e | e
  · rw [e, if_neg (by decide), Nat.add_zero, Nat.add_zero, show a * (2 * c) = 2 * (a * c) by rw [Nat.mul_left_comm]]
    generalize a * c = q
    omega
  · rw [e, if_pos rfl, Nat.mul_add, Nat.mul_one, show a * (2 * c) = 2 * (a * c) by rw [Nat.mul_left_comm]]
    generalize a * c = q
    omega
theorem times_top (a b : Nat) (hb : b < 18446744073709551616) : a * (b / 2 ^ 64) % 18446744073709551616 = 0 := by
  rw [Nat.div_eq_of_lt hb]
  simp

theorem ctz_bits (x : Nat) (hx : x < 18446744073709551616) : (∀ i, i < Lib.ctz 64 x → bitN x i = 0) ∧ (Lib.ctz 64 x < 64 → bitN x (Lib.ctz 64 x) = 1) := by
  by_cases h0 : x = 0
  · subst h0
    refine ⟨fun i _ => by simp [bitN], fun h => absurd h (by decide)⟩
  · obtain ⟨m, hm, hlt⟩ := Lib.ctzFrom_spec 64 x (by omega) hx
    have hc : Lib.ctz 64 x = Lib.ctzFrom 64 x := by unfold Lib.ctz; rw [if_neg h0]
    rw [hc]
    generalize Lib.ctzFrom 64 x = c at hm hlt
    subst hm
    refine ⟨fun i hi => ?_, fun _ => ?_⟩
    · unfold bitN
      have e : 2 ^ c * (2 * m + 1) = 2 ^ i * (2 * (2 ^ (c - i - 1) * (2 * m + 1))) := by
        have : 2 ^ c = 2 ^ i * (2 * 2 ^ (c - i - 1)) := by
          rw [← Nat.pow_succ', ← Nat.pow_add]
          congr 1
          omega
        rw [this]
        simp only [Nat.mul_assoc]
      rw [e, Nat.mul_div_cancel_left _ (Nat.two_pow_pos i)]
      omega
    · unfold bitN
      rw [Nat.mul_div_cancel_left _ (Nat.two_pow_pos c)]
      omega
theorem ht_is (key : Int) {h : Nat} (h1 : 1 ≤ h) (h12 : h ≤ 12) (hz : ∀ i, i < h - 1 → bitN (mixR key) i = 0) (he : h = 12 ∨ bitN (mixR key) (h - 1) = 1) : ht key = h := by
  obtain ⟨hb0, hb1⟩ := ctz_bits (mixR key) (mixR_lt key)
  unfold ht
  rcases Nat.lt_trichotomy (Lib.ctz 64 (mixR key)) (h - 1) with hc | hc | hc
  · have e1 := hb1 (by omega)
    have e2 := hz _ hc
    omega
  · omega
  · rcases he with he | he
    · omega
    · have := hb0 (h - 1) hc
      omega
theorem mixR_eq (key : Int) : mixR key = exch (exch (exch (key % 18446744073709551616).toNat 30 * 13787848793156543929 % 18446744073709551616) 27 * 10723151780598845931 % 18446744073709551616) 31 := rfl
end Go.Proofs.YtoebnfogkmkomaaDoor
