/-
  Joined texts: YtjnkfpagaajfeaaDoorGRefK, YtjnkfpagaajfeaaDoorKBits.
-/
import Derived.Test.YtjnkfpagaajfeaaDoorGSortAll
import Derived.Test.YtjnkfpagaajfeaaDoorLeaf
import Derived.Test.YtjnkfpagaajfeaaDoorSPure
import Derived.Test.YtjnkfpagaajfeaaDoorSLeafAll
import Derived.Test.YtjnkfpagaajfeaaDoorKTab
/-
  package hedgref on keys: UnlikeKeys, SortedKeys, HeldOften, SameInts, SameSpots.
-/
namespace Go.Proofs.YtjnkfpagaajfeaaDoor
open Go.RowKit

set_option maxHeartbeats 1000000 in
theorem sameSpots_t (A A' : Option Addr) (n c c' : Nat) (l : PL) (w : World) (h : PS w A n c l) (h' : PS w A' n c' l) (hn : n ≤ 1000) :
    Calls Tryd.prog 10 #[.slice A n c, .slice A' n c'] w fun e w' => e = .returned (.bool true) ∧ Below w.heap.size w w' := by
  have H := Lib.hid h
  have H' := Lib.hid h'
  clear h h'
  go_enter Tryd.func10, Tryd.ntmps10
  go_wp2
  go_loopg [13] n (fun m i wr => ∃ k : Nat, k ≤ n ∧ n - k ≤ m ∧ i = .int .i64 k ∧ Below w.heap.size w wr)
  case atStart => exact ⟨0, Nat.zero_le _, by omega, rfl, Below.refl _ _⟩
  case round =>
    obtain ⟨k, hk, hkm, rfl, hnx⟩ := hrel
    have HNX := Lib.hid hnx
    clear hnx
    by_cases hlt : k < n
    · obtain ⟨b, off, rfl, hb, hc⟩ := H.out.dat (by omega)
      obtain ⟨b', off', rfl, hb', hc'⟩ := H'.out.dat (by omega)
      have h0 : wr.cell? ⟨b, off + k * 2, none⟩ = some (I (ky l k)) := (HNX.out.cell (by exact hb)).trans (hc k hlt).1
      have h1 : wr.cell? ⟨b, off + k * 2 + 1, none⟩ = some (I (dp l k)) := (HNX.out.cell (by exact hb)).trans (hc k hlt).2
      have h2 : wr.cell? ⟨b', off' + k * 2, none⟩ = some (I (ky l k)) := (HNX.out.cell (by exact hb')).trans (hc' k hlt).1
      have h3 : wr.cell? ⟨b', off' + k * 2 + 1, none⟩ = some (I (dp l k)) := (HNX.out.cell (by exact hb')).trans (hc' k hlt).2
      clear hc hc'
      generalize ky l k = x at *
      generalize dp l k = y at *
      go_wp2
      go_quiet (fail)
      go_wp2
      go_roundg (gk - 1)
      case measure => omega
      case rel => exact ⟨k + 1, by omega, by omega, by go_num, below_drewN HNX.out _⟩
    · go_wp2
      go_ret
      exact ⟨rfl, HNX.out⟩

/-- does one stand twice? -/
def tw (l : List Int) : Bool := !decide l.Nodup
theorem tw_snoc (l : List Int) (x : Int) : tw (l ++ [x]) = (tw l || decide (x ∈ l)) := by
  unfold tw
  by_cases h : l.Nodup
  · by_cases hx : x ∈ l
    · have : ¬ (l ++ [x]).Nodup := fun hn => by rw [List.nodup_append] at hn; exact hn.2.2 x hx x (by simp) rfl
      simp [h, hx, this]
    · simp [h, hx, nodup_snoc h hx]
  · have : ¬ (l ++ [x]).Nodup := fun hn => h (List.nodup_append.1 hn).1
    simp [h, this]
theorem mem_snoc (l : List Int) (x y : Int) : decide (x ∈ l ++ [y]) = (decide (x ∈ l) || (y == x)) := by
  by_cases h : x ∈ l
  · simp [h]
  · by_cases h2 : y = x
    · simp [h2]
    · have : ¬ x = y := fun e => h2 e.symm
      simp [h, h2, this]

/-- the next one of all -/
def nxS (last next k : Int) : Int := if last < k ∧ (next < 0 ∨ k < next) then k else next
def nx (last : Int) (l : List Int) : Int := l.foldl (nxS last) (-1)
theorem nx_snoc (last : Int) (l : List Int) (x : Int) : nx last (l ++ [x]) = nxS last (nx last l) x := by simp [nx]
theorem nx_spec (last : Int) (l : List Int) (hl : ∀ x ∈ l, 0 ≤ x) : ∀ k, k ≤ l.length →
    (nx last (l.take k) = -1 ∧ ∀ x ∈ l.take k, ¬ last < x) ∨ (nx last (l.take k) ∈ l.take k ∧ last < nx last (l.take k) ∧ ∀ x ∈ l.take k, last < x → nx last (l.take k) ≤ x)
  | 0, _ => .inl ⟨by simp [nx], by simp⟩
  | k + 1, hk => by
    have hkl : k < l.length := by omega
    have h0 := hl l[k] (List.getElem_mem hkl)
    have hsub : ∀ x ∈ l.take k, 0 ≤ x := fun x hx => hl x (List.mem_of_mem_take hx)
    rw [take_snoc hkl, nx_snoc]
    unfold nxS
    rcases nx_spec last l hl k (by omega) with ⟨e, hno⟩ | ⟨hm, hlt, hle⟩
    · rw [e]
      by_cases hx : last < l[k]
      · rw [if_pos ⟨hx, .inl (by omega)⟩]
        refine .inr ⟨List.mem_append.2 (.inr (List.mem_singleton.2 rfl)), hx, fun y hy hly => ?_⟩
        rcases List.mem_append.1 hy with h | h
        · exact absurd hly (hno y h)
        · simp only [List.mem_singleton] at h
          omega
      · rw [if_neg (fun h => hx h.1)]
        refine .inl ⟨rfl, fun y hy => ?_⟩
        rcases List.mem_append.1 hy with h | h
        · exact hno y h
        · simp only [List.mem_singleton] at h
          rw [h]; exact hx
    · have hpos := hsub _ hm
      by_cases hx : last < l[k] ∧ l[k] < nx last (l.take k)
      · rw [if_pos ⟨hx.1, .inr hx.2⟩]
        refine .inr ⟨List.mem_append.2 (.inr (List.mem_singleton.2 rfl)), hx.1, fun y hy hly => ?_⟩
        rcases List.mem_append.1 hy with h | h
        · have := hle y h hly
          omega
        · simp only [List.mem_singleton] at h
          omega
      · rw [if_neg (fun h => hx ⟨h.1, by rcases h.2 with h2 | h2 <;> omega⟩)]
        refine .inr ⟨List.mem_append.2 (.inl hm), hlt, fun y hy hly => ?_⟩
        rcases List.mem_append.1 hy with h | h
        · exact hle y h hly
        · simp only [List.mem_singleton] at h
          subst h
          rcases Int.lt_or_le l[k] (nx last (l.take k)) with h3 | h3
          · exact absurd ⟨hly, h3⟩ hx
          · exact h3
def prevOf (s : List Int) (j : Nat) : Int := if j = 0 then -1 else s[j - 1]?.getD 0
theorem nx_next {l s : List Int} (hl : ∀ x ∈ l, 0 ≤ x) (hu : Up s) (hm : ∀ x, x ∈ s ↔ x ∈ l) (j : Nat) (hj : j < s.length) : nx (prevOf s j) l = s[j] := by
  have hin : s[j] ∈ l := (hm _).1 (List.getElem_mem hj)
  have hp := List.pairwise_iff_getElem.1 hu
  have hlt : prevOf s j < s[j] := by
    unfold prevOf
    split
    · have := hl _ hin
      omega
    · rw [List.getElem?_eq_getElem (by omega)]
      exact hp (j - 1) j (by omega) hj (by omega)
  have hs := nx_spec (prevOf s j) l hl l.length (Nat.le_refl _)
  rw [List.take_length] at hs
  rcases hs with ⟨_, hno⟩ | ⟨h1, h2, h3⟩
  · exact absurd hlt (hno _ hin)
  · have hle := h3 _ hin hlt
    obtain ⟨i, hi, ei⟩ := List.getElem_of_mem ((hm _).2 h1)
    rw [← ei] at h2 hle ⊢
    rcases Nat.lt_trichotomy i j with h | h | h
    · exfalso
      unfold prevOf at h2
      rw [if_neg (by omega), List.getElem?_eq_getElem (by omega)] at h2
      simp only [Option.getD_some] at h2
      rcases Nat.lt_or_ge i (j - 1) with h4 | h4
      · have := hp i (j - 1) hi (by omega) h4
        omega
      · have : i = j - 1 := by omega
        subst this
        omega
    · subst h
      rfl
    · have := hp j i hj hi h
      omega

end Go.Proofs.YtjnkfpagaajfeaaDoor

/-
  BITS, ONE BY ONE. Nothing is walked here.
-/
namespace Go.Proofs.YtjnkfpagaajfeaaDoor

def bitN (x n : Nat) : Nat := x / 2 ^ n % 2
theorem bitN_lt (x n : Nat) : bitN x n < 2 := Nat.mod_lt _ (by decide)
theorem bitN_high (x n : Nat) (hx : x < 18446744073709551616) (hn : 64 ≤ n) : bitN x n = 0 := by
  have : x < 2 ^ n := Nat.lt_of_lt_of_le hx (by have := Nat.pow_le_pow_right (n := 2) (by decide) hn; simpa using this)
  unfold bitN
  rw [Nat.div_eq_of_lt this]
theorem bitN_test (x n : Nat) : x.testBit n = decide (bitN x n = 1) := by
  unfold bitN
  rw [Nat.testBit_eq_decide_div_mod_eq]
theorem half_step (y k : Nat) : y / 2 ^ k = 2 * (y / 2 ^ (k + 1)) + bitN y k := by
  unfold bitN
  have h : y / 2 ^ (k + 1) = y / 2 ^ k / 2 := by rw [Nat.pow_succ, Nat.div_div_eq_div_mul]
  rw [h]
  omega
/-- each bit exchanged if the one n above it is 1 -/
def exch (x n : Nat) : Nat := x ^^^ x / 2 ^ n
theorem exch_lt (x n : Nat) (hx : x < 18446744073709551616) : exch x n < 18446744073709551616 :=
  Nat.xor_lt_two_pow (n := 64) hx (Nat.lt_of_le_of_lt (Nat.div_le_self _ _) hx)
theorem exch_bit (x n k : Nat) : bitN (exch x n) k = (bitN x k + bitN x (k + n)) % 2 := by
  have h : (exch x n).testBit k = (x.testBit k ^^ x.testBit (k + n)) := by
    unfold exch
    rw [Nat.testBit_xor, ← Nat.shiftRight_eq_div_pow, Nat.testBit_shiftRight, Nat.add_comm n k]
  rw [bitN_test, bitN_test, bitN_test] at h
  have h1 := bitN_lt (exch x n) k
  have h2 := bitN_lt x k
  have h3 := bitN_lt x (k + n)
  rcases (show bitN x k = 0 ∨ bitN x k = 1 by omega) with e1 | e1 <;> rcases (show bitN x (k + n) = 0 ∨ bitN x (k + n) = 1 by omega) with e2 | e2 <;> (rw [e1, e2] at h ⊢; simp at h; omega)
theorem exch_step (x n k : Nat) : 2 * (exch x n / 2 ^ (k + 1)) + (bitN x k + bitN x (k + n)) % 2 = exch x n / 2 ^ k := by
  rw [← exch_bit]
  exact (half_step _ _).symm
theorem exch_top (x n : Nat) (hx : x < 18446744073709551616) : exch x n / 2 ^ 64 = 0 := Nat.div_eq_of_lt (exch_lt x n hx)
/-- times, by the bits of b -/
theorem times_step (a b k : Nat) : ((a * (b / 2 ^ (k + 1)) % 18446744073709551616 + a * (b / 2 ^ (k + 1)) % 18446744073709551616) % 18446744073709551616 + (if bitN b k = 1 then a else 0)) % 18446744073709551616 = a * (b / 2 ^ k) % 18446744073709551616 := by
  rw [half_step b k]
  have h := bitN_lt b k
  generalize b / 2 ^ (k + 1) = c
  rcases (show bitN b k = 0 ∨ bitN b k = 1 by omega) with e | e
  · rw [e, if_neg (by decide), Nat.add_zero, Nat.add_zero, show a * (2 * c) = 2 * (a * c) by rw [Nat.mul_left_comm]]
    generalize a * c = q
    omega
  · rw [e, if_pos rfl, Nat.mul_add, Nat.mul_one, show a * (2 * c) = 2 * (a * c) by rw [Nat.mul_left_comm]]
    generalize a * c = q
    omega
theorem times_top (a b : Nat) (hb : b < 18446744073709551616) : a * (b / 2 ^ 64) % 18446744073709551616 = 0 := by
  rw [Nat.div_eq_of_lt hb]
  simp

theorem ctz_bits (x : Nat) (hx : x < 18446744073709551616) : (∀ i, i < Lib.ctz 64 x → bitN x i = 0) ∧ (Lib.ctz 64 x < 64 → bitN x (Lib.ctz 64 x) = 1) := by
  by_cases h0 : x = 0
  · subst h0
    refine ⟨fun i _ => by simp [bitN], fun h => absurd h (by decide)⟩
  · obtain ⟨m, hm, hlt⟩ := Lib.ctzFrom_spec 64 x (by omega) hx
    have hc : Lib.ctz 64 x = Lib.ctzFrom 64 x := by unfold Lib.ctz; rw [if_neg h0]
    rw [hc]
    generalize Lib.ctzFrom 64 x = c at hm hlt
    subst hm
    refine ⟨fun i hi => ?_, fun _ => ?_⟩
    · unfold bitN
      have e : 2 ^ c * (2 * m + 1) = 2 ^ i * (2 * (2 ^ (c - i - 1) * (2 * m + 1))) := by
        have : 2 ^ c = 2 ^ i * (2 * 2 ^ (c - i - 1)) := by
          rw [← Nat.pow_succ', ← Nat.pow_add]
          congr 1
          omega
        rw [this]
        simp only [Nat.mul_assoc]
      rw [e, Nat.mul_div_cancel_left _ (Nat.two_pow_pos i)]
      omega
    · unfold bitN
      rw [Nat.mul_div_cancel_left _ (Nat.two_pow_pos c)]
      omega
theorem ht_is (key : Int) {h : Nat} (h1 : 1 ≤ h) (h12 : h ≤ 12) (hz : ∀ i, i < h - 1 → bitN (mixR key) i = 0) (he : h = 12 ∨ bitN (mixR key) (h - 1) = 1) : ht key = h := by
  obtain ⟨hb0, hb1⟩ := ctz_bits (mixR key) (mixR_lt key)
  unfold ht
  rcases Nat.lt_trichotomy (Lib.ctz 64 (mixR key)) (h - 1) with hc | hc | hc
  · have e1 := hb1 (by omega)
    have e2 := hz _ hc
    omega
  · omega
  · rcases he with he | he
    · omega
    · have := hb0 (h - 1) hc
      omega
theorem mixR_eq (key : Int) : mixR key = exch (exch (exch (key % 18446744073709551616).toNat 30 * 13787848793156543929 % 18446744073709551616) 27 * 10723151780598845931 % 18446744073709551616) 31 := rfl
end Go.Proofs.YtjnkfpagaajfeaaDoor
