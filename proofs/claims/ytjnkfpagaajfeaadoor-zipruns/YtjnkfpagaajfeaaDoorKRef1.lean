/-
  hedgref: bit, exchanged, timesTwo, HeightOf.
-/
import Derived.Test.YtjnkfpagaajfeaaDoorKBitsAll
namespace Go.Proofs.YtjnkfpagaajfeaaDoor
open Go.RowKit

theorem bit_int (x n : Nat) : ((x : Int) / 2 ^ n).tmod 2 = (bitN x n : Int) := by
  have h : (x : Int) / 2 ^ n = ((x / 2 ^ n : Nat) : Int) := by simp
  rw [h]
  rfl
set_option maxHeartbeats 1000000 in
theorem bit_any (x n : Nat) (hx : x < 18446744073709551616) (hn : n ≤ 200) (w : World) :
    Calls Tryd.prog 59 #[.int .u64 x, I n] w fun e w' => e = .returned (.int .u64 (bitN x n)) ∧ w' = w := by
  by_cases h63 : 63 < n
  · have HF := Lib.hid (bitN_high x n hx (by omega))
    go_enter Tryd.func59, Tryd.ntmps59
    go_wp2
    go_ret
    exact ⟨ret_int (by rw [HF.out]; rfl), rfl⟩
  · go_enter Tryd.func59, Tryd.ntmps59
    go_wp2
    go_ret
    exact ⟨ret_int (bit_int x n), rfl⟩
theorem bit_is (x n b : Nat) (hx : x < 18446744073709551616) (hn : n ≤ 200) (hb : bitN x n = b) (w : World) :
    Calls Tryd.prog 59 #[.int .u64 x, I n] w fun e w' => e = .returned (.int .u64 b) ∧ w' = w := hb ▸ bit_any x n hx hn w

theorem wrap_u {n : Nat} (h : n < 18446744073709551616) : IntKind.u64.wrap (n : Int) = (n : Int) := by rw [IntKind.wrap_u64]; omega
set_option maxRecDepth 100000 in
set_option maxHeartbeats 1000000 in
theorem exchanged_any (x n : Nat) (hx : x < 18446744073709551616) (hn : n ≤ 64) (w : World) :
    Calls Tryd.prog 58 #[.int .u64 x, I n] w fun e w' => e = .returned (.int .u64 (exch x n)) ∧ w' = w := by
  have HE := Lib.hid (exch_lt x n hx)
  have HT := Lib.hid (exch_top x n hx)
  go_enter Tryd.func58, Tryd.ntmps58
  go_wp2
  go_loop [5, 6] (fun o k => ∃ m : Nat, m ≤ 64 ∧ k = .int .i64 (63 - (m : Int)) ∧ o = .int .u64 ((exch x n / 2 ^ (64 - m) : Nat) : Int)) (fun _ k => (intOf k + 1).toNat)
  case atStart => exact ⟨0, by omega, rfl, by rw [HT.out]; rfl⟩
  case round =>
    obtain ⟨m, hm, rfl, rfl⟩ := hrel
    by_cases hlt : m < 64
    · obtain ⟨k, hk⟩ : ∃ k : Nat, 63 - m = k := ⟨_, rfl⟩
      have hki : (63 : Int) - (m : Int) = (k : Int) := by omega
      have hk1 : 64 - m = k + 1 := by omega
      have hk63 : k ≤ 63 := by omega
      rw [hki, hk1]
      obtain ⟨o, ho⟩ : ∃ o, exch x n / 2 ^ (k + 1) = o := ⟨_, rfl⟩
      have hol : o < 9223372036854775808 := by
        have h1 := half_step (exch x n) 0
        have h2 : o ≤ exch x n / 2 ^ 1 := by rw [← ho]; exact Nat.div_le_div_left (Nat.pow_le_pow_right (by decide) (by omega)) (by decide)
        have := HE.out
        omega
      obtain ⟨b1, hb1⟩ : ∃ b, bitN x k = b := ⟨_, rfl⟩
      obtain ⟨b2, hb2⟩ : ∃ b, bitN x (k + n) = b := ⟨_, rfl⟩
      have hl1 : b1 < 2 := by rw [← hb1]; exact bitN_lt _ _
      have hl2 : b2 < 2 := by rw [← hb2]; exact bitN_lt _ _
      have hst := exch_step x n k
      rw [ho, hb1, hb2] at hst
      have HST : Hid (exch x n / 2 ^ (64 - (m + 1)) = 2 * o + (b1 + b2) % 2) := by show _ = _; rw [hst, show 64 - (m + 1) = k by omega]
      rw [ho]
      have HC1 := Lib.hid (bit_is x k b1 hx (by omega) hb1 w)
      have HC2 : Hid (Calls Tryd.prog 59 #[.int .u64 x, I ((k : Int) + (n : Int))] w fun e w' => e = .returned (.int .u64 b2) ∧ w' = w) := by
        have := bit_is x (k + n) b2 hx (by omega) hb2 w
        rwa [Int.natCast_add] at this
      have HKI := Lib.hid hki
      clear hst ho hb1 hb2 hki hk hk1
      go_wp2_with fail
      refine HC1.out.mono ?_
      rintro e w' ⟨rfl, rfl⟩
      go_wp2_with fail
      refine HC2.out.mono ?_
      rintro e w' ⟨rfl, rfl⟩
      clear HC1 HC2
      rcases (show b1 = 0 ∨ b1 = 1 by omega) with rfl | rfl <;> rcases (show b2 = 0 ∨ b2 = 1 by omega) with rfl | rfl
      all_goals
        go_wp2
        go_round
        case rel => exact ⟨m + 1, by omega, by congr 1; have := HKI.out; omega, by congr 1; rw [HST.out]; omega⟩
        case measure => first | (simp [intOf]; done) | (simp [intOf]; omega)
    · obtain rfl : m = 64 := by omega
      go_wp2
      go_ret
      exact ⟨by simp, rfl⟩

set_option maxRecDepth 100000 in
set_option maxHeartbeats 1000000 in
theorem times_any (a b : Nat) (ha : a < 18446744073709551616) (hb : b < 18446744073709551616) (w : World) :
    Calls Tryd.prog 57 #[.int .u64 a, .int .u64 b] w fun e w' => e = .returned (.int .u64 ((a * b % 18446744073709551616 : Nat) : Int)) ∧ w' = w := by
  have HT := Lib.hid (times_top a b hb)
  go_enter Tryd.func57, Tryd.ntmps57
  go_wp2
  go_loop [5, 6] (fun o k => ∃ m : Nat, m ≤ 64 ∧ k = .int .i64 (63 - (m : Int)) ∧ o = .int .u64 ((a * (b / 2 ^ (64 - m)) % 18446744073709551616 : Nat) : Int)) (fun _ k => (intOf k + 1).toNat)
  case atStart => exact ⟨0, by omega, rfl, by rw [HT.out]; rfl⟩
  case round =>
    obtain ⟨m, hm, rfl, rfl⟩ := hrel
    by_cases hlt : m < 64
    · obtain ⟨k, hk⟩ : ∃ k : Nat, 63 - m = k := ⟨_, rfl⟩
      have hki : (63 : Int) - (m : Int) = (k : Int) := by omega
      have hk1 : 64 - m = k + 1 := by omega
      have hk63 : k ≤ 63 := by omega
      rw [hki, hk1]
      have hst := times_step a b k
      obtain ⟨o, ho⟩ : ∃ o, a * (b / 2 ^ (k + 1)) % 18446744073709551616 = o := ⟨_, rfl⟩
      have hol : o < 18446744073709551616 := by rw [← ho]; exact Nat.mod_lt _ (by decide)
      obtain ⟨b1, hb1⟩ : ∃ b', bitN b k = b' := ⟨_, rfl⟩
      have hl1 : b1 < 2 := by rw [← hb1]; exact bitN_lt _ _
      rw [ho, hb1, show k = 64 - (m + 1) by omega] at hst
      rw [ho]
      have HST := Lib.hid hst
      have HC1 := Lib.hid (bit_is b k b1 hb (by omega) hb1 w)
      have HKI := Lib.hid hki
      clear hst ho hb1 hki hk hk1
      go_wp2_with fail
      refine HC1.out.mono ?_
      rintro e w' ⟨rfl, rfl⟩
      clear HC1
      rcases (show b1 = 0 ∨ b1 = 1 by omega) with rfl | rfl
      all_goals
        go_wp2
        go_round
        case rel =>
          refine ⟨m + 1, by omega, by congr 1; have := HKI.out; omega, ?_⟩
          congr 1
          have := HST.out
          first | rw [if_pos rfl] at this | rw [if_pos trivial] at this | rw [if_neg (by decide)] at this
          simp only [IntKind.wrap_u64]
          omega
        case measure => first | (simp [intOf]; done) | (simp [intOf]; omega)
    · obtain rfl : m = 64 := by omega
      go_wp2
      go_ret
      exact ⟨by simp, rfl⟩

set_option maxRecDepth 100000 in
set_option maxHeartbeats 1000000 in
theorem HeightOf_any (key : Int) (w : World) :
    Calls Tryd.prog 33 #[I key] w fun e w' => e = .returned (I (ht key)) ∧ w' = w := by
  obtain ⟨x, hx⟩ : ∃ x, (key % 18446744073709551616).toNat = x := ⟨_, rfl⟩
  have hxl : x < 18446744073709551616 := by omega
  have hw : IntKind.u64.wrap key = (x : Int) := by rw [IntKind.wrap_u64]; omega
  have hmix := mixR_eq key
  rw [hx] at hmix
  obtain ⟨y1, hy1⟩ : ∃ y, exch x 30 = y := ⟨_, rfl⟩
  have hy1l : y1 < 18446744073709551616 := by rw [← hy1]; exact exch_lt x 30 hxl
  obtain ⟨y2, hy2⟩ : ∃ y, y1 * 13787848793156543929 % 18446744073709551616 = y := ⟨_, rfl⟩
  have hy2l : y2 < 18446744073709551616 := by rw [← hy2]; exact Nat.mod_lt _ (by decide)
  obtain ⟨y3, hy3⟩ : ∃ y, exch y2 27 = y := ⟨_, rfl⟩
  have hy3l : y3 < 18446744073709551616 := by rw [← hy3]; exact exch_lt y2 27 hy2l
  obtain ⟨y4, hy4⟩ : ∃ y, y3 * 10723151780598845931 % 18446744073709551616 = y := ⟨_, rfl⟩
  have hy4l : y4 < 18446744073709551616 := by rw [← hy4]; exact Nat.mod_lt _ (by decide)
  obtain ⟨y5, hy5⟩ : ∃ y, exch y4 31 = y := ⟨_, rfl⟩
  have hy5l : y5 < 18446744073709551616 := by rw [← hy5]; exact exch_lt y4 31 hy4l
  rw [hy1, hy2, hy3, hy4, hy5] at hmix
  have C1 : Hid (∀ w, Calls Tryd.prog 58 #[.int .u64 x, I 30] w fun e w' => e = .returned (.int .u64 y1) ∧ w' = w) := fun w => hy1 ▸ exchanged_any x 30 hxl (by decide) w
  have C2 : Hid (∀ w, Calls Tryd.prog 57 #[.int .u64 y1, .int .u64 13787848793156543929] w fun e w' => e = .returned (.int .u64 y2) ∧ w' = w) := fun w => hy2 ▸ times_any y1 13787848793156543929 hy1l (by decide) w
  have C3 : Hid (∀ w, Calls Tryd.prog 58 #[.int .u64 y2, I 27] w fun e w' => e = .returned (.int .u64 y3) ∧ w' = w) := fun w => hy3 ▸ exchanged_any y2 27 hy2l (by decide) w
  have C4 : Hid (∀ w, Calls Tryd.prog 57 #[.int .u64 y3, .int .u64 10723151780598845931] w fun e w' => e = .returned (.int .u64 y4) ∧ w' = w) := fun w => hy4 ▸ times_any y3 10723151780598845931 hy3l (by decide) w
  have C5 : Hid (∀ w, Calls Tryd.prog 58 #[.int .u64 y4, I 31] w fun e w' => e = .returned (.int .u64 y5) ∧ w' = w) := fun w => hy5 ▸ exchanged_any y4 31 hy4l (by decide) w
  have HM := Lib.hid hmix
  have HW := Lib.hid hw
  clear hx hw hmix hy1 hy2 hy3 hy4 hy5
  go_enter Tryd.func33, Tryd.ntmps33
  go_wp2_with (first | simp only [HW.out] | fail)
  refine (C1.out w).mono ?_
  rintro e w' ⟨rfl, rfl⟩
  go_wp2_with fail
  refine (C2.out _).mono ?_
  rintro e w' ⟨rfl, rfl⟩
  go_wp2_with fail
  refine (C3.out _).mono ?_
  rintro e w' ⟨rfl, rfl⟩
  go_wp2_with fail
  refine (C4.out _).mono ?_
  rintro e w' ⟨rfl, rfl⟩
  go_wp2_with fail
  refine (C5.out _).mono ?_
  rintro e w' ⟨rfl, rfl⟩
  clear C1 C2 C3 C4 C5
  go_wp2
  go_loop [4] (fun h => ∃ k : Nat, 1 ≤ k ∧ k ≤ 12 ∧ h = .int .i64 k ∧ ∀ i, i < k - 1 → bitN y5 i = 0) (fun h => 12 - (intOf h).toNat)
  case atStart => exact ⟨1, by omega, by omega, rfl, fun i hi => absurd hi (by omega)⟩
  case round =>
    obtain ⟨k, hk1, hk12, rfl, hz⟩ := hrel
    by_cases hlt : k < 12
    · obtain ⟨j, rfl⟩ : ∃ j, k = j + 1 := ⟨k - 1, by omega⟩
      have HZ := Lib.hid hz
      obtain ⟨b, hb⟩ : ∃ b, bitN y5 j = b := ⟨_, rfl⟩
      have hbl : b < 2 := by rw [← hb]; exact bitN_lt _ _
      have HC := fun w => Lib.hid (bit_is y5 j b hy5l (by omega) hb w)
      have HBJ := Lib.hid hb
      clear hz hb
      go_wp2_with fail
      refine (HC _).out.mono ?_
      rintro e w' ⟨rfl, rfl⟩
      rcases (show b = 0 ∨ b = 1 by omega) with rfl | rfl
      · go_wp2
        go_round
        case rel =>
          refine ⟨j + 1 + 1, by omega, by omega, by go_num, fun i hi => ?_⟩
          rcases Nat.lt_or_ge i j with h1 | h1
          · exact HZ.out i (by omega)
          · obtain rfl : i = j := by omega
            exact HBJ.out
        case measure => simp [intOf]; omega
      · have HF : Hid (ht key = j + 1) := ht_is key (by omega) (by omega) (fun i hi => by rw [HM.out]; exact HZ.out i hi) (.inr (by rw [HM.out]; exact HBJ.out))
        go_wp2
        go_ret
        exact ⟨ret_int (by rw [HF.out]; rfl), rfl⟩
    · obtain rfl : k = 12 := by omega
      have HF : Hid (ht key = 12) := ht_is key (by omega) (by omega) (fun i hi => by rw [HM.out]; exact hz i hi) (.inl rfl)
      clear hz
      go_wp2
      go_ret
      exact ⟨ret_int (by rw [HF.out]; rfl), rfl⟩
end Go.Proofs.YtjnkfpagaajfeaaDoor
