/-
  package half: split, join: a key's halves.
-/
import Derived.Test.YtpnjnedfcdppaaaGreatDoorQMem
import Derived.Laws.Bits64b
import Derived.BigQuiet
import Derived.Deep.QuietTactic
import Derived.Lib.Hide
namespace Go.Proofs.YtpnjnedfcdppaaaGreatDoor
open Go.RowKit Go.Maps

theorem bits_and_i64_nat (a b : Nat) (ha : a < 1000000000) (hb : b < 1000000000) : bits .and .i64 (a : Int) (b : Int) = ((a &&& b : Nat) : Int) := by
  have hx : a &&& b < 2 ^ 30 := Nat.and_lt_two_pow _ (by omega)
  have h1 : (BitVec.ofInt 64 (a : Int)).toNat = a := by
    rw [BitVec.ofInt_natCast, BitVec.toNat_ofNat]; exact Nat.mod_eq_of_lt (by omega)
  have h2 : (BitVec.ofInt 64 (b : Int)).toNat = b := by
    rw [BitVec.ofInt_natCast, BitVec.toNat_ofNat]; exact Nat.mod_eq_of_lt (by omega)
  show IntKind.i64.wrap ((BitVec.ofInt 64 (a : Int) &&& BitVec.ofInt 64 (b : Int)).toNat : Int) = _
  rw [BitVec.toNat_and, h1, h2]
  exact IntWalk.i64_in _ (by omega)
theorem bits_or_i64_nat (a b : Nat) (ha : a < 1000000000) (hb : b < 1000000000) : bits .or .i64 (a : Int) (b : Int) = ((a ||| b : Nat) : Int) := by
  have hx : a ||| b < 2 ^ 30 := Nat.or_lt_two_pow (by omega) (by omega)
  have h1 : (BitVec.ofInt 64 (a : Int)).toNat = a := by
    rw [BitVec.ofInt_natCast, BitVec.toNat_ofNat]; exact Nat.mod_eq_of_lt (by omega)
  have h2 : (BitVec.ofInt 64 (b : Int)).toNat = b := by
    rw [BitVec.ofInt_natCast, BitVec.toNat_ofNat]; exact Nat.mod_eq_of_lt (by omega)
  show IntKind.i64.wrap ((BitVec.ofInt 64 (a : Int) ||| BitVec.ofInt 64 (b : Int)).toNat : Int) = _
  rw [BitVec.toNat_or, h1, h2]
  exact IntWalk.i64_in _ (by omega)
/-- the low bits -/
theorem and_mask (x k : Nat) (hx : x < 1000000) (hk : k ≤ 8) : bits .and .i64 (x : Int) ((2 ^ k - 1 : Nat) : Int) = ((x % 2 ^ k : Nat) : Int) := by
  have h2 : 2 ^ k ≤ 2 ^ 8 := Nat.pow_le_pow_right (by decide) hk
  rw [bits_and_i64_nat x _ (by omega) (by omega), Nat.and_two_pow_sub_one_eq_mod]
theorem or_join (h l k : Nat) (hh : h < 2 ^ k) (hl : l < 2 ^ k) (hk : k ≤ 8) : bits .or .i64 ((h * 2 ^ k : Nat) : Int) (l : Int) = ((h * 2 ^ k + l : Nat) : Int) := by
  have h2 : 2 ^ k ≤ 2 ^ 8 := Nat.pow_le_pow_right (by decide) hk
  have h3 : h * 2 ^ k ≤ 256 * 256 := Nat.mul_le_mul (by omega) (by omega)
  rw [bits_or_i64_nat _ _ (by omega) (by omega), Nat.mul_comm, Nat.two_pow_add_eq_or_of_lt hl]

set_option maxHeartbeats 2000000 in
theorem split_one (k q : Nat) (hk : (k = 1 ∧ q = 2) ∨ (k = 2 ∧ q = 4) ∨ (k = 4 ∧ q = 16) ∨ (k = 8 ∧ q = 256)) (g : Nat) (lo hi : Int) (m hq : Option Nat) (key : Nat) (w : World) (h : QN w g k lo hi m hq) (hx : key < 65536) :
    Calls Tryz.prog 202 #[.pointer (some ⟨g, 0, none⟩), I key] w fun e w' => e = .returned (.tuple #[I (key / q : Nat), I (key % q : Nat)]) ∧ ∃ j, w' = w.drewN j := by
  have hc := h.c0
  have hm := and_mask key k (by omega) (by omega)
  clear h
  rcases hk with ⟨rfl, rfl⟩ | ⟨rfl, rfl⟩ | ⟨rfl, rfl⟩ | ⟨rfl, rfl⟩
  · have hm' : bits .and .i64 (key : Int) 1 = ((key % 2 : Nat) : Int) := hm
    clear hm
    go_enter Tryz.func202, Tryz.ntmps202
    go_wp2
    go_quiet (fail)
    go_wp2
    go_ret2
    exact ⟨rfl, _, rfl⟩
  · have hm' : bits .and .i64 (key : Int) 3 = ((key % 4 : Nat) : Int) := hm
    clear hm
    go_enter Tryz.func202, Tryz.ntmps202
    go_wp2
    go_quiet (fail)
    go_wp2
    go_ret2
    exact ⟨rfl, _, rfl⟩
  · have hm' : bits .and .i64 (key : Int) 15 = ((key % 16 : Nat) : Int) := hm
    clear hm
    go_enter Tryz.func202, Tryz.ntmps202
    go_wp2
    go_quiet (fail)
    go_wp2
    go_ret2
    exact ⟨rfl, _, rfl⟩
  · have hm' : bits .and .i64 (key : Int) 255 = ((key % 256 : Nat) : Int) := hm
    clear hm
    go_enter Tryz.func202, Tryz.ntmps202
    go_wp2
    go_quiet (fail)
    go_wp2
    go_ret2
    exact ⟨rfl, _, rfl⟩
set_option maxHeartbeats 2000000 in
theorem join_one (k q : Nat) (hk : (k = 1 ∧ q = 2) ∨ (k = 2 ∧ q = 4) ∨ (k = 4 ∧ q = 16) ∨ (k = 8 ∧ q = 256)) (g : Nat) (lo hi : Int) (m hq : Option Nat) (x y : Nat) (w : World) (h : QN w g k lo hi m hq) (hx : x < q) (hy : y < q) :
    Calls Tryz.prog 203 #[.pointer (some ⟨g, 0, none⟩), I x, I y] w fun e w' => e = .returned (I (x * q + y : Nat)) ∧ w' = w := by
  have hc := h.c0
  clear h
  rcases hk with ⟨rfl, rfl⟩ | ⟨rfl, rfl⟩ | ⟨rfl, rfl⟩ | ⟨rfl, rfl⟩
  · have hm := or_join x y 1 hx hy (by omega)
    have hm' : bits .or .i64 ((x : Int) * 2) (y : Int) = ((x * 2 + y : Nat) : Int) := by simpa using hm
    have hw : wrap64 ((x : Int) * 2) = (x : Int) * 2 := IntWalk.wrap64_in _ (by omega)
    clear hm
    go_enter Tryz.func203, Tryz.ntmps203
    go_wp2
    go_ret
    exact ⟨rfl, rfl⟩
  · have hm := or_join x y 2 hx hy (by omega)
    have hm' : bits .or .i64 ((x : Int) * 4) (y : Int) = ((x * 4 + y : Nat) : Int) := by simpa using hm
    have hw : wrap64 ((x : Int) * 4) = (x : Int) * 4 := IntWalk.wrap64_in _ (by omega)
    clear hm
    go_enter Tryz.func203, Tryz.ntmps203
    go_wp2
    go_ret
    exact ⟨rfl, rfl⟩
  · have hm := or_join x y 4 hx hy (by omega)
    have hm' : bits .or .i64 ((x : Int) * 16) (y : Int) = ((x * 16 + y : Nat) : Int) := by simpa using hm
    have hw : wrap64 ((x : Int) * 16) = (x : Int) * 16 := IntWalk.wrap64_in _ (by omega)
    clear hm
    go_enter Tryz.func203, Tryz.ntmps203
    go_wp2
    go_ret
    exact ⟨rfl, rfl⟩
  · have hm := or_join x y 8 hx hy (by omega)
    have hm' : bits .or .i64 ((x : Int) * 256) (y : Int) = ((x * 256 + y : Nat) : Int) := by simpa using hm
    have hw : wrap64 ((x : Int) * 256) = (x : Int) * 256 := IntWalk.wrap64_in _ (by omega)
    clear hm
    go_enter Tryz.func203, Tryz.ntmps203
    go_wp2
    go_ret
    exact ⟨rfl, rfl⟩
theorem level_of {n : Nat} (hn : n ≤ 3) : ∃ q : Nat, qq n = q ∧ ((qbt n = 1 ∧ q = 2) ∨ (qbt n = 2 ∧ q = 4) ∨ (qbt n = 4 ∧ q = 16) ∨ (qbt n = 8 ∧ q = 256)) := by
  match n, hn with
  | 0, _ => exact ⟨2, by decide, .inl ⟨rfl, rfl⟩⟩
  | 1, _ => exact ⟨4, by decide, .inr (.inl ⟨rfl, rfl⟩)⟩
  | 2, _ => exact ⟨16, by decide, .inr (.inr (.inl ⟨rfl, rfl⟩))⟩
  | 3, _ => exact ⟨256, by decide, .inr (.inr (.inr ⟨rfl, rfl⟩))⟩
theorem split_any {n : Nat} (hn : n ≤ 3) {g : Nat} {lo hi : Int} {m hq : Option Nat} {key : Int} (w : World) (h : QN w g (qbt n) lo hi m hq) (h0 : 0 ≤ key) (hx : key < 65536) :
    Calls Tryz.prog 202 #[.pointer (some ⟨g, 0, none⟩), I key] w fun e w' => e = .returned (.tuple #[I (key / qq n), I (key % qq n)]) ∧ ∃ j, w' = w.drewN j := by
  obtain ⟨x, rfl⟩ : ∃ x : Nat, key = x := ⟨key.toNat, by omega⟩
  obtain ⟨q, e, hk⟩ := level_of hn
  rw [e]
  exact split_one (qbt n) q hk g lo hi m hq x w h (by omega)
theorem join_any {n : Nat} (hn : n ≤ 3) {g : Nat} {lo hi : Int} {m hq : Option Nat} {x y : Int} (w : World) (h : QN w g (qbt n) lo hi m hq) (h0 : 0 ≤ x) (h1 : x < qq n) (h2 : 0 ≤ y) (h3 : y < qq n) :
    Calls Tryz.prog 203 #[.pointer (some ⟨g, 0, none⟩), I x, I y] w fun e w' => e = .returned (I (x * qq n + y)) ∧ w' = w := by
  obtain ⟨a, rfl⟩ : ∃ a : Nat, x = a := ⟨x.toNat, by omega⟩
  obtain ⟨b, rfl⟩ : ∃ b : Nat, y = b := ⟨y.toNat, by omega⟩
  obtain ⟨q, e, hk⟩ := level_of hn
  rw [e] at h1 h3 ⊢
  have := join_one (qbt n) q hk g lo hi m hq a b w h (by omega) (by omega)
  simpa using this

end Go.Proofs.YtpnjnedfcdppaaaGreatDoor
