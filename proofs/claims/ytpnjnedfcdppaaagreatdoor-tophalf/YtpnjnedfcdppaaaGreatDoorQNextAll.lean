/-
  Joined texts: YtpnjnedfcdppaaaGreatDoorQBits, YtpnjnedfcdppaaaGreatDoorQHas, YtpnjnedfcdppaaaGreatDoorQNext.
-/
import Derived.Test.YtpnjnedfcdppaaaGreatDoorQZoneAll
import Derived.Laws.Bits64b
import Derived.BigQuiet
import Derived.Deep.QuietTactic
import Derived.Lib.Hide
/-
  package half: split, join: a key's halves.
-/
namespace Go.Proofs.YtpnjnedfcdppaaaGreatDoor
open Go.RowKit Go.Maps

theorem bits_and_i64_nat (a b : Nat) (ha : a < 1000000000) (hb : b < 1000000000) : bits .and .i64 (a : Int) (b : Int) = ((a &&& b : Nat) : Int) := by
  have hx : a &&& b < 2 ^ 30 := Nat.and_lt_two_pow _ (by omega)
  have h1 : (BitVec.ofInt 64 (a : Int)).toNat = a := by
    rw [BitVec.ofInt_natCast, BitVec.toNat_ofNat]; exact Nat.mod_eq_of_lt (by omega)
  have h2 : (BitVec.ofInt 64 (b : Int)).toNat = b := by
    rw [BitVec.ofInt_natCast, BitVec.toNat_ofNat]; exact Nat.mod_eq_of_lt (by omega)
  show IntKind.i64.wrap ((BitVec.ofInt 64 (a : Int) &&& BitVec.ofInt 64 (b : Int)).toNat : Int) = _
  rw [BitVec.toNat_and, h1, h2]
  exact IntWalk.i64_in _ (by omega)
theorem bits_or_i64_nat (a b : Nat) (ha : a < 1000000000) (hb : b < 1000000000) : bits .or .i64 (a : Int) (b : Int) = ((a ||| b : Nat) : Int) := by
  have hx : a ||| b < 2 ^ 30 := Nat.or_lt_two_pow (by omega) (by omega)
  have h1 : (BitVec.ofInt 64 (a : Int)).toNat = a := by
    rw [BitVec.ofInt_natCast, BitVec.toNat_ofNat]; exact Nat.mod_eq_of_lt (by omega)
  have h2 : (BitVec.ofInt 64 (b : Int)).toNat = b := by
    rw [BitVec.ofInt_natCast, BitVec.toNat_ofNat]; exact Nat.mod_eq_of_lt (by omega)
  show IntKind.i64.wrap ((BitVec.ofInt 64 (a : Int) ||| BitVec.ofInt 64 (b : Int)).toNat : Int) = _
  rw [BitVec.toNat_or, h1, h2]
  exact IntWalk.i64_in _ (by omega)
/-- the low bits -/
theorem and_mask (x k : Nat) (hx : x < 1000000) (hk : k ≤ 8) : bits .and .i64 (x : Int) ((2 ^ k - 1 : Nat) : Int) = ((x % 2 ^ k : Nat) : Int) := by
  have h2 : 2 ^ k ≤ 2 ^ 8 := Nat.pow_le_pow_right (by decide) hk
  rw [bits_and_i64_nat x _ (by omega) (by omega), Nat.and_two_pow_sub_one_eq_mod]
theorem or_join (h l k : Nat) (hh : h < 2 ^ k) (hl : l < 2 ^ k) (hk : k ≤ 8) : bits .or .i64 ((h * 2 ^ k : Nat) : Int) (l : Int) = ((h * 2 ^ k + l : Nat) : Int) := by
  have h2 : 2 ^ k ≤ 2 ^ 8 := Nat.pow_le_pow_right (by decide) hk
  have h3 : h * 2 ^ k ≤ 256 * 256 := Nat.mul_le_mul (by omega) (by omega)
  rw [bits_or_i64_nat _ _ (by omega) (by omega), Nat.mul_comm, Nat.two_pow_add_eq_or_of_lt hl]

set_option maxHeartbeats 2000000 in
theorem split_one (k q : Nat) (hk : (k = 1 ∧ q = 2) ∨ (k = 2 ∧ q = 4) ∨ (k = 4 ∧ q = 16) ∨ (k = 8 ∧ q = 256)) (g : Nat) (lo hi : Int) (m hq : Option Nat) (key : Nat) (w : World) (h : QN w g k lo hi m hq) (hx : key < 65536) :
    Calls Tryz.prog 202 #[.pointer (some ⟨g, 0, none⟩), I key] w fun e w' => e = .returned (.tuple #[I (key / q : Nat), I (key % q : Nat)]) ∧ ∃ j, w' = w.drewN j := by
  have hc := h.c0
  have hm := and_mask key k (by omega) (by omega)
  clear h
  rcases hk with ⟨rfl, rfl⟩ | ⟨rfl, rfl⟩ | ⟨rfl, rfl⟩ | ⟨rfl, rfl⟩
  · have hm' : bits .and .i64 (key : Int) 1 = ((key % 2 : Nat) : Int) := hm
    clear hm
    go_enter Tryz.func202, Tryz.ntmps202
    go_wp2
    go_quiet (fail)
    go_wp2
    go_ret2
    exact ⟨rfl, _, rfl⟩
  · have hm' : bits .and .i64 (key : Int) 3 = ((key % 4 : Nat) : Int) := hm
    clear hm
    go_enter Tryz.func202, Tryz.ntmps202
    go_wp2
    go_quiet (fail)
    go_wp2
    go_ret2
    exact ⟨rfl, _, rfl⟩
  · have hm' : bits .and .i64 (key : Int) 15 = ((key % 16 : Nat) : Int) := hm
    clear hm
    go_enter Tryz.func202, Tryz.ntmps202
    go_wp2
    go_quiet (fail)
    go_wp2
    go_ret2
    exact ⟨rfl, _, rfl⟩
  · have hm' : bits .and .i64 (key : Int) 255 = ((key % 256 : Nat) : Int) := hm
    clear hm
    go_enter Tryz.func202, Tryz.ntmps202
    go_wp2
    go_quiet (fail)
    go_wp2
    go_ret2
    exact ⟨rfl, _, rfl⟩
set_option maxHeartbeats 2000000 in
theorem join_one (k q : Nat) (hk : (k = 1 ∧ q = 2) ∨ (k = 2 ∧ q = 4) ∨ (k = 4 ∧ q = 16) ∨ (k = 8 ∧ q = 256)) (g : Nat) (lo hi : Int) (m hq : Option Nat) (x y : Nat) (w : World) (h : QN w g k lo hi m hq) (hx : x < q) (hy : y < q) :
    Calls Tryz.prog 203 #[.pointer (some ⟨g, 0, none⟩), I x, I y] w fun e w' => e = .returned (I (x * q + y : Nat)) ∧ w' = w := by
  have hc := h.c0
  clear h
  rcases hk with ⟨rfl, rfl⟩ | ⟨rfl, rfl⟩ | ⟨rfl, rfl⟩ | ⟨rfl, rfl⟩
  · have hm := or_join x y 1 hx hy (by omega)
    have hm' : bits .or .i64 ((x : Int) * 2) (y : Int) = ((x * 2 + y : Nat) : Int) := by simpa using hm
    have hw : wrap64 ((x : Int) * 2) = (x : Int) * 2 := IntWalk.wrap64_in _ (by omega)
    clear hm
    go_enter Tryz.func203, Tryz.ntmps203
    go_wp2
    go_ret
    exact ⟨rfl, rfl⟩
  · have hm := or_join x y 2 hx hy (by omega)
    have hm' : bits .or .i64 ((x : Int) * 4) (y : Int) = ((x * 4 + y : Nat) : Int) := by simpa using hm
    have hw : wrap64 ((x : Int) * 4) = (x : Int) * 4 := IntWalk.wrap64_in _ (by omega)
    clear hm
    go_enter Tryz.func203, Tryz.ntmps203
    go_wp2
    go_ret
    exact ⟨rfl, rfl⟩
  · have hm := or_join x y 4 hx hy (by omega)
    have hm' : bits .or .i64 ((x : Int) * 16) (y : Int) = ((x * 16 + y : Nat) : Int) := by simpa using hm
    have hw : wrap64 ((x : Int) * 16) = (x : Int) * 16 := IntWalk.wrap64_in _ (by omega)
    clear hm
    go_enter Tryz.func203, Tryz.ntmps203
    go_wp2
    go_ret
    exact ⟨rfl, rfl⟩
  · have hm := or_join x y 8 hx hy (by omega)
    have hm' : bits .or .i64 ((x : Int) * 256) (y : Int) = ((x * 256 + y : Nat) : Int) := by simpa using hm
    have hw : wrap64 ((x : Int) * 256) = (x : Int) * 256 := IntWalk.wrap64_in _ (by omega)
    clear hm
    go_enter Tryz.func203, Tryz.ntmps203
    go_wp2
    go_ret
    exact ⟨rfl, rfl⟩
theorem level_of {n : Nat} (hn : n ≤ 3) : ∃ q : Nat, qq n = q ∧ ((qbt n = 1 ∧ q = 2) ∨ (qbt n = 2 ∧ q = 4) ∨ (qbt n = 4 ∧ q = 16) ∨ (qbt n = 8 ∧ q = 256)) := by
  match n, hn with
  | 0, _ => exact ⟨2, by decide, .inl ⟨rfl, rfl⟩⟩
  | 1, _ => exact ⟨4, by decide, .inr (.inl ⟨rfl, rfl⟩)⟩
  | 2, _ => exact ⟨16, by decide, .inr (.inr (.inl ⟨rfl, rfl⟩))⟩
  | 3, _ => exact ⟨256, by decide, .inr (.inr (.inr ⟨rfl, rfl⟩))⟩
theorem split_any {n : Nat} (hn : n ≤ 3) {g : Nat} {lo hi : Int} {m hq : Option Nat} {key : Int} (w : World) (h : QN w g (qbt n) lo hi m hq) (h0 : 0 ≤ key) (hx : key < 65536) :
    Calls Tryz.prog 202 #[.pointer (some ⟨g, 0, none⟩), I key] w fun e w' => e = .returned (.tuple #[I (key / qq n), I (key % qq n)]) ∧ ∃ j, w' = w.drewN j := by
  obtain ⟨x, rfl⟩ : ∃ x : Nat, key = x := ⟨key.toNat, by omega⟩
  obtain ⟨q, e, hk⟩ := level_of hn
  rw [e]
  exact split_one (qbt n) q hk g lo hi m hq x w h (by omega)
theorem join_any {n : Nat} (hn : n ≤ 3) {g : Nat} {lo hi : Int} {m hq : Option Nat} {x y : Int} (w : World) (h : QN w g (qbt n) lo hi m hq) (h0 : 0 ≤ x) (h1 : x < qq n) (h2 : 0 ≤ y) (h3 : y < qq n) :
    Calls Tryz.prog 203 #[.pointer (some ⟨g, 0, none⟩), I x, I y] w fun e w' => e = .returned (I (x * qq n + y)) ∧ w' = w := by
  obtain ⟨a, rfl⟩ : ∃ a : Nat, x = a := ⟨x.toNat, by omega⟩
  obtain ⟨b, rfl⟩ : ∃ b : Nat, y = b := ⟨y.toNat, by omega⟩
  obtain ⟨q, e, hk⟩ := level_of hn
  rw [e] at h1 h3 ⊢
  have := join_one (qbt n) q hk g lo hi m hq a b w h (by omega) (by omega)
  simpa using this

end Go.Proofs.YtpnjnedfcdppaaaGreatDoor

/-
  package half: is a key there?
-/
namespace Go.Proofs.YtpnjnedfcdppaaaGreatDoor
open Go.RowKit Go.Maps

theorem QM.look_none {w : World} {T : Nat} {m : Option Nat} {Q : Int → Option Nat} (h : QM w T m Q) {k : Int} (hk : 0 ≤ k ∧ k ≤ 1000000) (e : Q k = none) :
    (Instr.lookup 214 (.map m) (I k) false).run Tryz.prog w = .ok (.pointer none) w := by
  have := h.look hk
  rw [e] at this
  exact this
theorem QM.look_some {w : World} {T : Nat} {m : Option Nat} {Q : Int → Option Nat} (h : QM w T m Q) {k : Int} (hk : 0 ≤ k ∧ k ≤ 1000000) {g : Nat} (e : Q k = some g) :
    (Instr.lookup 214 (.map m) (I k) false).run Tryz.prog w = .ok (.pointer (some ⟨g, 0, none⟩)) w := by
  have := h.look hk
  rw [e] at this
  exact this
theorem drewN_add (w : World) (a b : Nat) : (w.drewN a).drewN b = w.drewN (a + b) := by simp
theorem QR.drewN {n : Nat} {w : World} {T : Nat} {p : Option Nat} {S : KS} {F : Nat → Prop} (h : QR n w T p S F) (j : Nat) : QR n (w.drewN j) T p S F := h.keep fun _ _ => rfl
theorem QM.drewN {w : World} {T : Nat} {m : Option Nat} {Q : Int → Option Nat} (h : QM w T m Q) (j : Nat) : QM (w.drewN j) T m Q := h.keep fun _ _ => rfl

def HasR (S : KS) (key : Int) (w : World) (e : Ending) (w' : World) : Prop := (∃ b : Bool, e = .returned (.bool b) ∧ (b = true ↔ S key)) ∧ ∃ j, w' = w.drewN j
def HasC (n : Nat) : Prop := ∀ (p : Option Nat) (T : Nat) (S : KS) (F : Nat → Prop) (key : Int) (w : World), QR n w T p S F → 0 ≤ key → key < qq n →
  Calls Tryz.prog 150 #[qp p, I key] w (HasR S key w)

theorem has_nil (key : Int) (w : World) : Calls Tryz.prog 150 #[.pointer none, I key] w fun e w' => e = .returned (.bool false) ∧ w' = w := by
  go_enter Tryz.func150, Tryz.ntmps150
  go_wp2
  go_ret
  exact ⟨rfl, rfl⟩
/-- at the ends, and out of them -/
theorem has_ends {h g : Nat} {lo hi : Int} {m hq : Option Nat} {S : KS} (key : Int) (w : World) (hb : QN w g h lo hi m hq) (he : QEnds S lo hi) (hk : key ≤ lo ∨ hi ≤ key) :
    Calls Tryz.prog 150 #[.pointer (some ⟨g, 0, none⟩), I key] w (HasR S key w) := by
  have c1 := hb.c1
  have c2 := hb.c2
  have h12 := (he.2.2 _ he.1).2
  have HE := Lib.hid he
  clear hb he
  by_cases h1 : key < lo
  · have HU := Lib.hid (show (false = true ↔ S key) from ⟨fun e => absurd e Bool.false_ne_true, fun e => by have := HE.out.2.2 _ e; omega⟩)
    go_enter Tryz.func150, Tryz.ntmps150
    go_wp2
    go_ret
    exact ⟨⟨_, rfl, HU.out⟩, 0, rfl⟩
  · by_cases h2 : hi < key
    · have HU := Lib.hid (show (false = true ↔ S key) from ⟨fun e => absurd e Bool.false_ne_true, fun e => by have := HE.out.2.2 _ e; omega⟩)
      go_enter Tryz.func150, Tryz.ntmps150
      go_wp2
      go_ret
      exact ⟨⟨_, rfl, HU.out⟩, 0, rfl⟩
    · have HU := Lib.hid (show S key by
        rcases hk with e | e
        · have : key = lo := by omega
          rw [this]; exact HE.out.1
        · have : key = hi := by omega
          rw [this]; exact HE.out.2.1)
      by_cases h3 : key = lo
      · subst h3
        go_enter Tryz.func150, Tryz.ntmps150
        go_wp2
        go_ret
        exact ⟨⟨_, rfl, ⟨fun _ => HU.out, fun _ => rfl⟩⟩, 0, rfl⟩
      · have h4 : key = hi := by omega
        subst h4
        clear hk h1 h2
        go_enter Tryz.func150, Tryz.ntmps150
        go_wp2
        go_ret
        exact ⟨⟨_, rfl, ⟨fun _ => HU.out, fun _ => rfl⟩⟩, 0, rfl⟩
theorem has_zero : HasC 0 := by
  intro p T S F key w h h0 h1
  cases p with
  | none => exact (has_nil key w).mono fun e w' ⟨a, b⟩ => ⟨⟨false, a, ⟨fun e => absurd e Bool.false_ne_true, fun e => absurd e (QR.none_iff.1 h key)⟩⟩, 0, b⟩
  | some g =>
    obtain ⟨lo, hi, hb, he, hbd, _⟩ := h
    have a := hbd lo he.1
    have b := hbd hi he.2.1
    have h1' : key < 2 := h1
    exact has_ends key w hb he (by omega)
set_option maxHeartbeats 2000000 in
theorem has_succ {n : Nat} (hn : n ≤ 3) (ih : HasC n) : HasC (n + 1) := by
  intro p T S F key w h h0 h1
  cases p with
  | none => exact (has_nil key w).mono fun e w' ⟨a, b⟩ => ⟨⟨false, a, ⟨fun e => absurd e Bool.false_ne_true, fun e => absurd e (QR.none_iff.1 h key)⟩⟩, 0, b⟩
  | some g =>
    obtain ⟨lo, hi, m, hq, Q, FH, FP, hb, he, hbd, hF, y⟩ := h.open1
    by_cases hk : key ≤ lo ∨ hi ≤ key
    · exact has_ends key w hb he hk
    have hl1 : ¬ key < lo := by omega
    have hl2 : ¬ hi < key := by omega
    have hl3 : ¬ key = lo := by omega
    have hl4 : ¬ key = hi := by omega
    have c1 := hb.c1
    have c2 := hb.c2
    have c3 := hb.c3
    have hqp := qq_pos n
    have h1' : key < qq n * qq n := h1
    have h6 := qq_le4 (show n + 1 ≤ 4 by omega)
    have h61 : qq (n + 1) = qq n * qq n := rfl
    have h7 := qq_le hn
    obtain ⟨d0, d1⟩ := qdiv_bd hqp h0 h1'
    obtain ⟨r0, r1⟩ := qmod_bd hqp key
    have HSP := Lib.hid (split_any hn w hb h0 (by omega))
    have HU := Lib.hid (show QLo (qq n) (QCut S lo) (key / qq n) (key % qq n) ↔ S key from qlo_iff.trans ⟨fun h => h.1, fun h => ⟨h, hl3⟩⟩)
    have HX := Lib.hid (fun j => ih (Q (key / qq n)) T (QLo (qq n) (QCut S lo) (key / qq n)) (FP (key / qq n)) (key % qq n) (w.drewN j) ((y.qp _).drewN j) r0 r1)
    have HQ : Hid (∀ j, (Instr.lookup 214 (.map m) (I (key / qq n)) false).run Tryz.prog (w.drewN j) = .ok (qp (Q (key / qq n))) (w.drewN j)) := fun j => (y.qm.drewN j).look ⟨d0, by omega⟩
    have hl5 : (key == lo) = false := by simpa using hl3
    have hl6 : (key == hi) = false := by simpa using hl4
    clear h y hb he hbd hk h1 h1' h61
    generalize key / qq n = x at *
    generalize key % qq n = z at *
    obtain ⟨pv, hpv⟩ : ∃ pv, qp (Q x) = pv := ⟨_, rfl⟩
    rw [hpv] at HX HQ
    show Calls Tryz.prog 150 #[.pointer (some ⟨g, 0, none⟩), I key] w (HasR S key w)
    go_enter Tryz.func150, Tryz.ntmps150
    go_wp2_with fail
    refine HSP.out.mono ?_
    rintro e w1 ⟨rfl, j, rfl⟩
    have hlook := HQ.out j
    go_wp2_with fail
    refine (HX.out j).mono ?_
    rintro e w2 ⟨⟨b, rfl, hb⟩, j2, rfl⟩
    have HB := Lib.hid hb
    clear hb
    go_wp2
    go_ret
    exact ⟨⟨b, rfl, HB.out.trans HU.out⟩, _, rfl⟩
theorem has_any : ∀ n, n ≤ 4 → HasC n
  | 0, _ => has_zero
  | n + 1, h => has_succ (by omega) (has_any n (by omega))

end Go.Proofs.YtpnjnedfcdppaaaGreatDoor

/-
  package half: the nearest key that is more, and the nearest one that is less.
-/
namespace Go.Proofs.YtpnjnedfcdppaaaGreatDoor
open Go.RowKit Go.Maps

def NxR (S : KS) (key : Int) (w : World) (e : Ending) (w' : World) : Prop :=
  ((∃ y, e = .returned (.tuple #[I y, .bool true]) ∧ NxP S key y) ∨ (e = .returned (.tuple #[I 0, .bool false]) ∧ ∀ z, S z → z ≤ key)) ∧ ∃ j, w' = w.drewN j
def PvR (S : KS) (key : Int) (w : World) (e : Ending) (w' : World) : Prop :=
  ((∃ y, e = .returned (.tuple #[I y, .bool true]) ∧ PvP S key y) ∨ (e = .returned (.tuple #[I 0, .bool false]) ∧ ∀ z, S z → key ≤ z)) ∧ ∃ j, w' = w.drewN j
def NextC (n : Nat) : Prop := ∀ (p : Option Nat) (T : Nat) (S : KS) (F : Nat → Prop) (key : Int) (w : World), QR n w T p S F → 0 ≤ key → key < qq n → Calls Tryz.prog 148 #[qp p, I key] w (NxR S key w)
def PrevC (n : Nat) : Prop := ∀ (p : Option Nat) (T : Nat) (S : KS) (F : Nat → Prop) (key : Int) (w : World), QR n w T p S F → 0 ≤ key → key < qq n → Calls Tryz.prog 149 #[qp p, I key] w (PvR S key w)

theorem next_nil (S : KS) (hS : ∀ x, ¬ S x) (key : Int) (w : World) : Calls Tryz.prog 148 #[.pointer none, I key] w (NxR S key w) := by
  have HS := Lib.hid hS
  clear hS
  go_enter Tryz.func148, Tryz.ntmps148
  go_wp2
  go_ret2
  exact ⟨.inr ⟨rfl, fun z hz => absurd hz (HS.out z)⟩, 0, rfl⟩
theorem prev_nil (S : KS) (hS : ∀ x, ¬ S x) (key : Int) (w : World) : Calls Tryz.prog 149 #[.pointer none, I key] w (PvR S key w) := by
  have HS := Lib.hid hS
  clear hS
  go_enter Tryz.func149, Tryz.ntmps149
  go_wp2
  go_ret2
  exact ⟨.inr ⟨rfl, fun z hz => absurd hz (HS.out z)⟩, 0, rfl⟩
theorem next_over {h g : Nat} {lo hi : Int} {m hq : Option Nat} {S : KS} (key : Int) (w : World) (hb : QN w g h lo hi m hq) (he : QEnds S lo hi) (hk : hi ≤ key) :
    Calls Tryz.prog 148 #[.pointer (some ⟨g, 0, none⟩), I key] w (NxR S key w) := by
  have c2 := hb.c2
  have HE := Lib.hid (qnx_over he hk)
  have hk2 : ¬ key < hi := by omega
  clear hb he
  go_enter Tryz.func148, Tryz.ntmps148
  go_wp2
  go_ret2
  exact ⟨.inr ⟨rfl, fun z hz => by have := HE.out z hz; omega⟩, 0, rfl⟩
theorem prev_under {h g : Nat} {lo hi : Int} {m hq : Option Nat} {S : KS} (key : Int) (w : World) (hb : QN w g h lo hi m hq) (he : QEnds S lo hi) (hk : key ≤ lo) :
    Calls Tryz.prog 149 #[.pointer (some ⟨g, 0, none⟩), I key] w (PvR S key w) := by
  have c1 := hb.c1
  have HE := Lib.hid (qpv_under he hk)
  have hk2 : ¬ lo < key := by omega
  clear hb he
  go_enter Tryz.func149, Tryz.ntmps149
  go_wp2
  go_ret2
  exact ⟨.inr ⟨rfl, fun z hz => by have := HE.out z hz; omega⟩, 0, rfl⟩
theorem next_below {h g : Nat} {lo hi : Int} {m hq : Option Nat} {S : KS} (key : Int) (w : World) (hb : QN w g h lo hi m hq) (he : QEnds S lo hi) (hk : key < lo) :
    Calls Tryz.prog 148 #[.pointer (some ⟨g, 0, none⟩), I key] w (NxR S key w) := by
  have c1 := hb.c1
  have c2 := hb.c2
  have h12 := (he.2.2 _ he.1).2
  have HE := Lib.hid (qnx_below he hk)
  have hk2 : ¬ hi ≤ key := by omega
  clear hb he
  go_enter Tryz.func148, Tryz.ntmps148
  go_wp2
  go_ret2
  exact ⟨.inl ⟨_, rfl, HE.out⟩, 0, rfl⟩
theorem prev_above {h g : Nat} {lo hi : Int} {m hq : Option Nat} {S : KS} (key : Int) (w : World) (hb : QN w g h lo hi m hq) (he : QEnds S lo hi) (hk : hi < key) :
    Calls Tryz.prog 149 #[.pointer (some ⟨g, 0, none⟩), I key] w (PvR S key w) := by
  have c1 := hb.c1
  have c2 := hb.c2
  have h12 := (he.2.2 _ he.1).2
  have HE := Lib.hid (qpv_above he hk)
  have hk2 : ¬ key ≤ lo := by omega
  clear hb he
  go_enter Tryz.func149, Tryz.ntmps149
  go_wp2
  go_ret2
  exact ⟨.inl ⟨_, rfl, HE.out⟩, 0, rfl⟩
theorem next_zero : NextC 0 := by
  intro p T S F key w h h0 h1
  cases p with
  | none => exact next_nil S (QR.none_iff.1 h) key w
  | some g =>
    obtain ⟨lo, hi, hb, he, hbd, _⟩ := h
    by_cases a : hi ≤ key
    · exact next_over key w hb he a
    by_cases b : key < lo
    · exact next_below key w hb he b
    have c0 := hb.c0
    have c1 := hb.c1
    have c2 := hb.c2
    have HE := Lib.hid (qnx_bit he hbd (by omega) (by omega) : NxP S key hi)
    clear hb he hbd h0 h1
    show Calls Tryz.prog 148 #[.pointer (some ⟨g, 0, none⟩), I key] w (NxR S key w)
    go_enter Tryz.func148, Tryz.ntmps148
    go_wp2
    go_ret2
    exact ⟨.inl ⟨_, rfl, HE.out⟩, 0, rfl⟩
theorem prev_zero : PrevC 0 := by
  intro p T S F key w h h0 h1
  cases p with
  | none => exact prev_nil S (QR.none_iff.1 h) key w
  | some g =>
    obtain ⟨lo, hi, hb, he, hbd, _⟩ := h
    by_cases a : key ≤ lo
    · exact prev_under key w hb he a
    by_cases b : hi < key
    · exact prev_above key w hb he b
    have c0 := hb.c0
    have c1 := hb.c1
    have c2 := hb.c2
    have HE := Lib.hid (qpv_bit he hbd (by omega) (by omega) : PvP S key lo)
    clear hb he hbd h0 h1
    show Calls Tryz.prog 149 #[.pointer (some ⟨g, 0, none⟩), I key] w (PvR S key w)
    go_enter Tryz.func149, Tryz.ntmps149
    go_wp2
    go_ret2
    exact ⟨.inl ⟨_, rfl, HE.out⟩, 0, rfl⟩

set_option maxHeartbeats 4000000 in
theorem next_succ {n : Nat} (hn : n ≤ 3) (ih : NextC n) : NextC (n + 1) := by
  intro p T S F key w h h0 h1
  cases p with
  | none => exact next_nil S (QR.none_iff.1 h) key w
  | some g =>
    obtain ⟨lo, hi, m, hq, Q, FH, FP, hb, he, hbd, hF, y⟩ := h.open1
    by_cases a : hi ≤ key
    · exact next_over key w hb he a
    by_cases b : key < lo
    · exact next_below key w hb he b
    have c0 := hb.c0
    have c1 := hb.c1
    have c2 := hb.c2
    have c3 := hb.c3
    have c4 := hb.c4
    have hqp := qq_pos n
    have HQP := Lib.hid hqp
    have h1' : key < qq n * qq n := h1
    have h6 := qq_le4 (show n + 1 ≤ 4 by omega)
    have h61 : qq (n + 1) = qq n * qq n := rfl
    have h7 := qq_le hn
    have h8 : ((qbt n : Nat) : Int) ≠ 0 := by have := qbt_pos n; omega
    have h9 : ((qbt n : Int) == 0) = false := by simpa using h8
    obtain ⟨d0, d1⟩ := qdiv_bd hqp h0 h1'
    obtain ⟨r0, r1⟩ := qmod_bd hqp key
    have HSP := Lib.hid (split_any hn w hb h0 (by omega))
    have HY := Lib.hid y
    have HB := Lib.hid hb
    have HX := Lib.hid (fun j => ih (Q (key / qq n)) T (QLo (qq n) (QCut S lo) (key / qq n)) (FP (key / qq n)) (key % qq n) (w.drewN j) ((y.qp _).drewN j) r0 r1)
    have HH := Lib.hid (fun j => ih hq T (QHi (qq n) (QCut S lo)) FH (key / qq n) (w.drewN j) (y.qh.drewN j) d0 d1)
    have HQ : Hid (∀ j, (Instr.lookup 214 (.map m) (I (key / qq n)) false).run Tryz.prog (w.drewN j) = .ok (qp (Q (key / qq n))) (w.drewN j)) := fun j => (y.qm.drewN j).look ⟨d0, by omega⟩
    have HIN : Hid (∀ l, NxP (QLo (qq n) (QCut S lo) (key / qq n)) (key % qq n) l → NxP S key (key / qq n * qq n + l)) := fun l hl => qnx_part hqp he (by omega) hl
    have HHAS : Hid ((∀ z, QLo (qq n) (QCut S lo) (key / qq n) z → z ≤ key % qq n) → QHi (qq n) (QCut S lo) (hi / qq n) ∧ key / qq n < hi / qq n) := fun hl => qnx_has hqp he (by omega) (by omega) (fun z hz => Int.not_lt.2 (hl z hz))
    have HFAR : Hid (∀ u l1 l2, (∀ z, QLo (qq n) (QCut S lo) (key / qq n) z → z ≤ key % qq n) → NxP (QHi (qq n) (QCut S lo)) (key / qq n) u → QEnds (QLo (qq n) (QCut S lo) u) l1 l2 → NxP S key (u * qq n + l1)) := fun u l1 l2 hl hu hd => qnx_far hqp (by omega) (fun z hz => Int.not_lt.2 (hl z hz)) hu hd
    have HLB : Hid (∀ u, QBd (qq n) (QLo (qq n) (QCut S lo) u)) := fun u => qlo_bd hqp u
    have HHB := Lib.hid (qhi_bd hqp y.bd)
    have HH2 : Hid (QHi (qq n) (QCut S lo) (hi / qq n) → ∃ gh, hq = some gh) := fun hx => y.qh.some_of hx
    clear h y hb he hbd h1 h1' h61 h8 hqp
    generalize key / qq n = x at *
    generalize key % qq n = z at *
    obtain ⟨pv, hpv⟩ : ∃ pv, qp (Q x) = pv := ⟨_, rfl⟩
    rw [hpv] at HX HQ
    obtain ⟨ph, hph⟩ : ∃ ph, qp hq = ph := ⟨_, rfl⟩
    rw [hph] at HH c4
    show Calls Tryz.prog 148 #[.pointer (some ⟨g, 0, none⟩), I key] w (NxR S key w)
    go_enter Tryz.func148, Tryz.ntmps148
    go_wp2_with fail
    refine HSP.out.mono ?_
    rintro e w1 ⟨rfl, j, rfl⟩
    have hlook := HQ.out j
    go_wp2_with fail
    refine (HX.out j).mono ?_
    rintro e w2 ⟨⟨u, rfl, hu⟩ | ⟨rfl, hu⟩, j2, rfl⟩
    · have HU := Lib.hid (HIN.out u hu)
      have hub := HLB.out x u hu.1
      have HJ := Lib.hid (join_any hn (w.drewN (j + j2)) (HB.out.keep rfl) d0 d1 hub.1 hub.2)
      clear hu hlook
      go_wp2_with fail
      refine HJ.out.mono ?_
      rintro e w3 ⟨rfl, rfl⟩
      go_wp2
      go_ret2
      exact ⟨.inl ⟨_, rfl, HU.out⟩, _, rfl⟩
    · have HU := Lib.hid hu
      have hhas := HHAS.out hu
      clear hu hlook
      go_wp2_with fail
      refine (HH.out _).mono ?_
      rintro e w3 ⟨⟨v, rfl, hv⟩ | ⟨rfl, hv⟩, j3, rfl⟩
      · have hvb := HHB.out v hv.1
        obtain ⟨l0, hl0⟩ := qhi_lo.1 hv.1
        obtain ⟨pp, hpp⟩ := (HY.out.qp v).some_of hl0
        have hpr := HY.out.qp v
        rw [hpp] at hpr
        obtain ⟨l1, l2, pm, phq, pb, pe, pbd, _⟩ := hpr.head
        have hl1 := pbd l1 pe.1
        have HP := Lib.hid (HFAR.out v l1 l2 HU.out hv pe)
        have p1 := pb.c1
        have hlook : (Instr.lookup 214 (.map m) (I v) false).run Tryz.prog (w.drewN (j + j2 + j3)) = .ok (.pointer (some ⟨pp, 0, none⟩)) (w.drewN (j + j2 + j3)) := (HY.out.qm.drewN _).look_some ⟨hvb.1, by omega⟩ hpp
        have HJ := Lib.hid (join_any hn (w.drewN (j + j2 + j3)) (HB.out.keep rfl) hvb.1 hvb.2 hl1.1 hl1.2)
        clear hhas hl0 hpr pb pe pbd hv hpp
        go_wp2_with fail
        refine HJ.out.mono ?_
        rintro e w4 ⟨rfl, rfl⟩
        go_wp2
        go_ret2
        exact ⟨.inl ⟨_, rfl, HP.out⟩, _, rfl⟩
      · exact absurd hhas.2 (Int.not_lt.2 (hv _ hhas.1))
theorem next_any : ∀ n, n ≤ 4 → NextC n
  | 0, _ => next_zero
  | n + 1, h => next_succ (by omega) (next_any n (by omega))

set_option maxHeartbeats 4000000 in
theorem prev_succ {n : Nat} (hn : n ≤ 3) (ih : PrevC n) : PrevC (n + 1) := by
  intro p T S F key w h h0 h1
  cases p with
  | none => exact prev_nil S (QR.none_iff.1 h) key w
  | some g =>
    obtain ⟨lo, hi, m, hq, Q, FH, FP, hb, he, hbd, hF, y⟩ := h.open1
    by_cases a : key ≤ lo
    · exact prev_under key w hb he a
    by_cases b : hi < key
    · exact prev_above key w hb he b
    have c0 := hb.c0
    have c1 := hb.c1
    have c2 := hb.c2
    have c3 := hb.c3
    have c4 := hb.c4
    have hqp := qq_pos n
    have h1' : key < qq n * qq n := h1
    have h6 := qq_le4 (show n + 1 ≤ 4 by omega)
    have h61 : qq (n + 1) = qq n * qq n := rfl
    have h7 := qq_le hn
    have h8 : ((qbt n : Nat) : Int) ≠ 0 := by have := qbt_pos n; omega
    have h9 : ((qbt n : Int) == 0) = false := by simpa using h8
    obtain ⟨d0, d1⟩ := qdiv_bd hqp h0 h1'
    obtain ⟨r0, r1⟩ := qmod_bd hqp key
    have HSP := Lib.hid (split_any hn w hb h0 (by omega))
    have HY := Lib.hid y
    have HB := Lib.hid hb
    have HX := Lib.hid (fun j => ih (Q (key / qq n)) T (QLo (qq n) (QCut S lo) (key / qq n)) (FP (key / qq n)) (key % qq n) (w.drewN j) ((y.qp _).drewN j) r0 r1)
    have HH := Lib.hid (fun j => ih hq T (QHi (qq n) (QCut S lo)) FH (key / qq n) (w.drewN j) (y.qh.drewN j) d0 d1)
    have HQ : Hid (∀ j, (Instr.lookup 214 (.map m) (I (key / qq n)) false).run Tryz.prog (w.drewN j) = .ok (qp (Q (key / qq n))) (w.drewN j)) := fun j => (y.qm.drewN j).look ⟨d0, by omega⟩
    have HIN : Hid (∀ l, PvP (QLo (qq n) (QCut S lo) (key / qq n)) (key % qq n) l → PvP S key (key / qq n * qq n + l)) := fun l hl => qpv_part hqp he hl
    have HFAR : Hid (∀ u l1 l2, (∀ z, QLo (qq n) (QCut S lo) (key / qq n) z → key % qq n ≤ z) → PvP (QHi (qq n) (QCut S lo)) (key / qq n) u → QEnds (QLo (qq n) (QCut S lo) u) l1 l2 → PvP S key (u * qq n + l2)) := fun u l1 l2 hl hu hd => qpv_far hqp he (fun z hz => Int.not_lt.2 (hl z hz)) hu hd
    have HLAST : Hid ((∀ z, QLo (qq n) (QCut S lo) (key / qq n) z → key % qq n ≤ z) → (∀ z, QHi (qq n) (QCut S lo) z → key / qq n ≤ z) → PvP S key lo) := fun hl hu => qpv_last hqp he (by omega) (fun z hz => Int.not_lt.2 (hl z hz)) (fun z hz => Int.not_lt.2 (hu z hz))
    have HLB : Hid (∀ u, QBd (qq n) (QLo (qq n) (QCut S lo) u)) := fun u => qlo_bd hqp u
    have HHB := Lib.hid (qhi_bd hqp y.bd)
    clear h y hb he hbd h1 h1' h61 h8 hqp
    generalize key / qq n = x at *
    generalize key % qq n = z at *
    obtain ⟨pv, hpv⟩ : ∃ pv, qp (Q x) = pv := ⟨_, rfl⟩
    rw [hpv] at HX HQ
    obtain ⟨ph, hph⟩ : ∃ ph, qp hq = ph := ⟨_, rfl⟩
    rw [hph] at HH c4
    show Calls Tryz.prog 149 #[.pointer (some ⟨g, 0, none⟩), I key] w (PvR S key w)
    go_enter Tryz.func149, Tryz.ntmps149
    go_wp2_with fail
    refine HSP.out.mono ?_
    rintro e w1 ⟨rfl, j, rfl⟩
    have hlook := HQ.out j
    go_wp2_with fail
    refine (HX.out j).mono ?_
    rintro e w2 ⟨⟨u, rfl, hu⟩ | ⟨rfl, hu⟩, j2, rfl⟩
    · have HU := Lib.hid (HIN.out u hu)
      have hub := HLB.out x u hu.1
      have HJ := Lib.hid (join_any hn (w.drewN (j + j2)) (HB.out.keep rfl) d0 d1 hub.1 hub.2)
      clear hu hlook
      go_wp2_with fail
      refine HJ.out.mono ?_
      rintro e w3 ⟨rfl, rfl⟩
      go_wp2
      go_ret2
      exact ⟨.inl ⟨_, rfl, HU.out⟩, _, rfl⟩
    · have HU := Lib.hid hu
      clear hu hlook
      go_wp2_with fail
      refine (HH.out _).mono ?_
      rintro e w3 ⟨⟨v, rfl, hv⟩ | ⟨rfl, hv⟩, j3, rfl⟩
      · have hvb := HHB.out v hv.1
        obtain ⟨l0, hl0⟩ := qhi_lo.1 hv.1
        obtain ⟨pp, hpp⟩ := (HY.out.qp v).some_of hl0
        have hpr := HY.out.qp v
        rw [hpp] at hpr
        obtain ⟨l1, l2, pm, phq, pb, pe, pbd, _⟩ := hpr.head
        have hl2 := pbd l2 pe.2.1
        have HP := Lib.hid (HFAR.out v l1 l2 HU.out hv pe)
        have p2 := pb.c2
        have hlook : (Instr.lookup 214 (.map m) (I v) false).run Tryz.prog (w.drewN (j + j2 + j3)) = .ok (.pointer (some ⟨pp, 0, none⟩)) (w.drewN (j + j2 + j3)) := (HY.out.qm.drewN _).look_some ⟨hvb.1, by omega⟩ hpp
        have HJ := Lib.hid (join_any hn (w.drewN (j + j2 + j3)) (HB.out.keep rfl) hvb.1 hvb.2 hl2.1 hl2.2)
        clear hl0 hpr pb pe pbd hv hpp
        go_wp2_with fail
        refine HJ.out.mono ?_
        rintro e w4 ⟨rfl, rfl⟩
        go_wp2
        go_ret2
        exact ⟨.inl ⟨_, rfl, HP.out⟩, _, rfl⟩
      · have HV := Lib.hid (HLAST.out HU.out hv)
        clear hv
        go_wp2
        go_ret2
        exact ⟨.inl ⟨_, rfl, HV.out⟩, _, rfl⟩
theorem prev_any : ∀ n, n ≤ 4 → PrevC n
  | 0, _ => prev_zero
  | n + 1, h => prev_succ (by omega) (prev_any n (by omega))

end Go.Proofs.YtpnjnedfcdppaaaGreatDoor
