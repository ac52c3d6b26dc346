/-
  LEAVES: isKey, Between, countBelow, hasAt.
-/
import Derived.Test.YtolfpjleckckiaaChecked
import Derived.Test.YtolfpjleckckiaaEqAll
import Derived.BigQuiet
import Derived.Deep.QuietTactic
namespace Go.Proofs.Ytolfpjleckckiaa
open Go.RowKit

def keyB (k : Int) : Bool := decide (0 ≤ k ∧ k ≤ 1000000)
def btwB (n lo hi : Int) : Bool := decide (lo ≤ n ∧ n ≤ hi)

set_option maxHeartbeats 400000 in
theorem isKey_any (k : Int) (w : World) : Calls Try.prog 46 #[I k] w fun e w' => e = .returned (.bool (keyB k)) ∧ w = w' := by
  by_cases h0 : 0 ≤ k
  · by_cases h1 : k ≤ 1000000
    · have hk : keyB k = true := by simp [keyB, h0, h1]
      go_enter Try.func46, Try.ntmps46
      go_wp2
      go_ret
      exact ⟨by simp [hk], rfl⟩
    · have hk : keyB k = false := by simp [keyB, h0, h1]
      go_enter Try.func46, Try.ntmps46
      go_wp2
      go_ret
      exact ⟨by simp [hk], rfl⟩
  · have hk : keyB k = false := by simp [keyB, h0]
    go_enter Try.func46, Try.ntmps46
    go_wp2
    go_ret
    exact ⟨by simp [hk], rfl⟩

set_option maxHeartbeats 400000 in
theorem Between_any (n lo hi : Int) (w : World) : Calls Try.prog 10 #[I n, I lo, I hi] w fun e w' => e = .returned (.bool (btwB n lo hi)) ∧ w = w' := by
  by_cases h0 : lo ≤ n
  · by_cases h1 : n ≤ hi
    · have hk : btwB n lo hi = true := by simp [btwB, h0, h1]
      go_enter Try.func10, Try.ntmps10
      go_wp2
      go_ret
      exact ⟨by simp [hk], rfl⟩
    · have hk : btwB n lo hi = false := by simp [btwB, h0, h1]
      go_enter Try.func10, Try.ntmps10
      go_wp2
      go_ret
      exact ⟨by simp [hk], rfl⟩
  · have hk : btwB n lo hi = false := by simp [btwB, h0]
    go_enter Try.func10, Try.ntmps10
    go_wp2
    go_ret
    exact ⟨by simp [hk], rfl⟩

/-- how many, from the beginning on, are less -/
def cnt (l : PL) (key : Int) : Nat := (l.takeWhile fun p => decide (p.1 < key)).length
theorem cnt_le (l : PL) (key : Int) : cnt l key ≤ l.length := by
  unfold cnt
  induction l with
  | nil => simp
  | cons p t ih => rw [List.takeWhile_cons]; split <;> simp; exact ih
theorem cnt_lt (l : PL) (key : Int) : ∀ i (h : i < cnt l key), (l[i]'(Nat.lt_of_lt_of_le h (cnt_le l key))).1 < key := by
  induction l with
  | nil => intro i h; simp [cnt] at h
  | cons p t ih =>
    intro i h
    unfold cnt at h
    rw [List.takeWhile_cons] at h
    split at h
    · rename_i hp
      match i, h with
      | 0, _ => simpa using hp
      | i + 1, h => exact ih i (by simp at h; exact h)
    · simp at h
theorem cnt_stop (l : PL) (key : Int) (h : cnt l key < l.length) : ¬ (l[cnt l key]).1 < key := by
  induction l with
  | nil => simp at h
  | cons p t ih =>
    by_cases hp : p.1 < key
    · have e : cnt (p :: t) key = cnt t key + 1 := by simp [cnt, List.takeWhile_cons, hp]
      simp only [e, List.getElem_cons_succ]
      exact ih (by rw [e] at h; simpa using h)
    · have e : cnt (p :: t) key = 0 := by simp [cnt, List.takeWhile_cons, hp]
      simp only [e, List.getElem_cons_zero]
      exact hp

set_option maxHeartbeats 400000 in
theorem countBelow_any (A : Option Addr) (n c : Nat) (l : PL) (key : Int) (w : World) (h : PS w A n c l) (hn : n ≤ 1000000) :
    Calls Try.prog 47 #[.slice A n c, I key] w fun e w' => e = .returned (I (cnt l key)) ∧ w = w' := by
  have H := Lib.hid h
  have Hlen := Lib.hid h.len
  clear h
  go_enter Try.func47, Try.ntmps47
  go_wp2
  go_loop [5] (fun t => ∃ k : Nat, k ≤ n ∧ k ≤ cnt l key ∧ t = .int .i64 k) (fun t => n - (intOf t).toNat)
  case atStart => exact ⟨0, Nat.zero_le _, Nat.zero_le _, rfl⟩
  case round =>
    obtain ⟨k, hk, hkc, rfl⟩ := hrel
    have hcn : cnt l key ≤ n := by have := cnt_le l key; rw [Hlen.out] at this; exact this
    by_cases hlt : k < n
    · obtain ⟨b, off, rfl, hb, hc⟩ := H.out.at_ (by omega)
      have hc0 := (hc k hlt).1
      have hkl : k < l.length := by have := Hlen.out; omega
      have hcell : w.cell? ⟨b, off + k * 2, none⟩ = some (I l[k].1) := hc0
      have HC := Lib.hid hc
      clear hc hc0
      by_cases hkey : l[k].1 < key
      · have hkc' : k + 1 ≤ cnt l key := by
          rcases Nat.lt_or_ge k (cnt l key) with h1 | h1
          · exact h1
          · have e : k = cnt l key := by omega
            subst e
            exact absurd hkey (cnt_stop l key hkl)
        go_wp2
        go_round
        case rel => exact ⟨k + 1, by omega, by omega, by go_num⟩
        case measure => simp [intOf]; omega
      · have hke : k = cnt l key := by
          rcases Nat.lt_or_ge k (cnt l key) with h1 | h1
          · exact absurd (cnt_lt l key k h1) hkey
          · omega
        have HK := Lib.hid hke
        clear hke
        go_wp2
        go_ret
        exact ⟨ret_int (by rw [← HK.out]), rfl⟩
    · have HK : Hid (k = cnt l key) := by show k = cnt l key; omega
      go_wp2
      go_ret
      exact ⟨ret_int (by rw [← HK.out]), rfl⟩

/-- is the pair in place p one of this key? -/
def hasB (l : PL) (p : Nat) (key : Int) : Bool := match l[p]? with
  | some q => q.1 == key
  | none => false

set_option maxHeartbeats 400000 in
theorem hasAt_any (A : Option Addr) (n c p : Nat) (l : PL) (key : Int) (w : World) (h : PS w A n c l) (hn : n ≤ 1000000) (hp : p ≤ 1000000) :
    Calls Try.prog 48 #[.slice A n c, I p, I key] w fun e w' => e = .returned (.bool (hasB l p key)) ∧ w = w' := by
  have H := Lib.hid h
  have Hlen := Lib.hid h.len
  clear h
  by_cases hlt : p < n
  · obtain ⟨b, off, rfl, hb, hc⟩ := H.out.at_ (by omega)
    have hkl : p < l.length := by have := Hlen.out; omega
    have hcell : w.cell? ⟨b, off + p * 2, none⟩ = some (I l[p].1) := (hc p hlt).1
    have HF : Hid (hasB l p key = (l[p].1 == key)) := by show hasB l p key = (l[p].1 == key); simp [hasB, List.getElem?_eq_getElem hkl]
    clear hc
    go_enter Try.func48, Try.ntmps48
    go_wp2
    go_ret
    exact ⟨by rw [HF.out]; rfl, rfl⟩
  · have HF : Hid (hasB l p key = false) := by
      show hasB l p key = false
      have : l[p]? = none := List.getElem?_eq_none (by have := Hlen.out; omega)
      simp [hasB, this]
    go_enter Try.func48, Try.ntmps48
    go_wp2
    go_ret
    exact ⟨by rw [HF.out]; rfl, rfl⟩

/-- how many are less -/
def blw (l : PL) (key : Int) : Nat := (l.filter fun p => decide (p.1 < key)).length
theorem blw_le (l : PL) (key : Int) : blw l key ≤ l.length := List.length_filter_le _ _
theorem blw_step (l : PL) (key : Int) (k : Nat) (h : k < l.length) : blw (l.take (k + 1)) key = blw (l.take k) key + if l[k].1 < key then 1 else 0 := by
  rw [List.take_succ_eq_append_getElem h]
  unfold blw
  rw [List.filter_append]
  by_cases hk : l[k].1 < key <;> simp [hk]

end Go.Proofs.Ytolfpjleckckiaa
