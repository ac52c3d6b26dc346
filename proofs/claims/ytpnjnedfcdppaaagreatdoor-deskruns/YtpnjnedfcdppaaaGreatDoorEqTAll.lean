/-
  Joined texts: YtpnjnedfcdppaaaGreatDoorEqInt, YtpnjnedfcdppaaaGreatDoorLeaf, YtpnjnedfcdppaaaGreatDoorChk, YtpnjnedfcdppaaaGreatDoorEq, YtpnjnedfcdppaaaGreatDoorEqAns, YtpnjnedfcdppaaaGreatDoorSEq, YtpnjnedfcdppaaaGreatDoorEqT.
-/
import Derived.Test.YtpnjnedfcdppaaaGreatDoorChecked
import Derived.Test.YtpnjnedfcdppaaaGreatDoorOSpotsAll
import Derived.BigQuiet
import Derived.Deep.QuietTactic
/-
  A slice of numbers; slices.Equal at int.
-/
namespace Go.Proofs.YtpnjnedfcdppaaaGreatDoor
open Go.RowKit

structure IS (w : World) (A : Option Addr) (n c : Nat) (l : List Int) : Prop where
  len : l.length = n
  rd : Rd w w.heap.size 1 A n c (fun i _ => I (l[i]?.getD 0))
theorem IS.below {w w' : World} {n c : Nat} {A : Option Addr} {l : List Int} (h : IS w A n c l) (hb : Below w.heap.size w w') : IS w' A n c l := ⟨h.len, h.rd.below hb⟩
theorem IS.at_ {w : World} {n c : Nat} {A : Option Addr} {l : List Int} (h : IS w A n c l) (hn : 0 < n) :
    ∃ b off, A = some ⟨b, off, none⟩ ∧ b < w.heap.size ∧ ∀ i (hi : i < n), w.cell? ⟨b, off + i, none⟩ = some (I (l[i]'(by rw [h.len]; exact hi))) := by
  obtain ⟨b, off, e, hb, hc⟩ := h.rd.2 hn
  refine ⟨b, off, e, hb, fun i hi => ?_⟩
  have hl : i < l.length := by rw [h.len]; exact hi
  have h0 := hc i hi 0 (by omega)
  simpa [List.getElem?_eq_getElem hl] using h0

end Go.Proofs.YtpnjnedfcdppaaaGreatDoor

/-
  LEAVES: isKey, Between, countBelow, hasAt.
-/
namespace Go.Proofs.YtpnjnedfcdppaaaGreatDoor
open Go.RowKit

def keyB (k : Int) : Bool := decide (0 ≤ k ∧ k ≤ 1000000)
def btwB (n lo hi : Int) : Bool := decide (lo ≤ n ∧ n ≤ hi)

set_option maxHeartbeats 400000 in
theorem isKey_any (k : Int) (w : World) : Calls Tryz.prog 186 #[I k] w fun e w' => e = .returned (.bool (keyB k)) ∧ w = w' := by
  by_cases h0 : 0 ≤ k
  · by_cases h1 : k ≤ 1000000
    · have hk : keyB k = true := by simp [keyB, h0, h1]
      go_enter Tryz.func186, Tryz.ntmps186
      go_wp2
      go_ret
      exact ⟨by simp [hk], rfl⟩
    · have hk : keyB k = false := by simp [keyB, h0, h1]
      go_enter Tryz.func186, Tryz.ntmps186
      go_wp2
      go_ret
      exact ⟨by simp [hk], rfl⟩
  · have hk : keyB k = false := by simp [keyB, h0]
    go_enter Tryz.func186, Tryz.ntmps186
    go_wp2
    go_ret
    exact ⟨by simp [hk], rfl⟩

set_option maxHeartbeats 400000 in
theorem Between_any (n lo hi : Int) (w : World) : Calls Tryz.prog 166 #[I n, I lo, I hi] w fun e w' => e = .returned (.bool (btwB n lo hi)) ∧ w = w' := by
  by_cases h0 : lo ≤ n
  · by_cases h1 : n ≤ hi
    · have hk : btwB n lo hi = true := by simp [btwB, h0, h1]
      go_enter Tryz.func166, Tryz.ntmps166
      go_wp2
      go_ret
      exact ⟨by simp [hk], rfl⟩
    · have hk : btwB n lo hi = false := by simp [btwB, h0, h1]
      go_enter Tryz.func166, Tryz.ntmps166
      go_wp2
      go_ret
      exact ⟨by simp [hk], rfl⟩
  · have hk : btwB n lo hi = false := by simp [btwB, h0]
    go_enter Tryz.func166, Tryz.ntmps166
    go_wp2
    go_ret
    exact ⟨by simp [hk], rfl⟩

def cnt (l : PL) (key : Int) : Nat := (l.takeWhile fun p => decide (p.1 < key)).length
theorem cnt_le (l : PL) (key : Int) : cnt l key ≤ l.length := by
  unfold cnt
  induction l with
  | nil => simp
  | cons p t ih => rw [List.takeWhile_cons]; split <;> simp; exact ih
theorem cnt_lt (l : PL) (key : Int) : ∀ i (h : i < cnt l key), (l[i]'(Nat.lt_of_lt_of_le h (cnt_le l key))).1 < key := by
  induction l with
  | nil => intro i h; simp [cnt] at h
  | cons p t ih =>
    intro i h
    unfold cnt at h
    rw [List.takeWhile_cons] at h
    split at h
    · rename_i hp
      match i, h with
      | 0, _ => simpa using hp
      | i + 1, h => exact ih i (by simp at h; exact h)
    · simp at h
theorem cnt_stop (l : PL) (key : Int) (h : cnt l key < l.length) : ¬ (l[cnt l key]).1 < key := by
  induction l with
  | nil => simp at h
  | cons p t ih =>
    by_cases hp : p.1 < key
    · have e : cnt (p :: t) key = cnt t key + 1 := by simp [cnt, List.takeWhile_cons, hp]
      simp only [e, List.getElem_cons_succ]
      exact ih (by rw [e] at h; simpa using h)
    · have e : cnt (p :: t) key = 0 := by simp [cnt, List.takeWhile_cons, hp]
      simp only [e, List.getElem_cons_zero]
      exact hp

set_option maxHeartbeats 400000 in
theorem countBelow_any (A : Option Addr) (n c : Nat) (l : PL) (key : Int) (w : World) (h : PS w A n c l) (hn : n ≤ 1000000) :
    Calls Tryz.prog 187 #[.slice A n c, I key] w fun e w' => e = .returned (I (cnt l key)) ∧ w = w' := by
  have H := Lib.hid h
  have Hlen := Lib.hid h.len
  clear h
  go_enter Tryz.func187, Tryz.ntmps187
  go_wp2
  go_loop [5] (fun t => ∃ k : Nat, k ≤ n ∧ k ≤ cnt l key ∧ t = .int .i64 k) (fun t => n - (intOf t).toNat)
  case atStart => exact ⟨0, Nat.zero_le _, Nat.zero_le _, rfl⟩
  case round =>
    obtain ⟨k, hk, hkc, rfl⟩ := hrel
    have hcn : cnt l key ≤ n := by have := cnt_le l key; rw [Hlen.out] at this; exact this
    by_cases hlt : k < n
    · obtain ⟨b, off, rfl, hb, hc⟩ := H.out.at_ (by omega)
      have hc0 := (hc k hlt).1
      have hkl : k < l.length := by have := Hlen.out; omega
      have hcell : w.cell? ⟨b, off + k * 2, none⟩ = some (I l[k].1) := hc0
      have HC := Lib.hid hc
      clear hc hc0
      by_cases hkey : l[k].1 < key
      · have hkc' : k + 1 ≤ cnt l key := by
          rcases Nat.lt_or_ge k (cnt l key) with h1 | h1
          · exact h1
          · have e : k = cnt l key := by omega
            subst e
            exact absurd hkey (cnt_stop l key hkl)
        go_wp2
        go_round
        case rel => exact ⟨k + 1, by omega, by omega, by go_num⟩
        case measure => simp [intOf]; omega
      · have hke : k = cnt l key := by
          rcases Nat.lt_or_ge k (cnt l key) with h1 | h1
          · exact absurd (cnt_lt l key k h1) hkey
          · omega
        have HK := Lib.hid hke
        clear hke
        go_wp2
        go_ret
        exact ⟨ret_int (by rw [← HK.out]), rfl⟩
    · have HK : Hid (k = cnt l key) := by show k = cnt l key; omega
      go_wp2
      go_ret
      exact ⟨ret_int (by rw [← HK.out]), rfl⟩

def hasB (l : PL) (p : Nat) (key : Int) : Bool := match l[p]? with
  | some q => q.1 == key
  | none => false

set_option maxHeartbeats 400000 in
theorem hasAt_any (A : Option Addr) (n c p : Nat) (l : PL) (key : Int) (w : World) (h : PS w A n c l) (hn : n ≤ 1000000) (hp : p ≤ 1000000) :
    Calls Tryz.prog 188 #[.slice A n c, I p, I key] w fun e w' => e = .returned (.bool (hasB l p key)) ∧ w = w' := by
  have H := Lib.hid h
  have Hlen := Lib.hid h.len
  clear h
  by_cases hlt : p < n
  · obtain ⟨b, off, rfl, hb, hc⟩ := H.out.at_ (by omega)
    have hkl : p < l.length := by have := Hlen.out; omega
    have hcell : w.cell? ⟨b, off + p * 2, none⟩ = some (I l[p].1) := (hc p hlt).1
    have HF : Hid (hasB l p key = (l[p].1 == key)) := by show hasB l p key = (l[p].1 == key); simp [hasB, List.getElem?_eq_getElem hkl]
    clear hc
    go_enter Tryz.func188, Tryz.ntmps188
    go_wp2
    go_ret
    exact ⟨by rw [HF.out]; rfl, rfl⟩
  · have HF : Hid (hasB l p key = false) := by
      show hasB l p key = false
      have : l[p]? = none := List.getElem?_eq_none (by have := Hlen.out; omega)
      simp [hasB, this]
    go_enter Tryz.func188, Tryz.ntmps188
    go_wp2
    go_ret
    exact ⟨by rw [HF.out]; rfl, rfl⟩

def blw (l : PL) (key : Int) : Nat := (l.filter fun p => decide (p.1 < key)).length
theorem blw_le (l : PL) (key : Int) : blw l key ≤ l.length := List.length_filter_le _ _
theorem blw_step (l : PL) (key : Int) (k : Nat) (h : k < l.length) : blw (l.take (k + 1)) key = blw (l.take k) key + if l[k].1 < key then 1 else 0 := by
  rw [List.take_succ_eq_append_getElem h]
  unfold blw
  rw [List.filter_append]
  by_cases hk : l[k].1 < key <;> simp [hk]

set_option maxHeartbeats 400000 in
theorem Below_any (A : Option Addr) (n c : Nat) (l : PL) (key : Int) (w : World) (h : PS w A n c l) (hn : n ≤ 1000000) :
    Calls Tryz.prog 171 #[.slice A n c, I key] w fun e w' => e = .returned (I (blw l key)) ∧ Below w.heap.size w w' := by
  have H := Lib.hid h
  have Hlen := Lib.hid h.len
  clear h
  go_enter Tryz.func171, Tryz.ntmps171
  go_wp2
  go_loopw [5, 10] (fun t i wr => ∃ k : Nat, k ≤ n ∧ i = .int .i64 k ∧ t = .int .i64 (blw (l.take k) key) ∧ Below w.heap.size w wr) (fun _ i _ => n - (intOf i).toNat)
  case atStart => exact ⟨0, Nat.zero_le _, rfl, rfl, Below.refl _ _⟩
  case round =>
    obtain ⟨k, hk, rfl, rfl, hnx⟩ := hrel
    have hbl : blw (l.take k) key ≤ k := Nat.le_trans (blw_le _ _) (by simp; omega)
    by_cases hlt : k < n
    · obtain ⟨b, off, rfl, hb, hc⟩ := H.out.at_ (by omega)
      have hkl : k < l.length := by have := Hlen.out; omega
      have hc0 : wr.cell? ⟨b, off + k * 2, none⟩ = some (I l[k].1) := (hnx.cell (by exact hb)).trans (hc k hlt).1
      have hc1 : wr.cell? ⟨b, off + k * 2 + 1, none⟩ = some (I l[k].2) := (hnx.cell (by exact hb)).trans (hc k hlt).2
      have hst := blw_step l key k hkl
      have HS := Lib.hid hst
      clear hc hst
      have hsz := hnx.size
      by_cases hkey : l[k].1 < key
      · go_wp2
        go_roundw
        case rel => exact ⟨k + 1, by omega, by go_num, by rw [HS.out, if_pos hkey]; go_num, hnx.alloc hsz _⟩
        case measure => simp [intOf]; omega
      · go_wp2
        go_roundw
        case rel => exact ⟨k + 1, by omega, by go_num, by rw [HS.out, if_neg (by omega)]; go_num, hnx.alloc hsz _⟩
        case measure => simp [intOf]; omega
    · go_wp2
      go_ret
      have hkn : l.take k = l := List.take_of_length_le (by have := Hlen.out; omega)
      exact ⟨ret_int (by rw [hkn]), hnx⟩

end Go.Proofs.YtpnjnedfcdppaaaGreatDoor

/-
  Check and MapRight: which lists are maps.
-/
namespace Go.Proofs.YtpnjnedfcdppaaaGreatDoor
open Go.RowKit

def okAt (l : PL) (i : Nat) : Prop := keyB (l[i]?.getD (0, 0)).1 = true ∧ (0 < i → (l[i - 1]?.getD (0, 0)).1 < (l[i]?.getD (0, 0)).1)
def okTo (l : PL) (k : Nat) : Prop := ∀ i, i < k → okAt l i
instance (l : PL) (i : Nat) : Decidable (okAt l i) := by unfold okAt; infer_instance
instance (l : PL) (k : Nat) : Decidable (okTo l k) := by unfold okTo; infer_instance
def chk (l : PL) : Int := if 200 < l.length then 2 else if okTo l l.length then 0 else 3
theorem okTo_succ {l : PL} {k : Nat} (h : okTo l k) (h1 : okAt l k) : okTo l (k + 1) := fun i hi => by
  rcases Nat.lt_or_ge i k with h2 | h2
  · exact h i h2
  · obtain rfl : i = k := by omega
    exact h1

theorem isKey_t (k : Int) (w : World) (h : keyB k = true) : Calls Tryz.prog 186 #[I k] w fun e w' => e = .returned (.bool true) ∧ w' = w :=
  (isKey_any k w).mono fun _ _ ⟨he, hw⟩ => ⟨by rw [he, h], hw.symm⟩
theorem isKey_f (k : Int) (w : World) (h : keyB k = false) : Calls Tryz.prog 186 #[I k] w fun e w' => e = .returned (.bool false) ∧ w' = w :=
  (isKey_any k w).mono fun _ _ ⟨he, hw⟩ => ⟨by rw [he, h], hw.symm⟩


set_option maxHeartbeats 1000000 in
theorem Check_any (A : Option Addr) (n c : Nat) (l : PL) (w : World) (h : PS w A n c l) (hn : n ≤ 9223372036854775807) :
    Calls Tryz.prog 121 #[.slice A n c] w fun e w' => e = .returned (I (chk l)) ∧ Below w.heap.size w w' := by
  have H := Lib.hid h
  have Hlen := Lib.hid h.len
  clear h
  by_cases h200 : 200 < n
  · have HF : Hid (chk l = 2) := by show chk l = 2; unfold chk; rw [if_pos (by rw [Hlen.out]; exact h200)]
    go_enter Tryz.func121, Tryz.ntmps121
    go_wp2
    go_ret
    exact ⟨ret_int (by rw [HF.out]), Below.refl _ _⟩
  · go_enter Tryz.func121, Tryz.ntmps121
    go_wp2
    go_loopw [10] (fun i wr => ∃ k : Nat, k ≤ n ∧ i = .int .i64 k ∧ okTo l k ∧ Below w.heap.size w wr) (fun i _ => n - (intOf i).toNat)
    case atStart => exact ⟨0, Nat.zero_le _, rfl, fun i hi => absurd hi (by omega), Below.refl _ _⟩
    case round =>
      obtain ⟨k, hk, rfl, hok, hnx⟩ := hrel
      have hsz := hnx.size
      by_cases hlt : k < n
      · obtain ⟨b, off, rfl, hb, hc⟩ := H.out.at_ (by omega)
        have hkl : k < l.length := by have := Hlen.out; omega
        have hc0 : wr.cell? ⟨b, off + k * 2, none⟩ = some (I l[k].1) := (hnx.cell (by exact hb)).trans (hc k hlt).1
        have hc1 : wr.cell? ⟨b, off + k * 2 + 1, none⟩ = some (I l[k].2) := (hnx.cell (by exact hb)).trans (hc k hlt).2
        have hbwr : b < wr.heap.size := by omega
        cases hkey : keyB l[k].1 with
        | false =>
          have HF : Hid (chk l = 3) := by
            show chk l = 3
            unfold chk
            rw [if_neg (by rw [Hlen.out]; exact h200), if_neg]
            intro ha
            have := (ha k hkl).1
            simp [List.getElem?_eq_getElem hkl, hkey] at this
          have HK := Lib.hid hkey
          clear hkey hc hok
          go_wp2
          go_quiet ((go_at_call 186; exact Calls.quiet_of_same (isKey_f _ _ HK.out)))
          go_wp2
          go_ret
          exact ⟨ret_int (by rw [HF.out]), below_drewN (hnx.alloc hsz _) _⟩
        | true =>
          by_cases hk0 : 0 < k
          · have hkl1 : k - 1 < l.length := by omega
            have hp0 : wr.cell? ⟨b, off + (k - 1) * 2, none⟩ = some (I l[k - 1].1) := (hnx.cell (by exact hb)).trans (hc (k - 1) (by omega)).1
            by_cases hge : l[k].1 ≤ l[k - 1].1
            · have HF : Hid (chk l = 3) := by
                show chk l = 3
                unfold chk
                rw [if_neg (by rw [Hlen.out]; exact h200), if_neg]
                intro ha
                have := (ha k hkl).2 hk0
                simp [List.getElem?_eq_getElem hkl, List.getElem?_eq_getElem hkl1] at this
                omega
              have HK := Lib.hid hkey
              clear hkey hc hok
              go_wp2
              go_quiet ((go_at_call 186; exact Calls.quiet_of_same (isKey_t _ _ HK.out)))
              go_wp2
              go_ret
              exact ⟨ret_int (by rw [HF.out]), below_drewN (hnx.alloc hsz _) _⟩
            · have HO : Hid (okTo l (k + 1)) := okTo_succ hok ⟨by simpa [List.getElem?_eq_getElem hkl] using hkey, fun _ => by simp [List.getElem?_eq_getElem hkl, List.getElem?_eq_getElem hkl1]; omega⟩
              have HK := Lib.hid hkey
              clear hkey hc hok
              have hge' : ¬ l[k].1 ≤ l[k - 1].1 := hge
              go_wp2
              go_quiet ((go_at_call 186; exact Calls.quiet_of_same (isKey_t _ _ HK.out)))
              go_wp2
              go_roundw
              case rel => exact ⟨k + 1, by omega, by go_num, HO.out, below_drewN (hnx.alloc hsz _) _⟩
              case measure => simp [intOf]; omega
          · have HO : Hid (okTo l (k + 1)) := okTo_succ hok ⟨by simpa [List.getElem?_eq_getElem hkl] using hkey, fun h => absurd h hk0⟩
            have HK := Lib.hid hkey
            clear hkey hc hok
            have hd : decide (0 < k) = false := by simpa using hk0
            go_wp2
            go_quiet ((go_at_call 186; exact Calls.quiet_of_same (isKey_t _ _ HK.out)))
            go_wp2
            go_roundw
            case rel => exact ⟨k + 1, by omega, by go_num, HO.out, below_drewN (hnx.alloc hsz _) _⟩
            case measure => simp [intOf]; omega
      · have HF : Hid (chk l = 0) := by
          show chk l = 0
          unfold chk
          rw [if_neg (by rw [Hlen.out]; exact h200), if_pos]
          rw [Hlen.out, show n = k by omega]
          exact hok
        clear hok
        go_wp2
        go_ret
        exact ⟨ret_int (by rw [HF.out]), hnx⟩

theorem Between_t (n lo hi : Int) (w : World) (h : btwB n lo hi = true) : Calls Tryz.prog 166 #[I n, I lo, I hi] w fun e w' => e = .returned (.bool true) ∧ w = w' :=
  (Between_any n lo hi w).mono fun _ _ ⟨he, hw⟩ => ⟨by rw [he, h], hw⟩
theorem Between_f (n lo hi : Int) (w : World) (h : btwB n lo hi = false) : Calls Tryz.prog 166 #[I n, I lo, I hi] w fun e w' => e = .returned (.bool false) ∧ w = w' :=
  (Between_any n lo hi w).mono fun _ _ ⟨he, hw⟩ => ⟨by rw [he, h], hw⟩

end Go.Proofs.YtpnjnedfcdppaaaGreatDoor

/-
  slices.Equal at Pair.
-/
namespace Go.Proofs.YtpnjnedfcdppaaaGreatDoor
open Go.RowKit

end Go.Proofs.YtpnjnedfcdppaaaGreatDoor

/-
  slices.Equal at Ans.
-/
namespace Go.Proofs.YtpnjnedfcdppaaaGreatDoor
open Go.RowKit

theorem An.ext' {a b : An} (h0 : a.e = b.e) (h1 : a.k = b.k) (h2 : a.v = b.v) (h3 : a.b = b.b) : a = b := by cases a; cases b; simp_all
instance : DecidableEq An := fun a b => decidable_of_iff (a.e = b.e ∧ a.k = b.k ∧ a.v = b.v ∧ a.b = b.b) ⟨fun h => An.ext' h.1 h.2.1 h.2.2.1 h.2.2.2, fun h => by subst h; simp⟩

def af (l : List An) (i j : Nat) : Value := if j = 0 then I (l[i]?.getD an0).e else if j = 1 then I (l[i]?.getD an0).k else if j = 2 then I (l[i]?.getD an0).v else .bool (l[i]?.getD an0).b
structure AS (w : World) (A : Option Addr) (n c : Nat) (l : List An) : Prop where
  len : l.length = n
  rd : Rd w w.heap.size 4 A n c (af l)
theorem AS.below {w w' : World} {n c : Nat} {A : Option Addr} {l : List An} (h : AS w A n c l) (hb : Below w.heap.size w w') : AS w' A n c l := ⟨h.len, h.rd.below hb⟩
theorem AS.at_ {w : World} {n c : Nat} {A : Option Addr} {l : List An} (h : AS w A n c l) (hn : 0 < n) :
    ∃ b off, A = some ⟨b, off, none⟩ ∧ b < w.heap.size ∧ ∀ i (hi : i < n), w.cell? ⟨b, off + i * 4, none⟩ = some (I (l[i]'(by rw [h.len]; exact hi)).e) ∧ w.cell? ⟨b, off + (i * 4 + 1), none⟩ = some (I (l[i]'(by rw [h.len]; exact hi)).k) ∧
      w.cell? ⟨b, off + (i * 4 + 2), none⟩ = some (I (l[i]'(by rw [h.len]; exact hi)).v) ∧ w.cell? ⟨b, off + (i * 4 + 3), none⟩ = some (.bool (l[i]'(by rw [h.len]; exact hi)).b) := by
  obtain ⟨b, off, e, hb, hc⟩ := h.rd.2 hn
  refine ⟨b, off, e, hb, fun i hi => ?_⟩
  have hl : i < l.length := by rw [h.len]; exact hi
  have h0 := hc i hi 0 (by omega)
  have h1 := hc i hi 1 (by omega)
  have h2 := hc i hi 2 (by omega)
  have h3 := hc i hi 3 (by omega)
  simp [af, List.getElem?_eq_getElem hl] at h0 h1 h2 h3
  exact ⟨h0, h1, h2, h3⟩

end Go.Proofs.YtpnjnedfcdppaaaGreatDoor

/-
  slices.Equal at Spot.
-/
namespace Go.Proofs.YtpnjnedfcdppaaaGreatDoor
open Go.RowKit

end Go.Proofs.YtpnjnedfcdppaaaGreatDoor

/-
  slices.Equal of lists that are the same.
-/
namespace Go.Proofs.YtpnjnedfcdppaaaGreatDoor
open Go.RowKit

end Go.Proofs.YtpnjnedfcdppaaaGreatDoor
