/-
  Joined texts: YtpnjnedfcdppaaaGreatDoorLeaf, YtpnjnedfcdppaaaGreatDoorChk, YtpnjnedfcdppaaaGreatDoorCopy, YtpnjnedfcdppaaaGreatDoorOwn.
-/
import Derived.Test.YtpnjnedfcdppaaaGreatDoorChecked
import Derived.Test.YtpnjnedfcdppaaaGreatDoorSPureAll
import Derived.BigQuiet
import Derived.Deep.QuietTactic
import Derived.Laws.CopyOwn
import Derived.Laws.MakeOwn
import Derived.StillTailTactics
/-
  LEAVES: isKey, Between, countBelow, hasAt.
-/
namespace Go.Proofs.YtpnjnedfcdppaaaGreatDoor
open Go.RowKit

def keyB (k : Int) : Bool := decide (0 ≤ k ∧ k ≤ 1000000)
def btwB (n lo hi : Int) : Bool := decide (lo ≤ n ∧ n ≤ hi)

set_option maxHeartbeats 400000 in
theorem isKey_any (k : Int) (w : World) : Calls Tryz.prog 186 #[I k] w fun e w' => e = .returned (.bool (keyB k)) ∧ w = w' := by
  by_cases h0 : 0 ≤ k
  · by_cases h1 : k ≤ 1000000
    · have hk : keyB k = true := by simp [keyB, h0, h1]
      go_enter Tryz.func186, Tryz.ntmps186
      go_wp2
      go_ret
      exact ⟨by simp [hk], rfl⟩
    · have hk : keyB k = false := by simp [keyB, h0, h1]
      go_enter Tryz.func186, Tryz.ntmps186
      go_wp2
      go_ret
      exact ⟨by simp [hk], rfl⟩
  · have hk : keyB k = false := by simp [keyB, h0]
    go_enter Tryz.func186, Tryz.ntmps186
    go_wp2
    go_ret
    exact ⟨by simp [hk], rfl⟩

set_option maxHeartbeats 400000 in
theorem Between_any (n lo hi : Int) (w : World) : Calls Tryz.prog 166 #[I n, I lo, I hi] w fun e w' => e = .returned (.bool (btwB n lo hi)) ∧ w = w' := by
  by_cases h0 : lo ≤ n
  · by_cases h1 : n ≤ hi
    · have hk : btwB n lo hi = true := by simp [btwB, h0, h1]
      go_enter Tryz.func166, Tryz.ntmps166
      go_wp2
      go_ret
      exact ⟨by simp [hk], rfl⟩
    · have hk : btwB n lo hi = false := by simp [btwB, h0, h1]
      go_enter Tryz.func166, Tryz.ntmps166
      go_wp2
      go_ret
      exact ⟨by simp [hk], rfl⟩
  · have hk : btwB n lo hi = false := by simp [btwB, h0]
    go_enter Tryz.func166, Tryz.ntmps166
    go_wp2
    go_ret
    exact ⟨by simp [hk], rfl⟩

/-- how many, from the beginning on, are less -/
def cnt (l : PL) (key : Int) : Nat := (l.takeWhile fun p => decide (p.1 < key)).length
theorem cnt_le (l : PL) (key : Int) : cnt l key ≤ l.length := by
  unfold cnt
  induction l with
  | nil => simp
  | cons p t ih => rw [List.takeWhile_cons]; split <;> simp; exact ih
theorem cnt_lt (l : PL) (key : Int) : ∀ i (h : i < cnt l key), (l[i]'(Nat.lt_of_lt_of_le h (cnt_le l key))).1 < key := by
  induction l with
  | nil => intro i h; simp [cnt] at h
  | cons p t ih =>
    intro i h
    unfold cnt at h
    rw [List.takeWhile_cons] at h
    split at h
    · rename_i hp
      match i, h with
      | 0, _ => simpa using hp
      | i + 1, h => exact ih i (by simp at h; exact h)
    · simp at h
theorem cnt_stop (l : PL) (key : Int) (h : cnt l key < l.length) : ¬ (l[cnt l key]).1 < key := by
  induction l with
  | nil => simp at h
  | cons p t ih =>
    by_cases hp : p.1 < key
    · have e : cnt (p :: t) key = cnt t key + 1 := by simp [cnt, List.takeWhile_cons, hp]
      simp only [e, List.getElem_cons_succ]
      exact ih (by rw [e] at h; simpa using h)
    · have e : cnt (p :: t) key = 0 := by simp [cnt, List.takeWhile_cons, hp]
      simp only [e, List.getElem_cons_zero]
      exact hp

set_option maxHeartbeats 400000 in
theorem countBelow_any (A : Option Addr) (n c : Nat) (l : PL) (key : Int) (w : World) (h : PS w A n c l) (hn : n ≤ 1000000) :
    Calls Tryz.prog 187 #[.slice A n c, I key] w fun e w' => e = .returned (I (cnt l key)) ∧ w = w' := by
  have H := Lib.hid h
  have Hlen := Lib.hid h.len
  clear h
  go_enter Tryz.func187, Tryz.ntmps187
  go_wp2
  go_loop [5] (fun t => ∃ k : Nat, k ≤ n ∧ k ≤ cnt l key ∧ t = .int .i64 k) (fun t => n - (intOf t).toNat)
  case atStart => exact ⟨0, Nat.zero_le _, Nat.zero_le _, rfl⟩
  case round =>
    obtain ⟨k, hk, hkc, rfl⟩ := hrel
    have hcn : cnt l key ≤ n := by have := cnt_le l key; rw [Hlen.out] at this; exact this
    by_cases hlt : k < n
    · obtain ⟨b, off, rfl, hb, hc⟩ := H.out.at_ (by omega)
      have hc0 := (hc k hlt).1
      have hkl : k < l.length := by have := Hlen.out; omega
      have hcell : w.cell? ⟨b, off + k * 2, none⟩ = some (I l[k].1) := hc0
      have HC := Lib.hid hc
      clear hc hc0
      by_cases hkey : l[k].1 < key
      · have hkc' : k + 1 ≤ cnt l key := by
          rcases Nat.lt_or_ge k (cnt l key) with h1 | h1
          · exact h1
          · have e : k = cnt l key := by omega
            subst e
            exact absurd hkey (cnt_stop l key hkl)
        go_wp2
        go_round
        case rel => exact ⟨k + 1, by omega, by omega, by go_num⟩
        case measure => simp [intOf]; omega
      · have hke : k = cnt l key := by
          rcases Nat.lt_or_ge k (cnt l key) with h1 | h1
          · exact absurd (cnt_lt l key k h1) hkey
          · omega
        have HK := Lib.hid hke
        clear hke
        go_wp2
        go_ret
        exact ⟨ret_int (by rw [← HK.out]), rfl⟩
    · have HK : Hid (k = cnt l key) := by show k = cnt l key; omega
      go_wp2
      go_ret
      exact ⟨ret_int (by rw [← HK.out]), rfl⟩

/-- is the pair in place p one of this key? -/
def hasB (l : PL) (p : Nat) (key : Int) : Bool := match l[p]? with
  | some q => q.1 == key
  | none => false

set_option maxHeartbeats 400000 in
theorem hasAt_any (A : Option Addr) (n c p : Nat) (l : PL) (key : Int) (w : World) (h : PS w A n c l) (hn : n ≤ 1000000) (hp : p ≤ 1000000) :
    Calls Tryz.prog 188 #[.slice A n c, I p, I key] w fun e w' => e = .returned (.bool (hasB l p key)) ∧ w = w' := by
  have H := Lib.hid h
  have Hlen := Lib.hid h.len
  clear h
  by_cases hlt : p < n
  · obtain ⟨b, off, rfl, hb, hc⟩ := H.out.at_ (by omega)
    have hkl : p < l.length := by have := Hlen.out; omega
    have hcell : w.cell? ⟨b, off + p * 2, none⟩ = some (I l[p].1) := (hc p hlt).1
    have HF : Hid (hasB l p key = (l[p].1 == key)) := by show hasB l p key = (l[p].1 == key); simp [hasB, List.getElem?_eq_getElem hkl]
    clear hc
    go_enter Tryz.func188, Tryz.ntmps188
    go_wp2
    go_ret
    exact ⟨by rw [HF.out]; rfl, rfl⟩
  · have HF : Hid (hasB l p key = false) := by
      show hasB l p key = false
      have : l[p]? = none := List.getElem?_eq_none (by have := Hlen.out; omega)
      simp [hasB, this]
    go_enter Tryz.func188, Tryz.ntmps188
    go_wp2
    go_ret
    exact ⟨by rw [HF.out]; rfl, rfl⟩

/-- how many are less -/
def blw (l : PL) (key : Int) : Nat := (l.filter fun p => decide (p.1 < key)).length
theorem blw_le (l : PL) (key : Int) : blw l key ≤ l.length := List.length_filter_le _ _
theorem blw_step (l : PL) (key : Int) (k : Nat) (h : k < l.length) : blw (l.take (k + 1)) key = blw (l.take k) key + if l[k].1 < key then 1 else 0 := by
  rw [List.take_succ_eq_append_getElem h]
  unfold blw
  rw [List.filter_append]
  by_cases hk : l[k].1 < key <;> simp [hk]

set_option maxHeartbeats 400000 in
theorem Below_any (A : Option Addr) (n c : Nat) (l : PL) (key : Int) (w : World) (h : PS w A n c l) (hn : n ≤ 1000000) :
    Calls Tryz.prog 171 #[.slice A n c, I key] w fun e w' => e = .returned (I (blw l key)) ∧ Below w.heap.size w w' := by
  have H := Lib.hid h
  have Hlen := Lib.hid h.len
  clear h
  go_enter Tryz.func171, Tryz.ntmps171
  go_wp2
  go_loopw [5, 10] (fun t i wr => ∃ k : Nat, k ≤ n ∧ i = .int .i64 k ∧ t = .int .i64 (blw (l.take k) key) ∧ Below w.heap.size w wr) (fun _ i _ => n - (intOf i).toNat)
  case atStart => exact ⟨0, Nat.zero_le _, rfl, rfl, Below.refl _ _⟩
  case round =>
    obtain ⟨k, hk, rfl, rfl, hnx⟩ := hrel
    have hbl : blw (l.take k) key ≤ k := Nat.le_trans (blw_le _ _) (by simp; omega)
    by_cases hlt : k < n
    · obtain ⟨b, off, rfl, hb, hc⟩ := H.out.at_ (by omega)
      have hkl : k < l.length := by have := Hlen.out; omega
      have hc0 : wr.cell? ⟨b, off + k * 2, none⟩ = some (I l[k].1) := (hnx.cell (by exact hb)).trans (hc k hlt).1
      have hc1 : wr.cell? ⟨b, off + k * 2 + 1, none⟩ = some (I l[k].2) := (hnx.cell (by exact hb)).trans (hc k hlt).2
      have hst := blw_step l key k hkl
      have HS := Lib.hid hst
      clear hc hst
      have hsz := hnx.size
      by_cases hkey : l[k].1 < key
      · go_wp2
        go_roundw
        case rel => exact ⟨k + 1, by omega, by go_num, by rw [HS.out, if_pos hkey]; go_num, hnx.alloc hsz _⟩
        case measure => simp [intOf]; omega
      · go_wp2
        go_roundw
        case rel => exact ⟨k + 1, by omega, by go_num, by rw [HS.out, if_neg (by omega)]; go_num, hnx.alloc hsz _⟩
        case measure => simp [intOf]; omega
    · go_wp2
      go_ret
      have hkn : l.take k = l := List.take_of_length_le (by have := Hlen.out; omega)
      exact ⟨ret_int (by rw [hkn]), hnx⟩

end Go.Proofs.YtpnjnedfcdppaaaGreatDoor

/-
  Check and MapRight: which lists are maps.
-/
namespace Go.Proofs.YtpnjnedfcdppaaaGreatDoor
open Go.RowKit

/-- the pair in place i is right, by itself and behind the one ahead of it -/
def okAt (l : PL) (i : Nat) : Prop := keyB (l[i]?.getD (0, 0)).1 = true ∧ (0 < i → (l[i - 1]?.getD (0, 0)).1 < (l[i]?.getD (0, 0)).1)
def okTo (l : PL) (k : Nat) : Prop := ∀ i, i < k → okAt l i
instance (l : PL) (i : Nat) : Decidable (okAt l i) := by unfold okAt; infer_instance
instance (l : PL) (k : Nat) : Decidable (okTo l k) := by unfold okTo; infer_instance
/-- is it a map? its error -/
def chk (l : PL) : Int := if 200 < l.length then 2 else if okTo l l.length then 0 else 3
theorem okTo_succ {l : PL} {k : Nat} (h : okTo l k) (h1 : okAt l k) : okTo l (k + 1) := fun i hi => by
  rcases Nat.lt_or_ge i k with h2 | h2
  · exact h i h2
  · obtain rfl : i = k := by omega
    exact h1

theorem isKey_t (k : Int) (w : World) (h : keyB k = true) : Calls Tryz.prog 186 #[I k] w fun e w' => e = .returned (.bool true) ∧ w' = w :=
  (isKey_any k w).mono fun _ _ ⟨he, hw⟩ => ⟨by rw [he, h], hw.symm⟩
theorem isKey_f (k : Int) (w : World) (h : keyB k = false) : Calls Tryz.prog 186 #[I k] w fun e w' => e = .returned (.bool false) ∧ w' = w :=
  (isKey_any k w).mono fun _ _ ⟨he, hw⟩ => ⟨by rw [he, h], hw.symm⟩


set_option maxHeartbeats 1000000 in
theorem Check_any (A : Option Addr) (n c : Nat) (l : PL) (w : World) (h : PS w A n c l) (hn : n ≤ 9223372036854775807) :
    Calls Tryz.prog 121 #[.slice A n c] w fun e w' => e = .returned (I (chk l)) ∧ Below w.heap.size w w' := by
  have H := Lib.hid h
  have Hlen := Lib.hid h.len
  clear h
  by_cases h200 : 200 < n
  · have HF : Hid (chk l = 2) := by show chk l = 2; unfold chk; rw [if_pos (by rw [Hlen.out]; exact h200)]
    go_enter Tryz.func121, Tryz.ntmps121
    go_wp2
    go_ret
    exact ⟨ret_int (by rw [HF.out]), Below.refl _ _⟩
  · go_enter Tryz.func121, Tryz.ntmps121
    go_wp2
    go_loopw [10] (fun i wr => ∃ k : Nat, k ≤ n ∧ i = .int .i64 k ∧ okTo l k ∧ Below w.heap.size w wr) (fun i _ => n - (intOf i).toNat)
    case atStart => exact ⟨0, Nat.zero_le _, rfl, fun i hi => absurd hi (by omega), Below.refl _ _⟩
    case round =>
      obtain ⟨k, hk, rfl, hok, hnx⟩ := hrel
      have hsz := hnx.size
      by_cases hlt : k < n
      · obtain ⟨b, off, rfl, hb, hc⟩ := H.out.at_ (by omega)
        have hkl : k < l.length := by have := Hlen.out; omega
        have hc0 : wr.cell? ⟨b, off + k * 2, none⟩ = some (I l[k].1) := (hnx.cell (by exact hb)).trans (hc k hlt).1
        have hc1 : wr.cell? ⟨b, off + k * 2 + 1, none⟩ = some (I l[k].2) := (hnx.cell (by exact hb)).trans (hc k hlt).2
        have hbwr : b < wr.heap.size := by omega
        cases hkey : keyB l[k].1 with
        | false =>
          have HF : Hid (chk l = 3) := by
            show chk l = 3
            unfold chk
            rw [if_neg (by rw [Hlen.out]; exact h200), if_neg]
            intro ha
            have := (ha k hkl).1
            simp [List.getElem?_eq_getElem hkl, hkey] at this
          have HK := Lib.hid hkey
          clear hkey hc hok
          go_wp2
          go_quiet ((go_at_call 186; exact Calls.quiet_of_same (isKey_f _ _ HK.out)))
          go_wp2
          go_ret
          exact ⟨ret_int (by rw [HF.out]), below_drewN (hnx.alloc hsz _) _⟩
        | true =>
          by_cases hk0 : 0 < k
          · have hkl1 : k - 1 < l.length := by omega
            have hp0 : wr.cell? ⟨b, off + (k - 1) * 2, none⟩ = some (I l[k - 1].1) := (hnx.cell (by exact hb)).trans (hc (k - 1) (by omega)).1
            by_cases hge : l[k].1 ≤ l[k - 1].1
            · have HF : Hid (chk l = 3) := by
                show chk l = 3
                unfold chk
                rw [if_neg (by rw [Hlen.out]; exact h200), if_neg]
                intro ha
                have := (ha k hkl).2 hk0
                simp [List.getElem?_eq_getElem hkl, List.getElem?_eq_getElem hkl1] at this
                omega
              have HK := Lib.hid hkey
              clear hkey hc hok
              go_wp2
              go_quiet ((go_at_call 186; exact Calls.quiet_of_same (isKey_t _ _ HK.out)))
              go_wp2
              go_ret
              exact ⟨ret_int (by rw [HF.out]), below_drewN (hnx.alloc hsz _) _⟩
            · have HO : Hid (okTo l (k + 1)) := okTo_succ hok ⟨by simpa [List.getElem?_eq_getElem hkl] using hkey, fun _ => by simp [List.getElem?_eq_getElem hkl, List.getElem?_eq_getElem hkl1]; omega⟩
              have HK := Lib.hid hkey
              clear hkey hc hok
              have hge' : ¬ l[k].1 ≤ l[k - 1].1 := hge
              go_wp2
              go_quiet ((go_at_call 186; exact Calls.quiet_of_same (isKey_t _ _ HK.out)))
              go_wp2
              go_roundw
              case rel => exact ⟨k + 1, by omega, by go_num, HO.out, below_drewN (hnx.alloc hsz _) _⟩
              case measure => simp [intOf]; omega
          · have HO : Hid (okTo l (k + 1)) := okTo_succ hok ⟨by simpa [List.getElem?_eq_getElem hkl] using hkey, fun h => absurd h hk0⟩
            have HK := Lib.hid hkey
            clear hkey hc hok
            have hd : decide (0 < k) = false := by simpa using hk0
            go_wp2
            go_quiet ((go_at_call 186; exact Calls.quiet_of_same (isKey_t _ _ HK.out)))
            go_wp2
            go_roundw
            case rel => exact ⟨k + 1, by omega, by go_num, HO.out, below_drewN (hnx.alloc hsz _) _⟩
            case measure => simp [intOf]; omega
      · have HF : Hid (chk l = 0) := by
          show chk l = 0
          unfold chk
          rw [if_neg (by rw [Hlen.out]; exact h200), if_pos]
          rw [Hlen.out, show n = k by omega]
          exact hok
        clear hok
        go_wp2
        go_ret
        exact ⟨ret_int (by rw [HF.out]), hnx⟩

theorem Between_t (n lo hi : Int) (w : World) (h : btwB n lo hi = true) : Calls Tryz.prog 166 #[I n, I lo, I hi] w fun e w' => e = .returned (.bool true) ∧ w = w' :=
  (Between_any n lo hi w).mono fun _ _ ⟨he, hw⟩ => ⟨by rw [he, h], hw⟩
theorem Between_f (n lo hi : Int) (w : World) (h : btwB n lo hi = false) : Calls Tryz.prog 166 #[I n, I lo, I hi] w fun e w' => e = .returned (.bool false) ∧ w = w' :=
  (Between_any n lo hi w).mono fun _ _ ⟨he, hw⟩ => ⟨by rw [he, h], hw⟩

/-- the key ahead of place k -/
def lastOf (l : PL) (k : Nat) : Int := if k = 0 then -1 else (l[k - 1]?.getD (0, 0)).1
theorem lastOf_bd {l : PL} {k : Nat} (h : okTo l k) : -1 ≤ lastOf l k ∧ lastOf l k ≤ 1000000 := by
  unfold lastOf
  split
  · omega
  · have := (h (k - 1) (by omega)).1
    simp [keyB] at this
    omega
theorem okAt_iff {l : PL} {k : Nat} (h : okTo l k) : okAt l k ↔ btwB (l[k]?.getD (0, 0)).1 (lastOf l k + 1) 1000000 = true := by
  have hb := lastOf_bd h
  by_cases h0 : k = 0
  · subst h0; simp [okAt, btwB, keyB, lastOf]
  · have hk : 0 < k := by omega
    have hl : lastOf l k = (l[k - 1]?.getD (0, 0)).1 := by simp [lastOf, h0]
    rw [hl] at hb ⊢
    simp only [okAt, btwB, keyB, decide_eq_true_eq]
    constructor
    · rintro ⟨h1, h2⟩
      have := h2 hk
      omega
    · rintro ⟨h1, h2⟩
      exact ⟨by omega, fun _ => by omega⟩

end Go.Proofs.YtpnjnedfcdppaaaGreatDoor

/-
  PAIRS IN A ROW OF THE CALL'S OWN: what make and copy do to it. Nothing of the program.
-/
namespace Go.Proofs.YtpnjnedfcdppaaaGreatDoor
open Go.RowKit

/-- the cells of a list of pairs -/
def flat : PL → List Value
  | [] => []
  | p :: t => I p.1 :: I p.2 :: flat t
theorem flat_length (l : PL) : (flat l).length = l.length * 2 := by induction l <;> simp [flat, *]; omega
theorem flat_append (l m : PL) : flat (l ++ m) = flat l ++ flat m := by induction l <;> simp [flat, *]
theorem flat_take (l : PL) (k : Nat) : (flat l).take (k * 2) = flat (l.take k) := by
  induction l generalizing k with
  | nil => simp [flat]
  | cons p t ih => cases k with
    | zero => simp [flat]
    | succ k => rw [show (k + 1) * 2 = k * 2 + 1 + 1 by omega]; simp [flat, ih]
theorem flat_drop (l : PL) (k : Nat) : (flat l).drop (k * 2) = flat (l.drop k) := by
  induction l generalizing k with
  | nil => simp [flat]
  | cons p t ih => cases k with
    | zero => simp [flat]
    | succ k => rw [show (k + 1) * 2 = k * 2 + 1 + 1 by omega]; simp [flat, ih]
theorem flat_at (l : PL) (i : Nat) (h : i < l.length) : (flat l)[i * 2]? = some (I l[i].1) ∧ (flat l)[i * 2 + 1]? = some (I l[i].2) := by
  induction l generalizing i with
  | nil => simp at h
  | cons p t ih => cases i with
    | zero => simp [flat]
    | succ i =>
      rw [show (i + 1) * 2 = i * 2 + 1 + 1 by omega]
      have := ih i (by simpa using h)
      simpa [flat] using this
theorem flat_one (l : PL) : ∀ v ∈ flat l, v.oneCell' = true := by
  induction l with
  | nil => simp [flat]
  | cons p t ih =>
    intro v hv
    simp [flat] at hv
    rcases hv with rfl | rfl | hv
    · rfl
    · rfl
    · exact ih v hv
theorem flat_made (n : Nat) : madeCells #[I 0, I 0] (n * 2) = (flat (List.replicate n (0, 0))).toArray := by
  apply Array.ext
  · simp [size_madeCells, flat_length]
  · intro k h1 h2
    simp only [size_madeCells] at h1
    have hb : k / 2 < (List.replicate n ((0 : Int), (0 : Int))).length := by simp; omega
    have hf := flat_at (List.replicate n (0, 0)) (k / 2) hb
    simp only [List.getElem_replicate] at hf
    have hz : (madeCells #[I 0, I 0] (n * 2))[k] = I 0 := by
      have : k % 2 = 0 ∨ k % 2 = 1 := by omega
      rcases this with h | h <;> simp [madeCells, h]
    rw [hz]
    have hk : (flat (List.replicate n (0, 0)))[k]? = some (I 0) := by
      have : k % 2 = 0 ∨ k % 2 = 1 := by omega
      rcases this with h | h
      · rw [show k = k / 2 * 2 by omega]; exact hf.1
      · rw [show k = k / 2 * 2 + 1 by omega]; exact hf.2
    have h3 : k < (flat (List.replicate n (0, 0))).length := by simpa using h2
    rw [List.getElem?_eq_getElem h3] at hk
    have := Option.some.inj hk
    simpa using this.symm
theorem flat_set1 (l : PL) (i : Nat) (v : Int) (h : i < l.length) : (flat l).set (i * 2 + 1) (I v) = flat (l.set i (l[i].1, v)) := by
  induction l generalizing i with
  | nil => simp at h
  | cons p t ih => cases i with
    | zero => simp [flat]
    | succ i =>
      rw [show (i + 1) * 2 + 1 = i * 2 + 1 + 1 + 1 by omega]
      have := ih i (by simpa using h)
      simp [flat, this]
theorem flat_set2 (l : PL) (i : Nat) (k v : Int) (h : i < l.length) : ((flat l).set (i * 2) (I k)).set (i * 2 + 1) (I v) = flat (l.set i (k, v)) := by
  induction l generalizing i with
  | nil => simp at h
  | cons p t ih => cases i with
    | zero => simp [flat]
    | succ i =>
      rw [show (i + 1) * 2 + 1 = i * 2 + 1 + 1 + 1 by omega, show (i + 1) * 2 = i * 2 + 1 + 1 by omega]
      have := ih i (by simpa using h)
      simp [flat, this]

/-- block g is just the pairs L -/
def PB (w : World) (g t : Nat) (L : PL) : Prop := w.heap[g]? = some (.cells (flat L).toArray t (0, 0))
theorem PB.lt {w : World} {g t : Nat} {L : PL} (h : PB w g t L) : g < w.heap.size := by
  rcases Nat.lt_or_ge g w.heap.size with hlt | hge
  · exact hlt
  · unfold PB at h; rw [Array.getElem?_eq_none hge] at h; cases h
theorem PB.cell {w : World} {g t : Nat} {L : PL} (h : PB w g t L) (i : Nat) : w.cell? ⟨g, i, none⟩ = (flat L)[i]? := by
  unfold PB at h
  simp [World.cell?, h]
theorem PB.frozen {w : World} {g t : Nat} {L : PL} (h : PB w g t L) (i : Nat) : w.frozen? ⟨g, i, none⟩ = false := by
  unfold PB at h
  simp [World.frozen?, h]
theorem PB.ps {w : World} {g t c : Nat} {L : PL} (h : PB w g t L) (hc : L.length ≤ c) : PS w (some ⟨g, 0, none⟩) L.length c L := by
  refine ⟨rfl, hc, fun _ => ⟨g, 0, rfl, h.lt, fun i hi j hj => ?_⟩⟩
  rw [h.cell]
  have := flat_at L i hi
  have hl : L[i]?.getD (0, 0) = L[i] := by simp [List.getElem?_eq_getElem hi]
  rcases (show j = 0 ∨ j = 1 by omega) with rfl | rfl
  · simpa [pf, hl] using this.1
  · simpa [pf, hl] using this.2
theorem PB.below {w w' : World} {g t B : Nat} {L : PL} (h : PB w g t L) (hb : Below B w w') (hg : g < B) : PB w' g t L := (hb.block g hg).trans h
theorem PB.new (w : World) (t : Nat) (L : PL) : PB (w.alloc (.cells (flat L).toArray t)) w.heap.size t L := heap_alloc_new w _
theorem PB.set2 {w : World} {g t : Nat} {L : PL} (h : PB w g t L) (i : Nat) (k v : Int) (hi : i < L.length) : PB ((w.setCell ⟨g, i * 2, none⟩ (I k)).setCell ⟨g, i * 2 + 1, none⟩ (I v)) g t (L.set i (k, v)) := by
  have h1 := setCell_eq_setRow w g (i * 2) _ t (0, 0) (I k) h
  have h2 := setRow_heap w g _ ((flat L).toArray.setIfInBounds (i * 2) (I k)) t (0, 0) h
  rw [h1]
  have h3 := setCell_eq_setRow (w.setRow g ((flat L).toArray.setIfInBounds (i * 2) (I k))) g (i * 2 + 1) _ t (0, 0) (I v) h2
  rw [h3]
  have h4 := setRow_heap (w.setRow g ((flat L).toArray.setIfInBounds (i * 2) (I k))) g _ (((flat L).toArray.setIfInBounds (i * 2) (I k)).setIfInBounds (i * 2 + 1) (I v)) t (0, 0) h2
  unfold PB
  rw [h4, ← flat_set2 L i k v hi]
  simp
theorem PB.set1 {w : World} {g t : Nat} {L : PL} (h : PB w g t L) (i : Nat) (v : Int) (hi : i < L.length) : PB (w.setCell ⟨g, i * 2 + 1, none⟩ (I v)) g t (L.set i (L[i].1, v)) := by
  have h1 := setCell_eq_setRow w g (i * 2 + 1) _ t (0, 0) (I v) h
  rw [h1]
  have h4 := setRow_heap w g _ ((flat L).toArray.setIfInBounds (i * 2 + 1) (I v)) t (0, 0) h
  unfold PB
  rw [h4, ← flat_set1 L i v hi]
  simp

theorem PB.far {w : World} {g t : Nat} {L : PL} (h : PB w g t L) {p : Addr} (hp : p.block ≠ g) (u : Value) : PB (w.setCell p u) g t L := (Below.heap_setCell w p u g (fun e => hp e.symm)).trans h
/-- a source of pairs: whatever the address where there are none -/
def Src (w : World) (sp : Option Addr) (m : Nat) (xs : PL) : Prop := xs.length = m ∧ (0 < m → ∃ ad, sp = some ad ∧ ∀ j v, (flat xs)[j]? = some v → w.cell? (ad.add j) = some v)
theorem addn (b off n : Nat) : (⟨b, off, none⟩ : Addr).add n = ⟨b, off + n, none⟩ := by unfold Addr.add; split <;> simp_all
theorem PS.cells {w : World} {n c : Nat} {A : Option Addr} {l : PL} (h : PS w A n c l) (hn : 0 < n) : ∃ b off, A = some ⟨b, off, none⟩ ∧ b < w.heap.size ∧ ∀ j v, (flat l)[j]? = some v → w.cell? ⟨b, off + j, none⟩ = some v := by
  obtain ⟨b, off, e, hb, hc⟩ := h.rd.2 hn
  refine ⟨b, off, e, hb, fun j v hv => ?_⟩
  have hj : j < l.length * 2 := by
    rcases Nat.lt_or_ge j (l.length * 2) with h1 | h1
    · exact h1
    · rw [List.getElem?_eq_none (by rw [flat_length]; exact h1)] at hv; cases hv
  have hl := h.len
  have hi : j / 2 < l.length := by omega
  have hf := flat_at l (j / 2) hi
  have hx := hc (j / 2) (by omega) (j % 2) (by omega)
  rw [show j / 2 * 2 + j % 2 = j by omega] at hx
  rw [hx, ← hv]
  have hg : l[j / 2]?.getD (0, 0) = l[j / 2] := by simp [List.getElem?_eq_getElem hi]
  rcases (show j % 2 = 0 ∨ j % 2 = 1 by omega) with h2 | h2
  · rw [show j = j / 2 * 2 by omega, hf.1, show j / 2 * 2 / 2 = j / 2 by omega, show j / 2 * 2 % 2 = 0 by omega]; simp [pf, hg]
  · rw [show j = j / 2 * 2 + 1 by omega, hf.2, show (j / 2 * 2 + 1) / 2 = j / 2 by omega, show (j / 2 * 2 + 1) % 2 = 1 by omega]; simp [pf, hg]
theorem PS.src {w : World} {n c : Nat} {A : Option Addr} {l : PL} (h : PS w A n c l) : Src w A n l := by
  refine ⟨h.len, fun hn => ?_⟩
  obtain ⟨b, off, e, _, hc⟩ := h.cells hn
  exact ⟨_, e, fun j v hv => by rw [addn]; exact hc j v hv⟩
theorem PS.srcTake {w : World} {n c : Nat} {A : Option Addr} {l : PL} (h : PS w A n c l) (k : Nat) (hk : k ≤ n) : Src w A k (l.take k) := by
  refine ⟨by simp [h.len]; omega, fun hn => ?_⟩
  obtain ⟨b, off, e, _, hc⟩ := h.cells (by omega)
  refine ⟨_, e, fun j v hv => ?_⟩
  rw [addn]
  refine hc j v ?_
  rw [← flat_take, List.getElem?_take] at hv
  split at hv
  · exact hv
  · cases hv
theorem PS.srcDrop {w : World} {n c : Nat} {A : Option Addr} {l : PL} (h : PS w A n c l) (k : Nat) (hk : k ≤ n) (sp : Option Addr) (hs : k < n → ∀ b off, A = some ⟨b, off, none⟩ → sp = some ⟨b, off + k * 2, none⟩) : Src w sp (n - k) (l.drop k) := by
  refine ⟨by simp [h.len], fun hn => ?_⟩
  obtain ⟨b, off, e, _, hc⟩ := h.cells (by omega)
  refine ⟨_, hs (by omega) b off e, fun j v hv => ?_⟩
  rw [addn, Nat.add_assoc]
  refine hc _ v ?_
  rw [← flat_drop, List.getElem?_drop] at hv
  exact hv
theorem Src.below {w w' : World} {sp : Option Addr} {m : Nat} {xs : PL} (h : Src w sp m xs) (hb : Below w.heap.size w w') (hlt : ∀ ad, sp = some ad → ad.block < w.heap.size) : Src w' sp m xs :=
  ⟨h.1, fun hm => by
    obtain ⟨ad, e, hc⟩ := h.2 hm
    refine ⟨ad, e, fun j v hv => (hb.cell ?_).trans (hc j v hv)⟩
    have := hlt ad e
    unfold Addr.add
    split <;> exact this⟩

/-- what copy leaves in the row: from place k on the first of xs -/
def cop (L : PL) (k : Nat) (xs : PL) (m : Nat) : PL := L.take k ++ (xs.take m ++ L.drop (k + m))

theorem run_copyP {P : Program} (w : World) (T ty elem : TypeId) (hu : P.underlying T = some (.slice elem)) (hsz : (P.info? elem).map (·.size) = some 2)
    (dp sp : Option Addr) (dLen dCap sLen sCap g k t : Nat) (L xs : PL) (hg : PB w g t L) (hx : Src w sp sLen xs) (hfit : k + dLen ≤ L.length) (hdp : 0 < dLen → dp = some ⟨g, k * 2, none⟩) :
    ∃ w', (Builtin.copy_ #[T, T] ty #[.slice dp dLen dCap, .slice sp sLen sCap]).run P w = .ok (goInt (Nat.min sLen dLen)) w' ∧ PB w' g t (cop L k xs (Nat.min sLen dLen)) ∧
      (∀ B, B ≤ g → Below B w w') := by
  cases hq : P.info? elem with
  | none => simp [hq] at hsz
  | some i =>
    have hi : i.size = 2 := by simpa [hq] using hsz
    by_cases hm : Nat.min sLen dLen = 0
    · refine ⟨w, ?_, ?_, fun B _ => Below.refl _ _⟩
      · have hl : ∀ (x : Addr), (loadCells x 0).run P w = .ok #[] w := fun x => by simpa using run_loadCells_list (P := P) w x [] (by simp)
        cases dp <;> cases sp <;> simp [Builtin.copy_, run_underlying hu, Builtin.lenOf, Builtin.firstCells, sizeOf, typeInfo, hq, hm, storeCells, hl]
      · rw [hm]; unfold PB at *; simpa [cop] using hg
    · have hs0 : 0 < sLen := by rcases Nat.eq_zero_or_pos sLen with h | h; · simp [h] at hm
                                · exact h
      have hd0 : 0 < dLen := by rcases Nat.eq_zero_or_pos dLen with h | h; · simp [h] at hm
                                · exact h
      obtain rfl := hdp hd0
      obtain ⟨ad, rfl, hc⟩ := hx.2 hs0
      have hmin : Nat.min sLen dLen ≤ sLen ∧ Nat.min sLen dLen ≤ dLen := ⟨Nat.min_le_left _ _, Nat.min_le_right _ _⟩
      generalize hmm : Nat.min sLen dLen = m at *
      have hcl : (flat (xs.take m)).length = m * 2 := by rw [flat_length, List.length_take, hx.1]; congr 1; omega
      have hl := run_loadCells_list (P := P) w ad (flat (xs.take m)) (fun j v hv => hc j v (by
        rw [← flat_take, List.getElem?_take] at hv
        split at hv
        · exact hv
        · cases hv))
      have hsize : k * 2 + (m * 2) ≤ (flat L).toArray.size := by simp [flat_length]; omega
      have hst := run_storeCells_at P g (k * 2) t (flat (xs.take m)) 0 (flat L).toArray w hg (by rw [hcl]; simpa using hsize) (flat_one _)
      rw [hcl] at hl hst
      have hrow : (flat L).toArray.toList.take (k * 2 + 0) ++ flat (xs.take m) ++ (flat L).toArray.toList.drop (k * 2 + 0 + m * 2) = flat (cop L k xs m) := by
        simp only [Nat.add_zero, ← Nat.add_mul, flat_take, flat_drop, cop, flat_append, List.append_assoc]
      rw [hrow] at hst
      refine ⟨w.setRow g (flat (cop L k xs m)).toArray, ?_, ?_, ?_⟩
      · simp [Builtin.copy_, run_underlying hu, Builtin.lenOf, Builtin.firstCells, sizeOf, typeInfo, hq, hi, hmm, hl, hst]
      · exact setRow_heap w g _ _ t _ hg
      · intro B hB
        exact below_setRow (Below.refl _ _) hB _


theorem wp_copyP {P : Program} {w : World} {o : Oper} {a : Act} {K : Act → World → Prop} {Q : Exit → Act → World → Prop} (d s : Operand) (T : TypeId)
    (ho : o.op = .call { callee := .builtin .copy, args := #[d, s], argTypes := #[T, T] }) (elem : TypeId) (hu : P.underlying T = some (.slice elem)) (hsz : (P.info? elem).map (·.size) = some 2)
    (dp sp : Option Addr) (dLen dCap sLen sCap : Nat) (hd : a.eval d = .slice dp dLen dCap) (hs : a.eval s = .slice sp sLen sCap)
    (g k t : Nat) (L xs : PL) (hg : PB w g t L) (hx : Src w sp sLen xs) (hfit : k + dLen ≤ L.length) (hdp : 0 < dLen → dp = some ⟨g, k * 2, none⟩)
    (h : ∀ w', PB w' g t (cop L k xs (Nat.min sLen dLen)) → (∀ B, B ≤ g → Below B w w') → K (a.put o.dst (goInt (Nat.min sLen dLen))) w') : o.wp P a w K Q := by
  obtain ⟨w', hrun, h1, h2⟩ := run_copyP (P := P) w T o.type elem hu hsz dp sp dLen dCap sLen sCap g k t L xs hg hx hfit hdp
  unfold Oper.wp
  simp only [execOp, ho, resolve, invoke, builtin, Sem.run_bind, Sem.run_pure, Result.andThen_ok, List.map_toArray, List.map_cons, List.map_nil, hd, hs, hrun]
  exact h w' h1 h2

theorem wpList_copyP {P : Program} {w : World} {ops : Array Oper} {rest : List Oper} {o : Oper} {a : Act} {Q : Exit → Act → World → Prop} (hgd : o.guard = none) (d s : Operand) (T : TypeId)
    (ho : o.op = .call { callee := .builtin .copy, args := #[d, s], argTypes := #[T, T] }) (elem : TypeId) (hu : P.underlying T = some (.slice elem)) (hsz : (P.info? elem).map (·.size) = some 2)
    (dp sp : Option Addr) (dLen dCap sLen sCap : Nat) (hd : a.eval d = .slice dp dLen dCap) (hs : a.eval s = .slice sp sLen sCap)
    (g k t : Nat) (L xs : PL) (hg : PB w g t L) (hx : Src w sp sLen xs) (hfit : k + dLen ≤ L.length) (hdp : 0 < dLen → dp = some ⟨g, k * 2, none⟩)
    (h : ∀ w', PB w' g t (cop L k xs (Nat.min sLen dLen)) → (∀ B, B ≤ g → Below B w w') → wpList P ops Q rest (a.put o.dst (goInt (Nat.min sLen dLen))) w') : wpList P ops Q (o :: rest) a w :=
  wpList_plain hgd fun _ hK => wp_copyP d s T ho elem hu hsz dp sp dLen dCap sLen sCap hd hs g k t L xs hg hx hfit hdp fun w' h1 h2 => hK _ _ (h w' h1 h2)

theorem run_makeP {P : Program} (t e : TypeId) (ht : P.underlying t = some (.slice e)) (hi : (P.info? e).map (fun i => (i.zero, i.size, i.bytes)) = some (some (.agg #[I 0, I 0]), 2, 16)) (n : Nat) (hn : n ≤ 1000000) (w : World) :
    (Instr.makeSlice t (.int .i64 (n : Int)) (.int .i64 (n : Int))).run P w = .ok (.slice (some ⟨w.heap.size, 0, none⟩) n n) (w.alloc (.cells (flat (List.replicate n (0, 0))).toArray e)) := by
  obtain ⟨i, h1, hz, hs, hb⟩ := info_parts hi
  have := run_make (P := P) w t e i _ ht h1 hz .i64 .i64 n n (by omega) (by omega) (by rw [hb]; omega) (by omega)
  rw [this, hs]
  simp only [Int.toNat_natCast, Value.cells]
  rw [flat_made]

end Go.Proofs.YtpnjnedfcdppaaaGreatDoor

/-
  copyOf, pairAt, get, isOp.
-/
namespace Go.Proofs.YtpnjnedfcdppaaaGreatDoor
open Go.RowKit

theorem pair_info : (Tryz.prog.info? 48).map (fun i => (i.zero, i.size, i.bytes)) = some (some (.agg #[I 0, I 0]), 2, 16) := by kernel_rfl
theorem pair_size : (Tryz.prog.info? 48).map (·.size) = some 2 := by kernel_rfl

theorem cop_all (n : Nat) (l : PL) (h : l.length = n) : cop (List.replicate n (0, 0)) 0 l n = l := by
  simp [cop, ← h]

set_option maxHeartbeats 400000 in
theorem copyOf_any (A : Option Addr) (n c : Nat) (l : PL) (w : World) (h : PS w A n c l) (hn : n ≤ 1000000) :
    Calls Tryz.prog 123 #[.slice A n c] w fun e w' => e = .returned (.slice (some ⟨w.heap.size, 0, none⟩) n n) ∧ PB w' w.heap.size 48 l ∧ Below w.heap.size w w' := by
  have hmk := fun W => run_makeP (P := Tryz.prog) 33 48 Tryz.underlying33 pair_info n hn W
  have H := Lib.hid h
  clear h
  have hb : Below w.heap.size w (w.alloc (.cells (flat (List.replicate n (0, 0))).toArray 48)) := (Below.refl _ _).alloc (Nat.le_refl _) _
  go_enter Tryz.func123, Tryz.ntmps123
  go_wp2_with (with_reducible refine wpList_copyP rfl (.tmp 7) (.tmp 8) 33 rfl 48 Tryz.underlying33 pair_size (some ⟨w.heap.size, 0, none⟩) A n n n c rfl rfl w.heap.size 0 48 (List.replicate n (0, 0)) l (PB.new _ _ _) ((H.out.below hb).src) (by simp) (fun _ => rfl) ?_)
  intro w1 hp hb1
  go_wp2
  go_ret
  refine ⟨rfl, ?_, hb.trans (hb1 _ (Nat.le_refl _))⟩
  rw [cop_all n l H.out.len] at hp
  exact hp

/-- the pair in a place -/
def pairA (l : PL) (p : Int) : An := if 0 ≤ p ∧ p < l.length then ⟨0, (l[p.toNat]?.getD (0, 0)).1, (l[p.toNat]?.getD (0, 0)).2, true⟩ else an0
theorem pairA_in (l : PL) (k : Nat) (h : k < l.length) : pairA l k = ⟨0, l[k].1, l[k].2, true⟩ := by
  unfold pairA
  rw [if_pos (by omega)]
  simp [List.getElem?_eq_getElem h]

set_option maxHeartbeats 400000 in
theorem pairAt_any (A : Option Addr) (n c : Nat) (l : PL) (p : Int) (w : World) (h : PS w A n c l) (hn : n ≤ 1000000) :
    Calls Tryz.prog 190 #[.slice A n c, I p] w fun e w' => e = .returned (anV (pairA l p)) ∧ Below w.heap.size w w' := by
  have H := Lib.hid h
  have Hlen := Lib.hid h.len
  clear h
  by_cases h0 : p < 0
  · have HF : Hid (pairA l p = an0) := by show pairA l p = an0; unfold pairA; rw [if_neg (by omega)]
    go_enter Tryz.func190, Tryz.ntmps190
    go_wp2
    exact bodyPost_ret (v := anV an0) (by simp [results, Tryz.results190, go_sem]) rfl ⟨by rw [HF.out], (Below.refl _ _).alloc (Nat.le_refl _) _⟩
  · by_cases h1 : p < n
    · obtain ⟨k, rfl⟩ := Int.eq_ofNat_of_zero_le (show 0 ≤ p by omega)
      have hlt : k < n := by omega
      have hkl : k < l.length := by have := Hlen.out; omega
      obtain ⟨b, off, rfl, hb, hc⟩ := H.out.at_ (by omega)
      have hc0 : w.cell? ⟨b, off + k * 2, none⟩ = some (I l[k].1) := (hc k hlt).1
      have hc1 : w.cell? ⟨b, off + k * 2 + 1, none⟩ = some (I l[k].2) := (hc k hlt).2
      have HF := Lib.hid (pairA_in l k hkl)
      clear hc
      go_enter Tryz.func190, Tryz.ntmps190
      go_wp2
      go_region
      all_goals go_wp2
      exact bodyPost_ret (v := anV ⟨0, l[k].1, l[k].2, true⟩) (by simp [results, Tryz.results190, go_sem]) rfl ⟨by rw [HF.out], ((Below.refl _ _).alloc (Nat.le_refl _) _).drew⟩
    · have HF : Hid (pairA l p = an0) := by show pairA l p = an0; unfold pairA; rw [if_neg (by have := Hlen.out; omega)]
      go_enter Tryz.func190, Tryz.ntmps190
      go_wp2
      exact bodyPost_ret (v := anV an0) (by simp [results, Tryz.results190, go_sem]) rfl ⟨by rw [HF.out], (Below.refl _ _).alloc (Nat.le_refl _) _⟩

theorem hasAt_t (A : Option Addr) (n c p : Nat) (l : PL) (key : Int) (w : World) (h : PS w A n c l) (hn : n ≤ 1000000) (hp : p ≤ 1000000) (hh : hasB l p key = true) :
    Calls Tryz.prog 188 #[.slice A n c, I p, I key] w fun e w' => e = .returned (.bool true) ∧ w = w' :=
  (hasAt_any A n c p l key w h hn hp).mono fun _ _ ⟨he, hw⟩ => ⟨by rw [he, hh], hw⟩
theorem hasAt_f (A : Option Addr) (n c p : Nat) (l : PL) (key : Int) (w : World) (h : PS w A n c l) (hn : n ≤ 1000000) (hp : p ≤ 1000000) (hh : hasB l p key = false) :
    Calls Tryz.prog 188 #[.slice A n c, I p, I key] w fun e w' => e = .returned (.bool false) ∧ w = w' :=
  (hasAt_any A n c p l key w h hn hp).mono fun _ _ ⟨he, hw⟩ => ⟨by rw [he, hh], hw⟩
theorem hasB_lt {l : PL} {p : Nat} {key : Int} (h : hasB l p key = true) : p < l.length := by
  unfold hasB at h
  split at h
  · rename_i q hq; exact (List.getElem?_eq_some_iff.1 hq).1
  · cases h

/-- what a key's value is -/
def getA (l : PL) (key : Int) : An := if hasB l (cnt l key) key then ⟨0, 0, (l[cnt l key]?.getD (0, 0)).2, true⟩ else an0

set_option maxHeartbeats 400000 in
theorem get_any (A : Option Addr) (n c : Nat) (l : PL) (key : Int) (w : World) (h : PS w A n c l) (hn : n ≤ 1000000) :
    Calls Tryz.prog 189 #[.slice A n c, I key] w fun e w' => e = .returned (anV (getA l key)) ∧ Below w.heap.size w w' := by
  have H := Lib.hid h
  have Hlen := Lib.hid h.len
  clear h
  have hcn : cnt l key ≤ n := by have := cnt_le l key; rw [Hlen.out] at this; exact this
  cases hh : hasB l (cnt l key) key with
  | true =>
    have hkl := hasB_lt hh
    have hlt : cnt l key < n := by have := Hlen.out; omega
    have HF : Hid (getA l key = ⟨0, 0, l[cnt l key].2, true⟩) := by show getA l key = _; simp [getA, hh, List.getElem?_eq_getElem hkl]
    have HH := Lib.hid hh
    obtain ⟨b, off, rfl, hb, hc⟩ := H.out.at_ (by omega)
    have hc1 : w.cell? ⟨b, off + cnt l key * 2 + 1, none⟩ = some (I l[cnt l key].2) := (hc _ hlt).2
    clear hh hc
    go_enter Tryz.func189, Tryz.ntmps189
    go_wp2_with fail
    refine (countBelow_any _ n c l key _ (H.out.alloc _) hn).mono ?_
    rintro e w' ⟨rfl, rfl⟩
    go_wp2_with fail
    refine (hasAt_t _ n c (cnt l key) l key _ (H.out.alloc _) hn (by omega) HH.out).mono ?_
    rintro e w' ⟨rfl, rfl⟩
    go_wp2
    exact bodyPost_ret (v := anV ⟨0, 0, l[cnt l key].2, true⟩) (by simp [results, Tryz.results189, go_sem]) rfl ⟨by rw [HF.out], (Below.refl _ _).alloc (Nat.le_refl _) _⟩
  | false =>
    have HF : Hid (getA l key = an0) := by show getA l key = _; simp [getA, hh]
    have HH := Lib.hid hh
    clear hh
    go_enter Tryz.func189, Tryz.ntmps189
    go_wp2_with fail
    refine (countBelow_any _ n c l key _ (H.out.alloc _) hn).mono ?_
    rintro e w' ⟨rfl, rfl⟩
    go_wp2_with fail
    refine (hasAt_f _ n c (cnt l key) l key _ (H.out.alloc _) hn (by omega) HH.out).mono ?_
    rintro e w' ⟨rfl, rfl⟩
    go_wp2
    exact bodyPost_ret (v := anV an0) (by simp [results, Tryz.results189, go_sem]) rfl ⟨by rw [HF.out], (Below.refl _ _).alloc (Nat.le_refl _) _⟩

/-- is it an op? -/
def opB (kind key : Int) : Bool := if 1 ≤ kind ∧ kind ≤ 5 then keyB key else decide (kind = 6 ∨ kind = 7)
theorem kinds (kind : Int) : kind = 1 ∨ kind = 2 ∨ kind = 3 ∨ kind = 4 ∨ kind = 5 ∨ kind = 6 ∨ kind = 7 ∨ (kind < 1 ∨ 7 < kind) := by omega

set_option maxHeartbeats 1000000 in
theorem isOp_any (kind key val : Int) (w : World) :
    Calls Tryz.prog 122 #[.agg #[I kind, I key, I val]] w fun e w' => e = .returned (.bool (opB kind key)) ∧ Below w.heap.size w w' := by
  rcases kinds kind with rfl | rfl | rfl | rfl | rfl | rfl | rfl | h
  iterate 5
    · go_enter Tryz.func122, Tryz.ntmps122
      go_wp2_with (go_at_call 186; refine (isKey_any _ _).mono ?_; rintro e w' ⟨rfl, rfl⟩)
      go_ret
      exact ⟨rfl, (Below.refl _ _).alloc (Nat.le_refl _) _⟩
  iterate 2
    · go_enter Tryz.func122, Tryz.ntmps122
      go_wp2
      go_ret
      exact ⟨rfl, (Below.refl _ _).alloc (Nat.le_refl _) _⟩
  · have HF : Hid (opB kind key = false) := by
      show opB kind key = false
      unfold opB
      rw [if_neg (by omega)]
      exact decide_eq_false (by omega)
    have h1 : (kind == 1) = false := beq_eq_false_iff_ne.2 (by omega)
    have h2 : (kind == 2) = false := beq_eq_false_iff_ne.2 (by omega)
    have h3 : (kind == 3) = false := beq_eq_false_iff_ne.2 (by omega)
    have h4 : (kind == 4) = false := beq_eq_false_iff_ne.2 (by omega)
    have h5 : (kind == 5) = false := beq_eq_false_iff_ne.2 (by omega)
    have h6 : (kind == 6) = false := beq_eq_false_iff_ne.2 (by omega)
    have h7 : (kind == 7) = false := beq_eq_false_iff_ne.2 (by omega)
    clear h
    go_enter Tryz.func122, Tryz.ntmps122
    go_wp2
    go_ret
    exact ⟨by rw [HF.out]; rfl, (Below.refl _ _).alloc (Nat.le_refl _) _⟩

end Go.Proofs.YtpnjnedfcdppaaaGreatDoor
