/-
  Check and MapRight: which lists are maps.
-/
import Derived.Test.YtolfpjleckckiaaLeaf
namespace Go.Proofs.Ytolfpjleckckiaa
open Go.RowKit

/-- the pair in place i is right, by itself and behind the one ahead of it -/
def okAt (l : PL) (i : Nat) : Prop := keyB (l[i]?.getD (0, 0)).1 = true ∧ (0 < i → (l[i - 1]?.getD (0, 0)).1 < (l[i]?.getD (0, 0)).1)
def okTo (l : PL) (k : Nat) : Prop := ∀ i, i < k → okAt l i
instance (l : PL) (i : Nat) : Decidable (okAt l i) := by unfold okAt; infer_instance
instance (l : PL) (k : Nat) : Decidable (okTo l k) := by unfold okTo; infer_instance
/-- is it a map? its error -/
def chk (l : PL) : Int := if 200 < l.length then 2 else if okTo l l.length then 0 else 3
theorem okTo_succ {l : PL} {k : Nat} (h : okTo l k) (h1 : okAt l k) : okTo l (k + 1) := fun i hi => by
  rcases Nat.lt_or_ge i k with h2 | h2
  · exact h i h2
  · obtain rfl : i = k := by omega
    exact h1

theorem isKey_t (k : Int) (w : World) (h : keyB k = true) : Calls Try.prog 46 #[I k] w fun e w' => e = .returned (.bool true) ∧ w' = w :=
  (isKey_any k w).mono fun _ _ ⟨he, hw⟩ => ⟨by rw [he, h], hw.symm⟩
theorem isKey_f (k : Int) (w : World) (h : keyB k = false) : Calls Try.prog 46 #[I k] w fun e w' => e = .returned (.bool false) ∧ w' = w :=
  (isKey_any k w).mono fun _ _ ⟨he, hw⟩ => ⟨by rw [he, h], hw.symm⟩


set_option maxHeartbeats 1000000 in
theorem Check_any (A : Option Addr) (n c : Nat) (l : PL) (w : World) (h : PS w A n c l) (hn : n ≤ 9223372036854775807) :
    Calls Try.prog 36 #[.slice A n c] w fun e w' => e = .returned (I (chk l)) ∧ Below w.heap.size w w' := by
  have H := Lib.hid h
  have Hlen := Lib.hid h.len
  clear h
  by_cases h200 : 200 < n
  · have HF : Hid (chk l = 2) := by show chk l = 2; unfold chk; rw [if_pos (by rw [Hlen.out]; exact h200)]
    go_enter Try.func36, Try.ntmps36
    go_wp2
    go_ret
    exact ⟨ret_int (by rw [HF.out]), Below.refl _ _⟩
  · go_enter Try.func36, Try.ntmps36
    go_wp2
    go_loopw [10] (fun i wr => ∃ k : Nat, k ≤ n ∧ i = .int .i64 k ∧ okTo l k ∧ Below w.heap.size w wr) (fun i _ => n - (intOf i).toNat)
    case atStart => exact ⟨0, Nat.zero_le _, rfl, fun i hi => absurd hi (by omega), Below.refl _ _⟩
    case round =>
      obtain ⟨k, hk, rfl, hok, hnx⟩ := hrel
      have hsz := hnx.size
      by_cases hlt : k < n
      · obtain ⟨b, off, rfl, hb, hc⟩ := H.out.at_ (by omega)
        have hkl : k < l.length := by have := Hlen.out; omega
        have hc0 : wr.cell? ⟨b, off + k * 2, none⟩ = some (I l[k].1) := (hnx.cell (by exact hb)).trans (hc k hlt).1
        have hc1 : wr.cell? ⟨b, off + k * 2 + 1, none⟩ = some (I l[k].2) := (hnx.cell (by exact hb)).trans (hc k hlt).2
        have hbwr : b < wr.heap.size := by omega
        cases hkey : keyB l[k].1 with
        | false =>
          have HF : Hid (chk l = 3) := by
            show chk l = 3
            unfold chk
            rw [if_neg (by rw [Hlen.out]; exact h200), if_neg]
            intro ha
            have := (ha k hkl).1
            simp [List.getElem?_eq_getElem hkl, hkey] at this
          have HK := Lib.hid hkey
          clear hkey hc hok
          go_wp2
          go_quiet ((go_at_call 46; exact Calls.quiet_of_same (isKey_f _ _ HK.out)))
          go_wp2
          go_ret
          exact ⟨ret_int (by rw [HF.out]), below_drewN (hnx.alloc hsz _) _⟩
        | true =>
          by_cases hk0 : 0 < k
          · have hkl1 : k - 1 < l.length := by omega
            have hp0 : wr.cell? ⟨b, off + (k - 1) * 2, none⟩ = some (I l[k - 1].1) := (hnx.cell (by exact hb)).trans (hc (k - 1) (by omega)).1
            by_cases hge : l[k].1 ≤ l[k - 1].1
            · have HF : Hid (chk l = 3) := by
                show chk l = 3
                unfold chk
                rw [if_neg (by rw [Hlen.out]; exact h200), if_neg]
                intro ha
                have := (ha k hkl).2 hk0
                simp [List.getElem?_eq_getElem hkl, List.getElem?_eq_getElem hkl1] at this
                omega
              have HK := Lib.hid hkey
              clear hkey hc hok
              go_wp2
              go_quiet ((go_at_call 46; exact Calls.quiet_of_same (isKey_t _ _ HK.out)))
              go_wp2
              go_ret
              exact ⟨ret_int (by rw [HF.out]), below_drewN (hnx.alloc hsz _) _⟩
            · have HO : Hid (okTo l (k + 1)) := okTo_succ hok ⟨by simpa [List.getElem?_eq_getElem hkl] using hkey, fun _ => by simp [List.getElem?_eq_getElem hkl, List.getElem?_eq_getElem hkl1]; omega⟩
              have HK := Lib.hid hkey
              clear hkey hc hok
              have hge' : ¬ l[k].1 ≤ l[k - 1].1 := hge
              go_wp2
              go_quiet ((go_at_call 46; exact Calls.quiet_of_same (isKey_t _ _ HK.out)))
              go_wp2
              go_roundw
              case rel => exact ⟨k + 1, by omega, by go_num, HO.out, below_drewN (hnx.alloc hsz _) _⟩
              case measure => simp [intOf]; omega
          · have HO : Hid (okTo l (k + 1)) := okTo_succ hok ⟨by simpa [List.getElem?_eq_getElem hkl] using hkey, fun h => absurd h hk0⟩
            have HK := Lib.hid hkey
            clear hkey hc hok
            have hd : decide (0 < k) = false := by simpa using hk0
            go_wp2
            go_quiet ((go_at_call 46; exact Calls.quiet_of_same (isKey_t _ _ HK.out)))
            go_wp2
            go_roundw
            case rel => exact ⟨k + 1, by omega, by go_num, HO.out, below_drewN (hnx.alloc hsz _) _⟩
            case measure => simp [intOf]; omega
      · have HF : Hid (chk l = 0) := by
          show chk l = 0
          unfold chk
          rw [if_neg (by rw [Hlen.out]; exact h200), if_pos]
          rw [Hlen.out, show n = k by omega]
          exact hok
        clear hok
        go_wp2
        go_ret
        exact ⟨ret_int (by rw [HF.out]), hnx⟩

theorem Between_t (n lo hi : Int) (w : World) (h : btwB n lo hi = true) : Calls Try.prog 10 #[I n, I lo, I hi] w fun e w' => e = .returned (.bool true) ∧ w = w' :=
  (Between_any n lo hi w).mono fun _ _ ⟨he, hw⟩ => ⟨by rw [he, h], hw⟩
theorem Between_f (n lo hi : Int) (w : World) (h : btwB n lo hi = false) : Calls Try.prog 10 #[I n, I lo, I hi] w fun e w' => e = .returned (.bool false) ∧ w = w' :=
  (Between_any n lo hi w).mono fun _ _ ⟨he, hw⟩ => ⟨by rw [he, h], hw⟩

/-- the key ahead of place k -/
def lastOf (l : PL) (k : Nat) : Int := if k = 0 then -1 else (l[k - 1]?.getD (0, 0)).1
theorem lastOf_bd {l : PL} {k : Nat} (h : okTo l k) : -1 ≤ lastOf l k ∧ lastOf l k ≤ 1000000 := by
  unfold lastOf
  split
  · omega
  · have := (h (k - 1) (by omega)).1
    simp [keyB] at this
    omega
theorem okAt_iff {l : PL} {k : Nat} (h : okTo l k) : okAt l k ↔ btwB (l[k]?.getD (0, 0)).1 (lastOf l k + 1) 1000000 = true := by
  have hb := lastOf_bd h
  by_cases h0 : k = 0
  · subst h0; simp [okAt, btwB, keyB, lastOf]
  · have hk : 0 < k := by omega
    have hl : lastOf l k = (l[k - 1]?.getD (0, 0)).1 := by simp [lastOf, h0]
    rw [hl] at hb ⊢
    simp only [okAt, btwB, keyB, decide_eq_true_eq]
    constructor
    · rintro ⟨h1, h2⟩
      have := h2 hk
      omega
    · rintro ⟨h1, h2⟩
      exact ⟨by omega, fun _ => by omega⟩

end Go.Proofs.Ytolfpjleckckiaa
