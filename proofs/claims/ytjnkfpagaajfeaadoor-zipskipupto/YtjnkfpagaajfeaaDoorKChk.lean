/-
  WHICH LISTS ARE KEYS: skip.isKey, skip.check.
-/
import Derived.Test.YtjnkfpagaajfeaaDoorKPure
import Derived.Test.YtjnkfpagaajfeaaDoorKLiftAll
namespace Go.Proofs.YtjnkfpagaajfeaaDoor
open Go.RowKit

set_option maxHeartbeats 400000 in
theorem isKeyS_any (k : Int) (w : World) : Calls Tryd.prog 42 #[I k] w fun e w' => e = .returned (.bool (kyB k)) ∧ w' = w := by
  by_cases h0 : 0 ≤ k
  · by_cases h1 : k ≤ 1000000
    · have hk : kyB k = true := by simp [kyB, h0, h1]
      go_enter Tryd.func42, Tryd.ntmps42
      go_wp2
      go_ret
      exact ⟨by simp [hk], rfl⟩
    · have hk : kyB k = false := by simp [kyB, h0, h1]
      go_enter Tryd.func42, Tryd.ntmps42
      go_wp2
      go_ret
      exact ⟨by simp [hk], rfl⟩
  · have hk : kyB k = false := by simp [kyB, h0]
    go_enter Tryd.func42, Tryd.ntmps42
    go_wp2
    go_ret
    exact ⟨by simp [hk], rfl⟩
theorem isKeyS_is (k : Int) (w : World) (b : Bool) (h : kyB k = b) : Calls Tryd.prog 42 #[I k] w fun e w' => e = .returned (.bool b) ∧ w' = w := h ▸ isKeyS_any k w

theorem chkK_bad {l : List Int} {n k : Nat} (hl : l.length = n) (hn : ¬ 200 < n) (hk : k < n) (h : ¬ okK l k) : chkK l = 3 := by
  unfold chkK
  rw [if_neg (by omega), if_neg]
  intro ha
  exact h (ha k (by omega))
theorem chkK_good {l : List Int} {n : Nat} (hl : l.length = n) (hn : ¬ 200 < n) (h : okKs l n) : chkK l = 0 := by
  unfold chkK
  rw [if_neg (by omega), if_pos (by rw [hl]; exact h)]
theorem chkK_large {l : List Int} {n : Nat} (hl : l.length = n) (hn : 200 < n) : chkK l = 2 := by
  unfold chkK
  rw [if_pos (by omega)]

set_option maxHeartbeats 1000000 in
theorem checkS_any (A : Option Addr) (n c : Nat) (l : List Int) (w : World) (h : IS w A n c l) (hn : n ≤ 9223372036854775807) :
    Calls Tryd.prog 41 #[.slice A n c] w fun e w' => e = .returned (I (chkK l)) ∧ Below w.heap.size w w' := by
  have H := Lib.hid h
  have Hlen := Lib.hid h.len
  clear h
  by_cases h200 : 200 < n
  · have HF := Lib.hid (chkK_large Hlen.out h200)
    go_enter Tryd.func41, Tryd.ntmps41
    go_wp2
    go_ret
    exact ⟨ret_int (by rw [HF.out]), Below.refl _ _⟩
  · go_enter Tryd.func41, Tryd.ntmps41
    go_wp2
    go_loopw [10] (fun i wr => ∃ k : Nat, k ≤ n ∧ i = .int .i64 k ∧ okKs l k ∧ Below w.heap.size w wr) (fun i _ => n - (intOf i).toNat)
    case atStart => exact ⟨0, Nat.zero_le _, rfl, fun i hi => absurd hi (by omega), Below.refl _ _⟩
    case round =>
      obtain ⟨k, hk, rfl, hok, hnx⟩ := hrel
      have hsz := hnx.size
      by_cases hlt : k < n
      · obtain ⟨b, off, rfl, hb, hc⟩ := H.out.at_ (by omega)
        have hkl : k < l.length := by have := Hlen.out; omega
        have hc0 : wr.cell? ⟨b, off + k, none⟩ = some (I l[k]) := (hnx.cell (by exact hb)).trans (hc k hlt)
        have hbwr : b < wr.heap.size := by omega
        cases hkey : kyB l[k] with
        | false =>
          have HF : Hid (chkK l = 3) := chkK_bad Hlen.out h200 hlt fun h => by
            have := h.1
            simp [List.getElem?_eq_getElem hkl, hkey] at this
          have HK := Lib.hid hkey
          clear hkey hc hok
          go_wp2_with (go_at_call 42; refine (isKeyS_is _ _ _ HK.out).mono ?_; rintro e w' ⟨rfl, rfl⟩)
          go_ret
          exact ⟨ret_int (by rw [HF.out]), hnx⟩
        | true =>
          by_cases hk0 : 0 < k
          · have hkl1 : k - 1 < l.length := by omega
            have hp0 : wr.cell? ⟨b, off + (k - 1), none⟩ = some (I l[k - 1]) := (hnx.cell (by exact hb)).trans (hc (k - 1) (by omega))
            by_cases hge : l[k] ≤ l[k - 1]
            · have HF : Hid (chkK l = 3) := chkK_bad Hlen.out h200 hlt fun h => by
                have := h.2 hk0
                simp [List.getElem?_eq_getElem hkl, List.getElem?_eq_getElem hkl1] at this
                omega
              have HK := Lib.hid hkey
              clear hkey hc hok
              go_wp2_with (go_at_call 42; refine (isKeyS_is _ _ _ HK.out).mono ?_; rintro e w' ⟨rfl, rfl⟩)
              go_ret
              exact ⟨ret_int (by rw [HF.out]), hnx⟩
            · have HO : Hid (okKs l (k + 1)) := okKs_succ hok ⟨by simpa [List.getElem?_eq_getElem hkl] using hkey, fun _ => by simp [List.getElem?_eq_getElem hkl, List.getElem?_eq_getElem hkl1]; omega⟩
              have HK := Lib.hid hkey
              clear hkey hc hok
              go_wp2_with (go_at_call 42; refine (isKeyS_is _ _ _ HK.out).mono ?_; rintro e w' ⟨rfl, rfl⟩)
              go_roundw
              case rel => exact ⟨k + 1, by omega, by go_num, HO.out, hnx⟩
              case measure => simp [intOf]; omega
          · have HO : Hid (okKs l (k + 1)) := okKs_succ hok ⟨by simpa [List.getElem?_eq_getElem hkl] using hkey, fun h => absurd h hk0⟩
            have HK := Lib.hid hkey
            clear hkey hc hok
            have hd : decide (0 < k) = false := by simpa using hk0
            go_wp2_with (go_at_call 42; refine (isKeyS_is _ _ _ HK.out).mono ?_; rintro e w' ⟨rfl, rfl⟩)
            go_roundw
            case rel => exact ⟨k + 1, by omega, by go_num, HO.out, hnx⟩
            case measure => simp [intOf]; omega
      · have HF : Hid (chkK l = 0) := chkK_good Hlen.out h200 (by rw [show n = k by omega]; exact hok)
        clear hok
        go_wp2
        go_ret
        exact ⟨ret_int (by rw [HF.out]), hnx⟩

end Go.Proofs.YtjnkfpagaajfeaaDoor
