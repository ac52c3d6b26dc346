/-
  hedgref: KeysRight, SameInts, SameRows.
-/
import Derived.Test.YtjnkfpagaajfeaaDoorMapK
import Derived.Test.YtjnkfpagaajfeaaDoorKRows0
import Derived.Test.YtjnkfpagaajfeaaDoorKChk
import Derived.Test.YtjnkfpagaajfeaaDoorRef
import Derived.Test.YtjnkfpagaajfeaaDoorChk
namespace Go.Proofs.YtjnkfpagaajfeaaDoor
open Go.RowKit

def lastK (l : List Int) (k : Nat) : Int := if k = 0 then -1 else l[k - 1]?.getD 0
theorem lastK_bd {l : List Int} {k : Nat} (h : okKs l k) : -1 ≤ lastK l k ∧ lastK l k ≤ 1000000 := by
  unfold lastK
  split
  · omega
  · have := (h (k - 1) (by omega)).1
    simp [kyB] at this
    omega
theorem okK_iff {l : List Int} {k : Nat} (h : okKs l k) : okK l k ↔ btwB (l[k]?.getD 0) (lastK l k + 1) 1000000 = true := by
  have hb := lastK_bd h
  by_cases h0 : k = 0
  · subst h0; simp [okK, btwB, kyB, lastK]
  · have hk : 0 < k := by omega
    have hl : lastK l k = l[k - 1]?.getD 0 := by simp [lastK, h0]
    rw [hl] at hb ⊢
    simp only [okK, btwB, kyB, decide_eq_true_eq]
    constructor
    · rintro ⟨h1, h2⟩
      have := h2 hk
      omega
    · rintro ⟨h1, h2⟩
      exact ⟨by omega, fun _ => by omega⟩

set_option maxHeartbeats 1000000 in
theorem KeysRight_any (A : Option Addr) (n c : Nat) (l : List Int) (w : World) (h : IS w A n c l) (hn : n ≤ 9223372036854775807) :
    Calls Tryd.prog 29 #[.slice A n c] w fun e w' => e = .returned (I (chkK l)) ∧ w' = w := by
  have H := Lib.hid h
  have Hlen := Lib.hid h.len
  clear h
  by_cases h200 : 200 < n
  · have HF := Lib.hid (chkK_large Hlen.out h200)
    go_enter Tryd.func29, Tryd.ntmps29
    go_wp2
    go_ret
    exact ⟨ret_int (by rw [HF.out]), rfl⟩
  · go_enter Tryd.func29, Tryd.ntmps29
    go_wp2
    go_loop [3, 11] (fun t i => ∃ k : Nat, k ≤ n ∧ i = .int .i64 k ∧ t = .int .i64 (lastK l k) ∧ okKs l k) (fun _ i => n - (intOf i).toNat)
    case atStart => exact ⟨0, Nat.zero_le _, rfl, rfl, fun i hi => absurd hi (by omega)⟩
    case round =>
      obtain ⟨k, hk, rfl, rfl, hok⟩ := hrel
      obtain ⟨hl0, hl1⟩ := lastK_bd hok
      by_cases hlt : k < n
      · have hkl : k < l.length := by have := Hlen.out; omega
        obtain ⟨b, off, rfl, hb, hc0⟩ := H.out.cell_at hlt
        have hiff := okK_iff hok
        simp only [List.getElem?_eq_getElem hkl, Option.getD_some] at hiff
        cases hkey : btwB l[k] (lastK l k + 1) 1000000 with
        | false =>
          have HF : Hid (chkK l = 3) := chkK_bad Hlen.out h200 hlt fun h => by
            have := hiff.1 h
            rw [hkey] at this
            cases this
          have HK := Lib.hid hkey
          clear hkey hok hiff
          go_wp2_with (go_at_call 48; refine (Between_f _ _ _ _ HK.out).mono ?_; rintro e w' ⟨rfl, rfl⟩)
          go_ret
          exact ⟨ret_int (by rw [HF.out]), rfl⟩
        | true =>
          have HO : Hid (okKs l (k + 1)) := okKs_succ hok (hiff.2 hkey)
          have HL : Hid (lastK l (k + 1) = l[k]) := by show lastK l (k + 1) = l[k]; simp [lastK, List.getElem?_eq_getElem hkl]
          have HK := Lib.hid hkey
          clear hkey hok hiff
          go_wp2_with (go_at_call 48; refine (Between_t _ _ _ _ HK.out).mono ?_; rintro e w' ⟨rfl, rfl⟩)
          go_round
          case rel => exact ⟨k + 1, by omega, by go_num, by rw [HL.out], HO.out⟩
          case measure => simp [intOf]; omega
      · have HF : Hid (chkK l = 0) := chkK_good Hlen.out h200 (by rw [show n = k by omega]; exact hok)
        clear hok
        go_wp2
        go_ret
        exact ⟨ret_int (by rw [HF.out]), rfl⟩

theorem IS.drewN {w : World} {n c : Nat} {A : Option Addr} {l : List Int} (h : IS w A n c l) (k : Nat) : IS (w.drewN k) A n c l := ⟨h.len, h.rd⟩
end Go.Proofs.YtjnkfpagaajfeaaDoor
