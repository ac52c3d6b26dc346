/-
  hedgref: KeysRight, SameInts, SameRows.
-/
import Derived.Test.YtoebnfogkmkomaaDoorKRun
import Derived.Test.YtoebnfogkmkomaaDoorChk
namespace Go.Proofs.YtoebnfogkmkomaaDoor
open Go.RowKit

def lastK (l : List Int) (k : Nat) : Int := if k = 0 then -1 else l[k - 1]?.getD 0
theorem lastK_bd {l : List Int} {k : Nat} (h : okKs l k) : -1 ≤ lastK l k ∧ lastK l k ≤ 1000000 := by
  unfold lastK
  split
  · omega
  · have := (h (k - 1) (by omega)).1
    simp [kyB] at this
    omega
theorem okK_iff {l : List Int} {k : Nat} (h : okKs l k) : okK l k ↔ btwB (l[k]?.getD 0) (lastK l k + 1) 1000000 = true := by
  have hb := lastK_bd h
  by_cases h0 : k = 0
  · subst h0; simp [okK, btwB, kyB, lastK]
  · have hk : 0 < k := by omega
    have hl : lastK l k = l[k - 1]?.getD 0 := by simp [lastK, h0]
    rw [hl] at hb ⊢
    simp only [okK, btwB, kyB, decide_eq_true_eq]
    constructor
    · rintro ⟨h1, h2⟩
      have := h2 hk
      omega
    · rintro ⟨h1, h2⟩
      exact ⟨by omega, fun _ => by omega⟩

set_option maxHeartbeats 1000000 in
theorem KeysRight_any (A : Option Addr) (n c : Nat) (l : List Int) (w : World) (h : IS w A n c l) (hn : n ≤ 9223372036854775807) :
    Calls Tryd.prog 13 #[.slice A n c] w fun e w' => e = .returned (I (chkK l)) ∧ w' = w := by
  have H := Lib.hid h
  have Hlen := Lib.hid h.len
  clear h
  by_cases h200 : 200 < n
  · have HF := Lib.hid (chkK_large Hlen.out h200)
    go_enter Tryd.func13, Tryd.ntmps13
    go_wp2
    go_ret
    exact ⟨ret_int (by rw [HF.out]), rfl⟩
  · go_enter Tryd.func13, Tryd.ntmps13
    go_wp2
    go_loop [3, 11] (fun t i => ∃ k : Nat, k ≤ n ∧ i = .int .i64 k ∧ t = .int .i64 (lastK l k) ∧ okKs l k) (fun _ i => n - (intOf i).toNat)
    case atStart => exact ⟨0, Nat.zero_le _, rfl, rfl, fun i hi => absurd hi (by omega)⟩
    case round =>
      obtain ⟨k, hk, rfl, rfl, hok⟩ := hrel
      obtain ⟨hl0, hl1⟩ := lastK_bd hok
      by_cases hlt : k < n
      · have hkl : k < l.length := by have := Hlen.out; omega
        obtain ⟨b, off, rfl, hb, hc0⟩ := H.out.cell_at hlt
        have hiff := okK_iff hok
        simp only [List.getElem?_eq_getElem hkl, Option.getD_some] at hiff
        cases hkey : btwB l[k] (lastK l k + 1) 1000000 with
        | false =>
          have HF : Hid (chkK l = 3) := chkK_bad Hlen.out h200 hlt fun h => by
            have := hiff.1 h
            rw [hkey] at this
            cases this
          have HK := Lib.hid hkey
          clear hkey hok hiff
          go_wp2_with (go_at_call 16; refine (Between_f _ _ _ _ HK.out).mono ?_; rintro e w' ⟨rfl, rfl⟩)
          go_ret
          exact ⟨ret_int (by rw [HF.out]), rfl⟩
        | true =>
          have HO : Hid (okKs l (k + 1)) := okKs_succ hok (hiff.2 hkey)
          have HL : Hid (lastK l (k + 1) = l[k]) := by show lastK l (k + 1) = l[k]; simp [lastK, List.getElem?_eq_getElem hkl]
          have HK := Lib.hid hkey
          clear hkey hok hiff
          go_wp2_with (go_at_call 16; refine (Between_t _ _ _ _ HK.out).mono ?_; rintro e w' ⟨rfl, rfl⟩)
          go_round
          case rel => exact ⟨k + 1, by omega, by go_num, by rw [HL.out], HO.out⟩
          case measure => simp [intOf]; omega
      · have HF : Hid (chkK l = 0) := chkK_good Hlen.out h200 (by rw [show n = k by omega]; exact hok)
        clear hok
        go_wp2
        go_ret
        exact ⟨ret_int (by rw [HF.out]), rfl⟩

theorem IS.drewN {w : World} {n c : Nat} {A : Option Addr} {l : List Int} (h : IS w A n c l) (k : Nat) : IS (w.drewN k) A n c l := ⟨h.len, h.rd⟩
set_option maxRecDepth 100000 in
set_option maxHeartbeats 1000000 in
theorem sameInts_t (A A' : Option Addr) (n c c' : Nat) (l : List Int) (w : World) (h : IS w A n c l) (h' : IS w A' n c' l) (hn : n ≤ 1000) :
    Calls Tryd.prog 39 #[.slice A n c, .slice A' n c'] w fun e w' => e = .returned (.bool true) ∧ ∃ q, w' = w.drewN q := by
  have H := Lib.hid h
  have H' := Lib.hid h'
  have HL := Lib.hid h.len
  clear h h'
  have hne : ((n : Int) != (n : Int)) = false := by simp
  go_enter Tryd.func39, Tryd.ntmps39
  go_wp2
  go_loopw [13] (fun i wr => ∃ k q : Nat, k ≤ n ∧ i = .int .i64 k ∧ wr = w.drewN q) (fun i _ => n - (intOf i).toNat)
  case atStart => exact ⟨0, 0, Nat.zero_le _, rfl, rfl⟩
  case round =>
    obtain ⟨k, q, hk, rfl, rfl⟩ := hrel
    by_cases hlt : k < n
    · obtain ⟨b, off, rfl, hb, hc0⟩ := H.out.cell_at hlt
      obtain ⟨b', off', rfl, hb', hc0'⟩ := H'.out.cell_at hlt
      obtain ⟨x, hx⟩ : ∃ x, l[k]'(by rw [HL.out]; exact hlt) = x := ⟨_, rfl⟩
      rw [hx] at hc0 hc0'
      have hne2 : (x != x) = false := by simp
      clear hx
      go_wp2
      go_quiet (fail)
      go_wp2
      go_roundw
      case rel => exact ⟨k + 1, _, by omega, by go_num, rfl⟩
      case measure => simp [intOf]; omega
    · go_wp2
      go_ret
      exact ⟨rfl, q, rfl⟩

set_option maxRecDepth 100000 in
set_option maxHeartbeats 1000000 in
theorem sameRows_t (A A' : Option Addr) (m c c' : Nat) (L : List (List Int)) (w : World) (h : RI w A m c L) (h' : RI w A' m c' L) (hm : m ≤ 1000) (hl : ∀ x ∈ L, x.length ≤ 1000) :
    Calls Tryd.prog 14 #[.slice A m c, .slice A' m c'] w fun e w' => e = .returned (.bool true) ∧ ∃ q, w' = w.drewN q := by
  have H := Lib.hid h
  have H' := Lib.hid h'
  have HL := Lib.hid h.len
  have HB := Lib.hid hl
  clear h h' hl
  have hne : ((m : Int) != (m : Int)) = false := by simp
  go_enter Tryd.func14, Tryd.ntmps14
  go_wp2
  go_loopw [13] (fun i wr => ∃ k q : Nat, k ≤ m ∧ i = .int .i64 k ∧ wr = w.drewN q) (fun i _ => m - (intOf i).toNat)
  case atStart => exact ⟨0, 0, Nat.zero_le _, rfl, rfl⟩
  case round =>
    obtain ⟨k, q, hk, rfl, rfl⟩ := hrel
    by_cases hlt : k < m
    · obtain ⟨b, off, rfl, hb, hcs⟩ := H.out.at_ (by omega)
      obtain ⟨b', off', rfl, hb', hcs'⟩ := H'.out.at_ (by omega)
      obtain ⟨A1, n1, c1, hc1, his1⟩ := hcs k hlt
      obtain ⟨A2, n2, c2, hc2, his2⟩ := hcs' k hlt
      have hkl : k < L.length := by rw [HL.out]; exact hlt
      rw [List.getElem?_eq_getElem hkl, Option.getD_some] at his1 his2
      obtain rfl : n2 = n1 := by rw [← his1.len, ← his2.len]
      have hn1 : n2 ≤ 1000 := by rw [← his1.len]; exact HB.out _ (List.getElem_mem hkl)
      obtain ⟨W, hW⟩ : ∃ W, w.drewN q = W := ⟨_, rfl⟩
      have i1 : IS W A1 n2 c1 L[k] := by rw [← hW]; exact his1.drewN q
      have i2 : IS W A2 n2 c2 L[k] := by rw [← hW]; exact his2.drewN q
      have d1 : W.cell? ⟨b, off + k, none⟩ = some (.slice A1 n2 c1) := by rw [← hW]; exact hc1
      have d2 : W.cell? ⟨b', off' + k, none⟩ = some (.slice A2 n2 c2) := by rw [← hW]; exact hc2
      have HC : Hid (∀ j, Calls Tryd.prog 39 #[.slice A1 n2 c1, .slice A2 n2 c2] (W.drewN j) fun e w' => e = .returned (.bool true) ∧ ∃ p, w' = (W.drewN j).drewN p) := fun j => sameInts_t A1 A2 n2 c1 c2 _ _ (i1.drewN j) (i2.drewN j) hn1
      rw [hW]
      have HW := Lib.hid hW
      clear hcs hcs' his1 his2 i1 i2 hc1 hc2 hW
      go_wp2
      go_quiet ((go_at_call 39; exact Calls.quiet_of (HC.out _)))
      go_wp2
      go_roundw
      case rel => exact ⟨k + 1, q + nq, by omega, by go_num, by rw [← HW.out, World.drewN_drewN]⟩
      case measure => simp [intOf]; omega
    · go_wp2
      go_ret
      exact ⟨rfl, q, rfl⟩
end Go.Proofs.YtoebnfogkmkomaaDoor
