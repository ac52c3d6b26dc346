/-
  best.hasKeys, metOnWay.
-/
import Derived.Test.YtpnjnedfcdppaaaGreatDoorBChk
import Derived.Test.YtpnjnedfcdppaaaGreatDoorBTab
import Derived.Test.YtpnjnedfcdppaaaGreatDoorSParAll
namespace Go.Proofs.YtpnjnedfcdppaaaGreatDoor
open Go.RowKit

set_option maxRecDepth 100000 in
set_option maxHeartbeats 1000000 in
theorem hasKeys_any (A : Option Addr) (n c : Nat) (m : Nat) (l : PL) (w : World) (h : PS w A n c l) (hn : n ≤ 200) (hm : m ≤ 20) :
    Calls Tryz.prog 70 #[.slice A n c, I m] w fun e w' => e = .returned (.bool (keysR l m)) ∧ Below w.heap.size w w' := by
  have H := Lib.hid h
  have Hlen := Lib.hid h.len
  clear h
  go_enter Tryz.func70, Tryz.ntmps70
  go_wp2
  go_loopw [9] (fun i wr => ∃ k : Nat, k ≤ n ∧ i = .int .i64 k ∧ Hid (∀ q, q < k → ky l q = q) ∧ Below w.heap.size w wr) (fun i _ => n - (intOf i).toNat)
  case atStart => exact ⟨0, Nat.zero_le _, rfl, fun q hq => absurd hq (by omega), Below.refl _ _⟩
  case round =>
    obtain ⟨k, hk, rfl, HK, hnx⟩ := hrel
    have hsz := hnx.size
    by_cases hlt : k < n
    · obtain ⟨b, off, rfl, hb, hc⟩ := H.out.dat (by omega)
      have hc0 : wr.cell? ⟨b, off + k * 2, none⟩ = some (I (ky l k)) := (hnx.cell (by exact hb)).trans (hc k hlt).1
      have hc1 : wr.cell? ⟨b, off + k * 2 + 1, none⟩ = some (I (dp l k)) := (hnx.cell (by exact hb)).trans (hc k hlt).2
      have hbwr : b < wr.heap.size := by omega
      obtain ⟨x, hx⟩ : ∃ x, ky l k = x := ⟨_, rfl⟩
      rw [hx] at hc0
      clear hc
      by_cases he : x = (k : Int)
      · have HE : Hid (∀ q, q < k + 1 → ky l q = q) := fun q hq => by
          rcases Nat.lt_or_ge q k with h1 | h1
          · exact HK.out q h1
          · obtain rfl : q = k := by omega
            rw [hx, he]
        have hb0 : (x != (k : Int)) = false := by simp [he]
        clear hx he
        go_wp2
        go_roundw
        case rel => exact ⟨k + 1, by omega, by go_num, HE.out, hnx.alloc hsz _⟩
        case measure => simp [intOf]; omega
      · have HE : Hid (keysR l m = false) := by
          show _ = _
          unfold keysR
          rw [decide_eq_false_iff_not]
          rintro ⟨_, h2⟩
          exact he (by rw [← hx]; exact h2 k (by rw [Hlen.out]; exact hlt))
        have hb0 : (x != (k : Int)) = true := by simpa using he
        clear hx he
        go_wp2
        go_ret
        exact ⟨by rw [HE.out]; rfl, hnx.alloc hsz _⟩
    · have HE : Hid (keysR l m = ((n : Int) == (m : Int))) := by
        show _ = _
        unfold keysR
        by_cases hnm : n = m
        · subst hnm
          rw [decide_eq_true]
          · simp
          · exact ⟨Hlen.out, fun q hq => HK.out q (by rw [Hlen.out] at hq; omega)⟩
        · rw [decide_eq_false]
          · have : ¬ ((n : Int) = (m : Int)) := by omega
            simp [this]
          · rintro ⟨h1, _⟩
            rw [Hlen.out] at h1
            exact hnm h1
      go_wp2
      go_ret
      exact ⟨by rw [HE.out]; rfl, hnx⟩

/-- nodes met in the first k of the slice -/
def pmx (l : PL) (lo : Nat) : Nat → Int
  | 0 => 0
  | k + 1 => max (pmx l lo k) (dp l (lo + k) + 1)
theorem pmx_bd {l : PL} {lo q : Nat} (h : ∀ k, k < q → 0 ≤ dp l (lo + k) ∧ dp l (lo + k) ≤ 200) : ∀ k, k ≤ q → 0 ≤ pmx l lo k ∧ pmx l lo k ≤ 201
  | 0, _ => by simp [pmx]
  | k + 1, hk => by
    have h1 := pmx_bd h k (by omega)
    have h2 := h k (by omega)
    rw [pmx]
    omega
theorem pmx_none (l : PL) (h : l.length = 0) : mtd 0 l 0 = 0 := by
  unfold mtd
  rw [if_neg (by omega), if_neg (by omega)]
  first | done | rfl | decide
theorem pmx_first (l : PL) (h : 0 < l.length) (hd : 0 ≤ dp l 0) : pmx l 0 1 = mtd 0 l 0 := by
  unfold mtd
  rw [if_neg (by omega), if_pos h]
  simp only [pmx, Nat.zero_add]
  omega
theorem pmx_last (l : PL) {n : Nat} (h : l.length = n) (h0 : 0 < n) (hd : 0 ≤ dp l (n - 1)) : pmx l (n - 1) 1 = mtd 0 l n := by
  unfold mtd
  rw [if_pos h0, if_neg (by omega)]
  simp only [pmx, Nat.add_zero]
  omega
theorem pmx_mid (l : PL) {n g : Nat} (h : l.length = n) (h0 : 0 < g) (h1 : g < n) (hd : 0 ≤ dp l (g - 1)) (hd2 : 0 ≤ dp l g) : pmx l (g - 1) 2 = mtd 0 l g := by
  unfold mtd
  rw [if_pos h0, if_pos (by omega)]
  simp only [pmx, Nat.add_zero, show g - 1 + 1 = g by omega] <;> omega

set_option maxRecDepth 100000 in
set_option maxHeartbeats 1000000 in
theorem met_none (A : Option Addr) (c : Nat) (l : PL) (w : World) (h : PS w A 0 c l) :
    Calls Tryz.prog 71 #[.slice A 0 c, I (0 : Nat)] w fun e w' => e = .returned (I (mtd 0 l 0)) ∧ Below w.heap.size w w' := by
  have HE : Hid (mtd 0 l 0 = 0) := pmx_none l h.len
  clear h
  go_enter Tryz.func71, Tryz.ntmps71
  go_wp2
  all_goals
    (go_loopw [5, 19] (fun s i wr => s = .int .i64 0 ∧ i = .int .i64 0 ∧ wr = w) (fun _ _ _ => 0)
     case atStart => exact ⟨rfl, rfl, rfl⟩
     case round =>
       obtain ⟨rfl, rfl, rfl⟩ := hrel
       go_wp2
       go_ret
       exact ⟨ret_int (by rw [HE.out]), Below.refl _ _⟩)

set_option maxRecDepth 100000 in
set_option maxHeartbeats 2000000 in
theorem met_first (A : Option Addr) (n c : Nat) (l : PL) (w : World) (h : PS w A n c l) (hn : n ≤ 200) (h0 : 0 < n) (hd : ∀ i, 0 ≤ dp l i ∧ dp l i ≤ 200) :
    Calls Tryz.prog 71 #[.slice A n c, I (0 : Nat)] w fun e w' => e = .returned (I (mtd 0 l (0))) ∧ Below w.heap.size w w' := by
  have H := Lib.hid h
  have hcap := h.rd.1
  have HD := Lib.hid hd
  have HE : Hid (pmx l (0) 1 = mtd 0 l (0)) := pmx_first l (by rw [h.len]; exact h0) (hd 0).1
  obtain ⟨b, off, rfl, hb, hc⟩ := H.out.dat (by omega)
  have HC : Hid (∀ k, k < 1 → w.cell? ⟨b, off + k * 2, none⟩ = some (I (ky l (0 + k))) ∧ w.cell? ⟨b, off + k * 2 + 1, none⟩ = some (I (dp l (0 + k)))) := fun k hk => by
    have := hc (0 + k) (by omega)
    rw [show off + (0 + k) * 2 = off + k * 2 by omega] at this
    exact this
  have HPB : Hid (∀ k, k ≤ 1 → 0 ≤ pmx l (0) k ∧ pmx l (0) k ≤ 201) := pmx_bd (fun k _ => hd (0 + k))
  have hmn : (if (n : Int) < 1 then (n : Int) else 1) = 1 := by split <;> omega
  have hn1 : ¬ ((n : Int) < 1) := by omega
  clear h hd hc
  go_enter Tryz.func71, Tryz.ntmps71
  go_wp2
  go_loopw [5, 19] (fun s i wr => ∃ (k : Nat) (x : Int), k ≤ 1 ∧ i = .int .i64 k ∧ s = .int .i64 x ∧ Hid (pmx l (0) k = x) ∧ Below w.heap.size w wr) (fun _ i _ => 1 - (intOf i).toNat)
  case atStart => exact ⟨0, 0, by omega, rfl, rfl, (rfl : pmx l (0) 0 = 0), Below.refl _ _⟩
  case round =>
    obtain ⟨k, x, hk, rfl, rfl, HX, hnx⟩ := hrel
    have hsz := hnx.size
    by_cases hlt : k < 1
    · have hc0 : wr.cell? ⟨b, off + k * 2, none⟩ = some (I (ky l (0 + k))) := (hnx.cell (by exact hb)).trans (HC.out k hlt).1
      have hc1 : wr.cell? ⟨b, off + k * 2 + 1, none⟩ = some (I (dp l (0 + k))) := (hnx.cell (by exact hb)).trans (HC.out k hlt).2
      have hbwr : b < wr.heap.size := by omega
      have hx := HPB.out k hk
      rw [HX.out] at hx
      have hdd := HD.out (0 + k)
      have hs : pmx l (0) (k + 1) = max (pmx l (0) k) (dp l (0 + k) + 1) := rfl
      rw [HX.out] at hs
      generalize dp l (0 + k) = d at *
      generalize ky l (0 + k) = kk at *
      obtain ⟨M, hM⟩ : ∃ M, (if x < d + 1 then d + 1 else x) = M := ⟨_, rfl⟩
      have HS : Hid (pmx l (0) (k + 1) = M) := by show _ = _; rw [hs, ← hM]; split <;> omega
      clear hs
      go_wp2
      go_roundw
      case rel => exact ⟨k + 1, M, by omega, by go_num, rfl, HS.out, hnx.alloc hsz _⟩
      case measure => simp [intOf]; omega
    · obtain rfl : k = 1 := by omega
      have HF : Hid (x = mtd 0 l (0)) := by show _ = _; rw [← HX.out, HE.out]
      go_wp2
      go_ret
      exact ⟨ret_int HF.out, hnx⟩

set_option maxRecDepth 100000 in
set_option maxHeartbeats 2000000 in
theorem met_last (A : Option Addr) (n c : Nat) (l : PL) (w : World) (h : PS w A n c l) (hn : n ≤ 200) (h0 : 0 < n) (hd : ∀ i, 0 ≤ dp l i ∧ dp l i ≤ 200) :
    Calls Tryz.prog 71 #[.slice A n c, I n] w fun e w' => e = .returned (I (mtd 0 l (n))) ∧ Below w.heap.size w w' := by
  have H := Lib.hid h
  have hcap := h.rd.1
  have HD := Lib.hid hd
  have HE : Hid (pmx l (n - 1) 1 = mtd 0 l (n)) := pmx_last l h.len h0 (hd _).1
  obtain ⟨b, off, rfl, hb, hc⟩ := H.out.dat (by omega)
  have HC : Hid (∀ k, k < 1 → w.cell? ⟨b, off + (n - 1) * 2 + k * 2, none⟩ = some (I (ky l (n - 1 + k))) ∧ w.cell? ⟨b, off + (n - 1) * 2 + k * 2 + 1, none⟩ = some (I (dp l (n - 1 + k)))) := fun k hk => by
    have := hc (n - 1 + k) (by omega)
    rw [show off + (n - 1 + k) * 2 = off + (n - 1) * 2 + k * 2 by omega] at this
    exact this
  have HPB : Hid (∀ k, k ≤ 1 → 0 ≤ pmx l (n - 1) k ∧ pmx l (n - 1) k ≤ 201) := pmx_bd (fun k _ => hd (n - 1 + k))
  have hmx : ¬ ((n : Int) - 1 < 0) := by omega
  have hmn : (n : Int) < (n : Int) + 1 := by omega
  have hcc : ¬ (c = n - 1) := by omega
  have hto : ((n : Int) - 1).toNat = n - 1 := by omega
  have hto2 : n - (n - 1) = 1 := by omega
  clear h hd hc
  go_enter Tryz.func71, Tryz.ntmps71
  go_wp2
  go_loopw [5, 19] (fun s i wr => ∃ (k : Nat) (x : Int), k ≤ 1 ∧ i = .int .i64 k ∧ s = .int .i64 x ∧ Hid (pmx l (n - 1) k = x) ∧ Below w.heap.size w wr) (fun _ i _ => 1 - (intOf i).toNat)
  case atStart => exact ⟨0, 0, by omega, rfl, rfl, (rfl : pmx l (n - 1) 0 = 0), Below.refl _ _⟩
  case round =>
    obtain ⟨k, x, hk, rfl, rfl, HX, hnx⟩ := hrel
    have hsz := hnx.size
    by_cases hlt : k < 1
    · have hc0 : wr.cell? ⟨b, off + (n - 1) * 2 + k * 2, none⟩ = some (I (ky l (n - 1 + k))) := (hnx.cell (by exact hb)).trans (HC.out k hlt).1
      have hc1 : wr.cell? ⟨b, off + (n - 1) * 2 + k * 2 + 1, none⟩ = some (I (dp l (n - 1 + k))) := (hnx.cell (by exact hb)).trans (HC.out k hlt).2
      have hbwr : b < wr.heap.size := by omega
      have hx := HPB.out k hk
      rw [HX.out] at hx
      have hdd := HD.out (n - 1 + k)
      have hs : pmx l (n - 1) (k + 1) = max (pmx l (n - 1) k) (dp l (n - 1 + k) + 1) := rfl
      rw [HX.out] at hs
      generalize dp l (n - 1 + k) = d at *
      generalize ky l (n - 1 + k) = kk at *
      obtain ⟨M, hM⟩ : ∃ M, (if x < d + 1 then d + 1 else x) = M := ⟨_, rfl⟩
      have HS : Hid (pmx l (n - 1) (k + 1) = M) := by show _ = _; rw [hs, ← hM]; split <;> omega
      clear hs
      go_wp2
      go_roundw
      case rel => exact ⟨k + 1, M, by omega, by go_num, rfl, HS.out, hnx.alloc hsz _⟩
      case measure => simp [intOf]; omega
    · obtain rfl : k = 1 := by omega
      have HF : Hid (x = mtd 0 l (n)) := by show _ = _; rw [← HX.out, HE.out]
      go_wp2
      go_ret
      exact ⟨ret_int HF.out, hnx⟩

set_option maxRecDepth 100000 in
set_option maxHeartbeats 2000000 in
theorem met_mid (A : Option Addr) (n c g : Nat) (l : PL) (w : World) (h : PS w A n c l) (hn : n ≤ 200) (h0 : 0 < g) (h1 : g < n) (hd : ∀ i, 0 ≤ dp l i ∧ dp l i ≤ 200) :
    Calls Tryz.prog 71 #[.slice A n c, I g] w fun e w' => e = .returned (I (mtd 0 l (g))) ∧ Below w.heap.size w w' := by
  have H := Lib.hid h
  have hcap := h.rd.1
  have HD := Lib.hid hd
  have HE : Hid (pmx l (g - 1) 2 = mtd 0 l (g)) := pmx_mid l h.len h0 h1 (hd _).1 (hd _).1
  obtain ⟨b, off, rfl, hb, hc⟩ := H.out.dat (by omega)
  have HC : Hid (∀ k, k < 2 → w.cell? ⟨b, off + (g - 1) * 2 + k * 2, none⟩ = some (I (ky l (g - 1 + k))) ∧ w.cell? ⟨b, off + (g - 1) * 2 + k * 2 + 1, none⟩ = some (I (dp l (g - 1 + k)))) := fun k hk => by
    have := hc (g - 1 + k) (by omega)
    rw [show off + (g - 1 + k) * 2 = off + (g - 1) * 2 + k * 2 by omega] at this
    exact this
  have HPB : Hid (∀ k, k ≤ 2 → 0 ≤ pmx l (g - 1) k ∧ pmx l (g - 1) k ≤ 201) := pmx_bd (fun k _ => hd (g - 1 + k))
  have hmx : ¬ ((g : Int) - 1 < 0) := by omega
  have hmn : ¬ ((n : Int) < (g : Int) + 1) := by omega
  have hcc : ¬ (c = g - 1) := by omega
  have hto : ((g : Int) - 1).toNat = g - 1 := by omega
  have hto2 : g + 1 - (g - 1) = 2 := by omega
  clear h hd hc
  go_enter Tryz.func71, Tryz.ntmps71
  go_wp2
  go_loopw [5, 19] (fun s i wr => ∃ (k : Nat) (x : Int), k ≤ 2 ∧ i = .int .i64 k ∧ s = .int .i64 x ∧ Hid (pmx l (g - 1) k = x) ∧ Below w.heap.size w wr) (fun _ i _ => 2 - (intOf i).toNat)
  case atStart => exact ⟨0, 0, by omega, rfl, rfl, (rfl : pmx l (g - 1) 0 = 0), Below.refl _ _⟩
  case round =>
    obtain ⟨k, x, hk, rfl, rfl, HX, hnx⟩ := hrel
    have hsz := hnx.size
    by_cases hlt : k < 2
    · have hc0 : wr.cell? ⟨b, off + (g - 1) * 2 + k * 2, none⟩ = some (I (ky l (g - 1 + k))) := (hnx.cell (by exact hb)).trans (HC.out k hlt).1
      have hc1 : wr.cell? ⟨b, off + (g - 1) * 2 + k * 2 + 1, none⟩ = some (I (dp l (g - 1 + k))) := (hnx.cell (by exact hb)).trans (HC.out k hlt).2
      have hbwr : b < wr.heap.size := by omega
      have hx := HPB.out k hk
      rw [HX.out] at hx
      have hdd := HD.out (g - 1 + k)
      have hs : pmx l (g - 1) (k + 1) = max (pmx l (g - 1) k) (dp l (g - 1 + k) + 1) := rfl
      rw [HX.out] at hs
      generalize dp l (g - 1 + k) = d at *
      generalize ky l (g - 1 + k) = kk at *
      obtain ⟨M, hM⟩ : ∃ M, (if x < d + 1 then d + 1 else x) = M := ⟨_, rfl⟩
      have HS : Hid (pmx l (g - 1) (k + 1) = M) := by show _ = _; rw [hs, ← hM]; split <;> omega
      clear hs
      go_wp2
      go_roundw
      case rel => exact ⟨k + 1, M, by omega, by go_num, rfl, HS.out, hnx.alloc hsz _⟩
      case measure => simp [intOf]; omega
    · obtain rfl : k = 2 := by omega
      have HF : Hid (x = mtd 0 l (g)) := by show _ = _; rw [← HX.out, HE.out]
      go_wp2
      go_ret
      exact ⟨ret_int HF.out, hnx⟩

theorem met_any (A : Option Addr) (n c g : Nat) (l : PL) (w : World) (h : PS w A n c l) (hn : n ≤ 200) (hg : g ≤ n) (hd : ∀ i, 0 ≤ dp l i ∧ dp l i ≤ 200) :
    Calls Tryz.prog 71 #[.slice A n c, I g] w fun e w' => e = .returned (I (mtd 0 l g)) ∧ Below w.heap.size w w' := by
  by_cases h0 : 0 < g
  · by_cases h1 : g < n
    · exact met_mid A n c g l w h hn h0 h1 hd
    · obtain rfl : g = n := by omega
      exact met_last A g c l w h hn h0 hd
  · obtain rfl : g = 0 := by omega
    by_cases h1 : 0 < n
    · exact met_first A n c l w h hn h1 hd
    · obtain rfl : n = 0 := by omega
      exact met_none A c l w h

end Go.Proofs.YtpnjnedfcdppaaaGreatDoor
