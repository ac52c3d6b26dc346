/-
  Joined texts: YtpnjnedfcdppaaaGreatDoorBMet, YtpnjnedfcdppaaaGreatDoorBCost.
-/
import Derived.Test.YtpnjnedfcdppaaaGreatDoorBChk
import Derived.Test.YtpnjnedfcdppaaaGreatDoorTEvenAll
import Derived.Test.YtpnjnedfcdppaaaGreatDoorSChkAll
import Derived.Test.YtpnjnedfcdppaaaGreatDoorSRow
/-
  best.hasKeys, metOnWay.
-/
namespace Go.Proofs.YtpnjnedfcdppaaaGreatDoor
open Go.RowKit

set_option maxRecDepth 100000 in
set_option maxHeartbeats 1000000 in
theorem hasKeys_any (A : Option Addr) (n c : Nat) (m : Nat) (l : PL) (w : World) (h : PS w A n c l) (hn : n ≤ 200) (hm : m ≤ 20) :
    Calls Tryz.prog 70 #[.slice A n c, I m] w fun e w' => e = .returned (.bool (keysR l m)) ∧ Below w.heap.size w w' := by
  have H := Lib.hid h
  have Hlen := Lib.hid h.len
  clear h
  go_enter Tryz.func70, Tryz.ntmps70
  go_wp2
  go_loopw [9] (fun i wr => ∃ k : Nat, k ≤ n ∧ i = .int .i64 k ∧ Hid (∀ q, q < k → ky l q = q) ∧ Below w.heap.size w wr) (fun i _ => n - (intOf i).toNat)
  case atStart => exact ⟨0, Nat.zero_le _, rfl, fun q hq => absurd hq (by omega), Below.refl _ _⟩
  case round =>
    obtain ⟨k, hk, rfl, HK, hnx⟩ := hrel
    have hsz := hnx.size
    by_cases hlt : k < n
    · obtain ⟨b, off, rfl, hb, hc⟩ := H.out.dat (by omega)
      have hc0 : wr.cell? ⟨b, off + k * 2, none⟩ = some (I (ky l k)) := (hnx.cell (by exact hb)).trans (hc k hlt).1
      have hc1 : wr.cell? ⟨b, off + k * 2 + 1, none⟩ = some (I (dp l k)) := (hnx.cell (by exact hb)).trans (hc k hlt).2
      have hbwr : b < wr.heap.size := by omega
      obtain ⟨x, hx⟩ : ∃ x, ky l k = x := ⟨_, rfl⟩
      rw [hx] at hc0
      clear hc
      by_cases he : x = (k : Int)
      · have HE : Hid (∀ q, q < k + 1 → ky l q = q) := fun q hq => by
          rcases Nat.lt_or_ge q k with h1 | h1
          · exact HK.out q h1
          · obtain rfl : q = k := by omega
            rw [hx, he]
        have hb0 : (x != (k : Int)) = false := by simp [he]
        clear hx he
        go_wp2
        go_roundw
        case rel => exact ⟨k + 1, by omega, by go_num, HE.out, hnx.alloc hsz _⟩
        case measure => simp [intOf]; omega
      · have HE : Hid (keysR l m = false) := by
          show _ = _
          unfold keysR
          rw [decide_eq_false_iff_not]
          rintro ⟨_, h2⟩
          exact he (by rw [← hx]; exact h2 k (by rw [Hlen.out]; exact hlt))
        have hb0 : (x != (k : Int)) = true := by simpa using he
        clear hx he
        go_wp2
        go_ret
        exact ⟨by rw [HE.out]; rfl, hnx.alloc hsz _⟩
    · have HE : Hid (keysR l m = ((n : Int) == (m : Int))) := by
        show _ = _
        unfold keysR
        by_cases hnm : n = m
        · subst hnm
          rw [decide_eq_true]
          · simp
          · exact ⟨Hlen.out, fun q hq => HK.out q (by rw [Hlen.out] at hq; omega)⟩
        · rw [decide_eq_false]
          · have : ¬ ((n : Int) = (m : Int)) := by omega
            simp [this]
          · rintro ⟨h1, _⟩
            rw [Hlen.out] at h1
            exact hnm h1
      go_wp2
      go_ret
      exact ⟨by rw [HE.out]; rfl, hnx⟩

/-- nodes met in the first k of the slice -/
def pmx (l : PL) (lo : Nat) : Nat → Int
  | 0 => 0
  | k + 1 => max (pmx l lo k) (dp l (lo + k) + 1)
theorem pmx_bd {l : PL} {lo q : Nat} (h : ∀ k, k < q → 0 ≤ dp l (lo + k) ∧ dp l (lo + k) ≤ 200) : ∀ k, k ≤ q → 0 ≤ pmx l lo k ∧ pmx l lo k ≤ 201
  | 0, _ => by simp [pmx]
  | k + 1, hk => by
    have h1 := pmx_bd h k (by omega)
    have h2 := h k (by omega)
    rw [pmx]
    omega
theorem pmx_none (l : PL) (h : l.length = 0) : mtd 0 l 0 = 0 := by
  unfold mtd
  rw [if_neg (by omega), if_neg (by omega)]
  first | done | rfl | decide
theorem pmx_first (l : PL) (h : 0 < l.length) (hd : 0 ≤ dp l 0) : pmx l 0 1 = mtd 0 l 0 := by
  unfold mtd
  rw [if_neg (by omega), if_pos h]
  simp only [pmx, Nat.zero_add]
  omega
theorem pmx_last (l : PL) {n : Nat} (h : l.length = n) (h0 : 0 < n) (hd : 0 ≤ dp l (n - 1)) : pmx l (n - 1) 1 = mtd 0 l n := by
  unfold mtd
  rw [if_pos h0, if_neg (by omega)]
  simp only [pmx, Nat.add_zero]
  omega
theorem pmx_mid (l : PL) {n g : Nat} (h : l.length = n) (h0 : 0 < g) (h1 : g < n) (hd : 0 ≤ dp l (g - 1)) (hd2 : 0 ≤ dp l g) : pmx l (g - 1) 2 = mtd 0 l g := by
  unfold mtd
  rw [if_pos h0, if_pos (by omega)]
  simp only [pmx, Nat.add_zero, show g - 1 + 1 = g by omega] <;> omega

set_option maxRecDepth 100000 in
set_option maxHeartbeats 1000000 in
theorem met_none (A : Option Addr) (c : Nat) (l : PL) (w : World) (h : PS w A 0 c l) :
    Calls Tryz.prog 71 #[.slice A 0 c, I (0 : Nat)] w fun e w' => e = .returned (I (mtd 0 l 0)) ∧ Below w.heap.size w w' := by
  have HE : Hid (mtd 0 l 0 = 0) := pmx_none l h.len
  clear h
  go_enter Tryz.func71, Tryz.ntmps71
  go_wp2
  all_goals
    (go_loopw [5, 19] (fun s i wr => s = .int .i64 0 ∧ i = .int .i64 0 ∧ wr = w) (fun _ _ _ => 0)
     case atStart => exact ⟨rfl, rfl, rfl⟩
     case round =>
       obtain ⟨rfl, rfl, rfl⟩ := hrel
       go_wp2
       go_ret
       exact ⟨ret_int (by rw [HE.out]), Below.refl _ _⟩)

set_option maxRecDepth 100000 in
set_option maxHeartbeats 2000000 in
theorem met_first (A : Option Addr) (n c : Nat) (l : PL) (w : World) (h : PS w A n c l) (hn : n ≤ 200) (h0 : 0 < n) (hd : ∀ i, 0 ≤ dp l i ∧ dp l i ≤ 200) :
    Calls Tryz.prog 71 #[.slice A n c, I (0 : Nat)] w fun e w' => e = .returned (I (mtd 0 l (0))) ∧ Below w.heap.size w w' := by
  have H := Lib.hid h
  have hcap := h.rd.1
  have HD := Lib.hid hd
  have HE : Hid (pmx l (0) 1 = mtd 0 l (0)) := pmx_first l (by rw [h.len]; exact h0) (hd 0).1
  obtain ⟨b, off, rfl, hb, hc⟩ := H.out.dat (by omega)
  have HC : Hid (∀ k, k < 1 → w.cell? ⟨b, off + k * 2, none⟩ = some (I (ky l (0 + k))) ∧ w.cell? ⟨b, off + k * 2 + 1, none⟩ = some (I (dp l (0 + k)))) := fun k hk => by
    have := hc (0 + k) (by omega)
    rw [show off + (0 + k) * 2 = off + k * 2 by omega] at this
    exact this
  have HPB : Hid (∀ k, k ≤ 1 → 0 ≤ pmx l (0) k ∧ pmx l (0) k ≤ 201) := pmx_bd (fun k _ => hd (0 + k))
  have hmn : (if (n : Int) < 1 then (n : Int) else 1) = 1 := by split <;> omega
  have hn1 : ¬ ((n : Int) < 1) := by omega
  clear h hd hc
  go_enter Tryz.func71, Tryz.ntmps71
  go_wp2
  go_loopw [5, 19] (fun s i wr => ∃ (k : Nat) (x : Int), k ≤ 1 ∧ i = .int .i64 k ∧ s = .int .i64 x ∧ Hid (pmx l (0) k = x) ∧ Below w.heap.size w wr) (fun _ i _ => 1 - (intOf i).toNat)
  case atStart => exact ⟨0, 0, by omega, rfl, rfl, (rfl : pmx l (0) 0 = 0), Below.refl _ _⟩
  case round =>
    obtain ⟨k, x, hk, rfl, rfl, HX, hnx⟩ := hrel
    have hsz := hnx.size
    by_cases hlt : k < 1
    · have hc0 : wr.cell? ⟨b, off + k * 2, none⟩ = some (I (ky l (0 + k))) := (hnx.cell (by exact hb)).trans (HC.out k hlt).1
      have hc1 : wr.cell? ⟨b, off + k * 2 + 1, none⟩ = some (I (dp l (0 + k))) := (hnx.cell (by exact hb)).trans (HC.out k hlt).2
      have hbwr : b < wr.heap.size := by omega
      have hx := HPB.out k hk
      rw [HX.out] at hx
      have hdd := HD.out (0 + k)
      have hs : pmx l (0) (k + 1) = max (pmx l (0) k) (dp l (0 + k) + 1) := rfl
      rw [HX.out] at hs
      generalize dp l (0 + k) = d at *
      generalize ky l (0 + k) = kk at *
      obtain ⟨M, hM⟩ : ∃ M, (if x < d + 1 then d + 1 else x) = M := ⟨_, rfl⟩
      have HS : Hid (pmx l (0) (k + 1) = M) := by show _ = _; rw [hs, ← hM]; split <;> omega
      clear hs
      go_wp2
      go_roundw
      case rel => exact ⟨k + 1, M, by omega, by go_num, rfl, HS.out, hnx.alloc hsz _⟩
      case measure => simp [intOf]; omega
    · obtain rfl : k = 1 := by omega
      have HF : Hid (x = mtd 0 l (0)) := by show _ = _; rw [← HX.out, HE.out]
      go_wp2
      go_ret
      exact ⟨ret_int HF.out, hnx⟩

set_option maxRecDepth 100000 in
set_option maxHeartbeats 2000000 in
theorem met_last (A : Option Addr) (n c : Nat) (l : PL) (w : World) (h : PS w A n c l) (hn : n ≤ 200) (h0 : 0 < n) (hd : ∀ i, 0 ≤ dp l i ∧ dp l i ≤ 200) :
    Calls Tryz.prog 71 #[.slice A n c, I n] w fun e w' => e = .returned (I (mtd 0 l (n))) ∧ Below w.heap.size w w' := by
  have H := Lib.hid h
  have hcap := h.rd.1
  have HD := Lib.hid hd
  have HE : Hid (pmx l (n - 1) 1 = mtd 0 l (n)) := pmx_last l h.len h0 (hd _).1
  obtain ⟨b, off, rfl, hb, hc⟩ := H.out.dat (by omega)
  have HC : Hid (∀ k, k < 1 → w.cell? ⟨b, off + (n - 1) * 2 + k * 2, none⟩ = some (I (ky l (n - 1 + k))) ∧ w.cell? ⟨b, off + (n - 1) * 2 + k * 2 + 1, none⟩ = some (I (dp l (n - 1 + k)))) := fun k hk => by
    have := hc (n - 1 + k) (by omega)
    rw [show off + (n - 1 + k) * 2 = off + (n - 1) * 2 + k * 2 by omega] at this
    exact this
  have HPB : Hid (∀ k, k ≤ 1 → 0 ≤ pmx l (n - 1) k ∧ pmx l (n - 1) k ≤ 201) := pmx_bd (fun k _ => hd (n - 1 + k))
  have hmx : ¬ ((n : Int) - 1 < 0) := by omega
  have hmn : (n : Int) < (n : Int) + 1 := by omega
  have hcc : ¬ (c = n - 1) := by omega
  have hto : ((n : Int) - 1).toNat = n - 1 := by omega
  have hto2 : n - (n - 1) = 1 := by omega
  clear h hd hc
  go_enter Tryz.func71, Tryz.ntmps71
  go_wp2
  go_loopw [5, 19] (fun s i wr => ∃ (k : Nat) (x : Int), k ≤ 1 ∧ i = .int .i64 k ∧ s = .int .i64 x ∧ Hid (pmx l (n - 1) k = x) ∧ Below w.heap.size w wr) (fun _ i _ => 1 - (intOf i).toNat)
  case atStart => exact ⟨0, 0, by omega, rfl, rfl, (rfl : pmx l (n - 1) 0 = 0), Below.refl _ _⟩
  case round =>
    obtain ⟨k, x, hk, rfl, rfl, HX, hnx⟩ := hrel
    have hsz := hnx.size
    by_cases hlt : k < 1
    · have hc0 : wr.cell? ⟨b, off + (n - 1) * 2 + k * 2, none⟩ = some (I (ky l (n - 1 + k))) := (hnx.cell (by exact hb)).trans (HC.out k hlt).1
      have hc1 : wr.cell? ⟨b, off + (n - 1) * 2 + k * 2 + 1, none⟩ = some (I (dp l (n - 1 + k))) := (hnx.cell (by exact hb)).trans (HC.out k hlt).2
      have hbwr : b < wr.heap.size := by omega
      have hx := HPB.out k hk
      rw [HX.out] at hx
      have hdd := HD.out (n - 1 + k)
      have hs : pmx l (n - 1) (k + 1) = max (pmx l (n - 1) k) (dp l (n - 1 + k) + 1) := rfl
      rw [HX.out] at hs
      generalize dp l (n - 1 + k) = d at *
      generalize ky l (n - 1 + k) = kk at *
      obtain ⟨M, hM⟩ : ∃ M, (if x < d + 1 then d + 1 else x) = M := ⟨_, rfl⟩
      have HS : Hid (pmx l (n - 1) (k + 1) = M) := by show _ = _; rw [hs, ← hM]; split <;> omega
      clear hs
      go_wp2
      go_roundw
      case rel => exact ⟨k + 1, M, by omega, by go_num, rfl, HS.out, hnx.alloc hsz _⟩
      case measure => simp [intOf]; omega
    · obtain rfl : k = 1 := by omega
      have HF : Hid (x = mtd 0 l (n)) := by show _ = _; rw [← HX.out, HE.out]
      go_wp2
      go_ret
      exact ⟨ret_int HF.out, hnx⟩

set_option maxRecDepth 100000 in
set_option maxHeartbeats 2000000 in
theorem met_mid (A : Option Addr) (n c g : Nat) (l : PL) (w : World) (h : PS w A n c l) (hn : n ≤ 200) (h0 : 0 < g) (h1 : g < n) (hd : ∀ i, 0 ≤ dp l i ∧ dp l i ≤ 200) :
    Calls Tryz.prog 71 #[.slice A n c, I g] w fun e w' => e = .returned (I (mtd 0 l (g))) ∧ Below w.heap.size w w' := by
  have H := Lib.hid h
  have hcap := h.rd.1
  have HD := Lib.hid hd
  have HE : Hid (pmx l (g - 1) 2 = mtd 0 l (g)) := pmx_mid l h.len h0 h1 (hd _).1 (hd _).1
  obtain ⟨b, off, rfl, hb, hc⟩ := H.out.dat (by omega)
  have HC : Hid (∀ k, k < 2 → w.cell? ⟨b, off + (g - 1) * 2 + k * 2, none⟩ = some (I (ky l (g - 1 + k))) ∧ w.cell? ⟨b, off + (g - 1) * 2 + k * 2 + 1, none⟩ = some (I (dp l (g - 1 + k)))) := fun k hk => by
    have := hc (g - 1 + k) (by omega)
    rw [show off + (g - 1 + k) * 2 = off + (g - 1) * 2 + k * 2 by omega] at this
    exact this
  have HPB : Hid (∀ k, k ≤ 2 → 0 ≤ pmx l (g - 1) k ∧ pmx l (g - 1) k ≤ 201) := pmx_bd (fun k _ => hd (g - 1 + k))
  have hmx : ¬ ((g : Int) - 1 < 0) := by omega
  have hmn : ¬ ((n : Int) < (g : Int) + 1) := by omega
  have hcc : ¬ (c = g - 1) := by omega
  have hto : ((g : Int) - 1).toNat = g - 1 := by omega
  have hto2 : g + 1 - (g - 1) = 2 := by omega
  clear h hd hc
  go_enter Tryz.func71, Tryz.ntmps71
  go_wp2
  go_loopw [5, 19] (fun s i wr => ∃ (k : Nat) (x : Int), k ≤ 2 ∧ i = .int .i64 k ∧ s = .int .i64 x ∧ Hid (pmx l (g - 1) k = x) ∧ Below w.heap.size w wr) (fun _ i _ => 2 - (intOf i).toNat)
  case atStart => exact ⟨0, 0, by omega, rfl, rfl, (rfl : pmx l (g - 1) 0 = 0), Below.refl _ _⟩
  case round =>
    obtain ⟨k, x, hk, rfl, rfl, HX, hnx⟩ := hrel
    have hsz := hnx.size
    by_cases hlt : k < 2
    · have hc0 : wr.cell? ⟨b, off + (g - 1) * 2 + k * 2, none⟩ = some (I (ky l (g - 1 + k))) := (hnx.cell (by exact hb)).trans (HC.out k hlt).1
      have hc1 : wr.cell? ⟨b, off + (g - 1) * 2 + k * 2 + 1, none⟩ = some (I (dp l (g - 1 + k))) := (hnx.cell (by exact hb)).trans (HC.out k hlt).2
      have hbwr : b < wr.heap.size := by omega
      have hx := HPB.out k hk
      rw [HX.out] at hx
      have hdd := HD.out (g - 1 + k)
      have hs : pmx l (g - 1) (k + 1) = max (pmx l (g - 1) k) (dp l (g - 1 + k) + 1) := rfl
      rw [HX.out] at hs
      generalize dp l (g - 1 + k) = d at *
      generalize ky l (g - 1 + k) = kk at *
      obtain ⟨M, hM⟩ : ∃ M, (if x < d + 1 then d + 1 else x) = M := ⟨_, rfl⟩
      have HS : Hid (pmx l (g - 1) (k + 1) = M) := by show _ = _; rw [hs, ← hM]; split <;> omega
      clear hs
      go_wp2
      go_roundw
      case rel => exact ⟨k + 1, M, by omega, by go_num, rfl, HS.out, hnx.alloc hsz _⟩
      case measure => simp [intOf]; omega
    · obtain rfl : k = 2 := by omega
      have HF : Hid (x = mtd 0 l (g)) := by show _ = _; rw [← HX.out, HE.out]
      go_wp2
      go_ret
      exact ⟨ret_int HF.out, hnx⟩

theorem met_any (A : Option Addr) (n c g : Nat) (l : PL) (w : World) (h : PS w A n c l) (hn : n ≤ 200) (hg : g ≤ n) (hd : ∀ i, 0 ≤ dp l i ∧ dp l i ≤ 200) :
    Calls Tryz.prog 71 #[.slice A n c, I g] w fun e w' => e = .returned (I (mtd 0 l g)) ∧ Below w.heap.size w w' := by
  by_cases h0 : 0 < g
  · by_cases h1 : g < n
    · exact met_mid A n c g l w h hn h0 h1 hd
    · obtain rfl : g = n := by omega
      exact met_last A g c l w h hn h0 hd
  · obtain rfl : g = 0 := by omega
    by_cases h1 : 0 < n
    · exact met_first A n c l w h hn h1 hd
    · obtain rfl : n = 0 := by omega
      exact met_none A c l w h

end Go.Proofs.YtpnjnedfcdppaaaGreatDoor

/-
  best.Cost.
-/
namespace Go.Proofs.YtpnjnedfcdppaaaGreatDoor
open Go.RowKit

/-- a number and its error -/
def RetC (x E : Int) (w : World) (e : Ending) (w' : World) : Prop := e = .returned (.tuple #[I x, I E]) ∧ Below w.heap.size w w'
/-- what is wrong with what is handed in to Cost -/
noncomputable def costE (l : PL) (hits gaps : List Int) : Int := if chkB hits gaps ≠ 0 then chkB hits gaps else if chkS l ≠ 0 then chkS l else if keysR l hits.length then 0 else 3

set_option maxRecDepth 100000 in
set_option maxHeartbeats 2000000 in
theorem Cost_bad (A1 A A' : Option Addr) (n1 c1 n c n' c' : Nat) (l : PL) (hits gaps : List Int) (w : World) (h1 : PS w A1 n1 c1 l) (h : IS w A n c hits) (h' : IS w A' n' c' gaps) (hn1 : n1 ≤ 9223372036854775807) (hn : n ≤ 9223372036854775807) (hn' : n' ≤ 9223372036854775807) (E : Int) (hE : costE l hits gaps = E) (hE0 : E ≠ 0) :
    Calls Tryz.prog 30 #[.slice A1 n1 c1, .slice A n c, .slice A' n' c'] w (RetC 0 E w) := by
  have HC := Lib.hid (checkB_any A A' n c n' c' hits gaps w h h' hn hn')
  have HS := Lib.hid (CheckS_any A1 n1 c1 l w h1 hn1)
  have H1 := Lib.hid h1
  have HL1 := Lib.hid h1.len
  have HL := Lib.hid h.len
  clear h h' h1
  by_cases hb : chkB hits gaps = 0
  · have hin := chkB_ok hb
    have hn20 := hin.n20
    rw [HL.out] at hn20
    rw [hb] at HC
    unfold costE at hE
    rw [if_neg (by simp [hb])] at hE
    by_cases hs : chkS l = 0
    · rw [if_neg (by simp [hs])] at hE
      have hT := chkS_zero.1 hs
      have hl200 : n1 ≤ 200 := by rw [← HL1.out]; exact hT.1
      have hk : keysR l n = false ∧ E = 3 := by
        rw [HL.out] at hE
        cases hk : keysR l n with
        | true => rw [hk] at hE; exact absurd hE.symm hE0
        | false => rw [hk] at hE; exact ⟨rfl, hE.symm⟩
      obtain ⟨hk, rfl⟩ := hk
      rw [hs] at HS
      clear hin hb hs hT hE hE0
      have HK := Lib.hid (fun w2 (h : PS w2 A1 n1 c1 l) => hasKeys_any A1 n1 c1 n l w2 h hl200 hn20)
      rw [hk] at HK
      clear hk
      go_enter Tryz.func30, Tryz.ntmps30
      go_wp2_with fail
      refine HC.out.mono ?_
      rintro e w1 ⟨rfl, rfl⟩
      go_wp2_with fail
      refine HS.out.mono ?_
      rintro e w2 ⟨rfl, hb2⟩
      have HB2 := Lib.hid hb2
      clear hb2
      go_wp2_with fail
      refine (HK.out w2 (H1.out.below HB2.out)).mono ?_
      rintro e w3 ⟨rfl, hb3⟩
      have HB3 := Lib.hid (HB2.out.trans (hb3.mono HB2.out.size))
      clear hb3
      go_wp2
      go_ret2
      exact ⟨rfl, HB3.out⟩
    · rw [if_pos hs] at hE
      rw [hE] at HS
      have hne : (E != 0) = true := by simpa using hE0
      clear hin hb hs hE hE0
      go_enter Tryz.func30, Tryz.ntmps30
      go_wp2_with fail
      refine HC.out.mono ?_
      rintro e w1 ⟨rfl, rfl⟩
      go_wp2_with fail
      refine HS.out.mono ?_
      rintro e w2 ⟨rfl, hb2⟩
      have HB2 := Lib.hid hb2
      clear hb2
      go_wp2
      go_ret2
      exact ⟨rfl, HB2.out⟩
  · unfold costE at hE
    rw [if_pos hb] at hE
    rw [hE] at HC
    have hne : (E != 0) = true := by simpa using hE0
    clear hb hE hE0
    go_enter Tryz.func30, Tryz.ntmps30
    go_wp2_with fail
    refine HC.out.mono ?_
    rintro e w1 ⟨rfl, rfl⟩
    go_wp2
    go_ret2
    exact ⟨rfl, Below.refl _ _⟩

theorem mul_bd2 {x y : Int} (h1 : 0 ≤ x ∧ x ≤ 1000) (h2 : 0 ≤ y ∧ y ≤ 201) : 0 ≤ x * y ∧ x * y ≤ 201000 := by
  refine ⟨Int.mul_nonneg h1.1 h2.1, ?_⟩
  have a := Int.mul_le_mul_of_nonneg_right h1.2 h2.1
  omega

set_option maxRecDepth 100000 in
set_option maxHeartbeats 4000000 in
theorem Cost_ok (A1 A A' : Option Addr) (c1 n c c' : Nat) (t : Tr) (hits gaps : List Int) (w : World) (h1 : PS w A1 n c1 (t.sp 0)) (h : IS w A n c hits) (h' : IS w A' (n + 1) c' gaps) (hI : InB hits gaps n) (hR : Rng t 0 n) :
    Calls Tryz.prog 30 #[.slice A1 n c1, .slice A n c, .slice A' (n + 1) c'] w (RetC (t.ask hits gaps 0 0) 0 w) := by
  have hn := hI.n20
  have hsz := rng_size hR
  have hT := rng_istree hR (by omega)
  have HC := Lib.hid (checkB_any A A' n c (n + 1) c' hits gaps w h h' (by omega) (by omega))
  rw [chkB_in hI] at HC
  have HS := Lib.hid (CheckS_is A1 n c1 (t.sp 0) w h1 (by omega) 0 (chkS_zero.2 hT))
  have hk : keysR (t.sp 0) n = true := by
    unfold keysR
    rw [decide_eq_true_eq, sp_length]
    refine ⟨by omega, fun i hi => ?_⟩
    rw [rng_keys 0 hR i hi]
    omega
  have HK := Lib.hid (fun w2 (h : PS w2 A1 n c1 (t.sp 0)) => hasKeys_any A1 n c1 n (t.sp 0) w2 h (by omega) hn)
  rw [hk] at HK
  have HDP : Hid (∀ i, 0 ≤ dp (t.sp 0) i ∧ dp (t.sp 0) i ≤ 200) := tree_dp hT
  have HM := Lib.hid (fun g w2 (h : PS w2 A1 n c1 (t.sp 0)) (hg : g ≤ n) => met_any A1 n c1 g (t.sp 0) w2 h (by omega) hg HDP.out)
  have HMB : Hid (∀ g, 0 ≤ mtd 0 (t.sp 0) g ∧ mtd 0 (t.sp 0) g ≤ 201) := fun g => by
    unfold mtd
    have a := HDP.out (g - 1)
    have b := HDP.out g
    split <;> split <;> omega
  have HASK := Lib.hid (ask_sums hits gaps t 0 n 0 hR)
  rw [show t.size = n by omega] at HASK
  have HHB : Hid (∀ q (hq : q < n), 0 ≤ hits[q]?.getD 0 ∧ hits[q]?.getD 0 ≤ 1000) := fun q hq => by
    have : q < hits.length := by rw [hI.h]; exact hq
    rw [List.getElem?_eq_getElem this]
    exact hI.hh _ (List.getElem_mem this)
  have HGB : Hid (∀ q (hq : q < n + 1), 0 ≤ gaps[q]?.getD 0 ∧ gaps[q]?.getD 0 ≤ 1000) := fun q hq => by
    have : q < gaps.length := by rw [hI.g]; exact hq
    rw [List.getElem?_eq_getElem this]
    exact hI.hg _ (List.getElem_mem this)
  have HTH : Hid (∀ q, q < n → 0 ≤ costH hits 0 (t.sp 0) q ∧ costH hits 0 (t.sp 0) q ≤ 201000) := fun q hq => by
    unfold costH
    rw [Nat.zero_add]
    have := HDP.out q
    exact mul_bd2 (HHB.out q hq) (by omega)
  have HTG : Hid (∀ q, q < n + 1 → 0 ≤ costG gaps 0 0 (t.sp 0) q ∧ costG gaps 0 0 (t.sp 0) q ≤ 201000) := fun q hq => by
    unfold costG
    rw [Nat.zero_add]
    exact mul_bd2 (HGB.out q hq) (HMB.out q)
  have HSH := Lib.hid (bsum_bd HTH.out)
  have HSG := Lib.hid (bsum_bd HTG.out)
  have H1 := Lib.hid h1
  have H := Lib.hid h
  have H' := Lib.hid h'
  have HLH := Lib.hid hI.h
  have HLG := Lib.hid hI.g
  have HF : Hid (∀ q, q < n → costH hits 0 (t.sp 0) q = hits[q]?.getD 0 * (dp (t.sp 0) q + 1)) := fun q _ => by unfold costH; rw [Nat.zero_add]
  have HG : Hid (∀ q, q < n + 1 → costG gaps 0 0 (t.sp 0) q = gaps[q]?.getD 0 * mtd 0 (t.sp 0) q) := fun q _ => by unfold costG; rw [Nat.zero_add]
  clear h1 h h' hI hR hsz hT hk
  obtain ⟨x, hx⟩ : ∃ x, t.ask hits gaps 0 0 = x := ⟨_, rfl⟩
  rw [hx] at HASK ⊢
  clear hx
  generalize costH hits 0 (t.sp 0) = fh at *
  generalize costG gaps 0 0 (t.sp 0) = fg at *
  generalize t.sp 0 = L at *
  go_enter Tryz.func30, Tryz.ntmps30
  go_wp2_with fail
  refine HC.out.mono ?_
  rintro e w1 ⟨rfl, rfl⟩
  go_wp2_with fail
  refine HS.out.mono ?_
  rintro e w2 ⟨rfl, hb2⟩
  have HB2 := Lib.hid hb2
  clear hb2
  go_wp2_with fail
  refine (HK.out w2 (H1.out.below HB2.out)).mono ?_
  rintro e w3 ⟨rfl, hb3⟩
  have HB3 := Lib.hid (HB2.out.trans (hb3.mono HB2.out.size))
  clear hb3
  go_wp2
  go_loopw [10, 33] (fun s i wr => ∃ (k : Nat) (y : Int), k ≤ n ∧ i = .int .i64 k ∧ s = .int .i64 y ∧ Hid (bsum fh k = y) ∧ wr = w3) (fun _ i _ => n - (intOf i).toNat)
  case atStart => exact ⟨0, 0, Nat.zero_le _, rfl, rfl, (rfl : bsum fh 0 = 0), rfl⟩
  case round =>
    obtain ⟨k, y, hk, rfl, rfl, HY, rfl⟩ := hrel
    have hy := HSH.out k hk
    rw [HY.out] at hy
    by_cases hlt : k < n
    · obtain ⟨b, off, rfl, hb, hcs⟩ := (H.out.below HB3.out).at_ (by omega)
      obtain ⟨b1, off1, rfl, hb1, hcs1⟩ := (H1.out.below HB3.out).dat (by omega)
      have hkl : k < hits.length := by rw [HLH.out]; exact hlt
      have hc0 := hcs k hlt
      have hc1 := (hcs1 k hlt).2
      have hxb := HHB.out k hlt
      have hdb := HDP.out k
      have hf := HF.out k hlt
      rw [List.getElem?_eq_getElem hkl, Option.getD_some] at hxb hf
      generalize hits[k] = u at *
      generalize dp L k = d at *
      have hfb := HTH.out k hlt
      have hs : bsum fh (k + 1) = bsum fh k + fh k := rfl
      rw [HY.out] at hs
      generalize fh k = P at *
      have e1 : IntKind.i64.wrap (d + 1) = d + 1 := IntWalk.i64_in _ (by omega)
      have e2 : IntKind.i64.wrap (u * (d + 1)) = P := by rw [← hf]; exact IntWalk.i64_in _ (by omega)
      have HN : Hid (bsum fh (k + 1) = y + P) := hs
      have e3 : IntKind.i64.wrap (y + P) = y + P := IntWalk.i64_in _ (by omega)
      clear hcs hcs1 hf hs
      go_wp2
      go_roundw
      case rel => exact ⟨k + 1, y + P, by omega, by go_num, rfl, HN.out, by first | trivial | rfl⟩
      case measure => simp [intOf]; omega
    · obtain rfl : k = n := by omega
      have hslt : ¬ ((k : Int) < (k : Int)) := by omega
      go_wp2
      go_loopw [10, 51] (fun s i wr => ∃ (j : Nat) (z : Int), j ≤ k + 1 ∧ i = .int .i64 j ∧ s = .int .i64 (y + z) ∧ Hid (bsum fg j = z) ∧ Below w.heap.size w wr) (fun _ i _ => k + 1 - (intOf i).toNat)
      case atStart => exact ⟨0, 0, Nat.zero_le _, rfl, by simp, (rfl : bsum fg 0 = 0), HB3.out⟩
      case round =>
        obtain ⟨j, z, hj, rfl, rfl, HZ, hnx⟩ := hrel
        have hz := HSG.out j hj
        rw [HZ.out] at hz
        have HNX := Lib.hid hnx
        clear hnx
        by_cases hlt2 : j < k + 1
        · obtain ⟨b, off, rfl, hb, hcs⟩ := (H'.out.below HNX.out).at_ (by omega)
          have hjl : j < gaps.length := by rw [HLG.out]; exact hlt2
          have hc0 := hcs j hlt2
          have hxb := HGB.out j hlt2
          have hmb := HMB.out j
          have hf := HG.out j hlt2
          have hM := HM.out j _ (H1.out.below HNX.out) (by omega)
          rw [List.getElem?_eq_getElem hjl, Option.getD_some] at hxb hf
          generalize gaps[j] = u at *
          generalize mtd 0 L j = d at *
          have HM2 := Lib.hid hM
          have hfb := HTG.out j hlt2
          have hs : bsum fg (j + 1) = bsum fg j + fg j := rfl
          rw [HZ.out] at hs
          generalize fg j = P at *
          have e2 : IntKind.i64.wrap (u * d) = P := by rw [← hf]; exact IntWalk.i64_in _ (by omega)
          have HN : Hid (bsum fg (j + 1) = z + P) := hs
          have e3 : IntKind.i64.wrap (y + z + P) = y + z + P := IntWalk.i64_in _ (by omega)
          have hlt3 : (j : Int) < (k : Int) + 1 := by omega
          clear hcs hf hs hM
          go_wp2_with fail
          refine HM2.out.mono ?_
          rintro e w4 ⟨rfl, hb4⟩
          have HB4 := Lib.hid (HNX.out.trans (hb4.mono HNX.out.size))
          clear hb4
          go_wp2
          go_roundw
          case rel => exact ⟨j + 1, z + P, by omega, by go_num, by first | rfl | rw [Int.add_assoc], HN.out, HB4.out⟩
          case measure => simp [intOf]; omega
        · obtain rfl : j = k + 1 := by omega
          have HX : Hid (y + z = x) := by show _ = _; rw [HASK.out, HY.out, HZ.out]
          have hlt3 : ¬ (((k + 1 : Nat) : Int) < (k : Int) + 1) := by omega
          go_wp2
          go_ret2
          exact ⟨by rw [HX.out]; rfl, HNX.out⟩

end Go.Proofs.YtpnjnedfcdppaaaGreatDoor
