/-
  package goat: placeOf, depthAt, partOf, deepest, Deepest.
-/
import Derived.Test.YtolgncaaffmmnaaDoorOSpots
import Derived.Test.YtolgncaaffmmnaaDoorSChk
import Derived.Test.YtolgncaaffmmnaaDoorSRow
import Derived.Deep.LoopGhost
namespace Go.Proofs.YtolgncaaffmmnaaDoor
open Go.RowKit

set_option maxRecDepth 100000 in
set_option maxHeartbeats 1000000 in
theorem oplace_any (A : Option Addr) (n c p : Nat) (l : PL) (x : Int) (w : World) (h : PS w A n c l) (hn : n ≤ 1000) (hp : p ≤ n) (hlo : ∀ i, i < p → ky l i < x) (hhi : p < n → ¬ ky l p < x) :
    Calls Tryd.prog 47 #[.slice A n c, I x] w fun e w' => e = .returned (I p) ∧ w' = w := by
  have H := Lib.hid h
  have HLO := Lib.hid hlo
  have HHI := Lib.hid hhi
  clear h hlo hhi
  go_enter Tryd.func47, Tryd.ntmps47
  go_wp2
  go_loop [5] (fun i => ∃ k : Nat, k ≤ p ∧ i = .int .i64 k) (fun i => p - (intOf i).toNat)
  case atStart => exact ⟨0, Nat.zero_le _, rfl⟩
  case round =>
    obtain ⟨k, hk, rfl⟩ := hrel
    by_cases hlt : k < p
    · obtain ⟨b, off, rfl, hb, hc⟩ := H.out.dat (by omega)
      have hc0 := (hc k (by omega)).1
      have hkx := HLO.out k hlt
      have hkn : k < n := by omega
      clear hc
      go_wp2
      go_round
      case rel => exact ⟨k + 1, by omega, by go_num⟩
      case measure => simp [intOf]; omega
    · obtain rfl : k = p := by omega
      by_cases hkn : k < n
      · obtain ⟨b, off, rfl, hb, hc⟩ := H.out.dat (by omega)
        have hc0 := (hc k (by omega)).1
        have hkx := HHI.out hkn
        clear hc
        go_wp2
        go_ret
        exact ⟨rfl, rfl⟩
      · go_wp2
        go_ret
        exact ⟨rfl, rfl⟩

def dTo (l : PL) (lo : Nat) : Nat → Int
  | 0 => 0
  | k + 1 => max (dTo l lo k) (dp l (lo + k) + 1)
theorem dTo_all {l : PL} {p n : Nat} (hl : l.length = n) (h0 : 0 < n) (hp : p ≤ n) (hd : ∀ i, 0 ≤ dp l i ∧ dp l i ≤ 1000) : dTo l (p - 1) (min (p + 1) n - (p - 1)) = dAt l p := by
  unfold dAt
  rw [hl]
  rcases Nat.eq_zero_or_pos p with h | h
  · subst h
    rw [show min (0 + 1) n - (0 - 1) = 1 by omega, if_neg (by omega), if_pos h0]
    simp [dTo]
  · have h1 := hd (p - 1)
    rw [if_pos h]
    by_cases hpn : p < n
    · rw [show min (p + 1) n - (p - 1) = 2 by omega, if_pos hpn]
      simp only [dTo, Nat.add_zero]
      rw [show p - 1 + 1 = p by omega]
      omega
    · rw [show min (p + 1) n - (p - 1) = 1 by omega, if_neg hpn]
      simp only [dTo, Nat.add_zero]
      omega
theorem dTo_bd {l : PL} {lo : Nat} (hd : ∀ i, 0 ≤ dp l i ∧ dp l i ≤ 1000) : ∀ k, 0 ≤ dTo l lo k ∧ dTo l lo k ≤ 1001
  | 0 => by simp [dTo]
  | k + 1 => by
    have := dTo_bd (lo := lo) hd k
    have := hd (lo + k)
    simp only [dTo]
    omega

theorem odepth_nil (A : Option Addr) (c : Nat) (w : World) :
    Calls Tryd.prog 48 #[.slice A 0 c, I 0] w fun e w' => e = .returned (I 0) ∧ w' = w := by
  go_enter Tryd.func48, Tryd.ntmps48
  go_wp2
  all_goals
    go_loop [5, 19] (fun u i => u = I 0 ∧ i = .int .i64 0) (fun _ _ => 0)
    case atStart => exact ⟨rfl, rfl⟩
    case round =>
      obtain ⟨rfl, rfl⟩ := hrel
      go_wp2
      go_ret
      exact ⟨rfl, rfl⟩

set_option maxRecDepth 100000 in
set_option maxHeartbeats 1000000 in
theorem odepth_first (n c : Nat) (A : Option Addr) (l : PL) (w : World) (h : PS w A n c l) (hn : n ≤ 1000) (h0 : 0 < n) (hd : ∀ i, 0 ≤ dp l i ∧ dp l i ≤ 1000) :
    Calls Tryd.prog 48 #[.slice A n c, I (0)] w fun e w' => e = .returned (I (dTo l (0) 1)) ∧ Below w.heap.size w w' := by
  have HBD := Lib.hid (fun k => dTo_bd (lo := 0) hd k)
  have HD := Lib.hid hd
  have hcap := h.rd.1
  obtain ⟨b, off, rfl, hb, hc⟩ := h.dat (by omega)
  have HC := Lib.hid hc
  clear h hd hc
  go_enter Tryd.func48, Tryd.ntmps48
  go_wp2
  go_loopg [5, 19] 1 (fun m u i wr => ∃ k : Nat, k ≤ 1 ∧ 1 - k ≤ m ∧ i = .int .i64 k ∧ u = I (dTo l (0) k) ∧ Below w.heap.size w wr)
  case atStart => exact ⟨0, Nat.zero_le _, by omega, rfl, rfl, Below.refl _ _⟩
  case round =>
    obtain ⟨k, hk, hkm, rfl, rfl, hnx⟩ := hrel
    have HNX := Lib.hid hnx
    have hsz := hnx.size
    clear hnx
    by_cases hlt : k < 1
    · have hx := HC.out (0 + k) (by omega)
      have hc0 : wr.cell? ⟨b, off + k * 2, none⟩ = some (I (ky l (0 + k))) := by
        rw [show off + k * 2 = off + (0 + k) * 2 by omega]
        exact (HNX.out.cell (by exact hb)).trans hx.1
      have hc1 : wr.cell? ⟨b, off + k * 2 + 1, none⟩ = some (I (dp l (0 + k))) := by
        rw [show off + k * 2 + 1 = off + (0 + k) * 2 + 1 by omega]
        exact (HNX.out.cell (by exact hb)).trans hx.2
      have hbd := HBD.out k
      have hdk := HD.out (0 + k)
      have HM := Lib.hid (show dTo l (0) (k + 1) = max (dTo l (0) k) (dp l (0 + k) + 1) from rfl)
      have hbw : b < wr.heap.size := by omega
      clear hx
      generalize dTo l (0) k = u at *
      generalize dp l (0 + k) = dd at *
      generalize ky l (0 + k) = kk at *
      obtain ⟨q1, q2⟩ := hbd
      obtain ⟨q3, q4⟩ := hdk
      go_wp2
      all_goals go_roundg (gk - 1)
      all_goals first
        | omega
        | exact ⟨k + 1, by omega, by omega, by go_num, by rw [HM.out]; congr 1; omega, HNX.out.alloc hsz _⟩
    · obtain rfl : k = 1 := by omega
      go_wp2
      go_ret
      exact ⟨rfl, HNX.out⟩

set_option maxRecDepth 100000 in
set_option maxHeartbeats 1000000 in
theorem odepth_mid (n c q : Nat) (A : Option Addr) (l : PL) (w : World) (h : PS w A n c l) (hn : n ≤ 1000) (h0 : q + 1 < n) (hd : ∀ i, 0 ≤ dp l i ∧ dp l i ≤ 1000) :
    Calls Tryd.prog 48 #[.slice A n c, I ((q + 1 : Nat))] w fun e w' => e = .returned (I (dTo l (q) 2)) ∧ Below w.heap.size w w' := by
  have HBD := Lib.hid (fun k => dTo_bd (lo := q) hd k)
  have HD := Lib.hid hd
  have hcap := h.rd.1
  obtain ⟨b, off, rfl, hb, hc⟩ := h.dat (by omega)
  have HC := Lib.hid hc
  clear h hd hc
  go_enter Tryd.func48, Tryd.ntmps48
  go_wp2
  go_loopg [5, 19] 2 (fun m u i wr => ∃ k : Nat, k ≤ 2 ∧ 2 - k ≤ m ∧ i = .int .i64 k ∧ u = I (dTo l (q) k) ∧ Below w.heap.size w wr)
  case atStart => exact ⟨0, Nat.zero_le _, by omega, rfl, rfl, Below.refl _ _⟩
  case round =>
    obtain ⟨k, hk, hkm, rfl, rfl, hnx⟩ := hrel
    have HNX := Lib.hid hnx
    have hsz := hnx.size
    clear hnx
    by_cases hlt : k < 2
    · have hx := HC.out (q + k) (by omega)
      have hc0 : wr.cell? ⟨b, off + q * 2 + k * 2, none⟩ = some (I (ky l (q + k))) := by
        rw [show off + q * 2 + k * 2 = off + (q + k) * 2 by omega]
        exact (HNX.out.cell (by exact hb)).trans hx.1
      have hc1 : wr.cell? ⟨b, off + q * 2 + k * 2 + 1, none⟩ = some (I (dp l (q + k))) := by
        rw [show off + q * 2 + k * 2 + 1 = off + (q + k) * 2 + 1 by omega]
        exact (HNX.out.cell (by exact hb)).trans hx.2
      have hbd := HBD.out k
      have hdk := HD.out (q + k)
      have HM := Lib.hid (show dTo l (q) (k + 1) = max (dTo l (q) k) (dp l (q + k) + 1) from rfl)
      have hbw : b < wr.heap.size := by omega
      clear hx
      generalize dTo l (q) k = u at *
      generalize dp l (q + k) = dd at *
      generalize ky l (q + k) = kk at *
      obtain ⟨q1, q2⟩ := hbd
      obtain ⟨q3, q4⟩ := hdk
      go_wp2
      all_goals go_roundg (gk - 1)
      all_goals first
        | omega
        | exact ⟨k + 1, by omega, by omega, by go_num, by rw [HM.out]; congr 1; omega, HNX.out.alloc hsz _⟩
    · obtain rfl : k = 2 := by omega
      go_wp2
      go_ret
      exact ⟨rfl, HNX.out⟩

set_option maxRecDepth 100000 in
set_option maxHeartbeats 1000000 in
theorem odepth_last (n c q : Nat) (A : Option Addr) (l : PL) (w : World) (h : PS w A n c l) (hn : n ≤ 1000) (h0 : n = q + 1) (hd : ∀ i, 0 ≤ dp l i ∧ dp l i ≤ 1000) :
    Calls Tryd.prog 48 #[.slice A n c, I ((q + 1 : Nat))] w fun e w' => e = .returned (I (dTo l (q) 1)) ∧ Below w.heap.size w w' := by
  have HBD := Lib.hid (fun k => dTo_bd (lo := q) hd k)
  have HD := Lib.hid hd
  have hcap := h.rd.1
  obtain ⟨b, off, rfl, hb, hc⟩ := h.dat (by omega)
  have HC := Lib.hid hc
  clear h hd hc
  subst h0
  go_enter Tryd.func48, Tryd.ntmps48
  go_wp2
  go_loopg [5, 19] 1 (fun m u i wr => ∃ k : Nat, k ≤ 1 ∧ 1 - k ≤ m ∧ i = .int .i64 k ∧ u = I (dTo l (q) k) ∧ Below w.heap.size w wr)
  case atStart => exact ⟨0, Nat.zero_le _, by omega, rfl, rfl, Below.refl _ _⟩
  case round =>
    obtain ⟨k, hk, hkm, rfl, rfl, hnx⟩ := hrel
    have HNX := Lib.hid hnx
    have hsz := hnx.size
    clear hnx
    by_cases hlt : k < 1
    · have hx := HC.out (q + k) (by omega)
      have hc0 : wr.cell? ⟨b, off + q * 2 + k * 2, none⟩ = some (I (ky l (q + k))) := by
        rw [show off + q * 2 + k * 2 = off + (q + k) * 2 by omega]
        exact (HNX.out.cell (by exact hb)).trans hx.1
      have hc1 : wr.cell? ⟨b, off + q * 2 + k * 2 + 1, none⟩ = some (I (dp l (q + k))) := by
        rw [show off + q * 2 + k * 2 + 1 = off + (q + k) * 2 + 1 by omega]
        exact (HNX.out.cell (by exact hb)).trans hx.2
      have hbd := HBD.out k
      have hdk := HD.out (q + k)
      have HM := Lib.hid (show dTo l (q) (k + 1) = max (dTo l (q) k) (dp l (q + k) + 1) from rfl)
      have hbw : b < wr.heap.size := by omega
      clear hx
      generalize dTo l (q) k = u at *
      generalize dp l (q + k) = dd at *
      generalize ky l (q + k) = kk at *
      obtain ⟨q1, q2⟩ := hbd
      obtain ⟨q3, q4⟩ := hdk
      go_wp2
      all_goals go_roundg (gk - 1)
      all_goals first
        | omega
        | exact ⟨k + 1, by omega, by omega, by go_num, by rw [HM.out]; congr 1; omega, HNX.out.alloc hsz _⟩
    · obtain rfl : k = 1 := by omega
      go_wp2
      go_ret
      exact ⟨rfl, HNX.out⟩

theorem odepth_any (A : Option Addr) (n c p : Nat) (l : PL) (w : World) (h : PS w A n c l) (hn : n ≤ 1000) (h0 : 0 < n) (hp : p ≤ n) (hd : ∀ i, 0 ≤ dp l i ∧ dp l i ≤ 1000) :
    Calls Tryd.prog 48 #[.slice A n c, I p] w fun e w' => e = .returned (I (dAt l p)) ∧ Below w.heap.size w w' := by
  rw [← dTo_all h.len h0 hp hd]
  rcases Nat.eq_zero_or_pos p with h1 | h1
  · subst h1
    rw [show min (0 + 1) n - (0 - 1) = 1 by omega]
    exact odepth_first n c A l w h hn h0 hd
  · obtain ⟨q, rfl⟩ : ∃ q, p = q + 1 := ⟨p - 1, by omega⟩
    rw [Nat.add_sub_cancel]
    by_cases h2 : q + 1 < n
    · rw [show min (q + 1 + 1) n - q = 2 by omega]
      exact odepth_mid n c q A l w h hn h2 hd
    · rw [show min (q + 1 + 1) n - q = 1 by omega]
      exact odepth_last n c q A l w h hn (by omega) hd

set_option maxRecDepth 100000 in
set_option maxHeartbeats 1000000 in
theorem opartOf_any (A : Option Addr) (n c i : Nat) (l : PL) (w : World) (h : PS w A n c l) (hn : n ≤ 1000) (hi : i < n) :
    Calls Tryd.prog 73 #[.slice A n c, I i] w fun e w' => e = .returned (.tuple #[I (frR l i), I (toR l i)]) ∧ Below w.heap.size w w' := by
  have H := Lib.hid h
  have Hlen := Lib.hid h.len
  clear h
  obtain ⟨b, off, rfl, hb, hc⟩ := H.out.dat (by omega)
  have HC : Hid (∀ wr, Below w.heap.size w wr → ∀ j, j < n → wr.cell? ⟨b, off + j * 2 + 1, none⟩ = some (I (dp l j))) := fun wr hnx j hj => (hnx.cell (by exact hb)).trans (hc j hj).2
  clear hc
  go_enter Tryd.func73, Tryd.ntmps73
  go_wp2
  go_loopw [6] (fun x wr => ∃ f : Nat, f ≤ i ∧ x = .int .i64 f ∧ frA l (dp l i) f = frR l i ∧ Below w.heap.size w wr) (fun x _ => (intOf x).toNat)
  case atStart => exact ⟨i, Nat.le_refl _, rfl, rfl, Below.refl _ _⟩
  case round =>
    obtain ⟨f, hf, rfl, hfr, hnx⟩ := hrel
    have hci : wr.cell? ⟨b, off + i * 2 + 1, none⟩ = some (I (dp l i)) := HC.out wr hnx i hi
    by_cases hgo : 0 < f ∧ dp l i < dp l (f - 1)
    · obtain ⟨hf0, hd⟩ := hgo
      have hcf : wr.cell? ⟨b, off + (f - 1) * 2 + 1, none⟩ = some (I (dp l (f - 1))) := HC.out wr hnx (f - 1) (by omega)
      have HR : Hid (frA l (dp l i) (f - 1) = frR l i) := (frA_go hf0 hd).trans hfr
      clear hfr
      go_wp2
      go_quiet (fail)
      go_wp2
      go_roundw
      case rel => exact ⟨f - 1, by omega, by congr 1; omega, HR.out, below_drewN hnx _⟩
      case measure => simp [intOf]; omega
    · have HR : Hid (frR l i = f) := by
        show _ = _
        rw [← hfr]
        exact frA_stop (fun h0 hd => hgo ⟨h0, hd⟩)
      clear hfr
      have hb1 : ∀ q, Below w.heap.size w (wr.drewN q) := fun q => below_drewN hnx q
      have HB1 := Lib.hid hb1
      clear hb1
      by_cases hf0 : 0 < f
      · have hd : ¬ dp l i < dp l (f - 1) := fun h => hgo ⟨hf0, h⟩
        have hcf : wr.cell? ⟨b, off + (f - 1) * 2 + 1, none⟩ = some (I (dp l (f - 1))) := HC.out wr hnx (f - 1) (by omega)
        clear hgo
        go_wp2
        go_quiet (fail)
        go_wp2
        go_loopw [7] (fun x wz => ∃ t : Nat, i + 1 ≤ t ∧ t ≤ n ∧ x = .int .i64 t ∧ toA l (dp l i) (n - t) t = toR l i ∧ Below w.heap.size w wz) (fun x _ => n - (intOf x).toNat)
        case atStart => exact ⟨i + 1, Nat.le_refl _, by omega, by go_num, by unfold toR; rw [Hlen.out], HB1.out _⟩
        case round =>
          obtain ⟨t, ht1, ht2, rfl, hto, hnz⟩ := hrel
          have hci : wr.cell? ⟨b, off + i * 2 + 1, none⟩ = some (I (dp l i)) := HC.out wr hnz i hi
          by_cases hgo : t < n ∧ dp l i < dp l t
          · obtain ⟨htn, hd⟩ := hgo
            have hcf : wr.cell? ⟨b, off + t * 2 + 1, none⟩ = some (I (dp l t)) := HC.out wr hnz t htn
            have HT : Hid (toA l (dp l i) (n - (t + 1)) (t + 1) = toR l i) := (toA_go htn hd).trans hto
            clear hto
            go_wp2
            go_quiet (fail)
            go_wp2
            go_roundw
            case rel => exact ⟨t + 1, by omega, by omega, by go_num, HT.out, below_drewN hnz _⟩
            case measure => simp [intOf]; omega
          · have HT : Hid (toR l i = t) := by
              show _ = _
              rw [← hto]
              exact toA_stop (fun h0 hd => hgo ⟨h0, hd⟩)
            clear hto
            by_cases htn : t < n
            · have hd : ¬ dp l i < dp l t := fun h => hgo ⟨htn, h⟩
              have hcf : wr.cell? ⟨b, off + t * 2 + 1, none⟩ = some (I (dp l t)) := HC.out wr hnz t htn
              clear hgo
              go_wp2
              go_quiet (fail)
              go_wp2
              go_ret2
              exact ⟨by rw [HR.out, HT.out]; rfl, below_drewN hnz _⟩
            · have hd : decide (t < n) = false := by simpa using htn
              clear hgo
              go_wp2
              go_quiet (fail)
              go_wp2
              go_ret2
              exact ⟨by rw [HR.out, HT.out]; rfl, below_drewN hnz _⟩
      · have hd : decide (0 < f) = false := by simpa using hf0
        clear hgo
        go_wp2
        go_quiet (fail)
        go_wp2
        go_loopw [7] (fun x wz => ∃ t : Nat, i + 1 ≤ t ∧ t ≤ n ∧ x = .int .i64 t ∧ toA l (dp l i) (n - t) t = toR l i ∧ Below w.heap.size w wz) (fun x _ => n - (intOf x).toNat)
        case atStart => exact ⟨i + 1, Nat.le_refl _, by omega, by go_num, by unfold toR; rw [Hlen.out], HB1.out _⟩
        case round =>
          obtain ⟨t, ht1, ht2, rfl, hto, hnz⟩ := hrel
          have hci : wr.cell? ⟨b, off + i * 2 + 1, none⟩ = some (I (dp l i)) := HC.out wr hnz i hi
          by_cases hgo : t < n ∧ dp l i < dp l t
          · obtain ⟨htn, hd⟩ := hgo
            have hcf : wr.cell? ⟨b, off + t * 2 + 1, none⟩ = some (I (dp l t)) := HC.out wr hnz t htn
            have HT : Hid (toA l (dp l i) (n - (t + 1)) (t + 1) = toR l i) := (toA_go htn hd).trans hto
            clear hto
            go_wp2
            go_quiet (fail)
            go_wp2
            go_roundw
            case rel => exact ⟨t + 1, by omega, by omega, by go_num, HT.out, below_drewN hnz _⟩
            case measure => simp [intOf]; omega
          · have HT : Hid (toR l i = t) := by
              show _ = _
              rw [← hto]
              exact toA_stop (fun h0 hd => hgo ⟨h0, hd⟩)
            clear hto
            by_cases htn : t < n
            · have hd : ¬ dp l i < dp l t := fun h => hgo ⟨htn, h⟩
              have hcf : wr.cell? ⟨b, off + t * 2 + 1, none⟩ = some (I (dp l t)) := HC.out wr hnz t htn
              clear hgo
              go_wp2
              go_quiet (fail)
              go_wp2
              go_ret2
              exact ⟨by rw [HR.out, HT.out]; rfl, below_drewN hnz _⟩
            · have hd : decide (t < n) = false := by simpa using htn
              clear hgo
              go_wp2
              go_quiet (fail)
              go_wp2
              go_ret2
              exact ⟨by rw [HR.out, HT.out]; rfl, below_drewN hnz _⟩


theorem pow_stop {m a b : Nat} (h : m * 2 ^ a < 3 ^ a) (hab : a ≤ b) : m * 2 ^ b < 3 ^ b := by
  obtain ⟨r, rfl⟩ : ∃ r, b = a + r := ⟨b - a, by omega⟩
  clear hab
  induction r with
  | zero => exact h
  | succ r ih =>
    rw [← Nat.add_assoc, Nat.pow_succ, Nat.pow_succ, ← Nat.mul_assoc]
    generalize m * 2 ^ (a + r) = x at *
    generalize 3 ^ (a + r) = y at *
    omega
theorem dpst_is {m k : Nat} (hk : k ≤ 30) (h1 : k = 0 ∨ 3 ^ k ≤ m * 2 ^ k) (h2 : m * 2 ^ (k + 1) < 3 ^ (k + 1)) : dpst m = k := by
  have hle : k ≤ dpst m := by
    rcases h1 with h | h
    · omega
    · exact dpS_ge hk h
  rcases Nat.eq_zero_or_pos m with h0 | h0
  · subst h0
    have : dpst 0 = 0 := by decide
    omega
  · have h3 := dpS_is h0 30
    have : ¬ k + 1 ≤ dpst m := fun hh => by
      have := pow_stop h2 hh
      unfold dpst at this
      omega
    omega
theorem pow_14 : 3 ^ 14 = 4782969 ∧ 2 ^ 14 = 16384 := by decide +kernel
theorem pow_200 {m : Nat} (hm : m ≤ 200) : m * 2 ^ 14 < 3 ^ 14 := by
  rw [pow_14.1, pow_14.2]
  omega
theorem pow_small {k : Nat} (hk : k ≤ 14) : 3 ^ k ≤ 4782969 ∧ 2 ^ k ≤ 16384 := by
  have h1 : 3 ^ k ≤ 3 ^ 14 := Nat.pow_le_pow_right (by decide) hk
  have h2 : 2 ^ k ≤ 2 ^ 14 := Nat.pow_le_pow_right (by decide) hk
  rw [pow_14.1] at h1
  rw [pow_14.2] at h2
  exact ⟨h1, h2⟩

set_option maxRecDepth 100000 in
set_option maxHeartbeats 1000000 in
theorem odeepest_any (m : Nat) (w : World) (hm : m ≤ 200) :
    Calls Tryd.prog 29 #[I m] w fun e w' => e = .returned (I (dpst m)) ∧ w' = w := by
  go_enter Tryd.func29, Tryd.ntmps29
  go_wp2
  go_loopg [3, 4, 5] 14 (fun q u a b wr => wr = w ∧ ∃ k : Nat, k ≤ 13 ∧ 14 - k ≤ q ∧ u = .int .i64 k ∧ a = .int .i64 ((3 ^ (k + 1) : Nat) : Int) ∧ b = .int .i64 ((2 ^ (k + 1) : Nat) : Int) ∧ (k = 0 ∨ 3 ^ k ≤ m * 2 ^ k))
  case atStart => exact ⟨rfl, 0, by omega, by omega, rfl, rfl, rfl, .inl rfl⟩
  case round =>
    obtain ⟨rfl, k, hk, hkq, rfl, rfl, rfl, hor⟩ := hrel
    have hps := pow_small (k := k + 1) (by omega)
    have H14 : Hid (k = 13 → m * 2 ^ (k + 1) < 3 ^ (k + 1)) := fun e => by subst e; exact pow_200 hm
    have HIS : Hid (m * 2 ^ (k + 1) < 3 ^ (k + 1) → dpst m = k) := fun h2 => dpst_is (by omega) hor h2
    have HUP : Hid (3 ^ (k + 1 + 1) = 3 ^ (k + 1) * 3 ∧ 2 ^ (k + 1 + 1) = 2 ^ (k + 1) * 2) := ⟨Nat.pow_succ .., Nat.pow_succ ..⟩
    obtain ⟨x, hx0⟩ : ∃ x, 3 ^ (k + 1) = x := ⟨_, rfl⟩
    obtain ⟨y, hy0⟩ : ∃ y, 2 ^ (k + 1) = y := ⟨_, rfl⟩
    have HOR : Hid (x ≤ m * y → (k + 1 = 0 ∨ Hid (3 ^ (k + 1) ≤ m * 2 ^ (k + 1)))) := fun h => .inr (by rw [← hx0, ← hy0] at h; exact h)
    rw [hx0, hy0] at hps H14 HIS ⊢
    rw [hx0, hy0] at HUP
    clear hor hx0 hy0
    obtain ⟨hx, hy⟩ := hps
    have hmy : m * y ≤ 200 * 16384 := Nat.mul_le_mul hm hy
    obtain ⟨z, hz⟩ : ∃ z, m * y = z := ⟨_, rfl⟩
    have hz' : (m : Int) * (y : Int) = (z : Int) := by rw [← hz]; simp
    rw [hz] at hmy H14 HIS HOR
    clear hz
    by_cases hlt : x ≤ z
    · have hkk : k ≠ 13 := fun e => by have := H14.out e; omega
      have HR := Lib.hid (HOR.out hlt)
      go_wp2
      go_roundg (gk - 1)
      case measure => omega
      case rel =>
        refine ⟨rfl, k + 1, by omega, by omega, by go_num, ?_, ?_, ?_⟩
        · rw [HUP.out.1]; congr 1
        · rw [HUP.out.2]; congr 1
        · rcases HR.out with h | h
          · omega
          · exact .inr h.out
    · have HE := Lib.hid (HIS.out (by omega))
      go_wp2
      go_ret
      exact ⟨ret_int (by rw [HE.out]), rfl⟩

theorem ODeepest_bad (m : Int) (w : World) (hm : m < 0 ∨ 200 < m) :
    Calls Tryd.prog 9 #[I m] w fun e w' => e = .returned (.tuple #[I 0, I 1]) ∧ w' = w := by
  by_cases h : m < 0
  · go_enter Tryd.func9, Tryd.ntmps9
    go_wp2
    go_ret2
    exact ⟨rfl, rfl⟩
  · have h2 : 200 < m := by omega
    clear hm
    go_enter Tryd.func9, Tryd.ntmps9
    go_wp2
    go_ret2
    exact ⟨rfl, rfl⟩
theorem ODeepest_ok (m : Nat) (w : World) (hm : m ≤ 200) :
    Calls Tryd.prog 9 #[I m] w fun e w' => e = .returned (.tuple #[I (dpst m), I 0]) ∧ w' = w := by
  have HD := Lib.hid (odeepest_any m w hm)
  have h1 : ¬ (m : Int) < 0 := by omega
  have h2 : ¬ (200 : Int) < m := by omega
  generalize dpst m = z at *
  go_enter Tryd.func9, Tryd.ntmps9
  go_wp2_with fail
  refine HD.out.mono ?_
  rintro e w1 ⟨rfl, rfl⟩
  go_wp2
  go_ret2
  exact ⟨rfl, rfl⟩

end Go.Proofs.YtolgncaaffmmnaaDoor
