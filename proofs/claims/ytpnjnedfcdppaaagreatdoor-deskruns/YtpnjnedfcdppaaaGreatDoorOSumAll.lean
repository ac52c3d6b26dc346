/-
  Joined texts: YtpnjnedfcdppaaaGreatDoorGSpots, YtpnjnedfcdppaaaGreatDoorOLeaf, YtpnjnedfcdppaaaGreatDoorOSum.
-/
import Derived.Test.YtpnjnedfcdppaaaGreatDoorGPlace
import Derived.Test.YtpnjnedfcdppaaaGreatDoorSOrdAll
import Derived.Test.YtpnjnedfcdppaaaGreatDoorInts
import Derived.Test.YtpnjnedfcdppaaaGreatDoorOSpotsAll
import Derived.Test.YtpnjnedfcdppaaaGreatDoorSChkAll
import Derived.Deep.LoopGhost
/-
  spots: a tree's nodes, told in order, appended onto a list of the call's own.
-/
namespace Go.Proofs.YtpnjnedfcdppaaaGreatDoor
open Go.RowKit

set_option maxRecDepth 100000 in
set_option maxHeartbeats 2000000 in
theorem spots_any (t : PT) : ∀ (base : Nat) (v : Value) (L : PL) (d : Int) (w : World), t.Lay w → (∀ x ∈ t.bs, x < base) → OwnR w base 82 v L → base ≤ w.heap.size → L.length + t.tr.size ≤ 1000 → 0 ≤ d → d + t.tr.size ≤ 1000 →
    Calls Tryz.prog 62 #[v, .pointer t.q, I d] w (RetSO (L ++ t.tr.sp d) base w) := by
  induction t with
  | nil =>
    intro base v L d w h hbs hown hbase hL hd hd2
    have HO := Lib.hid hown
    clear h hown
    show Calls Tryz.prog 62 #[v, .pointer none, I d] w _
    go_enter Tryz.func62, Tryz.ntmps62
    go_wp2
    go_ret
    exact ⟨v, rfl, by simpa [PT.tr, Tr.sp] using HO.out, Below.refl _ _⟩
  | node g a k b iha ihb =>
    intro base v L d w h hbs hown hbase hL hd hd2
    simp only [PT.tr, Tr.size] at hL hd2
    obtain ⟨hN, hla, hlb⟩ := h
    have hgb : g < base := hbs g (by simp [PT.bs])
    have IHA := Lib.hid (iha base v L (d + 1) w hla (fun x hx => hbs x (by simp [PT.bs, hx])) hown hbase (by omega) (by omega) (by omega))
    have HB := Lib.hid hlb
    have HBS := Lib.hid hbs
    have IHB := Lib.hid ihb
    have h0 : w.cell? ⟨g, 0, none⟩ = some (I k) := hN.facts.1.1
    have h1 : w.cell? ⟨g, 1, none⟩ = some (.pointer a.q) := hN.facts.1.2.1
    have h2 : w.cell? ⟨g, 2, none⟩ = some (.pointer b.q) := hN.facts.1.2.2
    have hsa : (L ++ a.tr.sp (d + 1)).length = L.length + a.tr.size := by rw [List.length_append, sp_length]
    have HSA := Lib.hid hsa
    clear hN hla hlb hbs ihb iha hown hsa
    show Calls Tryz.prog 62 #[v, .pointer (some ⟨g, 0, none⟩), I d] w _
    go_enter Tryz.func62, Tryz.ntmps62
    go_wp2_with fail
    refine IHA.out.mono ?_
    rintro e w1 ⟨v1, rfl, ho1, hb1⟩
    have HO1 := Lib.hid ho1
    have HB1 := Lib.hid hb1
    have hs1 := hb1.size
    have h0' : w1.cell? ⟨g, 0, none⟩ = some (I k) := (hb1.cell (by exact hgb)).trans h0
    have h2' : w1.cell? ⟨g, 2, none⟩ = some (.pointer b.q) := (hb1.cell (by exact hgb)).trans h2
    clear ho1 hb1 IHA h0 h1 h2
    go_wp2_with (first
      | (at_builtin
         refine wpList_app2 rfl (.tmp 18) (.tmp 25) 41 rfl 82 Tryz.underlying41 gspot_info base v1 (L ++ a.tr.sp (d + 1)) [(k, d)] (some ⟨w1.heap.size, 0, none⟩) 1 1 rfl rfl (own_below HO1.out ((Below.refl _ _).alloc (Nat.le_refl _) _)) (gsrc_one w1 k d) ?hbd ?hbs ?_
         case hbd => rw [HSA.out]; omega
         case hbs => simp; omega
         intro v2 w2 hown2 hgrow2 _
         have hb12 : Below base w1 w2 := ((Below.refl _ _).alloc (by omega) _).grown hgrow2 (by simp; omega) (fun i hi => OwnR.ge HO1.out i hi)
         have hs2 := hb12.size
         have h2'' : w2.cell? ⟨g, 2, none⟩ = some (.pointer b.q) := (hb12.cell (by exact hgb)).trans h2')
      | fail)
    have HB2 : Hid (Below base w w2) := Below.trans HB1.out hb12
    have HO2 : Hid (OwnR w2 base 82 v2 (L ++ a.tr.sp (d + 1) ++ [(k, d)])) := hown2
    have HLB2 : Hid (b.Lay w2) := HB.out.keep fun x hx => HB2.out.block x (HBS.out x (by simp [PT.bs, hx]))
    clear hown2 hgrow2 hb12 h2' h0'
    refine (IHB.out base v2 (L ++ a.tr.sp (d + 1) ++ [(k, d)]) (d + 1) w2 HLB2.out (fun x hx => HBS.out x (by simp [PT.bs, hx])) HO2.out (by omega) ?hl (by omega) (by omega)).mono ?_
    case hl => rw [List.length_append, HSA.out]; simp; omega
    rintro e w3 ⟨v3, rfl, ho3, hb3⟩
    have HO3 := Lib.hid ho3
    have HB3 := Lib.hid (HB2.out.trans hb3)
    clear ho3 hb3
    go_wp2
    go_ret
    exact ⟨v3, rfl, by simpa [PT.tr, Tr.sp] using HO3.out, HB3.out⟩

end Go.Proofs.YtpnjnedfcdppaaaGreatDoor

/-
  package goat: placeOf, depthAt, partOf, deepest, Deepest.
-/
namespace Go.Proofs.YtpnjnedfcdppaaaGreatDoor
open Go.RowKit

set_option maxRecDepth 100000 in
set_option maxHeartbeats 1000000 in
theorem oplace_any (A : Option Addr) (n c p : Nat) (l : PL) (x : Int) (w : World) (h : PS w A n c l) (hn : n ≤ 1000) (hp : p ≤ n) (hlo : ∀ i, i < p → ky l i < x) (hhi : p < n → ¬ ky l p < x) :
    Calls Tryz.prog 133 #[.slice A n c, I x] w fun e w' => e = .returned (I p) ∧ w' = w := by
  have H := Lib.hid h
  have HLO := Lib.hid hlo
  have HHI := Lib.hid hhi
  clear h hlo hhi
  go_enter Tryz.func133, Tryz.ntmps133
  go_wp2
  go_loop [5] (fun i => ∃ k : Nat, k ≤ p ∧ i = .int .i64 k) (fun i => p - (intOf i).toNat)
  case atStart => exact ⟨0, Nat.zero_le _, rfl⟩
  case round =>
    obtain ⟨k, hk, rfl⟩ := hrel
    by_cases hlt : k < p
    · obtain ⟨b, off, rfl, hb, hc⟩ := H.out.dat (by omega)
      have hc0 := (hc k (by omega)).1
      have hkx := HLO.out k hlt
      have hkn : k < n := by omega
      clear hc
      go_wp2
      go_round
      case rel => exact ⟨k + 1, by omega, by go_num⟩
      case measure => simp [intOf]; omega
    · obtain rfl : k = p := by omega
      by_cases hkn : k < n
      · obtain ⟨b, off, rfl, hb, hc⟩ := H.out.dat (by omega)
        have hc0 := (hc k (by omega)).1
        have hkx := HHI.out hkn
        clear hc
        go_wp2
        go_ret
        exact ⟨rfl, rfl⟩
      · go_wp2
        go_ret
        exact ⟨rfl, rfl⟩

def dTo (l : PL) (lo : Nat) : Nat → Int
  | 0 => 0
  | k + 1 => max (dTo l lo k) (dp l (lo + k) + 1)
theorem dTo_all {l : PL} {p n : Nat} (hl : l.length = n) (h0 : 0 < n) (hp : p ≤ n) (hd : ∀ i, 0 ≤ dp l i ∧ dp l i ≤ 1000) : dTo l (p - 1) (min (p + 1) n - (p - 1)) = dAt l p := by
  unfold dAt
  rw [hl]
  rcases Nat.eq_zero_or_pos p with h | h
  · subst h
    rw [show min (0 + 1) n - (0 - 1) = 1 by omega, if_neg (by omega), if_pos h0]
    simp [dTo]
  · have h1 := hd (p - 1)
    rw [if_pos h]
    by_cases hpn : p < n
    · rw [show min (p + 1) n - (p - 1) = 2 by omega, if_pos hpn]
      simp only [dTo, Nat.add_zero]
      rw [show p - 1 + 1 = p by omega]
      omega
    · rw [show min (p + 1) n - (p - 1) = 1 by omega, if_neg hpn]
      simp only [dTo, Nat.add_zero]
      omega
theorem dTo_bd {l : PL} {lo : Nat} (hd : ∀ i, 0 ≤ dp l i ∧ dp l i ≤ 1000) : ∀ k, 0 ≤ dTo l lo k ∧ dTo l lo k ≤ 1001
  | 0 => by simp [dTo]
  | k + 1 => by
    have := dTo_bd (lo := lo) hd k
    have := hd (lo + k)
    simp only [dTo]
    omega

theorem odepth_nil (A : Option Addr) (c : Nat) (w : World) :
    Calls Tryz.prog 134 #[.slice A 0 c, I 0] w fun e w' => e = .returned (I 0) ∧ w' = w := by
  go_enter Tryz.func134, Tryz.ntmps134
  go_wp2
  all_goals
    go_loop [5, 19] (fun u i => u = I 0 ∧ i = .int .i64 0) (fun _ _ => 0)
    case atStart => exact ⟨rfl, rfl⟩
    case round =>
      obtain ⟨rfl, rfl⟩ := hrel
      go_wp2
      go_ret
      exact ⟨rfl, rfl⟩

set_option maxRecDepth 100000 in
set_option maxHeartbeats 1000000 in
theorem odepth_first (n c : Nat) (A : Option Addr) (l : PL) (w : World) (h : PS w A n c l) (hn : n ≤ 1000) (h0 : 0 < n) (hd : ∀ i, 0 ≤ dp l i ∧ dp l i ≤ 1000) :
    Calls Tryz.prog 134 #[.slice A n c, I (0)] w fun e w' => e = .returned (I (dTo l (0) 1)) ∧ Below w.heap.size w w' := by
  have HBD := Lib.hid (fun k => dTo_bd (lo := 0) hd k)
  have HD := Lib.hid hd
  have hcap := h.rd.1
  obtain ⟨b, off, rfl, hb, hc⟩ := h.dat (by omega)
  have HC := Lib.hid hc
  clear h hd hc
  go_enter Tryz.func134, Tryz.ntmps134
  go_wp2
  go_loopg [5, 19] 1 (fun m u i wr => ∃ k : Nat, k ≤ 1 ∧ 1 - k ≤ m ∧ i = .int .i64 k ∧ u = I (dTo l (0) k) ∧ Below w.heap.size w wr)
  case atStart => exact ⟨0, Nat.zero_le _, by omega, rfl, rfl, Below.refl _ _⟩
  case round =>
    obtain ⟨k, hk, hkm, rfl, rfl, hnx⟩ := hrel
    have HNX := Lib.hid hnx
    have hsz := hnx.size
    clear hnx
    by_cases hlt : k < 1
    · have hx := HC.out (0 + k) (by omega)
      have hc0 : wr.cell? ⟨b, off + k * 2, none⟩ = some (I (ky l (0 + k))) := by
        rw [show off + k * 2 = off + (0 + k) * 2 by omega]
        exact (HNX.out.cell (by exact hb)).trans hx.1
      have hc1 : wr.cell? ⟨b, off + k * 2 + 1, none⟩ = some (I (dp l (0 + k))) := by
        rw [show off + k * 2 + 1 = off + (0 + k) * 2 + 1 by omega]
        exact (HNX.out.cell (by exact hb)).trans hx.2
      have hbd := HBD.out k
      have hdk := HD.out (0 + k)
      have HM := Lib.hid (show dTo l (0) (k + 1) = max (dTo l (0) k) (dp l (0 + k) + 1) from rfl)
      have hbw : b < wr.heap.size := by omega
      clear hx
      generalize dTo l (0) k = u at *
      generalize dp l (0 + k) = dd at *
      generalize ky l (0 + k) = kk at *
      obtain ⟨q1, q2⟩ := hbd
      obtain ⟨q3, q4⟩ := hdk
      go_wp2
      all_goals go_roundg (gk - 1)
      all_goals first
        | omega
        | exact ⟨k + 1, by omega, by omega, by go_num, by rw [HM.out]; congr 1; omega, HNX.out.alloc hsz _⟩
    · obtain rfl : k = 1 := by omega
      go_wp2
      go_ret
      exact ⟨rfl, HNX.out⟩

set_option maxRecDepth 100000 in
set_option maxHeartbeats 1000000 in
theorem odepth_mid (n c q : Nat) (A : Option Addr) (l : PL) (w : World) (h : PS w A n c l) (hn : n ≤ 1000) (h0 : q + 1 < n) (hd : ∀ i, 0 ≤ dp l i ∧ dp l i ≤ 1000) :
    Calls Tryz.prog 134 #[.slice A n c, I ((q + 1 : Nat))] w fun e w' => e = .returned (I (dTo l (q) 2)) ∧ Below w.heap.size w w' := by
  have HBD := Lib.hid (fun k => dTo_bd (lo := q) hd k)
  have HD := Lib.hid hd
  have hcap := h.rd.1
  obtain ⟨b, off, rfl, hb, hc⟩ := h.dat (by omega)
  have HC := Lib.hid hc
  clear h hd hc
  go_enter Tryz.func134, Tryz.ntmps134
  go_wp2
  go_loopg [5, 19] 2 (fun m u i wr => ∃ k : Nat, k ≤ 2 ∧ 2 - k ≤ m ∧ i = .int .i64 k ∧ u = I (dTo l (q) k) ∧ Below w.heap.size w wr)
  case atStart => exact ⟨0, Nat.zero_le _, by omega, rfl, rfl, Below.refl _ _⟩
  case round =>
    obtain ⟨k, hk, hkm, rfl, rfl, hnx⟩ := hrel
    have HNX := Lib.hid hnx
    have hsz := hnx.size
    clear hnx
    by_cases hlt : k < 2
    · have hx := HC.out (q + k) (by omega)
      have hc0 : wr.cell? ⟨b, off + q * 2 + k * 2, none⟩ = some (I (ky l (q + k))) := by
        rw [show off + q * 2 + k * 2 = off + (q + k) * 2 by omega]
        exact (HNX.out.cell (by exact hb)).trans hx.1
      have hc1 : wr.cell? ⟨b, off + q * 2 + k * 2 + 1, none⟩ = some (I (dp l (q + k))) := by
        rw [show off + q * 2 + k * 2 + 1 = off + (q + k) * 2 + 1 by omega]
        exact (HNX.out.cell (by exact hb)).trans hx.2
      have hbd := HBD.out k
      have hdk := HD.out (q + k)
      have HM := Lib.hid (show dTo l (q) (k + 1) = max (dTo l (q) k) (dp l (q + k) + 1) from rfl)
      have hbw : b < wr.heap.size := by omega
      clear hx
      generalize dTo l (q) k = u at *
      generalize dp l (q + k) = dd at *
      generalize ky l (q + k) = kk at *
      obtain ⟨q1, q2⟩ := hbd
      obtain ⟨q3, q4⟩ := hdk
      go_wp2
      all_goals go_roundg (gk - 1)
      all_goals first
        | omega
        | exact ⟨k + 1, by omega, by omega, by go_num, by rw [HM.out]; congr 1; omega, HNX.out.alloc hsz _⟩
    · obtain rfl : k = 2 := by omega
      go_wp2
      go_ret
      exact ⟨rfl, HNX.out⟩

set_option maxRecDepth 100000 in
set_option maxHeartbeats 1000000 in
theorem odepth_last (n c q : Nat) (A : Option Addr) (l : PL) (w : World) (h : PS w A n c l) (hn : n ≤ 1000) (h0 : n = q + 1) (hd : ∀ i, 0 ≤ dp l i ∧ dp l i ≤ 1000) :
    Calls Tryz.prog 134 #[.slice A n c, I ((q + 1 : Nat))] w fun e w' => e = .returned (I (dTo l (q) 1)) ∧ Below w.heap.size w w' := by
  have HBD := Lib.hid (fun k => dTo_bd (lo := q) hd k)
  have HD := Lib.hid hd
  have hcap := h.rd.1
  obtain ⟨b, off, rfl, hb, hc⟩ := h.dat (by omega)
  have HC := Lib.hid hc
  clear h hd hc
  subst h0
  go_enter Tryz.func134, Tryz.ntmps134
  go_wp2
  go_loopg [5, 19] 1 (fun m u i wr => ∃ k : Nat, k ≤ 1 ∧ 1 - k ≤ m ∧ i = .int .i64 k ∧ u = I (dTo l (q) k) ∧ Below w.heap.size w wr)
  case atStart => exact ⟨0, Nat.zero_le _, by omega, rfl, rfl, Below.refl _ _⟩
  case round =>
    obtain ⟨k, hk, hkm, rfl, rfl, hnx⟩ := hrel
    have HNX := Lib.hid hnx
    have hsz := hnx.size
    clear hnx
    by_cases hlt : k < 1
    · have hx := HC.out (q + k) (by omega)
      have hc0 : wr.cell? ⟨b, off + q * 2 + k * 2, none⟩ = some (I (ky l (q + k))) := by
        rw [show off + q * 2 + k * 2 = off + (q + k) * 2 by omega]
        exact (HNX.out.cell (by exact hb)).trans hx.1
      have hc1 : wr.cell? ⟨b, off + q * 2 + k * 2 + 1, none⟩ = some (I (dp l (q + k))) := by
        rw [show off + q * 2 + k * 2 + 1 = off + (q + k) * 2 + 1 by omega]
        exact (HNX.out.cell (by exact hb)).trans hx.2
      have hbd := HBD.out k
      have hdk := HD.out (q + k)
      have HM := Lib.hid (show dTo l (q) (k + 1) = max (dTo l (q) k) (dp l (q + k) + 1) from rfl)
      have hbw : b < wr.heap.size := by omega
      clear hx
      generalize dTo l (q) k = u at *
      generalize dp l (q + k) = dd at *
      generalize ky l (q + k) = kk at *
      obtain ⟨q1, q2⟩ := hbd
      obtain ⟨q3, q4⟩ := hdk
      go_wp2
      all_goals go_roundg (gk - 1)
      all_goals first
        | omega
        | exact ⟨k + 1, by omega, by omega, by go_num, by rw [HM.out]; congr 1; omega, HNX.out.alloc hsz _⟩
    · obtain rfl : k = 1 := by omega
      go_wp2
      go_ret
      exact ⟨rfl, HNX.out⟩

theorem odepth_any (A : Option Addr) (n c p : Nat) (l : PL) (w : World) (h : PS w A n c l) (hn : n ≤ 1000) (h0 : 0 < n) (hp : p ≤ n) (hd : ∀ i, 0 ≤ dp l i ∧ dp l i ≤ 1000) :
    Calls Tryz.prog 134 #[.slice A n c, I p] w fun e w' => e = .returned (I (dAt l p)) ∧ Below w.heap.size w w' := by
  rw [← dTo_all h.len h0 hp hd]
  rcases Nat.eq_zero_or_pos p with h1 | h1
  · subst h1
    rw [show min (0 + 1) n - (0 - 1) = 1 by omega]
    exact odepth_first n c A l w h hn h0 hd
  · obtain ⟨q, rfl⟩ : ∃ q, p = q + 1 := ⟨p - 1, by omega⟩
    rw [Nat.add_sub_cancel]
    by_cases h2 : q + 1 < n
    · rw [show min (q + 1 + 1) n - q = 2 by omega]
      exact odepth_mid n c q A l w h hn h2 hd
    · rw [show min (q + 1 + 1) n - q = 1 by omega]
      exact odepth_last n c q A l w h hn (by omega) hd

set_option maxRecDepth 100000 in
set_option maxHeartbeats 1000000 in
theorem opartOf_any (A : Option Addr) (n c i : Nat) (l : PL) (w : World) (h : PS w A n c l) (hn : n ≤ 1000) (hi : i < n) :
    Calls Tryz.prog 197 #[.slice A n c, I i] w fun e w' => e = .returned (.tuple #[I (frR l i), I (toR l i)]) ∧ Below w.heap.size w w' := by
  have H := Lib.hid h
  have Hlen := Lib.hid h.len
  clear h
  obtain ⟨b, off, rfl, hb, hc⟩ := H.out.dat (by omega)
  have HC : Hid (∀ wr, Below w.heap.size w wr → ∀ j, j < n → wr.cell? ⟨b, off + j * 2 + 1, none⟩ = some (I (dp l j))) := fun wr hnx j hj => (hnx.cell (by exact hb)).trans (hc j hj).2
  clear hc
  go_enter Tryz.func197, Tryz.ntmps197
  go_wp2
  go_loopw [6] (fun x wr => ∃ f : Nat, f ≤ i ∧ x = .int .i64 f ∧ frA l (dp l i) f = frR l i ∧ Below w.heap.size w wr) (fun x _ => (intOf x).toNat)
  case atStart => exact ⟨i, Nat.le_refl _, rfl, rfl, Below.refl _ _⟩
  case round =>
    obtain ⟨f, hf, rfl, hfr, hnx⟩ := hrel
    have hci : wr.cell? ⟨b, off + i * 2 + 1, none⟩ = some (I (dp l i)) := HC.out wr hnx i hi
    by_cases hgo : 0 < f ∧ dp l i < dp l (f - 1)
    · obtain ⟨hf0, hd⟩ := hgo
      have hcf : wr.cell? ⟨b, off + (f - 1) * 2 + 1, none⟩ = some (I (dp l (f - 1))) := HC.out wr hnx (f - 1) (by omega)
      have HR : Hid (frA l (dp l i) (f - 1) = frR l i) := (frA_go hf0 hd).trans hfr
      clear hfr
      go_wp2
      go_quiet (fail)
      go_wp2
      go_roundw
      case rel => exact ⟨f - 1, by omega, by congr 1; omega, HR.out, below_drewN hnx _⟩
      case measure => simp [intOf]; omega
    · have HR : Hid (frR l i = f) := by
        show _ = _
        rw [← hfr]
        exact frA_stop (fun h0 hd => hgo ⟨h0, hd⟩)
      clear hfr
      have hb1 : ∀ q, Below w.heap.size w (wr.drewN q) := fun q => below_drewN hnx q
      have HB1 := Lib.hid hb1
      clear hb1
      by_cases hf0 : 0 < f
      · have hd : ¬ dp l i < dp l (f - 1) := fun h => hgo ⟨hf0, h⟩
        have hcf : wr.cell? ⟨b, off + (f - 1) * 2 + 1, none⟩ = some (I (dp l (f - 1))) := HC.out wr hnx (f - 1) (by omega)
        clear hgo
        go_wp2
        go_quiet (fail)
        go_wp2
        go_loopw [7] (fun x wz => ∃ t : Nat, i + 1 ≤ t ∧ t ≤ n ∧ x = .int .i64 t ∧ toA l (dp l i) (n - t) t = toR l i ∧ Below w.heap.size w wz) (fun x _ => n - (intOf x).toNat)
        case atStart => exact ⟨i + 1, Nat.le_refl _, by omega, by go_num, by unfold toR; rw [Hlen.out], HB1.out _⟩
        case round =>
          obtain ⟨t, ht1, ht2, rfl, hto, hnz⟩ := hrel
          have hci : wr.cell? ⟨b, off + i * 2 + 1, none⟩ = some (I (dp l i)) := HC.out wr hnz i hi
          by_cases hgo : t < n ∧ dp l i < dp l t
          · obtain ⟨htn, hd⟩ := hgo
            have hcf : wr.cell? ⟨b, off + t * 2 + 1, none⟩ = some (I (dp l t)) := HC.out wr hnz t htn
            have HT : Hid (toA l (dp l i) (n - (t + 1)) (t + 1) = toR l i) := (toA_go htn hd).trans hto
            clear hto
            go_wp2
            go_quiet (fail)
            go_wp2
            go_roundw
            case rel => exact ⟨t + 1, by omega, by omega, by go_num, HT.out, below_drewN hnz _⟩
            case measure => simp [intOf]; omega
          · have HT : Hid (toR l i = t) := by
              show _ = _
              rw [← hto]
              exact toA_stop (fun h0 hd => hgo ⟨h0, hd⟩)
            clear hto
            by_cases htn : t < n
            · have hd : ¬ dp l i < dp l t := fun h => hgo ⟨htn, h⟩
              have hcf : wr.cell? ⟨b, off + t * 2 + 1, none⟩ = some (I (dp l t)) := HC.out wr hnz t htn
              clear hgo
              go_wp2
              go_quiet (fail)
              go_wp2
              go_ret2
              exact ⟨by rw [HR.out, HT.out]; rfl, below_drewN hnz _⟩
            · have hd : decide (t < n) = false := by simpa using htn
              clear hgo
              go_wp2
              go_quiet (fail)
              go_wp2
              go_ret2
              exact ⟨by rw [HR.out, HT.out]; rfl, below_drewN hnz _⟩
      · have hd : decide (0 < f) = false := by simpa using hf0
        clear hgo
        go_wp2
        go_quiet (fail)
        go_wp2
        go_loopw [7] (fun x wz => ∃ t : Nat, i + 1 ≤ t ∧ t ≤ n ∧ x = .int .i64 t ∧ toA l (dp l i) (n - t) t = toR l i ∧ Below w.heap.size w wz) (fun x _ => n - (intOf x).toNat)
        case atStart => exact ⟨i + 1, Nat.le_refl _, by omega, by go_num, by unfold toR; rw [Hlen.out], HB1.out _⟩
        case round =>
          obtain ⟨t, ht1, ht2, rfl, hto, hnz⟩ := hrel
          have hci : wr.cell? ⟨b, off + i * 2 + 1, none⟩ = some (I (dp l i)) := HC.out wr hnz i hi
          by_cases hgo : t < n ∧ dp l i < dp l t
          · obtain ⟨htn, hd⟩ := hgo
            have hcf : wr.cell? ⟨b, off + t * 2 + 1, none⟩ = some (I (dp l t)) := HC.out wr hnz t htn
            have HT : Hid (toA l (dp l i) (n - (t + 1)) (t + 1) = toR l i) := (toA_go htn hd).trans hto
            clear hto
            go_wp2
            go_quiet (fail)
            go_wp2
            go_roundw
            case rel => exact ⟨t + 1, by omega, by omega, by go_num, HT.out, below_drewN hnz _⟩
            case measure => simp [intOf]; omega
          · have HT : Hid (toR l i = t) := by
              show _ = _
              rw [← hto]
              exact toA_stop (fun h0 hd => hgo ⟨h0, hd⟩)
            clear hto
            by_cases htn : t < n
            · have hd : ¬ dp l i < dp l t := fun h => hgo ⟨htn, h⟩
              have hcf : wr.cell? ⟨b, off + t * 2 + 1, none⟩ = some (I (dp l t)) := HC.out wr hnz t htn
              clear hgo
              go_wp2
              go_quiet (fail)
              go_wp2
              go_ret2
              exact ⟨by rw [HR.out, HT.out]; rfl, below_drewN hnz _⟩
            · have hd : decide (t < n) = false := by simpa using htn
              clear hgo
              go_wp2
              go_quiet (fail)
              go_wp2
              go_ret2
              exact ⟨by rw [HR.out, HT.out]; rfl, below_drewN hnz _⟩


theorem pow_stop {m a b : Nat} (h : m * 2 ^ a < 3 ^ a) (hab : a ≤ b) : m * 2 ^ b < 3 ^ b := by
  obtain ⟨r, rfl⟩ : ∃ r, b = a + r := ⟨b - a, by omega⟩
  clear hab
  induction r with
  | zero => exact h
  | succ r ih =>
    rw [← Nat.add_assoc, Nat.pow_succ, Nat.pow_succ, ← Nat.mul_assoc]
    generalize m * 2 ^ (a + r) = x at *
    generalize 3 ^ (a + r) = y at *
    omega
theorem dpst_is {m k : Nat} (hk : k ≤ 30) (h1 : k = 0 ∨ 3 ^ k ≤ m * 2 ^ k) (h2 : m * 2 ^ (k + 1) < 3 ^ (k + 1)) : dpst m = k := by
  have hle : k ≤ dpst m := by
    rcases h1 with h | h
    · omega
    · exact dpS_ge hk h
  rcases Nat.eq_zero_or_pos m with h0 | h0
  · subst h0
    have : dpst 0 = 0 := by decide
    omega
  · have h3 := dpS_is h0 30
    have : ¬ k + 1 ≤ dpst m := fun hh => by
      have := pow_stop h2 hh
      unfold dpst at this
      omega
    omega
theorem pow_14 : 3 ^ 14 = 4782969 ∧ 2 ^ 14 = 16384 := by decide +kernel
theorem pow_200 {m : Nat} (hm : m ≤ 200) : m * 2 ^ 14 < 3 ^ 14 := by
  rw [pow_14.1, pow_14.2]
  omega
theorem pow_small {k : Nat} (hk : k ≤ 14) : 3 ^ k ≤ 4782969 ∧ 2 ^ k ≤ 16384 := by
  have h1 : 3 ^ k ≤ 3 ^ 14 := Nat.pow_le_pow_right (by decide) hk
  have h2 : 2 ^ k ≤ 2 ^ 14 := Nat.pow_le_pow_right (by decide) hk
  rw [pow_14.1] at h1
  rw [pow_14.2] at h2
  exact ⟨h1, h2⟩

set_option maxRecDepth 100000 in
set_option maxHeartbeats 1000000 in
theorem odeepest_any (m : Nat) (w : World) (hm : m ≤ 200) :
    Calls Tryz.prog 136 #[I m] w fun e w' => e = .returned (I (dpst m)) ∧ w' = w := by
  go_enter Tryz.func136, Tryz.ntmps136
  go_wp2
  go_loopg [3, 4, 5] 14 (fun q u a b wr => wr = w ∧ ∃ k : Nat, k ≤ 13 ∧ 14 - k ≤ q ∧ u = .int .i64 k ∧ a = .int .i64 ((3 ^ (k + 1) : Nat) : Int) ∧ b = .int .i64 ((2 ^ (k + 1) : Nat) : Int) ∧ (k = 0 ∨ 3 ^ k ≤ m * 2 ^ k))
  case atStart => exact ⟨rfl, 0, by omega, by omega, rfl, rfl, rfl, .inl rfl⟩
  case round =>
    obtain ⟨rfl, k, hk, hkq, rfl, rfl, rfl, hor⟩ := hrel
    have hps := pow_small (k := k + 1) (by omega)
    have H14 : Hid (k = 13 → m * 2 ^ (k + 1) < 3 ^ (k + 1)) := fun e => by subst e; exact pow_200 hm
    have HIS : Hid (m * 2 ^ (k + 1) < 3 ^ (k + 1) → dpst m = k) := fun h2 => dpst_is (by omega) hor h2
    have HUP : Hid (3 ^ (k + 1 + 1) = 3 ^ (k + 1) * 3 ∧ 2 ^ (k + 1 + 1) = 2 ^ (k + 1) * 2) := ⟨Nat.pow_succ .., Nat.pow_succ ..⟩
    obtain ⟨x, hx0⟩ : ∃ x, 3 ^ (k + 1) = x := ⟨_, rfl⟩
    obtain ⟨y, hy0⟩ : ∃ y, 2 ^ (k + 1) = y := ⟨_, rfl⟩
    have HOR : Hid (x ≤ m * y → (k + 1 = 0 ∨ Hid (3 ^ (k + 1) ≤ m * 2 ^ (k + 1)))) := fun h => .inr (by rw [← hx0, ← hy0] at h; exact h)
    rw [hx0, hy0] at hps H14 HIS ⊢
    rw [hx0, hy0] at HUP
    clear hor hx0 hy0
    obtain ⟨hx, hy⟩ := hps
    have hmy : m * y ≤ 200 * 16384 := Nat.mul_le_mul hm hy
    obtain ⟨z, hz⟩ : ∃ z, m * y = z := ⟨_, rfl⟩
    have hz' : (m : Int) * (y : Int) = (z : Int) := by rw [← hz]; simp
    rw [hz] at hmy H14 HIS HOR
    clear hz
    by_cases hlt : x ≤ z
    · have hkk : k ≠ 13 := fun e => by have := H14.out e; omega
      have HR := Lib.hid (HOR.out hlt)
      go_wp2
      go_roundg (gk - 1)
      case measure => omega
      case rel =>
        refine ⟨rfl, k + 1, by omega, by omega, by go_num, ?_, ?_, ?_⟩
        · rw [HUP.out.1]; congr 1
        · rw [HUP.out.2]; congr 1
        · rcases HR.out with h | h
          · omega
          · exact .inr h.out
    · have HE := Lib.hid (HIS.out (by omega))
      go_wp2
      go_ret
      exact ⟨ret_int (by rw [HE.out]), rfl⟩

end Go.Proofs.YtpnjnedfcdppaaaGreatDoor

/-
  shape.Sum at a tree: the greatest Depth, and all together.
-/
namespace Go.Proofs.YtpnjnedfcdppaaaGreatDoor
open Go.RowKit

def mxd (l : PL) : Nat → Int
  | 0 => -1
  | k + 1 => max (mxd l k) (dp l k)
theorem mxd_ge {l : PL} : ∀ {k i : Nat}, i < k → dp l i ≤ mxd l k
  | 0, i, h => by omega
  | k + 1, i, h => by
    show _ ≤ max (mxd l k) (dp l k)
    rcases Nat.lt_or_ge i k with h1 | h1
    · have := mxd_ge (l := l) h1
      omega
    · obtain rfl : i = k := by omega
      omega
theorem mxd_le {l : PL} {B : Int} (hB : -1 ≤ B) : ∀ {k : Nat}, (∀ i, i < k → dp l i ≤ B) → mxd l k ≤ B
  | 0, _ => hB
  | k + 1, h => by
    show max (mxd l k) (dp l k) ≤ B
    have h1 := mxd_le (k := k) hB (fun i hi => h i (by omega))
    have h2 := h k (by omega)
    omega
theorem mxd_tall (t : Tr) : mxd (t.sp 0) t.size = (t.tall : Int) - 1 := by
  have h1 : mxd (t.sp 0) t.size ≤ (t.tall : Int) - 1 := mxd_le (by omega) fun i hi => by
    have := sp_tall t 0 i hi
    omega
  rcases Nat.eq_zero_or_pos t.size with h0 | h0
  · cases t with
    | nil => rfl
    | node a k b => simp only [Tr.size] at h0; omega
  · obtain ⟨i, hi, he⟩ := sp_tall_has t 0 h0
    have := mxd_ge (l := t.sp 0) hi
    omega

def RetSum2 (X S : Int) (w : World) (e : Ending) (w' : World) : Prop := e = .returned (.tuple #[I X, I S, I 0]) ∧ Below w.heap.size w w'
set_option maxRecDepth 100000 in
set_option maxHeartbeats 2000000 in
theorem Sum2_ok (A : Option Addr) (n c : Nat) (t : Tr) (w : World) (h : PS w A n c (t.sp 0)) (hT : IsTree (t.sp 0)) :
    Calls Tryz.prog 29 #[.slice A n c] w (RetSum2 ((t.tall : Int) - 1) (dsum (t.sp 0)) w) := by
  have hn : n ≤ 200 := by rw [← h.len]; exact hT.1
  have hsz0 : t.size = n := by rw [← sp_length t 0, h.len]
  have HMX := Lib.hid (mxd_tall t)
  rw [hsz0] at HMX
  obtain ⟨l, hl⟩ : ∃ l, t.sp 0 = l := ⟨_, rfl⟩
  rw [hl] at h hT HMX ⊢
  have HC := Lib.hid (CheckS_any A n c l w h (by omega))
  rw [chkS_zero.2 hT] at HC
  have H := Lib.hid h
  have HL := Lib.hid h.len
  have HD := Lib.hid (tree_dp hT)
  clear h hT hl hsz0
  go_enter Tryz.func29, Tryz.ntmps29
  go_wp2_with fail
  refine HC.out.mono ?_
  rintro e w1 ⟨rfl, hb1⟩
  have HB1 := Lib.hid hb1
  have hs1 := hb1.size
  clear hb1 HC
  go_wp2
  go_loopg [6, 7, 17] n (fun m u v i wr => ∃ k : Nat, k ≤ n ∧ n - k ≤ m ∧ i = .int .i64 k ∧ u = I (mxd l k) ∧ v = I (dsum (l.take k)) ∧ Below w.heap.size w wr)
  case atStart => exact ⟨0, Nat.zero_le _, by omega, rfl, rfl, rfl, HB1.out⟩
  case round =>
    obtain ⟨k, hk, hkm, rfl, rfl, rfl, hnx⟩ := hrel
    have HNX := Lib.hid hnx
    have hsz := hnx.size
    clear hnx
    by_cases hlt : k < n
    · obtain ⟨b, off, rfl, hb, hc⟩ := H.out.dat (by omega)
      have hkl : k < l.length := by rw [HL.out]; exact hlt
      have hc0 : wr.cell? ⟨b, off + k * 2, none⟩ = some (I (ky l k)) := (HNX.out.cell (by exact hb)).trans (hc k hlt).1
      have hc1 : wr.cell? ⟨b, off + k * 2 + 1, none⟩ = some (I (dp l k)) := (HNX.out.cell (by exact hb)).trans (hc k hlt).2
      have hbd := dsum_bd HD.out k (by omega)
      have hd := HD.out k
      have HS := Lib.hid (dsum_take l k hkl)
      have HM := Lib.hid (show mxd l (k + 1) = max (mxd l k) (dp l k) from rfl)
      have hbw : b < wr.heap.size := by omega
      clear hc
      generalize dsum (l.take k) = S at *
      generalize mxd l k = x at *
      generalize ky l k = kk at *
      generalize dp l k = dd at *
      have h1 := hbd.1
      have h2 := hbd.2
      have h3 := hd.1
      have h4 := hd.2
      clear hbd hd
      go_wp2
      all_goals go_roundg (gk - 1)
      all_goals first
        | omega
        | exact ⟨k + 1, by omega, by omega, by go_num, by rw [HM.out]; congr 1; omega, by rw [HS.out], HNX.out.alloc hsz _⟩
    · obtain rfl : n = k := by omega
      have HS := Lib.hid (show l.take n = l from List.take_of_length_le (by rw [HL.out]; omega))
      rw [HS.out, HMX.out]
      go_wp2
      go_ret3
      exact ⟨rfl, HNX.out⟩

end Go.Proofs.YtpnjnedfcdppaaaGreatDoor
