/-
  package heap: topOf, stand, Check, Of.
-/
import Derived.Test.YtjnkfpagaajfeaaDoorHPure
import Derived.Test.YtjnkfpagaajfeaaDoorSpotB
import Derived.Test.YtjnkfpagaajfeaaDoorChk
import Derived.Test.YtjnkfpagaajfeaaDoorSLeaf
import Derived.Deep.LoopGhost
import Derived.BigQuiet
import Derived.Deep.QuietTactic
namespace Go.Proofs.YtjnkfpagaajfeaaDoor
open Go.RowKit

set_option maxRecDepth 100000 in
set_option maxHeartbeats 1000000 in
theorem htopOf_any (A : Option Addr) (n c : Nat) (l : PL) (w : World) (h : PS w A n c l) (hn : n ≤ 1000) (h0 : 0 < n) :
    Calls Tryd.prog 61 #[.slice A n c] w fun e w' => e = .returned (I (topTo l n)) ∧ Below w.heap.size w w' := by
  obtain ⟨b, off, rfl, hb, hc⟩ := h.dat h0
  have HC := Lib.hid hc
  clear h hc
  go_enter Tryd.func61, Tryd.ntmps61
  go_wp2
  go_loopg [3, 8] n (fun m t i wr => ∃ k : Nat, k ≤ n ∧ n - k ≤ m ∧ i = .int .i64 k ∧ t = .int .i64 (topTo l k) ∧ Below w.heap.size w wr)
  case atStart => exact ⟨0, Nat.zero_le _, by omega, rfl, rfl, Below.refl _ _⟩
  case round =>
    obtain ⟨k, hk, hkm, rfl, rfl, hnx⟩ := hrel
    have HNX := Lib.hid hnx
    have hsz := hnx.size
    clear hnx
    by_cases hlt : k < n
    · have htl : topTo l k < n := by
        rcases Nat.eq_zero_or_pos k with h | h
        · subst h; simpa [topTo] using h0
        · have := topTo_lt l k h; omega
      have hc0 : wr.cell? ⟨b, off + k * 2, none⟩ = some (I (ky l k)) := (HNX.out.cell (by exact hb)).trans (HC.out k hlt).1
      have hc1 : wr.cell? ⟨b, off + k * 2 + 1, none⟩ = some (I (dp l k)) := (HNX.out.cell (by exact hb)).trans (HC.out k hlt).2
      have ht1 : wr.cell? ⟨b, off + topTo l k * 2 + 1, none⟩ = some (I (dp l (topTo l k))) := (HNX.out.cell (by exact hb)).trans (HC.out _ htl).2
      have hbw : b < wr.heap.size := by omega
      have HT := Lib.hid (show topTo l (k + 1) = if dp l (topTo l k) < dp l k then k else topTo l k from rfl)
      generalize topTo l k = t at *
      generalize dp l t = y at *
      generalize dp l k = x at *
      generalize ky l k = z at *
      by_cases hg : y < x
      · have HT2 : Hid (topTo l (k + 1) = k) := by show _ = _; rw [HT.out, if_pos hg]
        go_wp2
        go_quiet (fail)
        go_wp2
        go_roundg (gk - 1)
        case measure => omega
        case rel => exact ⟨k + 1, by omega, by omega, by go_num, by rw [HT2.out], below_drewN (HNX.out.alloc hsz _) _⟩
      · have HT2 : Hid (topTo l (k + 1) = t) := by show _ = _; rw [HT.out, if_neg hg]
        go_wp2
        go_quiet (fail)
        go_wp2
        go_roundg (gk - 1)
        case measure => omega
        case rel => exact ⟨k + 1, by omega, by omega, by go_num, by rw [HT2.out], below_drewN (HNX.out.alloc hsz _) _⟩
    · obtain rfl : k = n := by omega
      go_wp2
      go_ret
      exact ⟨rfl, HNX.out⟩

set_option maxRecDepth 100000 in
set_option maxHeartbeats 4000000 in
theorem stand_any (t : Tr) : ∀ (A : Option Addr) (n c base : Nat) (v : Value) (L l : PL) (d : Int) (w : World), Hp t l → PS w A n c l → (∀ ad, A = some ad → ad.block < base) → OwnR w base 43 v L → base ≤ w.heap.size → L.length + n ≤ 1000 → 0 ≤ d → d + n ≤ 1000 →
    Calls Tryd.prog 37 #[v, .slice A n c, I d] w (RetSO (L ++ t.sp d) base w) := by
  induction t with
  | nil =>
    intro A n c base v L l d w hp h hA hown hbase hL hd hd2
    obtain rfl : n = 0 := by rw [← h.len, show l = [] from hp]; rfl
    have HO := Lib.hid hown
    clear h hown hp
    go_enter Tryd.func37, Tryd.ntmps37
    go_wp2
    go_ret
    exact ⟨v, rfl, by simpa [Tr.sp] using HO.out, Below.refl _ _⟩
  | node a k b iha ihb =>
    intro A n c base v L l d w hp h hA hown hbase hL hd hd2
    obtain ⟨la, v0, lb, hl, ha, hb, h1, h2⟩ := hp
    have hn : n = la.length + 1 + lb.length := by rw [← h.len, hl]; simp; omega
    have htop := topTo_top hl h1 h2
    rw [h.len] at htop
    have hla := hp_len ha
    have hlb := hp_len hb
    have hcap := h.rd.1
    obtain ⟨bb, off, rfl, hbb, hcs⟩ := h.dat (by omega)
    have hbase2 : bb < base := hA _ rfl
    have hky : ky l la.length = k := by rw [hl]; exact ky_mid la lb (k, v0)
    have HTOP := Lib.hid (htopOf_any _ n c l w h (by omega) (by omega))
    rw [htop] at HTOP
    have hc0 : w.cell? ⟨bb, off + la.length * 2, none⟩ = some (I k) := by rw [← hky]; exact (hcs la.length (by omega)).1
    have HTK : Hid (∀ w', Below base w w' → PS w' (some ⟨bb, off, none⟩) la.length c la) := fun w' hb' => by
      have := (h.low (fun ad e => by cases e; exact hbase2) hb').take la.length (by omega)
      rwa [show l.take la.length = la by rw [hl, List.take_left]] at this
    have HDR : Hid (∀ w' sp c', Below base w w' → (la.length + 1 < n → sp = some ⟨bb, off + (la.length + 1) * 2, none⟩) → n - (la.length + 1) ≤ c' → PS w' sp (n - (la.length + 1)) c' lb) := fun w' sp c' hb' hs hc' => by
      have := (h.low (fun ad e => by cases e; exact hbase2) hb').drop (c' := c') (la.length + 1) (by omega) sp (fun hlt b' off' e => by cases e; exact hs hlt) hc'
      rwa [show l.drop (la.length + 1) = lb by rw [hl, List.drop_append]; simp] at this
    have IHA := Lib.hid iha
    have IHB := Lib.hid ihb
    have HA := Lib.hid ha
    have HB := Lib.hid hb
    have HO := Lib.hid hown
    have hls : a.size = la.length := hla.symm
    have hbs : b.size = lb.length := hlb.symm
    have HLS : Hid ((a.sp (d + 1)).length = la.length) := by show _ = _; rw [sp_length, hls]
    clear iha ihb ha hb hown h hl h1 h2 htop hcs hky hla hlb hls hbs hA
    generalize la.length = x at *
    generalize lb.length = y at *
    have hn0 : ((n : Int) == 0) = false := by simp; omega
    have hn1 : x + 1 + y ≤ n := by omega
    have hn2 : n ≤ x + 1 + y := by omega
    clear hn
    go_enter Tryd.func37, Tryd.ntmps37
    go_wp2_with fail
    refine HTOP.out.mono ?_
    rintro e w1 ⟨rfl, hb1⟩
    have HB1 := Lib.hid (hb1.mono hbase)
    have HO1 := Lib.hid (own_below HO.out hb1)
    have hs1 := hb1.size
    clear hb1 HTOP HO
    go_wp2_with fail
    refine (IHA.out _ x c base v L la (d + 1) w1 HA.out (HTK.out w1 HB1.out) (fun ad e => by cases e; exact hbase2) HO1.out (by omega) (by omega) (by omega) (by omega)).mono ?_
    rintro e w2 ⟨v2, rfl, ho2, hb2⟩
    have HB2 := Lib.hid (HB1.out.trans hb2)
    have HO2 := Lib.hid ho2
    have hs2 := hb2.size
    have hc2 : w2.cell? ⟨bb, off + x * 2, none⟩ = some (I k) := (HB2.out.cell (by exact hbase2)).trans hc0
    have HSA : Hid ((L ++ a.sp (d + 1)).length = L.length + x) := by show _ = _; rw [List.length_append, HLS.out]
    clear ho2 hb2 HB1 HO1 hc0
    go_wp2_with (first
      | (at_builtin
         refine wpList_app2 rfl (.tmp 21) (.tmp 29) 23 rfl 43 Tryd.underlying23 gspot_info base v2 (L ++ a.sp (d + 1)) [(k, d)] (some ⟨w2.heap.size, 0, none⟩) 1 1 rfl rfl (own_below HO2.out ((Below.refl _ _).alloc (Nat.le_refl _) _)) (gsrc_one w2 k d) ?hbd ?hbs ?_
         case hbd => rw [HSA.out]; omega
         case hbs => simp; omega
         intro v3 w3 hown3 hgrow3 _
         have hb23 : Below base w2 w3 := ((Below.refl _ _).alloc (by omega) _).grown hgrow3 (by simp; omega) (fun i hi => OwnR.ge HO2.out i hi)
         have hs3 := hb23.size
         have HB3 : Hid (Below base w w3) := Below.trans HB2.out hb23
         have HO3 : Hid (OwnR w3 base 43 v3 (L ++ a.sp (d + 1) ++ [(k, d)])) := hown3
         clear hown3 hgrow3 hb23)
      | fail)
    all_goals
      refine (IHB.out _ _ _ base v3 (L ++ a.sp (d + 1) ++ [(k, d)]) lb (d + 1) w3 HB.out (HDR.out w3 _ _ HB3.out (by intro hlt; first | rfl | (exfalso; omega)) (by omega)) (by intro ad e; cases e; exact hbase2) HO3.out (by omega) (by rw [List.length_append, HSA.out]; simp; omega) (by omega) (by omega)).mono ?_
    all_goals
      rintro e w4 ⟨v4, rfl, ho4, hb4⟩
      have HO4 := Lib.hid ho4
      have HB4 := Lib.hid (HB3.out.trans hb4)
      clear ho4 hb4
      go_wp2
      go_ret
      exact ⟨v4, rfl, by simpa [Tr.sp] using HO4.out, HB4.out⟩

end Go.Proofs.YtjnkfpagaajfeaaDoor
