/-
  The walk of the law PlainWalk.
-/
import Derived.Test.YtfgcmccgmmaajaaRanks
namespace Go.Proofs.Ytfgcmccgmmaajaa
open Go.RowKit

theorem pairA_out (l : PL) (p : Int) (h : p < 0 ∨ (l.length : Int) ≤ p) : pairA l p = an0 := by unfold pairA; rw [if_neg (by omega)]
theorem AA.st4 {w : World} {g : Nat} {a : An} (h : AA w g a) (e k v : Int) (b : Bool) : AA (st4 w g e k v b) g ⟨e, k, v, b⟩ := by
  unfold AA at *
  have h' : w.heap[g]? = some (.cells ([I a.e, I a.k, I a.v, .bool a.b] : List Value).toArray 27 (0, 0)) := h
  have := cells_set (cells_set (cells_set (cells_set h' 0 (I e)) 1 (I k)) 2 (I v)) 3 (.bool b)
  simpa using this
theorem AA.drewN {w : World} {g : Nat} {a : An} (h : AA w g a) (n : Nat) : AA (w.drewN n) g a := h

set_option maxRecDepth 100000 in
set_option maxHeartbeats 1000000 in
theorem Walk_bad (A : Option Addr) (n c : Nat) (l : PL) (w : World) (h : PS w A n c l) (hn : n ≤ 9223372036854775807) (hc : chk l ≠ 0) :
    Calls Try.prog 8 #[.slice A n c] w (Yes w) := by
  have H := Lib.hid h
  clear h
  obtain ⟨E, hE0⟩ : ∃ E, chk l = E := ⟨_, rfl⟩
  rw [hE0] at hc
  have HE := Lib.hid hE0
  have hE : (E != 0) = true := by simpa using hc
  clear hc hE0
  go_enter Try.func8, Try.ntmps8
  go_wp2_with fail
  refine (lives_any _).mono ?_
  rintro e w1 ⟨rfl, hb⟩
  have HB1 := Lib.hid hb
  clear hb
  go_wp2_with fail
  refine (Check_is A n c l _ (H.out.below HB1.out) hn E HE.out).mono ?_
  rintro e w2 ⟨rfl, hb⟩
  have HB2 := Lib.hid (below_next HB1.out hb)
  clear hb
  go_wp2_with fail
  refine (lives_any _).mono ?_
  rintro e w3 ⟨rfl, hb⟩
  have HB3 := Lib.hid (below_next HB2.out hb)
  clear hb
  go_wp2
  go_ret
  exact ⟨rfl, HB3.out⟩

set_option maxRecDepth 100000 in
set_option maxHeartbeats 4000000 in
theorem Walk_good (A : Option Addr) (n c : Nat) (l : PL) (w : World) (h : PS w A n c l) (hc : chk l = 0) :
    Calls Try.prog 8 #[.slice A n c] w (Yes w) := by
  have hn : n ≤ 200 := by have := chk_len hc; rw [h.len] at this; exact this
  have H := Lib.hid h
  have Hlen := Lib.hid h.len
  have HC := Lib.hid hc
  have HS := Lib.hid ((chk_zero l).1 hc).2
  have HA := Lib.hid (doA_nth hc 0)
  clear h hc
  go_enter Try.func8, Try.ntmps8
  go_wp2_with fail
  refine (lives_any _).mono ?_
  rintro e w1 ⟨rfl, hb⟩
  have HB1 := Lib.hid hb
  clear hb
  go_wp2_with fail
  refine (Check_is A n c l _ (H.out.below HB1.out) (by omega) 0 HC.out).mono ?_
  rintro e w2 ⟨rfl, hb⟩
  have HB2 := Lib.hid (below_next HB1.out hb)
  clear hb
  go_wp2_with fail
  refine (Do_is A n c l 7 0 0 _ (H.out.below HB2.out) (by omega) _ _ rfl HA.out).mono ?_
  rintro e w3 ⟨A3, n3, c3, rfl, -, hb, -⟩
  have HB3 := Lib.hid (below_next HB2.out hb)
  have hw : w.heap.size ≤ w3.heap.size := HB3.out.size
  clear hb
  go_wp2
  go_loopw [25] (fun i wr => ∃ k : Nat, k ≤ n ∧ i = .int .i64 k ∧ AA wr w3.heap.size (pairA l k) ∧ Below w.heap.size w wr) (fun i _ => n - (intOf i).toNat)
  case atStart => exact ⟨0, Nat.zero_le _, rfl, AA.new w3 (pairA l 0), HB3.out.alloc HB3.out.size _⟩
  case round =>
    obtain ⟨k, hk, rfl, haa, hnx⟩ := hrel
    by_cases hlt : k < n
    · obtain ⟨b, off, rfl, hbl, hcell⟩ := H.out.at_ (by omega)
      have hkl : k < l.length := by have := Hlen.out; omega
      have hc0 : wr.cell? ⟨b, off + k * 2, none⟩ = some (I l[k].1) := (hnx.cell (by exact hbl)).trans (hcell k hlt).1
      have hc1 : wr.cell? ⟨b, off + k * 2 + 1, none⟩ = some (I l[k].2) := (hnx.cell (by exact hbl)).trans (hcell k hlt).2
      rw [pairA_in l k hkl] at haa
      have a0 : wr.cell? ⟨w3.heap.size, 0, none⟩ = some (I 0) := haa.facts.1
      have a1 : wr.cell? ⟨w3.heap.size, 1, none⟩ = some (I l[k].1) := haa.facts.2.1
      have a2 : wr.cell? ⟨w3.heap.size, 2, none⟩ = some (I l[k].2) := haa.facts.2.2.1
      have a3 : wr.cell? ⟨w3.heap.size, 3, none⟩ = some (.bool true) := haa.facts.2.2.2
      have z1 := haa.lt
      have z2 : b < wr.heap.size := by have := hnx.size; omega
      have hky := key_at HC.out hkl
      have hca := cnt_at l 0 HS.out k hkl
      have HP : Hid (doA l 5 l[k].1 = pairA l ((k : Int) - 1)) := by show _ = _; rw [doA_prev HC.out _ hky, hca.1]
      have HN : Hid (doA l 4 l[k].1 = pairA l ((k + 1 : Nat) : Int)) := by show _ = _; rw [doA_next HC.out _ hky, hca.2]
      have HAA := Lib.hid haa
      have HNX := Lib.hid hnx
      have HCELL : Hid (∀ i (hi : i < l.length), w.cell? ⟨b, off + i * 2, none⟩ = some (I l[i].1)) := fun i hi => (hcell i (by have := Hlen.out; omega)).1
      clear hcell haa hnx hky hca
      have HPB : Hid (PB (wr.alloc (.cells #[I l[k].1, I l[k].2] 33)) wr.heap.size 33 [l[k]]) := PB.new wr 33 [l[k]]
      have HBA : Hid (Below wr.heap.size wr (wr.alloc (.cells #[I l[k].1, I l[k].2] 33))) := (Below.refl _ _).alloc (Nat.le_refl _) _
      go_wp2_with fail
      refine (Do_is _ n c l 5 l[k].1 0 _ ((H.out.below HNX.out).below HBA.out) (by omega) _ _ rfl HP.out).mono ?_
      rintro e w4 ⟨A4, n4, c4, rfl, -, hb, -⟩
      have hb4 : Below wr.heap.size wr w4 := below_next HBA.out hb
      have HAA4 := Lib.hid (HAA.out.below hb4)
      have HB4 := Lib.hid (below_next HNX.out hb4)
      have HPB4 := Lib.hid (HPB.out.below hb (by simp))
      have p0 : w4.cell? ⟨wr.heap.size, 0, none⟩ = some (I l[k].1) := HPB4.out.cell 0
      have z4 : wr.heap.size < w4.heap.size := HPB4.out.lt
      have z5 : w3.heap.size < w4.heap.size := HAA4.out.lt
      have z6 : b < w4.heap.size := by omega
      clear a0 a1 a2 a3 hc0 hc1 hb hb4
      rcases Nat.eq_zero_or_pos k with hk0 | hk0
      · have hbb : pairA l ((k : Int) - 1) = an0 := pairA_out l _ (by omega)
        have hd : decide (0 < k) = false := by simp [hk0]
        have hkn : ¬ 0 < k := by omega
        rw [hbb]
        clear hbb hk0
        go_wp2
        go_quiet (fail)
        go_wp2_with fail
        refine (Do_is _ n c l 4 l[k].1 0 _ ((((H.out.below HB4.out).alloc _)).drewN _) (by omega) _ _ rfl HN.out).mono ?_
        rintro e w5 ⟨A5, n5, c5, rfl, -, hb, -⟩
        have haa5 : AA w5 w3.heap.size ⟨0, l[k].1, l[k].2, true⟩ := AA.below (w := (w4.alloc (ansOf an0)).drewN nq) (HAA4.out.alloc _) hb
        have hb5 : Below w.heap.size w w5 := below_next (w1 := (w4.alloc (ansOf an0)).drewN nq) (below_drewN (HB4.out.alloc HB4.out.size _) _) hb
        obtain ⟨q0, q1, q2, q3⟩ := haa5.facts
        obtain ⟨f0, f1, f2, f3⟩ := haa5.free
        have HAA5 := Lib.hid haa5
        have HB5 := Lib.hid hb5
        clear hb haa5 hb5
        go_wp2
        go_roundw
        case rel => exact ⟨k + 1, by omega, by go_num, HAA5.out.st4 _ _ _ _, below_st4 HB5.out (by omega) _ _ _ _⟩
        case measure => simp [intOf]; omega
      · have hkl1 : k - 1 < l.length := by omega
        have hbb : pairA l ((k : Int) - 1) = ⟨0, l[k - 1].1, l[k - 1].2, true⟩ := by
          rw [show (k : Int) - 1 = ((k - 1 : Nat) : Int) by omega]
          exact pairA_in l (k - 1) hkl1
        have hcp : w4.cell? ⟨b, off + (k - 1) * 2, none⟩ = some (I l[k - 1].1) := (HB4.out.cell (by exact hbl)).trans (HCELL.out (k - 1) hkl1)
        rw [hbb]
        clear hbb
        go_wp2
        go_quiet (fail)
        go_wp2_with fail
        refine (Do_is _ n c l 4 l[k].1 0 _ ((((H.out.below HB4.out).alloc _)).drewN _) (by omega) _ _ rfl HN.out).mono ?_
        rintro e w5 ⟨A5, n5, c5, rfl, -, hb, -⟩
        have haa5 : AA w5 w3.heap.size ⟨0, l[k].1, l[k].2, true⟩ := AA.below (w := (w4.alloc (ansOf ⟨0, l[k - 1].1, l[k - 1].2, true⟩)).drewN nq) (HAA4.out.alloc _) hb
        have hb5 : Below w.heap.size w w5 := below_next (w1 := (w4.alloc (ansOf ⟨0, l[k - 1].1, l[k - 1].2, true⟩)).drewN nq) (below_drewN (HB4.out.alloc HB4.out.size _) _) hb
        obtain ⟨q0, q1, q2, q3⟩ := haa5.facts
        obtain ⟨f0, f1, f2, f3⟩ := haa5.free
        have HAA5 := Lib.hid haa5
        have HB5 := Lib.hid hb5
        clear hb haa5 hb5 hcp
        go_wp2
        go_roundw
        case rel => exact ⟨k + 1, by omega, by go_num, HAA5.out.st4 _ _ _ _, below_st4 HB5.out (by omega) _ _ _ _⟩
        case measure => simp [intOf]; omega
    · rw [pairA_out l k (by have := Hlen.out; omega)] at haa
      have a3 : wr.cell? ⟨w3.heap.size, 3, none⟩ = some (.bool false) := haa.facts.2.2.2
      have HNX := Lib.hid hnx
      clear haa hnx
      go_wp2
      go_ret
      exact ⟨rfl, HNX.out⟩

theorem Walk_any (A : Option Addr) (n c : Nat) (l : PL) (w : World) (h : PS w A n c l) (hn : n ≤ 9223372036854775807) :
    Calls Try.prog 8 #[.slice A n c] w (Yes w) := by
  by_cases hc : chk l = 0
  · exact Walk_good A n c l w h hc
  · exact Walk_bad A n c l w h hn hc

end Go.Proofs.Ytfgcmccgmmaajaa
