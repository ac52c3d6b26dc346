/-
  The law SkipRuns.
-/
import Derived.Test.YtoebnfogkmkomaaDoorKRowsLaw
import Derived.Test.YtoebnfogkmkomaaDoorAnswered
namespace Go.Proofs.YtoebnfogkmkomaaDoor
open Go.RowKit

theorem runR_200 (ops : List OP) : (runR ops).1.length ≤ 200 := chk_len (chk_runR ops)
set_option maxRecDepth 100000 in
set_option maxHeartbeats 2000000 in
theorem RunsL_large (A : Option Addr) (n c : Nat) (w : World) (hn : 300 < n) (hm : n ≤ 9223372036854775807) :
    Calls Tryd.prog 4 #[.slice A n c] w fun e w' => e = .returned (.bool true) ∧ Below w.heap.size w w' := by
  have HC := Lib.hid (RunS_large A n c w hn hm)
  go_enter Tryd.func4, Tryd.ntmps4
  go_wp2_with fail
  refine HC.out.mono ?_
  rintro e w1 ⟨A1, m1, c1, A2, n2, c2, rfl, hri, has, hb1⟩
  obtain rfl : m1 = 0 := hri.len.symm
  obtain rfl : n2 = 0 := has.len.symm
  have HB1 := Lib.hid hb1
  clear hri has hb1 HC
  go_wp2
  go_ret
  exact ⟨rfl, HB1.out⟩
set_option maxRecDepth 100000 in
set_option maxHeartbeats 2000000 in
theorem RunsL_small (A : Option Addr) (n c : Nat) (ops : List OP) (w : World) (h : OS w A n c ops) (hn : n ≤ 300) (hT : Tb w) :
    Calls Tryd.prog 4 #[.slice A n c] w fun e w' => e = .returned (.bool true) ∧ Below w.heap.size w w' := by
  have HC := Lib.hid (RunS_any A n c ops w h hn (runR_200 ops) hT)
  have H := Lib.hid h
  have hl200 := runR_200 ops
  have hal : (runR ops).2.length = n := by rw [runR_len]; exact h.len
  have HA := fun (w' : World) (hb : Below w.heap.size w w') => Lib.hid (Answered_any A n c ops w' (h.below hb) hn)
  obtain ⟨l, hll⟩ : ∃ l, (runR ops).1 = l := ⟨_, rfl⟩
  obtain ⟨an, han⟩ : ∃ an, (runR ops).2 = an := ⟨_, rfl⟩
  rw [hll] at HC hl200
  rw [han] at HC hal
  simp only [hll, han] at HA
  clear h hT hll han
  go_enter Tryd.func4, Tryd.ntmps4
  go_wp2_with fail
  refine HC.out.mono ?_
  rintro e w1 ⟨A1, m1, c1, A2, n2, c2, rfl, hri, has, hb1⟩
  obtain rfl : n2 = n := by rw [← has.len]; exact hal
  have HRI := Lib.hid hri
  have HAS := Lib.hid has
  have HB1 := Lib.hid hb1
  have HAN := HA w1 hb1
  clear hri has hb1 HC HA
  go_wp2_with fail
  refine HAN.out.mono ?_
  rintro e w2 ⟨A3, n3, c3, A4, n4, c4, rfl, hps, has4, hb2⟩
  obtain rfl : n4 = n2 := by rw [← has4.len]; exact hal
  have hn3 : n3 ≤ 200 := by rw [← hps.len]; exact hl200
  have HRI2 := Lib.hid (HRI.out.below hb2)
  have HAS2 := Lib.hid (HAS.out.below hb2)
  have HAS4 := Lib.hid has4
  have HMK := Lib.hid (MapKeys_any A3 n3 c3 l w2 hps (by omega))
  have HB2 := Lib.hid (kon3 HB1.out hb2)
  have HKL : Hid ((kys l).length = n3) := by show _ = _; rw [kys_len]; exact hps.len
  clear hps has4 hb2 HAN HRI HAS
  go_wp2_with fail
  refine HMK.out.mono ?_
  rintro e w3 ⟨A5, c5, rfl, his, hb3⟩
  rw [HKL.out] at his ⊢
  have HRO := Lib.hid (RowsOf_any A5 n3 c5 (kys l) w3 his (by omega))
  have HRI3 := Lib.hid (HRI2.out.below hb3)
  have HAS3 := Lib.hid (HAS2.out.below hb3)
  have HAS5 := Lib.hid (HAS4.out.below hb3)
  have HB3 := Lib.hid (kon3 HB2.out hb3)
  clear his hb3 HMK HRI2 HAS2 HAS4
  go_wp2_with fail
  refine HRO.out.mono ?_
  rintro e w4 ⟨A6, m6, c6, rfl, hri6, hb4⟩
  obtain rfl : m6 = m1 := by rw [ri_m hri6, ri_m HRI3.out]
  have HS := Lib.hid (sameRows_t A1 A6 m6 c1 c6 (rowsL (kys l)) w4 (HRI3.out.below hb4) hri6 (by rw [ri_m hri6]; have := hiR_le (kys l); omega) (rows_short (by rw [HKL.out]; omega)))
  have HAS6 := Lib.hid (HAS3.out.below hb4)
  have HAS7 := Lib.hid (HAS5.out.below hb4)
  have HB4 := Lib.hid (kon3 HB3.out hb4)
  clear hri6 hb4 HRO HRI3 HAS3 HAS5
  go_wp2_with fail
  refine HS.out.mono ?_
  rintro e w5 ⟨rfl, q, rfl⟩
  have HB5 := Lib.hid (below_drewN HB4.out q)
  have a1 : AS (w4.drewN q) A2 n4 c2 an := ⟨HAS6.out.len, HAS6.out.rd⟩
  have a2 : AS (w4.drewN q) A4 n4 c4 an := ⟨HAS7.out.len, HAS7.out.rd⟩
  obtain ⟨W, hW⟩ : ∃ W, w4.drewN q = W := ⟨_, rfl⟩
  rw [hW] at HB5 a1 a2 ⊢
  have HEQ := Lib.hid (eqAns_any A2 A4 n4 n4 c2 c4 an an W a1 a2 (by omega) (by omega))
  clear hW HS a1 a2 HAS6 HAS7
  go_wp2_with fail
  refine HEQ.out.mono ?_
  rintro e w6 ⟨rfl, hb6⟩
  have HB6 := Lib.hid (kon3 HB5.out hb6)
  clear hb6
  go_wp2
  go_ret
  exact ⟨by simp, HB6.out⟩
theorem RunsL_any (A : Option Addr) (n c : Nat) (ops : List OP) (w : World) (h : OS w A n c ops) (hn : n ≤ 9223372036854775807) (hT : Tb w) :
    Calls Tryd.prog 4 #[.slice A n c] w fun e w' => e = .returned (.bool true) ∧ Below w.heap.size w w' := by
  by_cases hc : n ≤ 300
  · exact RunsL_small A n c ops w h hc hT
  · exact RunsL_large A n c w (by omega) hn
end Go.Proofs.YtoebnfogkmkomaaDoor
