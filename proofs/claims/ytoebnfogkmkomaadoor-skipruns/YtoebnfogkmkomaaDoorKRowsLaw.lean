/-
  The law SkipRows.
-/
import Derived.Test.YtoebnfogkmkomaaDoorKRef2
import Derived.Test.YtoebnfogkmkomaaDoorKRef4
import Derived.Test.YtoebnfogkmkomaaDoorKSEq
namespace Go.Proofs.YtoebnfogkmkomaaDoor
open Go.RowKit

theorem rows_short {l : List Int} (h : l.length ≤ 1000) : ∀ x ∈ rowsL l, x.length ≤ 1000 := by
  intro x hx
  unfold rowsL at hx
  obtain ⟨r, _, rfl⟩ := List.mem_map.1 hx
  have := rowL_len l r
  omega
theorem below_draws {w : World} (q : Nat) : Below w.heap.size w (w.drewN q) := below_drewN (Below.refl _ _) q
theorem Tb.drewN {w : World} (h : Tb w) (q : Nat) : Tb (w.drewN q) := h
theorem ri_m {w : World} {A : Option Addr} {m c : Nat} {l : List Int} (h : RI w A m c (rowsL l)) : m = hiR l := by rw [← h.len, rowsL_len]

set_option maxRecDepth 100000 in
set_option maxHeartbeats 2000000 in
theorem RowsL_bad (A : Option Addr) (n c : Nat) (l : List Int) (key : Int) (w : World) (h : IS w A n c l) (hn : n ≤ 9223372036854775807) (hT : Tb w) (E : Int) (hE : chkK l = E) (hE0 : E ≠ 0) :
    Calls Tryd.prog 3 #[.slice A n c, I key] w fun e w' => e = .returned (.bool true) ∧ Below w.heap.size w w' := by
  have HC := Lib.hid (Rows_bad A n c l w h hn E hE hE0)
  have HT := Lib.hid hT
  have H := Lib.hid h
  have HE := Lib.hid hE
  have hne := err_ne hE0
  clear h hE hT
  go_enter Tryd.func3, Tryd.ntmps3
  go_wp2_with fail
  refine HC.out.mono ?_
  rintro e w1 ⟨rfl, hb1⟩
  have HB1 := Lib.hid hb1
  have HP := Lib.hid (Path_bad A n c l key w1 (H.out.below hb1) hn E HE.out hE0)
  clear hb1
  go_wp2_with fail
  refine HP.out.mono ?_
  rintro e w2 ⟨rfl, hb2⟩
  have HB2 := Lib.hid (kon3 HB1.out hb2)
  have HH := Lib.hid (Height_any key w2 (HT.out.next HB2.out))
  have HK : Hid (Calls Tryd.prog 13 #[.slice A n c] w2 fun e w' => e = .returned (I E) ∧ w' = w2) := by
    show Calls _ _ _ _ _
    rw [← HE.out]
    exact KeysRight_any A n c l w2 (H.out.below HB2.out) hn
  clear hb2
  go_wp2_with fail
  refine HH.out.mono ?_
  rintro e w' ⟨rfl, rfl⟩
  go_wp2_with fail
  refine (HeightOf_any key _).mono ?_
  rintro e w' ⟨rfl, rfl⟩
  go_wp2_with fail
  refine HK.out.mono ?_
  rintro e w' ⟨rfl, rfl⟩
  go_wp2
  go_ret
  exact ⟨by simp, HB2.out⟩

set_option maxRecDepth 100000 in
set_option maxHeartbeats 2000000 in
theorem RowsL_arg (A : Option Addr) (n c : Nat) (l : List Int) (key : Int) (w : World) (h : IS w A n c l) (hR : Rise l) (hk : kyB key = false) (hT : Tb w) :
    Calls Tryd.prog 3 #[.slice A n c, I key] w fun e w' => e = .returned (.bool true) ∧ Below w.heap.size w w' := by
  have hn : n ≤ 200 := by rw [← h.len]; exact hR.len
  have HC := Lib.hid (Rows_ok A n c l w h hR hT)
  have HT := Lib.hid hT
  have H := Lib.hid h
  have HR := Lib.hid hR
  have HKY := Lib.hid hk
  clear h hR hT hk
  go_enter Tryd.func3, Tryd.ntmps3
  go_wp2_with fail
  refine HC.out.mono ?_
  rintro e w1 ⟨A1, m1, c1, rfl, hri, hb1⟩
  have HB1 := Lib.hid hb1
  have HRI := Lib.hid hri
  have HP := Lib.hid (Path_arg A n c l key w1 (H.out.below hb1) HR.out HKY.out)
  clear hb1 hri
  go_wp2_with fail
  refine HP.out.mono ?_
  rintro e w2 ⟨rfl, hb2⟩
  have HB2 := Lib.hid (kon3 HB1.out hb2)
  have HRI2 := Lib.hid (HRI.out.below hb2)
  have HH := Lib.hid (Height_any key w2 (HT.out.next HB2.out))
  have HK : Hid (Calls Tryd.prog 13 #[.slice A n c] w2 fun e w' => e = .returned (I 0) ∧ w' = w2) := by
    show Calls _ _ _ _ _
    rw [← chkK_zero.2 HR.out]
    exact KeysRight_any A n c l w2 (H.out.below HB2.out) (by omega)
  clear hb2
  go_wp2_with fail
  refine HH.out.mono ?_
  rintro e w' ⟨rfl, rfl⟩
  go_wp2_with fail
  refine (HeightOf_any key _).mono ?_
  rintro e w' ⟨rfl, rfl⟩
  go_wp2_with fail
  refine HK.out.mono ?_
  rintro e w' ⟨rfl, rfl⟩
  have HRO := Lib.hid (RowsOf_any A n c l _ (H.out.below HB2.out) (by omega))
  go_wp2_with fail
  refine HRO.out.mono ?_
  rintro e w3 ⟨A3, m3, c3, rfl, hri3, hb3⟩
  obtain rfl : m3 = m1 := by rw [ri_m hri3, ri_m HRI2.out]
  have HS := Lib.hid (sameRows_t A1 A3 m3 c1 c3 (rowsL l) w3 (HRI2.out.below hb3) hri3 (by rw [ri_m hri3]; have := hiR_le l; omega) (rows_short (by have := HR.out.len; omega)))
  have HB3 := Lib.hid (kon3 HB2.out hb3)
  clear hb3 hri3
  go_wp2_with fail
  refine HS.out.mono ?_
  rintro e w4 ⟨rfl, q, rfl⟩
  have HBT : Hid (btwB key 0 1000000 = false) := HKY.out
  go_wp2_with (go_at_call 16; refine (Between_f _ _ _ _ HBT.out).mono ?_; rintro e w' ⟨rfl, rfl⟩)
  go_ret
  exact ⟨by simp, below_drewN HB3.out q⟩

set_option maxRecDepth 100000 in
set_option maxHeartbeats 2000000 in
theorem RowsL_good (A : Option Addr) (n c : Nat) (l : List Int) (key : Int) (w : World) (h : IS w A n c l) (hR : Rise l) (hk : kyB key = true) (hT : Tb w) :
    Calls Tryd.prog 3 #[.slice A n c, I key] w fun e w' => e = .returned (.bool true) ∧ Below w.heap.size w w' := by
  have hn : n ≤ 200 := by rw [← h.len]; exact hR.len
  have HC := Lib.hid (Rows_ok A n c l w h hR hT)
  have HT := Lib.hid hT
  have H := Lib.hid h
  have HR := Lib.hid hR
  have HKY := Lib.hid hk
  obtain ⟨np, hnp⟩ : ∃ np, (stops l key).length = np := ⟨_, rfl⟩
  have hnpl : np ≤ 2400 := by
    rw [← hnp]
    have h1 := stTo_len l key 12
    have h2 := hR.len
    unfold stops
    omega
  have HNP := Lib.hid hnp
  clear h hR hT hk hnp
  go_enter Tryd.func3, Tryd.ntmps3
  go_wp2_with fail
  refine HC.out.mono ?_
  rintro e w1 ⟨A1, m1, c1, rfl, hri, hb1⟩
  have HB1 := Lib.hid hb1
  have HRI := Lib.hid hri
  have HP := Lib.hid (Path_ok A n c l key w1 (H.out.below hb1) HR.out HKY.out (HT.out.next hb1))
  clear hb1 hri
  go_wp2_with fail
  refine HP.out.mono ?_
  rintro e w2 ⟨A2, c2, rfl, hps, hb2⟩
  rw [HNP.out] at hps ⊢
  have HPS := Lib.hid hps
  have HB2 := Lib.hid (kon3 HB1.out hb2)
  have HRI2 := Lib.hid (HRI.out.below hb2)
  have HH := Lib.hid (Height_any key w2 (HT.out.next HB2.out))
  have HK : Hid (Calls Tryd.prog 13 #[.slice A n c] w2 fun e w' => e = .returned (I 0) ∧ w' = w2) := by
    show Calls _ _ _ _ _
    rw [← chkK_zero.2 HR.out]
    exact KeysRight_any A n c l w2 (H.out.below HB2.out) (by omega)
  clear hb2 hps
  go_wp2_with fail
  refine HH.out.mono ?_
  rintro e w' ⟨rfl, rfl⟩
  go_wp2_with fail
  refine (HeightOf_any key _).mono ?_
  rintro e w' ⟨rfl, rfl⟩
  go_wp2_with fail
  refine HK.out.mono ?_
  rintro e w' ⟨rfl, rfl⟩
  have HRO := Lib.hid (RowsOf_any A n c l _ (H.out.below HB2.out) (by omega))
  go_wp2_with fail
  refine HRO.out.mono ?_
  rintro e w3 ⟨A3, m3, c3, rfl, hri3, hb3⟩
  obtain rfl : m3 = m1 := by rw [ri_m hri3, ri_m HRI2.out]
  have HS := Lib.hid (sameRows_t A1 A3 m3 c1 c3 (rowsL l) w3 (HRI2.out.below hb3) hri3 (by rw [ri_m hri3]; have := hiR_le l; omega) (rows_short (by have := HR.out.len; omega)))
  have HB3 := Lib.hid (kon3 HB2.out hb3)
  have HPS3 := Lib.hid (HPS.out.below hb3)
  clear hb3 hri3
  go_wp2_with fail
  refine HS.out.mono ?_
  rintro e w4 ⟨rfl, q, rfl⟩
  have HB4 := Lib.hid (below_drewN HB3.out q)
  have HPS4 := Lib.hid (HPS3.out.drewN q)
  obtain ⟨W, hW⟩ : ∃ W, w3.drewN q = W := ⟨_, rfl⟩
  rw [hW] at HB4 HPS4 ⊢
  clear hW HS HRO
  have HBT : Hid (btwB key 0 1000000 = true) := HKY.out
  have HST := Lib.hid (Stops_any A n c l key W (H.out.below HB4.out) HR.out HKY.out)
  go_wp2_with (first | (go_at_call 16; refine (Between_t _ _ _ _ HBT.out).mono ?_; rintro e w' ⟨rfl, rfl⟩) | fail)
  refine HST.out.mono ?_
  rintro e w5 ⟨A5, c5, rfl, hps5, hb5⟩
  rw [HNP.out] at hps5 ⊢
  have HEQ := Lib.hid (eqStop_any A2 A5 np np c2 c5 (stops l key) (stops l key) w5 (HPS4.out.below hb5) hps5 (by omega) (by omega))
  have HB5 := Lib.hid (kon3 HB4.out hb5)
  clear hb5 hps5
  go_wp2_with fail
  refine HEQ.out.mono ?_
  rintro e w6 ⟨rfl, hb6⟩
  have HB6 := Lib.hid (kon3 HB5.out hb6)
  clear hb6
  go_wp2
  go_ret
  exact ⟨by simp, HB6.out⟩

theorem RowsL_any (A : Option Addr) (n c : Nat) (l : List Int) (key : Int) (w : World) (h : IS w A n c l) (hn : n ≤ 9223372036854775807) (hT : Tb w) :
    Calls Tryd.prog 3 #[.slice A n c, I key] w fun e w' => e = .returned (.bool true) ∧ Below w.heap.size w w' := by
  by_cases h0 : chkK l = 0
  · cases hk : kyB key with
    | true => exact RowsL_good A n c l key w h (chkK_zero.1 h0) hk hT
    | false => exact RowsL_arg A n c l key w h (chkK_zero.1 h0) hk hT
  · exact RowsL_bad A n c l key w h hn hT _ rfl h0
end Go.Proofs.YtoebnfogkmkomaaDoor
