/-
  GoatSays: Even, Deepest and Run answer what the document says.
-/
import Derived.Test.YtolgncaaffmmnaaDoorOGoated
import Derived.Test.YtolgncaaffmmnaaDoorOStand
import Derived.Test.YtolgncaaffmmnaaDoorAnsweredAll
import Derived.Test.YtolgncaaffmmnaaDoorGSortAll
import Derived.Test.YtolgncaaffmmnaaDoorEqTAll
namespace Go.Proofs.YtolgncaaffmmnaaDoor
open Go.RowKit

theorem ospots_ps (t : Tr) (q : Option Addr) (n : Nat) (w : World) (h : RT w q t) (hz : t.size = n) (hn : n ≤ 200) : Calls Tryd.prog 13 #[.pointer q, I 0] w fun e w' => ∃ A c, e = .returned (.slice A n c) ∧ PS w' A n c (t.sp 0) ∧ Below w.heap.size w w' := by
  refine (rspots_any t q 0 w h (Int.le_refl _) (by omega) (by omega)).mono ?_
  rintro e w' ⟨v, rfl, ho, hb⟩
  obtain ⟨A, c, e', _, hp⟩ := ownR_told ho (show (t.sp 0).length = n by rw [sp_length, hz])
  subst e'
  exact ⟨A, c, rfl, hp, hb⟩

set_option maxRecDepth 100000 in
set_option maxHeartbeats 8000000 in
theorem osays_bad_out_large (K A : Option Addr) (m d n c : Nat) (l : List Int) (many : Int) (ops : List OP) (w : World) (hk : IS w K m d l) (h : OS w A n c ops) (hm : m ≤ 9223372036854775807) (hn63 : n ≤ 9223372036854775807) (hT : Tb w) (E : Int) (hE : chkK l = E) (hE0 : E ≠ 0) (hM : many < 0 ∨ 200 < many) (hn : 300 < n) :
    Calls Tryd.prog 3 #[.slice K m d, I many, .slice A n c] w fun e w' => e = .returned (.bool true) ∧ Below w.heap.size w w' := by
  have HK := Lib.hid hk
  have H := Lib.hid h
  have HOL := Lib.hid h.len
  have HEV := Lib.hid (Even_bad K m d l w hk hm E hE hE0)
  have HE := Lib.hid hE
  have hne : (E != 0) = true := oerr_ne hE0
  have hee : (E != E) = false := by simp
  have HDE := Lib.hid (fun w' => ODeepest_bad many w' hM)
  have HBT : Hid (btwB many 0 200 = false) := by show _ = _; simp [btwB]; omega
  have HRU := Lib.hid (fun w' => ORun_large A n c w' hn hn63)
  have hn' : 300 < (n : Int) := by omega
  clear hk h hT hE hE0 hM
  go_enter Tryd.func3, Tryd.ntmps3
  go_wp2_with fail
  refine HEV.out.mono ?_
  rintro e w1 ⟨rfl, hb1⟩
  have HB1 := Lib.hid hb1
  have H1 := Lib.hid (H.out.below hb1)
  have HK1 := Lib.hid (HK.out.below hb1)
  clear hb1 HEV H HK
  go_wp2_with fail
  refine (HDE.out w1).mono ?_
  rintro e w1' ⟨rfl, hw1⟩
  subst hw1
  clear HDE
  go_wp2_with fail
  refine (HRU.out w1').mono ?_
  rintro e w2 ⟨A2, c2, A3, n3, c3, rfl, hp2, ha2, hb2⟩
  obtain rfl : n3 = 0 := ha2.len.symm
  have HB2 := Lib.hid (below_next HB1.out hb2)
  have H2 := Lib.hid (H1.out.below hb2)
  have HK2 := Lib.hid (HK1.out.below hb2)
  have HS2 := Lib.hid hp2
  have HA2 := Lib.hid ha2
  clear hb2 hp2 ha2 HB1 H1 HK1 HRU
  go_wp2_with fail
  refine (KeysRight_any K m d l w2 HK2.out hm).mono ?_
  rw [HE.out]
  rintro e w2' ⟨rfl, hw2⟩
  subst hw2
  go_wp2_with fail
  refine (Between_any many 0 200 _).mono ?_
  rw [HBT.out]
  rintro e w6 ⟨rfl, hw6⟩
  subst hw6
  go_wp2
  go_ret
  exact ⟨rfl, HB2.out⟩

set_option maxRecDepth 100000 in
set_option maxHeartbeats 8000000 in
theorem osays_bad_out_small (K A : Option Addr) (m d n c : Nat) (l : List Int) (many : Int) (ops : List OP) (w : World) (hk : IS w K m d l) (h : OS w A n c ops) (hm : m ≤ 9223372036854775807) (hn63 : n ≤ 9223372036854775807) (hT : Tb w) (E : Int) (hE : chkK l = E) (hE0 : E ≠ 0) (hM : many < 0 ∨ 200 < many) (hn : n ≤ 300) :
    Calls Tryd.prog 3 #[.slice K m d, I many, .slice A n c] w fun e w' => e = .returned (.bool true) ∧ Below w.heap.size w w' := by
  have HK := Lib.hid hk
  have H := Lib.hid h
  have HOL := Lib.hid h.len
  have HEV := Lib.hid (Even_bad K m d l w hk hm E hE hE0)
  have HE := Lib.hid hE
  have hne : (E != 0) = true := oerr_ne hE0
  have hee : (E != E) = false := by simp
  have HDE := Lib.hid (fun w' => ODeepest_bad many w' hM)
  have HBT : Hid (btwB many 0 200 = false) := by show _ = _; simp [btwB]; omega
  have hgb := go_bounds ops (by rw [h.len]; exact hn)
  obtain ⟨N, hN⟩ : ∃ N, (goT ops).t.size = N := ⟨_, rfl⟩
  have hN2 : N ≤ 200 := by rw [← hN]; exact hgb.size
  have HN := Lib.hid hN
  have HRU := Lib.hid (fun w' (h' : OS w' A n c ops) => ORun_any A n c N ops w' h' hn hN)
  have hn' : ¬ 300 < (n : Int) := by omega
  clear hk h hT hE hE0 hM hN hgb
  go_enter Tryd.func3, Tryd.ntmps3
  go_wp2_with fail
  refine HEV.out.mono ?_
  rintro e w1 ⟨rfl, hb1⟩
  have HB1 := Lib.hid hb1
  have H1 := Lib.hid (H.out.below hb1)
  have HK1 := Lib.hid (HK.out.below hb1)
  clear hb1 HEV H HK
  go_wp2_with fail
  refine (HDE.out w1).mono ?_
  rintro e w1' ⟨rfl, hw1⟩
  subst hw1
  clear HDE
  go_wp2_with fail
  refine (HRU.out w1' H1.out).mono ?_
  rintro e w2 ⟨A2, c2, A3, n3, c3, rfl, hp2, ha2, hb2⟩
  obtain rfl : n3 = n := by rw [← ha2.len, runR_len]; exact HOL.out
  have HB2 := Lib.hid (below_next HB1.out hb2)
  have H2 := Lib.hid (H1.out.below hb2)
  have HK2 := Lib.hid (HK1.out.below hb2)
  have HS2 := Lib.hid hp2
  have HA2 := Lib.hid ha2
  clear hb2 hp2 ha2 HB1 H1 HK1 HRU
  go_wp2_with fail
  refine (KeysRight_any K m d l w2 HK2.out hm).mono ?_
  rw [HE.out]
  rintro e w2' ⟨rfl, hw2⟩
  subst hw2
  go_wp2_with fail
  refine (Between_any many 0 200 _).mono ?_
  rw [HBT.out]
  rintro e w6 ⟨rfl, hw6⟩
  subst hw6
  go_wp2_with fail
  refine (Answered_any A n3 c ops _ H2.out hn).mono ?_
  rintro e w8 ⟨A8, n8, c8, A9, n9, c9, rfl, _, ha8, hb8⟩
  obtain rfl : n9 = n3 := by rw [← ha8.len, runR_len]; exact HOL.out
  have HB8 := Lib.hid (below_next HB2.out hb8)
  have HS8 := Lib.hid (HS2.out.below hb8)
  have HA8 := Lib.hid (HA2.out.below hb8)
  have HX8 := Lib.hid ha8
  have HGO := Lib.hid (Goated_any A A9 n9 c c9 ops w8 (H2.out.below hb8) ha8 hn)
  clear hb8 ha8 HB2 H2 HS2 HA2
  obtain ⟨BU, hBU⟩ : ∃ BU, (goT ops).built = BU := ⟨_, rfl⟩
  have HBU := Lib.hid hBU
  go_wp2_with fail
  refine HGO.out.mono ?_
  rintro e w9 ⟨q9, rfl, hr9, hb9⟩
  have HB9 := Lib.hid (below_next HB8.out hb9)
  have HS9 := Lib.hid (HS8.out.below hb9)
  have HA9 := Lib.hid (HA8.out.below hb9)
  have HX9 := Lib.hid (HX8.out.below hb9)
  have HSP9 := Lib.hid (ospots_ps (goT ops).t q9 N w9 hr9 HN.out hN2)
  clear hr9 hb9 HB8 HS8 HA8 HX8 HGO
  rw [hBU]
  have hbb : ((BU : Int) == (BU : Int)) = true := by simp
  clear hBU
  go_wp2_with fail
  refine HSP9.out.mono ?_
  rintro e wa ⟨Aa, ca, rfl, hpa, hba⟩
  have HBa := Lib.hid (below_next HB9.out hba)
  have HAa := Lib.hid (HA9.out.below hba)
  have HXa := Lib.hid (HX9.out.below hba)
  have HSSa := Lib.hid (sameSpots_t A2 Aa N c2 ca _ wa (HS9.out.below hba) hpa (by omega))
  clear hpa hba HB9 HS9 HA9 HX9 HSP9
  go_wp2_with fail
  refine HSSa.out.mono ?_
  rintro e wb ⟨rfl, hbb'⟩
  have HBb := Lib.hid (below_next HBa.out hbb')
  have HEQ := Lib.hid (eqAns_t A3 A9 n9 c3 c9 _ wb (HAa.out.below hbb') (HXa.out.below hbb') (by omega))
  clear hbb' HBa HAa HXa HSSa
  go_wp2_with fail
  refine HEQ.out.mono ?_
  rintro e wz ⟨rfl, hbz⟩
  have HBz := Lib.hid (below_next HBb.out hbz)
  clear hbz
  go_wp2
  go_ret
  exact ⟨rfl, HBz.out⟩

set_option maxRecDepth 100000 in
set_option maxHeartbeats 8000000 in
theorem osays_bad_in_large (K A : Option Addr) (m d n c : Nat) (l : List Int) (many : Int) (ops : List OP) (w : World) (hk : IS w K m d l) (h : OS w A n c ops) (hm : m ≤ 9223372036854775807) (hn63 : n ≤ 9223372036854775807) (hT : Tb w) (E : Int) (hE : chkK l = E) (hE0 : E ≠ 0) (M : Nat) (hM : many = (M : Int)) (hM2 : M ≤ 200) (hn : 300 < n) :
    Calls Tryd.prog 3 #[.slice K m d, I many, .slice A n c] w fun e w' => e = .returned (.bool true) ∧ Below w.heap.size w w' := by
  have HK := Lib.hid hk
  have H := Lib.hid h
  have HOL := Lib.hid h.len
  have HEV := Lib.hid (Even_bad K m d l w hk hm E hE hE0)
  have HE := Lib.hid hE
  have hne : (E != 0) = true := oerr_ne hE0
  have hee : (E != E) = false := by simp
  subst hM
  have HDE := Lib.hid (fun w' => ODeepest_ok M w' hM2)
  have HDO := Lib.hid (fun w' => DeepestOf_any M w' hM2)
  have HBT : Hid (btwB (M : Int) 0 200 = true) := by show _ = _; simp [btwB]; omega
  obtain ⟨D, hD⟩ : ∃ D, dpst M = D := ⟨_, rfl⟩
  rw [hD] at HDE HDO
  have hdd : ((D : Int) != (D : Int)) = false := by simp
  clear hD
  have HRU := Lib.hid (fun w' => ORun_large A n c w' hn hn63)
  have hn' : 300 < (n : Int) := by omega
  clear hk h hT hE hE0
  go_enter Tryd.func3, Tryd.ntmps3
  go_wp2_with fail
  refine HEV.out.mono ?_
  rintro e w1 ⟨rfl, hb1⟩
  have HB1 := Lib.hid hb1
  have H1 := Lib.hid (H.out.below hb1)
  have HK1 := Lib.hid (HK.out.below hb1)
  clear hb1 HEV H HK
  go_wp2_with fail
  refine (HDE.out w1).mono ?_
  rintro e w1' ⟨rfl, hw1⟩
  subst hw1
  clear HDE
  go_wp2_with fail
  refine (HRU.out w1').mono ?_
  rintro e w2 ⟨A2, c2, A3, n3, c3, rfl, hp2, ha2, hb2⟩
  obtain rfl : n3 = 0 := ha2.len.symm
  have HB2 := Lib.hid (below_next HB1.out hb2)
  have H2 := Lib.hid (H1.out.below hb2)
  have HK2 := Lib.hid (HK1.out.below hb2)
  have HS2 := Lib.hid hp2
  have HA2 := Lib.hid ha2
  clear hb2 hp2 ha2 HB1 H1 HK1 HRU
  go_wp2_with fail
  refine (KeysRight_any K m d l w2 HK2.out hm).mono ?_
  rw [HE.out]
  rintro e w2' ⟨rfl, hw2⟩
  subst hw2
  go_wp2_with fail
  refine (Between_any (M : Int) 0 200 _).mono ?_
  rw [HBT.out]
  rintro e w6 ⟨rfl, hw6⟩
  subst hw6
  go_wp2_with fail
  refine (HDO.out _).mono ?_
  rintro e w7 ⟨rfl, hw7⟩
  subst hw7
  go_wp2
  go_ret
  exact ⟨rfl, HB2.out⟩

set_option maxRecDepth 100000 in
set_option maxHeartbeats 8000000 in
theorem osays_bad_in_small (K A : Option Addr) (m d n c : Nat) (l : List Int) (many : Int) (ops : List OP) (w : World) (hk : IS w K m d l) (h : OS w A n c ops) (hm : m ≤ 9223372036854775807) (hn63 : n ≤ 9223372036854775807) (hT : Tb w) (E : Int) (hE : chkK l = E) (hE0 : E ≠ 0) (M : Nat) (hM : many = (M : Int)) (hM2 : M ≤ 200) (hn : n ≤ 300) :
    Calls Tryd.prog 3 #[.slice K m d, I many, .slice A n c] w fun e w' => e = .returned (.bool true) ∧ Below w.heap.size w w' := by
  have HK := Lib.hid hk
  have H := Lib.hid h
  have HOL := Lib.hid h.len
  have HEV := Lib.hid (Even_bad K m d l w hk hm E hE hE0)
  have HE := Lib.hid hE
  have hne : (E != 0) = true := oerr_ne hE0
  have hee : (E != E) = false := by simp
  subst hM
  have HDE := Lib.hid (fun w' => ODeepest_ok M w' hM2)
  have HDO := Lib.hid (fun w' => DeepestOf_any M w' hM2)
  have HBT : Hid (btwB (M : Int) 0 200 = true) := by show _ = _; simp [btwB]; omega
  obtain ⟨D, hD⟩ : ∃ D, dpst M = D := ⟨_, rfl⟩
  rw [hD] at HDE HDO
  have hdd : ((D : Int) != (D : Int)) = false := by simp
  clear hD
  have hgb := go_bounds ops (by rw [h.len]; exact hn)
  obtain ⟨N, hN⟩ : ∃ N, (goT ops).t.size = N := ⟨_, rfl⟩
  have hN2 : N ≤ 200 := by rw [← hN]; exact hgb.size
  have HN := Lib.hid hN
  have HRU := Lib.hid (fun w' (h' : OS w' A n c ops) => ORun_any A n c N ops w' h' hn hN)
  have hn' : ¬ 300 < (n : Int) := by omega
  clear hk h hT hE hE0 hN hgb
  go_enter Tryd.func3, Tryd.ntmps3
  go_wp2_with fail
  refine HEV.out.mono ?_
  rintro e w1 ⟨rfl, hb1⟩
  have HB1 := Lib.hid hb1
  have H1 := Lib.hid (H.out.below hb1)
  have HK1 := Lib.hid (HK.out.below hb1)
  clear hb1 HEV H HK
  go_wp2_with fail
  refine (HDE.out w1).mono ?_
  rintro e w1' ⟨rfl, hw1⟩
  subst hw1
  clear HDE
  go_wp2_with fail
  refine (HRU.out w1' H1.out).mono ?_
  rintro e w2 ⟨A2, c2, A3, n3, c3, rfl, hp2, ha2, hb2⟩
  obtain rfl : n3 = n := by rw [← ha2.len, runR_len]; exact HOL.out
  have HB2 := Lib.hid (below_next HB1.out hb2)
  have H2 := Lib.hid (H1.out.below hb2)
  have HK2 := Lib.hid (HK1.out.below hb2)
  have HS2 := Lib.hid hp2
  have HA2 := Lib.hid ha2
  clear hb2 hp2 ha2 HB1 H1 HK1 HRU
  go_wp2_with fail
  refine (KeysRight_any K m d l w2 HK2.out hm).mono ?_
  rw [HE.out]
  rintro e w2' ⟨rfl, hw2⟩
  subst hw2
  go_wp2_with fail
  refine (Between_any (M : Int) 0 200 _).mono ?_
  rw [HBT.out]
  rintro e w6 ⟨rfl, hw6⟩
  subst hw6
  go_wp2_with fail
  refine (HDO.out _).mono ?_
  rintro e w7 ⟨rfl, hw7⟩
  subst hw7
  go_wp2_with fail
  refine (Answered_any A n3 c ops _ H2.out hn).mono ?_
  rintro e w8 ⟨A8, n8, c8, A9, n9, c9, rfl, _, ha8, hb8⟩
  obtain rfl : n9 = n3 := by rw [← ha8.len, runR_len]; exact HOL.out
  have HB8 := Lib.hid (below_next HB2.out hb8)
  have HS8 := Lib.hid (HS2.out.below hb8)
  have HA8 := Lib.hid (HA2.out.below hb8)
  have HX8 := Lib.hid ha8
  have HGO := Lib.hid (Goated_any A A9 n9 c c9 ops w8 (H2.out.below hb8) ha8 hn)
  clear hb8 ha8 HB2 H2 HS2 HA2
  obtain ⟨BU, hBU⟩ : ∃ BU, (goT ops).built = BU := ⟨_, rfl⟩
  have HBU := Lib.hid hBU
  go_wp2_with fail
  refine HGO.out.mono ?_
  rintro e w9 ⟨q9, rfl, hr9, hb9⟩
  have HB9 := Lib.hid (below_next HB8.out hb9)
  have HS9 := Lib.hid (HS8.out.below hb9)
  have HA9 := Lib.hid (HA8.out.below hb9)
  have HX9 := Lib.hid (HX8.out.below hb9)
  have HSP9 := Lib.hid (ospots_ps (goT ops).t q9 N w9 hr9 HN.out hN2)
  clear hr9 hb9 HB8 HS8 HA8 HX8 HGO
  rw [hBU]
  have hbb : ((BU : Int) == (BU : Int)) = true := by simp
  clear hBU
  go_wp2_with fail
  refine HSP9.out.mono ?_
  rintro e wa ⟨Aa, ca, rfl, hpa, hba⟩
  have HBa := Lib.hid (below_next HB9.out hba)
  have HAa := Lib.hid (HA9.out.below hba)
  have HXa := Lib.hid (HX9.out.below hba)
  have HSSa := Lib.hid (sameSpots_t A2 Aa N c2 ca _ wa (HS9.out.below hba) hpa (by omega))
  clear hpa hba HB9 HS9 HA9 HX9 HSP9
  go_wp2_with fail
  refine HSSa.out.mono ?_
  rintro e wb ⟨rfl, hbb'⟩
  have HBb := Lib.hid (below_next HBa.out hbb')
  have HEQ := Lib.hid (eqAns_t A3 A9 n9 c3 c9 _ wb (HAa.out.below hbb') (HXa.out.below hbb') (by omega))
  clear hbb' HBa HAa HXa HSSa
  go_wp2_with fail
  refine HEQ.out.mono ?_
  rintro e wz ⟨rfl, hbz⟩
  have HBz := Lib.hid (below_next HBb.out hbz)
  clear hbz
  go_wp2
  go_ret
  exact ⟨rfl, HBz.out⟩

set_option maxRecDepth 100000 in
set_option maxHeartbeats 8000000 in
theorem osays_ok_out_large (K A : Option Addr) (m d n c : Nat) (l : List Int) (many : Int) (ops : List OP) (w : World) (hk : IS w K m d l) (h : OS w A n c ops) (hm : m ≤ 9223372036854775807) (hn63 : n ≤ 9223372036854775807) (hT : Tb w) (hR : Rise l) (hM : many < 0 ∨ 200 < many) (hn : 300 < n) :
    Calls Tryd.prog 3 #[.slice K m d, I many, .slice A n c] w fun e w' => e = .returned (.bool true) ∧ Below w.heap.size w w' := by
  have HK := Lib.hid hk
  have H := Lib.hid h
  have HOL := Lib.hid h.len
  have hm2 : m ≤ 200 := by rw [← hk.len]; exact hR.len
  have HEV := Lib.hid (Even_ok K m d l w hk hR hT)
  have HE := Lib.hid (chkK_zero.2 hR)
  have HESZ : Hid ((ev l).size = m) := by show _ = _; rw [ev_size, hk.len]
  have HDE := Lib.hid (fun w' => ODeepest_bad many w' hM)
  have HBT : Hid (btwB many 0 200 = false) := by show _ = _; simp [btwB]; omega
  have HRU := Lib.hid (fun w' => ORun_large A n c w' hn hn63)
  have hn' : 300 < (n : Int) := by omega
  clear hk h hT hR hM
  go_enter Tryd.func3, Tryd.ntmps3
  go_wp2_with fail
  refine HEV.out.mono ?_
  rintro e w1 ⟨A1, c1, rfl, hp1, hb1⟩
  have HV1 := Lib.hid hp1
  have HB1 := Lib.hid hb1
  have H1 := Lib.hid (H.out.below hb1)
  have HK1 := Lib.hid (HK.out.below hb1)
  clear hb1 HEV H HK hp1
  go_wp2_with fail
  refine (HDE.out w1).mono ?_
  rintro e w1' ⟨rfl, hw1⟩
  subst hw1
  clear HDE
  go_wp2_with fail
  refine (HRU.out w1').mono ?_
  rintro e w2 ⟨A2, c2, A3, n3, c3, rfl, hp2, ha2, hb2⟩
  obtain rfl : n3 = 0 := ha2.len.symm
  have HB2 := Lib.hid (below_next HB1.out hb2)
  have H2 := Lib.hid (H1.out.below hb2)
  have HK2 := Lib.hid (HK1.out.below hb2)
  have HS2 := Lib.hid hp2
  have HA2 := Lib.hid ha2
  have HV2 := Lib.hid (HV1.out.below hb2)
  clear hb2 hp2 ha2 HB1 H1 HK1 HRU HV1
  go_wp2_with fail
  refine (KeysRight_any K m d l w2 HK2.out hm).mono ?_
  rw [HE.out]
  rintro e w2' ⟨rfl, hw2⟩
  subst hw2
  go_wp2_with fail
  refine (EvenTree_any _ K m d l w2' (Nat.le_refl _) HK2.out (by omega)).mono ?_
  rintro e w3 ⟨q3, rfl, hr3, hb3⟩
  have HB3 := Lib.hid (below_next HB2.out hb3)
  have H3 := Lib.hid (H2.out.below hb3)
  have HS3 := Lib.hid (HS2.out.below hb3)
  have HA3 := Lib.hid (HA2.out.below hb3)
  have HV3 := Lib.hid (HV2.out.below hb3)
  have HSP := Lib.hid (ospots_ps (ev l) q3 m w3 hr3 HESZ.out hm2)
  clear hr3 hb3 HB2 H2 HS2 HA2 HV2 HK2
  go_wp2_with fail
  refine HSP.out.mono ?_
  rintro e w4 ⟨A4, c4, rfl, hp4, hb4⟩
  have HB4 := Lib.hid (below_next HB3.out hb4)
  have H4 := Lib.hid (H3.out.below hb4)
  have HS4 := Lib.hid (HS3.out.below hb4)
  have HA4 := Lib.hid (HA3.out.below hb4)
  have HSS := Lib.hid (sameSpots_t A1 A4 m c1 c4 _ w4 (HV3.out.below hb4) hp4 (by omega))
  clear hp4 hb4 HB3 H3 HS3 HA3 HV3 HSP
  go_wp2_with fail
  refine HSS.out.mono ?_
  rintro e w5 ⟨rfl, hb5⟩
  have HB5 := Lib.hid (below_next HB4.out hb5)
  have H5 := Lib.hid (H4.out.below hb5)
  have HS5 := Lib.hid (HS4.out.below hb5)
  have HA5 := Lib.hid (HA4.out.below hb5)
  clear hb5 HB4 H4 HS4 HA4 HSS
  go_wp2_with fail
  refine (Between_any many 0 200 _).mono ?_
  rw [HBT.out]
  rintro e w6 ⟨rfl, hw6⟩
  subst hw6
  go_wp2
  go_ret
  exact ⟨rfl, HB5.out⟩

set_option maxRecDepth 100000 in
set_option maxHeartbeats 8000000 in
theorem osays_ok_out_small (K A : Option Addr) (m d n c : Nat) (l : List Int) (many : Int) (ops : List OP) (w : World) (hk : IS w K m d l) (h : OS w A n c ops) (hm : m ≤ 9223372036854775807) (hn63 : n ≤ 9223372036854775807) (hT : Tb w) (hR : Rise l) (hM : many < 0 ∨ 200 < many) (hn : n ≤ 300) :
    Calls Tryd.prog 3 #[.slice K m d, I many, .slice A n c] w fun e w' => e = .returned (.bool true) ∧ Below w.heap.size w w' := by
  have HK := Lib.hid hk
  have H := Lib.hid h
  have HOL := Lib.hid h.len
  have hm2 : m ≤ 200 := by rw [← hk.len]; exact hR.len
  have HEV := Lib.hid (Even_ok K m d l w hk hR hT)
  have HE := Lib.hid (chkK_zero.2 hR)
  have HESZ : Hid ((ev l).size = m) := by show _ = _; rw [ev_size, hk.len]
  have HDE := Lib.hid (fun w' => ODeepest_bad many w' hM)
  have HBT : Hid (btwB many 0 200 = false) := by show _ = _; simp [btwB]; omega
  have hgb := go_bounds ops (by rw [h.len]; exact hn)
  obtain ⟨N, hN⟩ : ∃ N, (goT ops).t.size = N := ⟨_, rfl⟩
  have hN2 : N ≤ 200 := by rw [← hN]; exact hgb.size
  have HN := Lib.hid hN
  have HRU := Lib.hid (fun w' (h' : OS w' A n c ops) => ORun_any A n c N ops w' h' hn hN)
  have hn' : ¬ 300 < (n : Int) := by omega
  clear hk h hT hR hM hN hgb
  go_enter Tryd.func3, Tryd.ntmps3
  go_wp2_with fail
  refine HEV.out.mono ?_
  rintro e w1 ⟨A1, c1, rfl, hp1, hb1⟩
  have HV1 := Lib.hid hp1
  have HB1 := Lib.hid hb1
  have H1 := Lib.hid (H.out.below hb1)
  have HK1 := Lib.hid (HK.out.below hb1)
  clear hb1 HEV H HK hp1
  go_wp2_with fail
  refine (HDE.out w1).mono ?_
  rintro e w1' ⟨rfl, hw1⟩
  subst hw1
  clear HDE
  go_wp2_with fail
  refine (HRU.out w1' H1.out).mono ?_
  rintro e w2 ⟨A2, c2, A3, n3, c3, rfl, hp2, ha2, hb2⟩
  obtain rfl : n3 = n := by rw [← ha2.len, runR_len]; exact HOL.out
  have HB2 := Lib.hid (below_next HB1.out hb2)
  have H2 := Lib.hid (H1.out.below hb2)
  have HK2 := Lib.hid (HK1.out.below hb2)
  have HS2 := Lib.hid hp2
  have HA2 := Lib.hid ha2
  have HV2 := Lib.hid (HV1.out.below hb2)
  clear hb2 hp2 ha2 HB1 H1 HK1 HRU HV1
  go_wp2_with fail
  refine (KeysRight_any K m d l w2 HK2.out hm).mono ?_
  rw [HE.out]
  rintro e w2' ⟨rfl, hw2⟩
  subst hw2
  go_wp2_with fail
  refine (EvenTree_any _ K m d l w2' (Nat.le_refl _) HK2.out (by omega)).mono ?_
  rintro e w3 ⟨q3, rfl, hr3, hb3⟩
  have HB3 := Lib.hid (below_next HB2.out hb3)
  have H3 := Lib.hid (H2.out.below hb3)
  have HS3 := Lib.hid (HS2.out.below hb3)
  have HA3 := Lib.hid (HA2.out.below hb3)
  have HV3 := Lib.hid (HV2.out.below hb3)
  have HSP := Lib.hid (ospots_ps (ev l) q3 m w3 hr3 HESZ.out hm2)
  clear hr3 hb3 HB2 H2 HS2 HA2 HV2 HK2
  go_wp2_with fail
  refine HSP.out.mono ?_
  rintro e w4 ⟨A4, c4, rfl, hp4, hb4⟩
  have HB4 := Lib.hid (below_next HB3.out hb4)
  have H4 := Lib.hid (H3.out.below hb4)
  have HS4 := Lib.hid (HS3.out.below hb4)
  have HA4 := Lib.hid (HA3.out.below hb4)
  have HSS := Lib.hid (sameSpots_t A1 A4 m c1 c4 _ w4 (HV3.out.below hb4) hp4 (by omega))
  clear hp4 hb4 HB3 H3 HS3 HA3 HV3 HSP
  go_wp2_with fail
  refine HSS.out.mono ?_
  rintro e w5 ⟨rfl, hb5⟩
  have HB5 := Lib.hid (below_next HB4.out hb5)
  have H5 := Lib.hid (H4.out.below hb5)
  have HS5 := Lib.hid (HS4.out.below hb5)
  have HA5 := Lib.hid (HA4.out.below hb5)
  clear hb5 HB4 H4 HS4 HA4 HSS
  go_wp2_with fail
  refine (Between_any many 0 200 _).mono ?_
  rw [HBT.out]
  rintro e w6 ⟨rfl, hw6⟩
  subst hw6
  go_wp2_with fail
  refine (Answered_any A n3 c ops _ H5.out hn).mono ?_
  rintro e w8 ⟨A8, n8, c8, A9, n9, c9, rfl, _, ha8, hb8⟩
  obtain rfl : n9 = n3 := by rw [← ha8.len, runR_len]; exact HOL.out
  have HB8 := Lib.hid (below_next HB5.out hb8)
  have HS8 := Lib.hid (HS5.out.below hb8)
  have HA8 := Lib.hid (HA5.out.below hb8)
  have HX8 := Lib.hid ha8
  have HGO := Lib.hid (Goated_any A A9 n9 c c9 ops w8 (H5.out.below hb8) ha8 hn)
  clear hb8 ha8 HB5 H5 HS5 HA5
  obtain ⟨BU, hBU⟩ : ∃ BU, (goT ops).built = BU := ⟨_, rfl⟩
  have HBU := Lib.hid hBU
  go_wp2_with fail
  refine HGO.out.mono ?_
  rintro e w9 ⟨q9, rfl, hr9, hb9⟩
  have HB9 := Lib.hid (below_next HB8.out hb9)
  have HS9 := Lib.hid (HS8.out.below hb9)
  have HA9 := Lib.hid (HA8.out.below hb9)
  have HX9 := Lib.hid (HX8.out.below hb9)
  have HSP9 := Lib.hid (ospots_ps (goT ops).t q9 N w9 hr9 HN.out hN2)
  clear hr9 hb9 HB8 HS8 HA8 HX8 HGO
  rw [hBU]
  have hbb : ((BU : Int) == (BU : Int)) = true := by simp
  clear hBU
  go_wp2_with fail
  refine HSP9.out.mono ?_
  rintro e wa ⟨Aa, ca, rfl, hpa, hba⟩
  have HBa := Lib.hid (below_next HB9.out hba)
  have HAa := Lib.hid (HA9.out.below hba)
  have HXa := Lib.hid (HX9.out.below hba)
  have HSSa := Lib.hid (sameSpots_t A2 Aa N c2 ca _ wa (HS9.out.below hba) hpa (by omega))
  clear hpa hba HB9 HS9 HA9 HX9 HSP9
  go_wp2_with fail
  refine HSSa.out.mono ?_
  rintro e wb ⟨rfl, hbb'⟩
  have HBb := Lib.hid (below_next HBa.out hbb')
  have HEQ := Lib.hid (eqAns_t A3 A9 n9 c3 c9 _ wb (HAa.out.below hbb') (HXa.out.below hbb') (by omega))
  clear hbb' HBa HAa HXa HSSa
  go_wp2_with fail
  refine HEQ.out.mono ?_
  rintro e wz ⟨rfl, hbz⟩
  have HBz := Lib.hid (below_next HBb.out hbz)
  clear hbz
  go_wp2
  go_ret
  exact ⟨rfl, HBz.out⟩

set_option maxRecDepth 100000 in
set_option maxHeartbeats 8000000 in
theorem osays_ok_in_large (K A : Option Addr) (m d n c : Nat) (l : List Int) (many : Int) (ops : List OP) (w : World) (hk : IS w K m d l) (h : OS w A n c ops) (hm : m ≤ 9223372036854775807) (hn63 : n ≤ 9223372036854775807) (hT : Tb w) (hR : Rise l) (M : Nat) (hM : many = (M : Int)) (hM2 : M ≤ 200) (hn : 300 < n) :
    Calls Tryd.prog 3 #[.slice K m d, I many, .slice A n c] w fun e w' => e = .returned (.bool true) ∧ Below w.heap.size w w' := by
  have HK := Lib.hid hk
  have H := Lib.hid h
  have HOL := Lib.hid h.len
  have hm2 : m ≤ 200 := by rw [← hk.len]; exact hR.len
  have HEV := Lib.hid (Even_ok K m d l w hk hR hT)
  have HE := Lib.hid (chkK_zero.2 hR)
  have HESZ : Hid ((ev l).size = m) := by show _ = _; rw [ev_size, hk.len]
  subst hM
  have HDE := Lib.hid (fun w' => ODeepest_ok M w' hM2)
  have HDO := Lib.hid (fun w' => DeepestOf_any M w' hM2)
  have HBT : Hid (btwB (M : Int) 0 200 = true) := by show _ = _; simp [btwB]; omega
  obtain ⟨D, hD⟩ : ∃ D, dpst M = D := ⟨_, rfl⟩
  rw [hD] at HDE HDO
  have hdd : ((D : Int) != (D : Int)) = false := by simp
  clear hD
  have HRU := Lib.hid (fun w' => ORun_large A n c w' hn hn63)
  have hn' : 300 < (n : Int) := by omega
  clear hk h hT hR
  go_enter Tryd.func3, Tryd.ntmps3
  go_wp2_with fail
  refine HEV.out.mono ?_
  rintro e w1 ⟨A1, c1, rfl, hp1, hb1⟩
  have HV1 := Lib.hid hp1
  have HB1 := Lib.hid hb1
  have H1 := Lib.hid (H.out.below hb1)
  have HK1 := Lib.hid (HK.out.below hb1)
  clear hb1 HEV H HK hp1
  go_wp2_with fail
  refine (HDE.out w1).mono ?_
  rintro e w1' ⟨rfl, hw1⟩
  subst hw1
  clear HDE
  go_wp2_with fail
  refine (HRU.out w1').mono ?_
  rintro e w2 ⟨A2, c2, A3, n3, c3, rfl, hp2, ha2, hb2⟩
  obtain rfl : n3 = 0 := ha2.len.symm
  have HB2 := Lib.hid (below_next HB1.out hb2)
  have H2 := Lib.hid (H1.out.below hb2)
  have HK2 := Lib.hid (HK1.out.below hb2)
  have HS2 := Lib.hid hp2
  have HA2 := Lib.hid ha2
  have HV2 := Lib.hid (HV1.out.below hb2)
  clear hb2 hp2 ha2 HB1 H1 HK1 HRU HV1
  go_wp2_with fail
  refine (KeysRight_any K m d l w2 HK2.out hm).mono ?_
  rw [HE.out]
  rintro e w2' ⟨rfl, hw2⟩
  subst hw2
  go_wp2_with fail
  refine (EvenTree_any _ K m d l w2' (Nat.le_refl _) HK2.out (by omega)).mono ?_
  rintro e w3 ⟨q3, rfl, hr3, hb3⟩
  have HB3 := Lib.hid (below_next HB2.out hb3)
  have H3 := Lib.hid (H2.out.below hb3)
  have HS3 := Lib.hid (HS2.out.below hb3)
  have HA3 := Lib.hid (HA2.out.below hb3)
  have HV3 := Lib.hid (HV2.out.below hb3)
  have HSP := Lib.hid (ospots_ps (ev l) q3 m w3 hr3 HESZ.out hm2)
  clear hr3 hb3 HB2 H2 HS2 HA2 HV2 HK2
  go_wp2_with fail
  refine HSP.out.mono ?_
  rintro e w4 ⟨A4, c4, rfl, hp4, hb4⟩
  have HB4 := Lib.hid (below_next HB3.out hb4)
  have H4 := Lib.hid (H3.out.below hb4)
  have HS4 := Lib.hid (HS3.out.below hb4)
  have HA4 := Lib.hid (HA3.out.below hb4)
  have HSS := Lib.hid (sameSpots_t A1 A4 m c1 c4 _ w4 (HV3.out.below hb4) hp4 (by omega))
  clear hp4 hb4 HB3 H3 HS3 HA3 HV3 HSP
  go_wp2_with fail
  refine HSS.out.mono ?_
  rintro e w5 ⟨rfl, hb5⟩
  have HB5 := Lib.hid (below_next HB4.out hb5)
  have H5 := Lib.hid (H4.out.below hb5)
  have HS5 := Lib.hid (HS4.out.below hb5)
  have HA5 := Lib.hid (HA4.out.below hb5)
  clear hb5 HB4 H4 HS4 HA4 HSS
  go_wp2_with fail
  refine (Between_any (M : Int) 0 200 _).mono ?_
  rw [HBT.out]
  rintro e w6 ⟨rfl, hw6⟩
  subst hw6
  go_wp2_with fail
  refine (HDO.out _).mono ?_
  rintro e w7 ⟨rfl, hw7⟩
  subst hw7
  go_wp2
  go_ret
  exact ⟨rfl, HB5.out⟩

set_option maxRecDepth 100000 in
set_option maxHeartbeats 8000000 in
theorem osays_ok_in_small (K A : Option Addr) (m d n c : Nat) (l : List Int) (many : Int) (ops : List OP) (w : World) (hk : IS w K m d l) (h : OS w A n c ops) (hm : m ≤ 9223372036854775807) (hn63 : n ≤ 9223372036854775807) (hT : Tb w) (hR : Rise l) (M : Nat) (hM : many = (M : Int)) (hM2 : M ≤ 200) (hn : n ≤ 300) :
    Calls Tryd.prog 3 #[.slice K m d, I many, .slice A n c] w fun e w' => e = .returned (.bool true) ∧ Below w.heap.size w w' := by
  have HK := Lib.hid hk
  have H := Lib.hid h
  have HOL := Lib.hid h.len
  have hm2 : m ≤ 200 := by rw [← hk.len]; exact hR.len
  have HEV := Lib.hid (Even_ok K m d l w hk hR hT)
  have HE := Lib.hid (chkK_zero.2 hR)
  have HESZ : Hid ((ev l).size = m) := by show _ = _; rw [ev_size, hk.len]
  subst hM
  have HDE := Lib.hid (fun w' => ODeepest_ok M w' hM2)
  have HDO := Lib.hid (fun w' => DeepestOf_any M w' hM2)
  have HBT : Hid (btwB (M : Int) 0 200 = true) := by show _ = _; simp [btwB]; omega
  obtain ⟨D, hD⟩ : ∃ D, dpst M = D := ⟨_, rfl⟩
  rw [hD] at HDE HDO
  have hdd : ((D : Int) != (D : Int)) = false := by simp
  clear hD
  have hgb := go_bounds ops (by rw [h.len]; exact hn)
  obtain ⟨N, hN⟩ : ∃ N, (goT ops).t.size = N := ⟨_, rfl⟩
  have hN2 : N ≤ 200 := by rw [← hN]; exact hgb.size
  have HN := Lib.hid hN
  have HRU := Lib.hid (fun w' (h' : OS w' A n c ops) => ORun_any A n c N ops w' h' hn hN)
  have hn' : ¬ 300 < (n : Int) := by omega
  clear hk h hT hR hN hgb
  go_enter Tryd.func3, Tryd.ntmps3
  go_wp2_with fail
  refine HEV.out.mono ?_
  rintro e w1 ⟨A1, c1, rfl, hp1, hb1⟩
  have HV1 := Lib.hid hp1
  have HB1 := Lib.hid hb1
  have H1 := Lib.hid (H.out.below hb1)
  have HK1 := Lib.hid (HK.out.below hb1)
  clear hb1 HEV H HK hp1
  go_wp2_with fail
  refine (HDE.out w1).mono ?_
  rintro e w1' ⟨rfl, hw1⟩
  subst hw1
  clear HDE
  go_wp2_with fail
  refine (HRU.out w1' H1.out).mono ?_
  rintro e w2 ⟨A2, c2, A3, n3, c3, rfl, hp2, ha2, hb2⟩
  obtain rfl : n3 = n := by rw [← ha2.len, runR_len]; exact HOL.out
  have HB2 := Lib.hid (below_next HB1.out hb2)
  have H2 := Lib.hid (H1.out.below hb2)
  have HK2 := Lib.hid (HK1.out.below hb2)
  have HS2 := Lib.hid hp2
  have HA2 := Lib.hid ha2
  have HV2 := Lib.hid (HV1.out.below hb2)
  clear hb2 hp2 ha2 HB1 H1 HK1 HRU HV1
  go_wp2_with fail
  refine (KeysRight_any K m d l w2 HK2.out hm).mono ?_
  rw [HE.out]
  rintro e w2' ⟨rfl, hw2⟩
  subst hw2
  go_wp2_with fail
  refine (EvenTree_any _ K m d l w2' (Nat.le_refl _) HK2.out (by omega)).mono ?_
  rintro e w3 ⟨q3, rfl, hr3, hb3⟩
  have HB3 := Lib.hid (below_next HB2.out hb3)
  have H3 := Lib.hid (H2.out.below hb3)
  have HS3 := Lib.hid (HS2.out.below hb3)
  have HA3 := Lib.hid (HA2.out.below hb3)
  have HV3 := Lib.hid (HV2.out.below hb3)
  have HSP := Lib.hid (ospots_ps (ev l) q3 m w3 hr3 HESZ.out hm2)
  clear hr3 hb3 HB2 H2 HS2 HA2 HV2 HK2
  go_wp2_with fail
  refine HSP.out.mono ?_
  rintro e w4 ⟨A4, c4, rfl, hp4, hb4⟩
  have HB4 := Lib.hid (below_next HB3.out hb4)
  have H4 := Lib.hid (H3.out.below hb4)
  have HS4 := Lib.hid (HS3.out.below hb4)
  have HA4 := Lib.hid (HA3.out.below hb4)
  have HSS := Lib.hid (sameSpots_t A1 A4 m c1 c4 _ w4 (HV3.out.below hb4) hp4 (by omega))
  clear hp4 hb4 HB3 H3 HS3 HA3 HV3 HSP
  go_wp2_with fail
  refine HSS.out.mono ?_
  rintro e w5 ⟨rfl, hb5⟩
  have HB5 := Lib.hid (below_next HB4.out hb5)
  have H5 := Lib.hid (H4.out.below hb5)
  have HS5 := Lib.hid (HS4.out.below hb5)
  have HA5 := Lib.hid (HA4.out.below hb5)
  clear hb5 HB4 H4 HS4 HA4 HSS
  go_wp2_with fail
  refine (Between_any (M : Int) 0 200 _).mono ?_
  rw [HBT.out]
  rintro e w6 ⟨rfl, hw6⟩
  subst hw6
  go_wp2_with fail
  refine (HDO.out _).mono ?_
  rintro e w7 ⟨rfl, hw7⟩
  subst hw7
  go_wp2_with fail
  refine (Answered_any A n3 c ops _ H5.out hn).mono ?_
  rintro e w8 ⟨A8, n8, c8, A9, n9, c9, rfl, _, ha8, hb8⟩
  obtain rfl : n9 = n3 := by rw [← ha8.len, runR_len]; exact HOL.out
  have HB8 := Lib.hid (below_next HB5.out hb8)
  have HS8 := Lib.hid (HS5.out.below hb8)
  have HA8 := Lib.hid (HA5.out.below hb8)
  have HX8 := Lib.hid ha8
  have HGO := Lib.hid (Goated_any A A9 n9 c c9 ops w8 (H5.out.below hb8) ha8 hn)
  clear hb8 ha8 HB5 H5 HS5 HA5
  obtain ⟨BU, hBU⟩ : ∃ BU, (goT ops).built = BU := ⟨_, rfl⟩
  have HBU := Lib.hid hBU
  go_wp2_with fail
  refine HGO.out.mono ?_
  rintro e w9 ⟨q9, rfl, hr9, hb9⟩
  have HB9 := Lib.hid (below_next HB8.out hb9)
  have HS9 := Lib.hid (HS8.out.below hb9)
  have HA9 := Lib.hid (HA8.out.below hb9)
  have HX9 := Lib.hid (HX8.out.below hb9)
  have HSP9 := Lib.hid (ospots_ps (goT ops).t q9 N w9 hr9 HN.out hN2)
  clear hr9 hb9 HB8 HS8 HA8 HX8 HGO
  rw [hBU]
  have hbb : ((BU : Int) == (BU : Int)) = true := by simp
  clear hBU
  go_wp2_with fail
  refine HSP9.out.mono ?_
  rintro e wa ⟨Aa, ca, rfl, hpa, hba⟩
  have HBa := Lib.hid (below_next HB9.out hba)
  have HAa := Lib.hid (HA9.out.below hba)
  have HXa := Lib.hid (HX9.out.below hba)
  have HSSa := Lib.hid (sameSpots_t A2 Aa N c2 ca _ wa (HS9.out.below hba) hpa (by omega))
  clear hpa hba HB9 HS9 HA9 HX9 HSP9
  go_wp2_with fail
  refine HSSa.out.mono ?_
  rintro e wb ⟨rfl, hbb'⟩
  have HBb := Lib.hid (below_next HBa.out hbb')
  have HEQ := Lib.hid (eqAns_t A3 A9 n9 c3 c9 _ wb (HAa.out.below hbb') (HXa.out.below hbb') (by omega))
  clear hbb' HBa HAa HXa HSSa
  go_wp2_with fail
  refine HEQ.out.mono ?_
  rintro e wz ⟨rfl, hbz⟩
  have HBz := Lib.hid (below_next HBb.out hbz)
  clear hbz
  go_wp2
  go_ret
  exact ⟨rfl, HBz.out⟩

theorem OSaysL_any (K A : Option Addr) (m d n c : Nat) (l : List Int) (many : Int) (ops : List OP) (w : World) (hk : IS w K m d l) (h : OS w A n c ops) (hm : m ≤ 9223372036854775807) (hn : n ≤ 9223372036854775807) (hT : Tb w) :
    Calls Tryd.prog 3 #[.slice K m d, I many, .slice A n c] w fun e w' => e = .returned (.bool true) ∧ Below w.heap.size w w' := by
  by_cases hK : chkK l = 0 <;> by_cases hM : many < 0 ∨ 200 < many <;> by_cases hO : n ≤ 300
  · exact osays_ok_out_small K A m d n c l many ops w hk h hm hn hT (chkK_zero.1 hK) hM hO
  · exact osays_ok_out_large K A m d n c l many ops w hk h hm hn hT (chkK_zero.1 hK) hM (by omega)
  · exact osays_ok_in_small K A m d n c l many ops w hk h hm hn hT (chkK_zero.1 hK) many.toNat (by omega) (by omega) hO
  · exact osays_ok_in_large K A m d n c l many ops w hk h hm hn hT (chkK_zero.1 hK) many.toNat (by omega) (by omega) (by omega)
  · exact osays_bad_out_small K A m d n c l many ops w hk h hm hn hT _ rfl hK hM hO
  · exact osays_bad_out_large K A m d n c l many ops w hk h hm hn hT _ rfl hK hM (by omega)
  · exact osays_bad_in_small K A m d n c l many ops w hk h hm hn hT _ rfl hK many.toNat (by omega) (by omega) hO
  · exact osays_bad_in_large K A m d n c l many ops w hk h hm hn hT _ rfl hK many.toNat (by omega) (by omega) (by omega)
theorem OSaysW_any (K : Option Addr) (m d : Nat) (l : List Int) (A : Option Addr) (n c : Nat) (ops : List OP) (many : Int) (w : World) (hk : IS w K m d l) (hm : m ≤ 9223372036854775807) (h : OS w A n c ops) (hn : n ≤ 9223372036854775807) (hT : Tb w) :
    Calls Tryd.prog 3 #[.slice K m d, I many, .slice A n c] w fun e w' => e = .returned (.bool true) ∧ Below w.heap.size w w' := OSaysL_any K A m d n c l many ops w hk h hm hn hT

end Go.Proofs.YtolgncaaffmmnaaDoor
