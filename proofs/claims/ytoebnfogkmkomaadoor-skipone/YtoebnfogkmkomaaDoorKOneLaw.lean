/-
  The law SkipOne.
-/
import Derived.Test.YtoebnfogkmkomaaDoorKLives
import Derived.Test.YtoebnfogkmkomaaDoorKKeys
import Derived.Test.YtoebnfogkmkomaaDoorKRef2
import Derived.Test.YtoebnfogkmkomaaDoorKOne0
import Derived.Test.YtoebnfogkmkomaaDoorKOps
import Derived.Test.YtoebnfogkmkomaaDoorKFresh
import Derived.Deep.DeepCutAuto
namespace Go.Proofs.YtoebnfogkmkomaaDoor
open Go.RowKit

theorem rows_short1 {l : List Int} (h : l.length ≤ 1000) : ∀ x ∈ rowsL l, x.length ≤ 1000 := by
  intro x hx
  unfold rowsL at hx
  obtain ⟨r, _, rfl⟩ := List.mem_map.1 hx
  have := rowL_len l r
  omega
theorem ri_m1 {w : World} {A : Option Addr} {m c : Nat} {l : List Int} (h : RI w A m c (rowsL l)) : m = hiR l := by rw [← h.len, rowsL_len]
theorem RI.drewN {w : World} {A : Option Addr} {m c : Nat} {L : List (List Int)} (h : RI w A m c L) (k : Nat) : RI (w.drewN k) A m c L := h.below (below_drewN (Below.refl _ _) k)
theorem low_below {w w' : World} {B : Nat} {A : Option Addr} {n c : Nat} {l : List Int} (h : IS w A n c l) (hB : w.heap.size ≤ B) (hb : Below B w w') : IS w' A n c l := h.below (hb.mono hB)

set_option maxRecDepth 100000 in
set_option maxHeartbeats 2000000 in
theorem OneL_large (A : Option Addr) (n c : Nat) (v : Value) (w : World) (hn : 300 < n) (hm : n ≤ 9223372036854775807) (hT : Tb w) :
    Calls Tryd.prog 6 #[.slice A n c, v] w fun e w' => e = .returned (.bool true) ∧ Below w.heap.size w w' := by
  have HC := Lib.hid (RunS_large A n c w hn hm)
  have HT := Lib.hid hT
  clear hT
  go_enter Tryd.func6, Tryd.ntmps6
  go_wp2_with fail
  refine HC.out.mono ?_
  rintro e w1 ⟨A1, m1, c1, A2, n2, c2, rfl, hri, has, hb1⟩
  obtain rfl : m1 = 0 := hri.len.symm
  have HB1 := Lib.hid hb1
  have HL := Lib.hid (skipLives_any w1 (HT.out.next hb1))
  clear hri has hb1 HC
  go_wp2_with fail
  refine HL.out.mono ?_
  rintro e w2 ⟨rfl, hb2, ht2⟩
  have HB2 := Lib.hid (kon HB1.out hb2)
  have HL2 := Lib.hid (skipLives_any w2 ht2)
  clear hb2 ht2 HL
  go_wp2_with fail
  refine HL2.out.mono ?_
  rintro e w3 ⟨rfl, hb3, ht3⟩
  have HB3 := Lib.hid (kon HB2.out hb3)
  clear hb3 ht3
  go_wp2
  go_ret
  exact ⟨rfl, HB3.out⟩

set_option maxRecDepth 100000 in
set_option maxHeartbeats 4000000 in
theorem OneL_small (A : Option Addr) (n c : Nat) (ops : List OP) (A' : Option Addr) (n' c' : Nat) (mo : List OP) (w : World) (h : OS w A n c ops) (hn : n ≤ 300) (h' : OS w A' n' c' mo) (hn' : n' * 24 ≤ 140737488355328) (hT : Tb w) :
    Calls Tryd.prog 6 #[.slice A n c, .slice A' n' c'] w fun e w' => e = .returned (.bool true) ∧ Below w.heap.size w w' := by
  have HC := Lib.hid (RunS_any A n c ops w h hn (chk_len (chk_runR ops)) hT)
  have HT := Lib.hid hT
  have HM := Lib.hid h'
  have HML := Lib.hid h'.len
  have HRK := Lib.hid (rise_kys (chk_runR ops))
  obtain ⟨ks, hks⟩ : ∃ ks, kys (runR ops).1 = ks := ⟨_, rfl⟩
  rw [hks] at HC HRK
  clear h h' hT hks
  obtain ⟨i0, hi, hz0, hz1, hz2⟩ := info_parts op_info
  have HI := Lib.hid hi
  have HZ0 := Lib.hid hz0
  have HZ1 := Lib.hid hz1
  have HZ2 := Lib.hid hz2
  clear hi hz0 hz1 hz2
  go_enter Tryd.func6, Tryd.ntmps6
  go_wp2_with fail
  refine HC.out.mono ?_
  rintro e w1 ⟨A1, m1, c1, A2, n2, c2, rfl, hri, has, hb1⟩
  have hm12 := hri.le
  have HB1 := Lib.hid hb1
  have HRI := Lib.hid hri
  have HL := Lib.hid (skipLives_any w1 (HT.out.next hb1))
  clear hri has hb1 HC
  go_wp2_with fail
  refine HL.out.mono ?_
  rintro e w2 ⟨rfl, hb2, ht2⟩
  have HB2 := Lib.hid (kon HB1.out hb2)
  have HRI2 := Lib.hid (HRI.out.below hb2)
  have HT2 := Lib.hid ht2
  clear hb2 ht2 HL HRI
  go_upto_if 39 with fail
  go_cut [8] (fun s8 wx => wx = w2 ∧ ∃ Ak nk ck, s8 = .slice Ak nk ck ∧ IS w2 Ak nk ck ks)
  case first =>
    by_cases h0 : ks = []
    · have hm0 : m1 = 0 := by
        rw [ri_m1 HRI2.out, h0]
        rcases Nat.eq_zero_or_pos (hiR []) with h1 | h1
        · exact h1
        · exact absurd rfl ((hiR_pos []).1 h1)
      subst hm0
      go_wp2_with fail
      go_meet
      exact ⟨rfl, none, 0, 0, rfl, by rw [h0]; exact ⟨rfl, Rd.none_⟩⟩
    · obtain ⟨hm0, _, b, off, A5, c5, rfl, hbl, hcell, his⟩ := HRI2.out.zero h0
      have HIS := Lib.hid his
      clear his
      go_wp2_with fail
      go_meet
      exact ⟨rfl, A5, _, c5, rfl, HIS.out⟩
  case rest =>
  obtain ⟨rfl, Ak, nk, ck, rfl, hik⟩ := hcut
  obtain ⟨w2b, rfl⟩ : ∃ x, x = wc := ⟨wc, rfl⟩
  have HIK := Lib.hid hik
  have hnk : nk ≤ 200 := by rw [← hik.len]; exact HRK.out.len
  have HKL := Lib.hid hik.len
  have HRO := Lib.hid (Rows_ok Ak nk ck ks w2b hik HRK.out HT2.out)
  clear hik
  go_wp2_with fail
  refine HRO.out.mono ?_
  rintro e w3 ⟨A3, m3, c3, rfl, hri3, hb3⟩
  obtain rfl : m3 = m1 := by rw [ri_m1 hri3, ri_m1 HRI2.out]
  have HS := Lib.hid (sameRows_t A1 A3 m3 c1 c3 (rowsL ks) w3 (HRI2.out.below hb3) hri3 (by omega) (rows_short1 (by rw [HKL.out]; omega)))
  have HB3 := Lib.hid (kon HB2.out hb3)
  have HX3 := Lib.hid hb3
  clear hri3 hb3 HRO
  go_wp2_with fail
  refine HS.out.mono ?_
  rintro e w4' ⟨rfl, q, rfl⟩
  have HB4 := Lib.hid (below_drewN HB3.out q)
  have HX4 := Lib.hid (below_drewN HX3.out q)
  obtain ⟨w4, hw4⟩ : ∃ W, w3.drewN q = W := ⟨_, rfl⟩
  rw [hw4] at HB4 HX4 ⊢
  clear hw4 HS HB3 HX3
  have HIK4 := Lib.hid (HIK.out.below HX4.out)
  have HRI4 := Lib.hid (HRI2.out.below HX4.out)
  have HT4 := Lib.hid (HT.out.next HB4.out)
  have HCL := Lib.hid (cloneO_any A' n' c' mo w4 (HM.out.below HB4.out) hn')
  go_wp2_with fail
  refine HCL.out.mono ?_
  rintro e w5 ⟨va, rfl, hown5, hb5⟩
  obtain ⟨A5, c5, rfl, hos5⟩ := hown5.os
  rw [HML.out] at hown5 ⊢
  obtain ⟨m5, hm5⟩ : ∃ m5, mo.take 50 = m5 := ⟨_, rfl⟩
  have hm5l : m5.length ≤ 50 := by rw [← hm5, List.length_take]; omega
  have HB5 := Lib.hid hb5
  have HOW5 := Lib.hid hown5
  clear hown5 hb5 hos5 HCL
  go_upto_if 60 with fail
  go_cut [11] (fun s11 wx => wx = w5 ∧ OwnO w5 w4.heap.size s11 m5)
  case first =>
    by_cases h50 : 50 < n'
    · have HP : Hid (OwnO w5 w4.heap.size (.slice A5 50 c5) m5) := by
        rw [← hm5]
        refine OwnO.prefix_ ?_ (by rw [HML.out]; exact h50)
        rw [HML.out]
        exact HOW5.out
      have hcap : 50 ≤ c5 := by
        rcases HOW5.out.2 with ⟨_, h0⟩ | ⟨g, cap, cur, e, _, _, hnc, _⟩
        · rw [HML.out] at h0; omega
        · injection e with _ _ e3
          rw [HML.out] at hnc
          omega
      go_wp2_with fail
      go_meet
      exact ⟨rfl, HP.out⟩
    · have HP : Hid (OwnO w5 w4.heap.size (.slice A5 n' c5) m5) := by
        rw [← hm5, List.take_of_length_le (by rw [HML.out]; omega)]
        exact HOW5.out
      go_wp2_with fail
      go_meet
      exact ⟨rfl, HP.out⟩
  case rest =>
  obtain ⟨rfl, hown6⟩ := hcut
  obtain ⟨w5b, rfl⟩ : ∃ x, x = wc := ⟨wc, rfl⟩
  have HLT6 := Lib.hid (own_lt1 hown6)
  have HOW6 := Lib.hid hown6
  obtain ⟨A6, c6, rfl, hos6⟩ := hown6.os
  have hr6 := chk_len (chk_runR m5)
  have HRUN := Lib.hid (RunS_fr A6 m5.length c6 m5 _ hos6 (by omega) hr6 (HT4.out.next HB5.out))
  obtain ⟨k6, hk6⟩ : ∃ k6, kys (runR m5).1 = k6 := ⟨_, rfl⟩
  have hk6l : k6.length ≤ 50 := by rw [← hk6, kys_len]; have := runR_grow m5; omega
  rw [hk6] at HRUN
  have HK6 := Lib.hid hk6
  clear hown6 hos6 hr6 hk6 HOW5
  go_wp2_with fail
  refine HRUN.out.mono ?_
  rintro e w7 ⟨A7, m7, c7, A8, n8, c8, rfl, hri7, hfr7, has8, hb7⟩
  have HFR7 := Lib.hid hfr7
  have hm7 := hri7.le
  have HOW7 := Lib.hid (own_below HOW6.out hb7)
  have HB7 := Lib.hid (HB5.out.trans (hb7.mono HB5.out.size))
  have HRI7 := Lib.hid hri7
  have hz7 : w4.heap.size ≤ w7.heap.size := HB7.out.size
  clear hri7 has8 hb7 hfr7 HRUN HOW6
  go_upto_if 73 with fail
  go_cut [11] (fun s11 wx => OwnO wx w4.heap.size s11 (m5 ++ cutsOf k6) ∧ Below w4.heap.size w4 wx)
  case first =>
    by_cases h0 : k6 = []
    · have hm0 : m7 = 0 := by
        rw [ri_m1 HRI7.out, h0]
        rcases Nat.eq_zero_or_pos (hiR []) with h1 | h1
        · exact h1
        · exact absurd rfl ((hiR_pos []).1 h1)
      subst hm0
      go_wp2_with fail
      go_meet
      exact ⟨by rw [h0]; show OwnO _ _ _ (m5 ++ []); rw [List.append_nil]; exact HOW7.out, HB7.out⟩
    · obtain ⟨hm0, _, b, off, A9, c9, rfl, hbl, hcell, his⟩ := HRI7.out.zero h0
      have HIS := Lib.hid his
      have HF9 : Hid (∀ ad, A9 = some ad → w5b.heap.size ≤ ad.block) := fun ad ha => HFR7.out b off 0 A9 _ c9 rfl (by omega) (by simpa using hcell) ad ha
      obtain ⟨n9, hn9⟩ : ∃ n9, k6.length = n9 := ⟨_, rfl⟩
      rw [hn9] at hcell HIS hk6l
      have HN9 := Lib.hid hn9
      clear his hn9
      have hd7 : decide (0 < m7) = true := by simpa using hm0
      rw [hd7]
      go_wp2
      go_loopw [11, 78] (fun v i wr => ∃ k : Nat, k ≤ n9 ∧ i = .int .i64 k ∧ OwnO wr w4.heap.size v (m5 ++ cutsOf (k6.take k)) ∧ Below w4.heap.size w4 wr ∧ Keep w5b.heap.size w7 wr v) (fun _ i _ => n9 - (intOf i).toNat)
      case atStart => exact ⟨0, Nat.zero_le _, rfl, by show OwnO _ _ _ (m5 ++ []); rw [List.append_nil]; exact HOW7.out, HB7.out, Keep.start HLT6.out⟩
      case round =>
        obtain ⟨k, hk, rfl, hown, hbl', hkeep⟩ := hrel
        by_cases hlt : k < n9
        · have hkl : k < k6.length := by rw [HN9.out]; exact hlt
          obtain ⟨b2, off2, rfl, hbw, hc⟩ := (hkeep.is_ HIS.out HF9.out).cell_at hlt
          obtain ⟨x, hx⟩ : ∃ x, k6[k] = x := ⟨_, rfl⟩
          rw [hx] at hc
          have HCT : Hid (m5 ++ cutsOf (k6.take (k + 1)) = (m5 ++ cutsOf (k6.take k)) ++ [(3, x, 0)]) := by
            show _ = _
            rw [List.take_succ_eq_append_getElem hkl, hx]
            simp [cutsOf]
          obtain ⟨xs, hxs⟩ : ∃ xs, m5 ++ cutsOf (k6.take k) = xs := ⟨_, rfl⟩
          have hxl : xs.length ≤ 100 := by rw [← hxs]; simp [cutsOf]; omega
          rw [hxs] at hown HCT
          have HOWN := Lib.hid hown
          have HBL := Lib.hid hbl'
          have HKP := Lib.hid hkeep
          have hzi := hbl'.size
          clear hx hown hbl' hkeep hxs
          go_wp2_with (first
            | (at_builtin
               refine wpList_append_own_at _ rfl (.tmp 82) (.tmp 85) 40 rfl w4.heap.size 58 i0 _ 3 24 Tryd.underlying40 HI.out HZ0.out HZ1.out HZ2.out rfl (by omega) _ xs.length (flatO xs) rfl (own_below HOWN.out ((Below.refl _ _).alloc (Nat.le_refl _) _)) ⟨wr.heap.size, 0, none⟩ 1 1 [I 3, I x, I 0] rfl rfl (three_new _ 3 x 0 _) (three_one 3 x 0) (by unfold maxLen; omega) (by omega) (by simp; omega) ?_
               intro v2 w9 hown2 hgrow2 _ hat2)
            | fail)
          go_roundw
          case rel =>
            refine ⟨k + 1, by omega, by go_num, ?_, ?_, HKP.out.append hgrow2 hat2⟩
            · rw [HCT.out]
              unfold OwnO
              rw [flatO_append, List.length_append, List.length_singleton]
              exact hown2
            · exact Below.grown (HBL.out.alloc hzi _) hgrow2 (by simp; omega) (own_ge1 HOWN.out)
          case measure => simp [intOf]; omega
        · rw [List.take_of_length_le (by rw [HN9.out]; omega)] at hown
          have HOWN := Lib.hid hown
          have HBL := Lib.hid hbl'
          clear hown hbl' hkeep
          go_wp2_with fail
          go_meet
          exact ⟨HOWN.out, HBL.out⟩
  case rest =>
  obtain ⟨hownd, hbd⟩ := hcut
  obtain ⟨wd, rfl⟩ : ∃ x, x = wc := ⟨wc, rfl⟩
  have HRV := Lib.hid (Reversed_any Ak nk ck ks wd (HIK4.out.below hbd) (by omega))
  have HOWD := Lib.hid hownd
  have HLTD := Lib.hid (own_lt1 hownd)
  have HBD := Lib.hid hbd
  have hrl : ks.reverse.length = nk := by rw [List.length_reverse]; exact HKL.out
  have HRL := Lib.hid hrl
  clear hownd hbd hrl HOW7 HRI7
  go_wp2_with fail
  refine HRV.out.mono ?_
  rintro e w8 ⟨Ar, cr, rfl, hisr, hb8, hfr8⟩
  rw [HRL.out] at hisr ⊢
  have HISR := Lib.hid hisr
  have HF8 := Lib.hid hfr8
  have HOW8 := Lib.hid (own_below HOWD.out hb8)
  have HB8 := Lib.hid (HBD.out.trans (hb8.mono HBD.out.size))
  clear hisr hb8 hfr8 HRV HOWD
  go_wp2
  go_loopw [11, 91] (fun v i wr => ∃ k : Nat, k ≤ nk ∧ i = .int .i64 k ∧ OwnO wr w4.heap.size v (m5 ++ cutsOf k6 ++ putsOf (ks.reverse.take k)) ∧ Below w4.heap.size w4 wr ∧ Keep wd.heap.size w8 wr v) (fun _ i _ => nk - (intOf i).toNat)
  case atStart => exact ⟨0, Nat.zero_le _, rfl, by show OwnO _ _ _ (m5 ++ cutsOf k6 ++ []); rw [List.append_nil]; exact HOW8.out, HB8.out, Keep.start HLTD.out⟩
  case round =>
    obtain ⟨k, hk, rfl, hown, hbl', hkeep⟩ := hrel
    by_cases hlt : k < nk
    · have hkl : k < ks.reverse.length := by rw [HRL.out]; exact hlt
      obtain ⟨b2, off2, rfl, hbw, hc⟩ := (hkeep.is_ HISR.out HF8.out).cell_at hlt
      obtain ⟨x, hx⟩ : ∃ x, ks.reverse[k] = x := ⟨_, rfl⟩
      rw [hx] at hc
      have HCT : Hid (m5 ++ cutsOf k6 ++ putsOf (ks.reverse.take (k + 1)) = (m5 ++ cutsOf k6 ++ putsOf (ks.reverse.take k)) ++ [(1, x, 0)]) := by
        show _ = _
        rw [List.take_succ_eq_append_getElem hkl, hx]
        simp [putsOf]
      obtain ⟨xs, hxs⟩ : ∃ xs, m5 ++ cutsOf k6 ++ putsOf (ks.reverse.take k) = xs := ⟨_, rfl⟩
      have hxl : xs.length ≤ 300 := by rw [← hxs]; simp [cutsOf, putsOf]; omega
      rw [hxs] at hown HCT
      have HOWN := Lib.hid hown
      have HBL := Lib.hid hbl'
      have HKP := Lib.hid hkeep
      have hzi := hbl'.size
      clear hx hown hbl' hkeep hxs
      go_wp2_with (first
        | (at_builtin
           refine wpList_append_own_at _ rfl (.tmp 95) (.tmp 98) 40 rfl w4.heap.size 58 i0 _ 3 24 Tryd.underlying40 HI.out HZ0.out HZ1.out HZ2.out rfl (by omega) _ xs.length (flatO xs) rfl (own_below HOWN.out ((Below.refl _ _).alloc (Nat.le_refl _) _)) ⟨wr.heap.size, 0, none⟩ 1 1 [I 1, I x, I 0] rfl rfl (three_new _ 1 x 0 _) (three_one 1 x 0) (by unfold maxLen; omega) (by omega) (by simp; omega) ?_
           intro v2 w9 hown2 hgrow2 _ hat2)
        | fail)
      go_roundw
      case rel =>
        refine ⟨k + 1, by omega, by go_num, ?_, ?_, HKP.out.append hgrow2 hat2⟩
        · rw [HCT.out]
          unfold OwnO
          rw [flatO_append, List.length_append, List.length_singleton]
          exact hown2
        · exact Below.grown (HBL.out.alloc hzi _) hgrow2 (by simp; omega) (own_ge1 HOWN.out)
      case measure => simp [intOf]; omega
    · rw [List.take_of_length_le (by rw [HRL.out]; omega)] at hown
      obtain ⟨L, hLL⟩ : ∃ L, m5 ++ cutsOf k6 ++ putsOf ks.reverse = L := ⟨_, rfl⟩
      have hLl : L.length ≤ 300 := by rw [← hLL]; simp [cutsOf, putsOf]; have := HKL.out; omega
      have hkf := kys_final m5 ks HRK.out
      rw [HK6.out, hLL] at hkf
      rw [hLL] at hown
      obtain ⟨Af, cf, rfl, hosf⟩ := hown.os
      have HRF := Lib.hid (RunS_any Af L.length cf L wr hosf hLl (chk_len (chk_runR L)) (HT4.out.next hbl'))
      rw [hkf] at HRF
      have HBL := Lib.hid hbl'
      clear hown hbl' hkeep hosf hkf hLL
      go_wp2_with fail
      refine HRF.out.mono ?_
      rintro e wf ⟨Ag, mg, cg, Ah, nh, ch, rfl, hrig, hash, hbf⟩
      obtain rfl : mg = m3 := by rw [ri_m1 hrig, ri_m1 HRI4.out]
      have HBF := Lib.hid (HBL.out.trans (hbf.mono HBL.out.size))
      have HSF := Lib.hid (sameRows_t Ag A1 mg cg c1 (rowsL ks) wf hrig (HRI4.out.below HBF.out) (by omega) (rows_short1 (by rw [HKL.out]; omega)))
      clear hrig hash hbf HRF
      go_wp2_with fail
      refine HSF.out.mono ?_
      rintro e wz ⟨rfl, qz, rfl⟩
      have HBZ := Lib.hid (below_drewN (kon HB4.out HBF.out) qz)
      go_wp2
      go_ret
      exact ⟨by simp, HBZ.out⟩

theorem OneL_any (A : Option Addr) (n c : Nat) (ops : List OP) (A' : Option Addr) (n' c' : Nat) (mo : List OP) (w : World) (h : OS w A n c ops) (hm : n ≤ 9223372036854775807) (h' : OS w A' n' c' mo) (hn' : n' * 24 ≤ 140737488355328) (hT : Tb w) :
    Calls Tryd.prog 6 #[.slice A n c, .slice A' n' c'] w fun e w' => e = .returned (.bool true) ∧ Below w.heap.size w w' := by
  by_cases hc : n ≤ 300
  · exact OneL_small A n c ops A' n' c' mo w h hc h' hn' hT
  · exact OneL_large A n c _ w (by omega) hm hT
end Go.Proofs.YtoebnfogkmkomaaDoor
