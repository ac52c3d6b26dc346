/-
  Joined texts: YtjnkfpagaajfeaaDoorEqT, YtjnkfpagaajfeaaDoorZRuns.
-/
import Derived.Test.YtjnkfpagaajfeaaDoorEqAns
import Derived.Test.YtjnkfpagaajfeaaDoorEqAll
import Derived.Test.YtjnkfpagaajfeaaDoorZRun
import Derived.Test.YtjnkfpagaajfeaaDoorGRefTAll
import Derived.Test.YtjnkfpagaajfeaaDoorHRef
import Derived.Test.YtjnkfpagaajfeaaDoorGRefS
import Derived.Test.YtjnkfpagaajfeaaDoorKBitsAll
import Derived.Test.YtjnkfpagaajfeaaDoorKRef1
import Derived.Test.YtjnkfpagaajfeaaDoorAnswered
/-
  slices.Equal of lists that are the same.
-/
namespace Go.Proofs.YtjnkfpagaajfeaaDoor
open Go.RowKit

theorem eqAns_t (A A' : Option Addr) (n c c' : Nat) (l : List An) (w : World) (h : AS w A n c l) (h' : AS w A' n c' l) (hn : n ≤ 1000000) :
    Calls Tryd.prog 14 #[.slice A n c, .slice A' n c'] w fun e w' => e = .returned (.bool true) ∧ Below w.heap.size w w' := by
  refine (eqAns_any A A' n n c c' l l w h h' hn hn).mono ?_
  rintro e w' ⟨rfl, hb⟩
  exact ⟨by simp, hb⟩
theorem eqInt_t (A A' : Option Addr) (n c c' : Nat) (l : List Int) (w : World) (h : IS w A n c l) (h' : IS w A' n c' l) (hn : n ≤ 1000000) :
    Calls Tryd.prog 28 #[.slice A n c, .slice A' n c'] w fun e w' => e = .returned (.bool true) ∧ Below w.heap.size w w' := by
  refine (eqInt_any A A' n n c c' l l w h h' hn hn).mono ?_
  rintro e w' ⟨rfl, hb⟩
  exact ⟨by simp, hb⟩

end Go.Proofs.YtjnkfpagaajfeaaDoor

/-
  hedgref.ZipTree; the law ZipRuns.
-/
namespace Go.Proofs.YtjnkfpagaajfeaaDoor
open Go.RowKit

set_option maxRecDepth 100000 in
set_option maxHeartbeats 1000000 in
theorem ZipTree_any (A : Option Addr) (n c : Nat) (ks : List Int) (t : Tr) (w : World) (h : IS w A n c ks) (hn : n ≤ 1000) (ht' : Hp t (zpl ks)) :
    Calls Tryd.prog 12 #[.slice A n c] w (RetT t w) := by
  have H := Lib.hid h
  have HL := Lib.hid h.len
  have HP := Lib.hid ht'
  clear h ht'
  go_enter Tryd.func12, Tryd.ntmps12
  go_wp2
  go_loopw [3, 8] (fun v i wr => ∃ k : Nat, k ≤ n ∧ i = .int .i64 k ∧ OwnR wr w.heap.size 46 v (zpl (ks.take k)) ∧ Below w.heap.size w wr) (fun _ i _ => n - (intOf i).toNat)
  case atStart => exact ⟨0, Nat.zero_le _, rfl, World.ownsRow_nil _ _ _ _, Below.refl _ _⟩
  case round =>
    obtain ⟨k, hk, rfl, hown, hnx⟩ := hrel
    by_cases hlt : k < n
    · have hkl : k < ks.length := by rw [HL.out]; exact hlt
      obtain ⟨b, off, rfl, hbw, hc⟩ := (H.out.below hnx).cell_at hlt
      have hct := zpl_take ks k hkl
      obtain ⟨x, hx⟩ : ∃ x, ks[k] = x := ⟨_, rfl⟩
      obtain ⟨y, hy⟩ : ∃ y, ht x = y := ⟨_, rfl⟩
      rw [hx] at hc hct
      rw [hy] at hct
      have HCT := Lib.hid hct
      have HH : Hid (Calls Tryd.prog 33 #[I x] wr fun e w' => e = .returned (I (y : Int)) ∧ w' = wr) := by
        show Calls _ _ _ _ _
        rw [← hy]
        exact HeightOf_any x wr
      obtain ⟨xs, hxs⟩ : ∃ xs, zpl (ks.take k) = xs := ⟨_, rfl⟩
      have hxl : xs.length ≤ 1000 := by rw [← hxs, zpl_length]; simp; omega
      rw [hxs] at hown HCT
      have HOWN := Lib.hid hown
      have HNX := Lib.hid hnx
      have hzi := hnx.size
      clear hx hy hct hown hnx hxs
      go_wp2_with fail
      refine HH.out.mono ?_
      rintro e w1 ⟨rfl, rfl⟩
      obtain ⟨wq, hwq⟩ : ∃ wq, wq = w1 := ⟨_, rfl⟩
      rw [← hwq] at HOWN HNX hzi hc hbw ⊢
      clear hwq HH
      go_wp2_with (first
        | (at_builtin
           refine wpList_app2 rfl (.tmp 12) (.tmp 17) 28 rfl 46 Tryd.underlying28 zpair_info w.heap.size _ xs [(x, (y : Int))] (some ⟨wq.heap.size, 0, none⟩) 1 1 rfl rfl (own_below HOWN.out ((Below.refl _ _).alloc (Nat.le_refl _) _)) (zsrc_one wq x y _) (by omega) (by simp; omega) ?_
           intro v2 w9 hown2 hgrow2 _)
        | fail)
      go_roundw
      case rel =>
        refine ⟨k + 1, by omega, by go_num, ?_, ?_⟩
        · rw [HCT.out]
          exact hown2
        · exact Below.grown (HNX.out.alloc hzi _) hgrow2 (by simp; omega) (OwnR.ge HOWN.out)
      case measure => simp [intOf]; omega
    · rw [List.take_of_length_le (by rw [HL.out]; omega)] at hown
      obtain ⟨A2, c2, rfl, hps, _⟩ := hown.ps
      rw [zpl_length, HL.out] at hps ⊢
      have HHT := Lib.hid (HeapTree_any t A2 n c2 (zpl ks) wr HP.out hps (by omega))
      have HNX := Lib.hid hnx
      clear hown hnx hps
      go_wp2_with fail
      refine HHT.out.mono ?_
      rintro e w2 ⟨q, rfl, hrt, hb2⟩
      have HRT := Lib.hid hrt
      have HB2 := Lib.hid (below_next HNX.out hb2)
      clear hrt hb2
      go_wp2
      go_ret
      exact ⟨q, rfl, HRT.out, HB2.out⟩

theorem zspots_ps (t : Tr) (q : Option Addr) (n : Nat) (w : World) (h : RT w q t) (hz : t.size = n) (hn : n ≤ 200) : Calls Tryd.prog 11 #[.pointer q, I 0] w fun e w' => ∃ A c, e = .returned (.slice A n c) ∧ PS w' A n c (t.sp 0) ∧ Below w.heap.size w w' := by
  refine (rspots_any t q 0 w h (Int.le_refl _) (by omega) (by omega)).mono ?_
  rintro e w' ⟨v, rfl, ho, hb⟩
  obtain ⟨A, c, rfl, hps, _⟩ := OwnR.ps ho
  rw [sp_length, hz] at hps ⊢
  exact ⟨A, c, rfl, hps, hb⟩

set_option maxRecDepth 100000 in
set_option maxHeartbeats 2000000 in
theorem ZRunsL_large (A : Option Addr) (n c : Nat) (w : World) (hn : 300 < n) (hm : n ≤ 9223372036854775807) :
    Calls Tryd.prog 3 #[.slice A n c] w fun e w' => e = .returned (.bool true) ∧ Below w.heap.size w w' := by
  have HC := Lib.hid (RunZ_large A n c w hn hm)
  go_enter Tryd.func3, Tryd.ntmps3
  go_wp2_with fail
  refine HC.out.mono ?_
  rintro e w1 ⟨rfl, hb1⟩
  have HB1 := Lib.hid hb1
  clear hb1 HC
  go_wp2
  go_ret
  exact ⟨rfl, HB1.out⟩

set_option maxRecDepth 100000 in
set_option maxHeartbeats 4000000 in
theorem ZRunsL_small (A : Option Addr) (n c : Nat) (ops : List OP) (w : World) (h : OS w A n c ops) (hn : n ≤ 300) (hT : Tb w) :
    Calls Tryd.prog 3 #[.slice A n c] w fun e w' => e = .returned (.bool true) ∧ Below w.heap.size w w' := by
  obtain ⟨t, ht'⟩ := hp_has _ (zpl (kys (runR ops).1)) (Nat.le_refl _)
  obtain ⟨m, hm⟩ : ∃ m, (runR ops).1.length = m := ⟨_, rfl⟩
  have hm2 : m ≤ 200 := by rw [← hm]; exact zrunR_200 ops
  have hts : t.size = m := by rw [← hp_len ht', zpl_kys_len, hm]
  have HC := Lib.hid (RunZ_any A n c ops t m w h hn hm hm2 ht' hT)
  have H := Lib.hid h
  have hal : (runR ops).2.length = n := by rw [runR_len]; exact h.len
  have HA := fun (w' : World) (hb : Below w.heap.size w w') => Lib.hid (Answered_any A n c ops w' (h.below hb) hn)
  obtain ⟨l, hll⟩ : ∃ l, (runR ops).1 = l := ⟨_, rfl⟩
  obtain ⟨an, han⟩ : ∃ an, (runR ops).2 = an := ⟨_, rfl⟩
  rw [hll] at ht' hm
  rw [han] at HC hal
  simp only [hll, han] at HA
  have HP := Lib.hid ht'
  have HTS := Lib.hid hts
  have HM := Lib.hid hm
  clear h hT hll han ht' hts hm
  go_enter Tryd.func3, Tryd.ntmps3
  go_wp2_with fail
  refine HC.out.mono ?_
  rintro e w1 ⟨A1, c1, A2, n2, c2, rfl, hps, has, hb1⟩
  obtain rfl : n2 = n := by rw [← has.len]; exact hal
  have HPS := Lib.hid hps
  have HAS := Lib.hid has
  have HB1 := Lib.hid hb1
  have HAN := HA w1 hb1
  clear hps has hb1 HC HA
  go_wp2_with fail
  refine HAN.out.mono ?_
  rintro e w2 ⟨A3, n3, c3, A4, n4, c4, rfl, hps3, has4, hb2⟩
  obtain rfl : n4 = n2 := by rw [← has4.len]; exact hal
  obtain rfl : n3 = m := by rw [← hps3.len]; exact HM.out
  have HPS2 := Lib.hid (HPS.out.below hb2)
  have HAS2 := Lib.hid (HAS.out.below hb2)
  have HAS4 := Lib.hid has4
  have HMK := Lib.hid (MapKeys_any A3 n3 c3 l w2 hps3 (by omega))
  have HB2 := Lib.hid (below_next HB1.out hb2)
  have HKL : Hid ((kys l).length = n3) := by show _ = _; rw [kys_len]; exact HM.out
  clear hps3 has4 hb2 HAN HPS HAS
  go_wp2_with fail
  refine HMK.out.mono ?_
  rintro e w3 ⟨A5, c5, rfl, his, hb3⟩
  rw [HKL.out] at his ⊢
  have HZT := Lib.hid (ZipTree_any A5 n3 c5 (kys l) t w3 his (by omega) HP.out)
  have HPS3 := Lib.hid (HPS2.out.below hb3)
  have HAS3 := Lib.hid (HAS2.out.below hb3)
  have HAS5 := Lib.hid (HAS4.out.below hb3)
  have HB3 := Lib.hid (below_next HB2.out hb3)
  clear his hb3 HMK HPS2 HAS2 HAS4
  go_wp2_with fail
  refine HZT.out.mono ?_
  rintro e w4 ⟨q, rfl, hrt, hb4⟩
  have HSP := Lib.hid (zspots_ps t q n3 w4 hrt HTS.out (by omega))
  have HPS4 := Lib.hid (HPS3.out.below hb4)
  have HAS6 := Lib.hid (HAS3.out.below hb4)
  have HAS7 := Lib.hid (HAS5.out.below hb4)
  have HB4 := Lib.hid (below_next HB3.out hb4)
  clear hrt hb4 HZT HPS3 HAS3 HAS5
  go_wp2_with fail
  refine HSP.out.mono ?_
  rintro e w5 ⟨A8, c8, rfl, hps8, hb5⟩
  have HS := Lib.hid (sameSpots_t A1 A8 n3 c1 c8 _ w5 (HPS4.out.below hb5) hps8 (by omega))
  have HAS8 := Lib.hid (HAS6.out.below hb5)
  have HAS9 := Lib.hid (HAS7.out.below hb5)
  have HB5 := Lib.hid (below_next HB4.out hb5)
  clear hps8 hb5 HSP HPS4 HAS6 HAS7
  go_wp2_with fail
  refine HS.out.mono ?_
  rintro e w6 ⟨rfl, hb6⟩
  have HEQ := Lib.hid (eqAns_t A2 A4 n4 c2 c4 an w6 (HAS8.out.below hb6) (HAS9.out.below hb6) (by omega))
  have HB6 := Lib.hid (below_next HB5.out hb6)
  clear hb6 HS HAS8 HAS9
  go_wp2_with fail
  refine HEQ.out.mono ?_
  rintro e w7 ⟨rfl, hb7⟩
  have HB7 := Lib.hid (below_next HB6.out hb7)
  clear hb7
  go_wp2
  go_ret
  exact ⟨rfl, HB7.out⟩
theorem ZRunsL_any (A : Option Addr) (n c : Nat) (ops : List OP) (w : World) (h : OS w A n c ops) (hn : n ≤ 9223372036854775807) (hT : Tb w) :
    Calls Tryd.prog 3 #[.slice A n c] w fun e w' => e = .returned (.bool true) ∧ Below w.heap.size w w' := by
  by_cases hc : n ≤ 300
  · exact ZRunsL_small A n c ops w h hc hT
  · exact ZRunsL_large A n c w (by omega) hn

end Go.Proofs.YtjnkfpagaajfeaaDoor
