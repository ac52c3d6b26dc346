/-
  The law ZipOne.
-/
import Derived.Test.YtjnkfpagaajfeaaDoorZLives
import Derived.Test.YtjnkfpagaajfeaaDoorAppPAll
import Derived.Test.YtjnkfpagaajfeaaDoorHOf
import Derived.Deep.RegionHeld3
namespace Go.Proofs.YtjnkfpagaajfeaaDoor
open Go.RowKit

set_option maxRecDepth 100000 in
set_option maxHeartbeats 2000000 in
theorem ZOneL_large (A : Option Addr) (n c : Nat) (w : World) (hn : 300 < n) (hm : n ≤ 9223372036854775807) (hT : Tb w) :
    Calls Tryd.prog 4 #[.slice A n c] w fun e w' => e = .returned (.bool true) ∧ Below w.heap.size w w' := by
  have HC := Lib.hid (RunZ_large A n c w hn hm)
  have HT := Lib.hid hT
  clear hT
  go_enter Tryd.func4, Tryd.ntmps4
  go_wp2_with fail
  refine HC.out.mono ?_
  rintro e w1 ⟨rfl, hb1⟩
  have HB1 := Lib.hid hb1
  have HT1 := Lib.hid (HT.out.next hb1)
  clear hb1 HC
  go_wp2_with fail
  refine (zipLives_any w1 HT1.out).mono ?_
  rintro e w2 ⟨rfl, hb2⟩
  have HB2 := Lib.hid (below_next HB1.out hb2)
  have HT2 := Lib.hid (HT1.out.next hb2)
  clear hb2
  go_wp2_with fail
  refine (zipLives_any w2 HT2.out).mono ?_
  rintro e w3 ⟨rfl, hb3⟩
  have HB3 := Lib.hid (below_next HB2.out hb3)
  clear hb3
  go_wp2
  go_ret
  exact ⟨rfl, HB3.out⟩

set_option maxRecDepth 100000 in
set_option maxHeartbeats 4000000 in
theorem ZOneL_small (A : Option Addr) (n c : Nat) (ops : List OP) (w : World) (h : OS w A n c ops) (hn : n ≤ 300) (hT : Tb w) :
    Calls Tryd.prog 4 #[.slice A n c] w fun e w' => e = .returned (.bool true) ∧ Below w.heap.size w w' := by
  obtain ⟨t, ht'⟩ := hp_has _ (zpl (kys (runR ops).1)) (Nat.le_refl _)
  obtain ⟨m, hm⟩ : ∃ m, (runR ops).1.length = m := ⟨_, rfl⟩
  have hm2 : m ≤ 200 := by rw [← hm]; exact zrunR_200 ops
  have HC := Lib.hid (RunZ_any A n c ops t m w h hn hm hm2 ht' hT)
  have HCK := Lib.hid (chk_zpl (chk_runR ops))
  have HKL : Hid ((kys (runR ops).1).length = m) := by show _ = _; rw [kys_len]; exact hm
  have HP := Lib.hid ht'
  have HT := Lib.hid hT
  obtain ⟨ks, hks⟩ : ∃ ks, kys (runR ops).1 = ks := ⟨_, rfl⟩
  rw [hks] at HCK HKL HP
  have HKY := Lib.hid (fun k hk => zks_at HP.out k hk)
  clear h hT ht' hks hm
  go_enter Tryd.func4, Tryd.ntmps4
  go_wp2_with fail
  refine HC.out.mono ?_
  rintro e w1 ⟨A1, c1, A2, n2, c2, rfl, hps, has, hb1⟩
  have HB1 := Lib.hid hb1
  have HT1 := Lib.hid (HT.out.next hb1)
  have HP1 := Lib.hid hps
  clear hps has hb1 HC
  go_wp2_with fail
  refine (zipLives_any w1 HT1.out).mono ?_
  rintro e w2 ⟨rfl, hb2⟩
  have HB2 := Lib.hid (below_next HB1.out hb2)
  have HT2 := Lib.hid (HT1.out.next hb2)
  have HP2 := Lib.hid (HP1.out.below hb2)
  clear hb2 HP1
  go_wp2
  go_loopw [6, 31] (fun v i wr => ∃ k : Nat, k ≤ m ∧ i = .int .i64 k ∧ OwnR wr w2.heap.size 46 v (zpl (ks.take k)) ∧ Below w2.heap.size w2 wr) (fun _ i _ => m - (intOf i).toNat)
  case atStart => exact ⟨0, Nat.zero_le _, rfl, World.ownsRow_nil _ _ _ _, Below.refl _ _⟩
  case round =>
    obtain ⟨k, hk, rfl, hown, hnx⟩ := hrel
    by_cases hlt : k < m
    · have hkl : k < ks.length := by rw [HKL.out]; exact hlt
      obtain ⟨b, off, rfl, hbw, hcs⟩ := (HP2.out.below hnx).dat (by omega)
      have hky := HKY.out k hkl
      have hct := zpl_take ks k hkl
      obtain ⟨x, hx⟩ : ∃ x, ks[k] = x := ⟨_, rfl⟩
      obtain ⟨y, hy⟩ : ∃ y, ht x = y := ⟨_, rfl⟩
      obtain ⟨d, hd⟩ : ∃ d, dp (t.sp 0) k = d := ⟨_, rfl⟩
      rw [hx] at hky hct
      rw [hy] at hct
      have hc0 : wr.cell? ⟨b, off + k * 2, none⟩ = some (I x) := by rw [← hky]; exact (hcs k hlt).1
      have hc1 : wr.cell? ⟨b, off + k * 2 + 1, none⟩ = some (I d) := by rw [← hd]; exact (hcs k hlt).2
      have HCT := Lib.hid hct
      have HH : Hid (∀ W, Tb W → Calls Tryd.prog 16 #[I x] W fun e w' => e = .returned (I (y : Int)) ∧ w' = W) := fun W hW => by
        rw [← hy]
        exact Height_any x W hW
      obtain ⟨xs, hxs⟩ : ∃ xs, zpl (ks.take k) = xs := ⟨_, rfl⟩
      have hxl : xs.length ≤ 1000 := by rw [← hxs, zpl_length]; simp; omega
      rw [hxs] at hown HCT
      have HTR := Lib.hid (HT2.out.next hnx)
      have HOWN := Lib.hid hown
      have HNX := Lib.hid hnx
      have hzi := hnx.size
      clear hx hy hd hct hown hnx hxs hcs hky
      go_wp2
      obtain ⟨W1, hW1⟩ : ∃ W1, wr.alloc (.cells #[I x, I d] 43) = W1 := ⟨_, rfl⟩
      have e0 : W1.cell? ⟨wr.heap.size, 0, none⟩ = some (I x) := by rw [← hW1]; simp
      have HOW1 : Hid (OwnR W1 w2.heap.size 46 u6 xs) := by rw [← hW1]; exact own_below HOWN.out ((Below.refl _ _).alloc (Nat.le_refl _) _)
      have HB1' : Hid (Below w2.heap.size w2 W1) := by rw [← hW1]; exact HNX.out.alloc hzi _
      have HTW := Lib.hid (HT2.out.next HB1'.out)
      have hz1 := HB1'.out.size
      have HLT := Lib.hid (zown_lt HOWN.out)
      have hzw : wr.heap.size < W1.heap.size := by rw [← hW1]; simp
      have HHD := Lib.hid (HH.out W1.drew (fun j hj => HTW.out j hj))
      rw [hW1]
      clear hW1 hc0 hc1 HOWN HNX HTR hbw
      go_region_held3 (fun W => W.cell? ⟨wr.heap.size, 0, none⟩ = some (I x))
        (first
          | exact d0
          | exact e0
          | exact zck e0 _)
        (first
          | (go_at_call 16
             with_reducible refine HHD.out.mono ?_
             rintro e w3 ⟨rfl, rfl⟩)
          | (refine step_appP rfl (.tmp 35) (.tmp 42) 28 rfl 46 Tryd.underlying28 zpair_info w2.heap.size _ xs [(x, (y : Int))] (some ⟨W1.heap.size, 0, none⟩) 1 1 rfl rfl (own_below HOW1.out ((Below.refl _ _).alloc (Nat.le_refl _) (.cells #[I x, I (y : Int)] 46)).drew) (show Src (W1.alloc (.cells #[I x, I (y : Int)] 46)).drew _ _ _ from zsrc_one W1 x y _) (by omega) (by show _ ≤ (W1.alloc _).heap.size; simp; omega) ?_
             intro v4 w4 hown4 hgrow4
             have hk4 := hgrow4.block wr.heap.size (by show _ < (W1.alloc _).heap.size; simp; omega) (fun e => by have := HLT.out _ e.symm; omega)
             have d0 : w4.cell? ⟨wr.heap.size, 0, none⟩ = some (I x) := by
               have   := zck e0 (.cells #[I x, I (y : Int)] 46)
               unfold World.cell? at this ⊢
               rw [hk4]
               exact this
             have HOW4 : Hid (OwnR w4 w2.heap.size 46 v4 (xs ++ [(x, (y : Int))])) := hown4
             have HB4 : Hid (Below w2.heap.size w2 w4) := (HB1'.out.alloc hz1 _).drew.grown hgrow4 (by show _ ≤ (W1.alloc _).heap.size; simp; omega) (OwnR.ge HOW1.out)
             clear hown4 hgrow4 hk4))
      all_goals go_wp2
      all_goals go_roundw
      all_goals first
        | exact ⟨k + 1, by omega, by go_num, by rw [HCT.out]; exact HOW4.out, HB4.out⟩
        | (simp [intOf]; omega)
    · rw [List.take_of_length_le (by rw [HKL.out]; omega)] at hown
      obtain ⟨A3, c3, rfl, hps3, _⟩ := hown.ps
      rw [zpl_length, HKL.out] at hps3 ⊢
      have HO := Lib.hid (HOf_ok A3 m c3 (zpl ks) t wr hps3 HCK.out HP.out)
      have HB3 := Lib.hid (below_next HB2.out hnx)
      have HP3 := Lib.hid (HP2.out.below hnx)
      clear hown hnx hps3
      go_wp2_with fail
      refine HO.out.mono ?_
      rintro e w4 ⟨A4, c4, rfl, hps4, hb4⟩
      have HE := Lib.hid (eqSpot_t A1 A4 m c1 c4 (t.sp 0) w4 (HP3.out.below hb4) hps4 (by omega))
      have HB4 := Lib.hid (below_next HB3.out hb4)
      clear hps4 hb4 HO HP3
      go_wp2_with fail
      refine HE.out.mono ?_
      rintro e w5 ⟨rfl, hb5⟩
      have HB5 := Lib.hid (below_next HB4.out hb5)
      clear hb5
      go_wp2
      go_ret
      exact ⟨rfl, HB5.out⟩
theorem ZOneL_any (A : Option Addr) (n c : Nat) (ops : List OP) (w : World) (h : OS w A n c ops) (hn : n ≤ 9223372036854775807) (hT : Tb w) :
    Calls Tryd.prog 4 #[.slice A n c] w fun e w' => e = .returned (.bool true) ∧ Below w.heap.size w w' := by
  by_cases hc : n ≤ 300
  · exact ZOneL_small A n c ops w h hc hT
  · exact ZOneL_large A n c w (by omega) hn hT

end Go.Proofs.YtjnkfpagaajfeaaDoor
