/-
  TopEven, walked.
-/
import Derived.Test.YtpnjnedfcdppaaaGreatDoorDLivesAll
import Derived.Test.YtpnjnedfcdppaaaGreatDoorTOk
import Derived.Test.YtpnjnedfcdppaaaGreatDoorTEvenAll
import Derived.Test.YtpnjnedfcdppaaaGreatDoorOStand
import Derived.Test.YtpnjnedfcdppaaaGreatDoorOSumAll
import Derived.Test.YtpnjnedfcdppaaaGreatDoorBCostAll
import Derived.Test.YtpnjnedfcdppaaaGreatDoorBTreeAll
import Derived.Maps.AppendAt
namespace Go.Proofs.YtpnjnedfcdppaaaGreatDoor
open Go.RowKit

def rgI (k : Nat) : List Int := (List.range k).map fun (i : Nat) => (i : Int)
theorem rgI_len (k : Nat) : (rgI k).length = k := by simp [rgI]
theorem rgI_get {k i : Nat} (h : i < k) : (rgI k)[i]? = some (i : Int) := by simp [rgI, h]
theorem rgI_succ (k : Nat) : rgI (k + 1) = rgI k ++ [(k : Int)] := by simp [rgI, List.range_succ]
theorem rgI_rise {n : Nat} (hn : n ≤ 20) : Rise (rgI n) := by
  refine ⟨by rw [rgI_len]; omega, ?_, fun k hk => ?_⟩
  · unfold rgI
    rw [List.pairwise_map]
    exact List.pairwise_lt_range.imp fun h => by omega
  · obtain ⟨i, hi, rfl⟩ := List.mem_map.1 hk
    have := List.mem_range.1 hi
    omega
theorem dsum_sd : ∀ t : Tr, dsum (t.sp 0) = t.sd
  | .nil => rfl
  | .node a k b => by
    show dsum (a.sp (0 + 1) ++ (k, 0) :: b.sp (0 + 1)) = _
    rw [dsum_app, dsum_cons, dsum_sp, dsum_sp, dsum_sd a, dsum_sd b]
    show _ = ((a.sd + a.size + (b.sd + b.size) : Nat) : Int)
    push_cast
    omega
theorem ev_rng {n : Nat} : Rng (ev (rgI n)) 0 n := by
  have hs : (ev (rgI n)).size = n := by rw [ev_size, rgI_len]
  have h := rng_of (ev (rgI n)) 0 0 fun q hq => by
    rw [ks_ky _ _ _ hq]
    have h1 := ev_ks _ (rgI n) (Nat.le_refl _)
    have h2 : (ev (rgI n)).ks[q]? = some (q : Int) := by rw [h1]; exact rgI_get (by omega)
    rw [List.getElem?_eq_getElem (by rw [ks_length]; exact hq)] at h2
    rw [Option.some.inj h2, Nat.zero_add]
  rw [Nat.zero_add, hs] at h
  exact h
theorem ones_in {n : Nat} (hn : n ≤ 20) : InB (List.replicate n 1) (List.replicate (n + 1) 0) n :=
  ⟨by simp, by simp, hn, fun x hx => by rw [List.eq_of_mem_replicate hx]; omega, fun x hx => by rw [List.eq_of_mem_replicate hx]; omega⟩
theorem ones_at {n q : Nat} (h : q < n) : (List.replicate n (1 : Int))[q]?.getD 0 = 1 := by simp [List.getElem?_replicate, h]
theorem zeros_at {n q : Nat} : (List.replicate n (0 : Int))[q]?.getD 0 = 0 := by
  rw [List.getElem?_replicate]
  split <;> rfl
/-- what the even one costs -/
theorem ev_ask {n : Nat} : (ev (rgI n)).ask (List.replicate n 1) (List.replicate (n + 1) 0) 0 0 = dsum ((ev (rgI n)).sp 0) + n := by
  have hs : (ev (rgI n)).size = n := by rw [ev_size, rgI_len]
  rw [ask_ones (n := n) (fun q hq => ones_at hq) (fun q => zeros_at) _ 0 n 0 ev_rng (Nat.le_refl _), dsum_sd, hs]
  omega
theorem ev_lc {n : Nat} (hn : n ≤ 20) : lc (wij (List.replicate n 1) (List.replicate (n + 1) 0)) 0 n = dsum ((ev (rgI n)).sp 0) + n := by
  have hI := ones_in hn
  rw [dsum_sd]
  exact even_least (fun q hq => ones_at hq) (fun q => zeros_at) (lc_opt n (fun x hx => (hI.hh x hx).1) (fun x hx => (hI.hg x hx).1)) ev_rng (bt_rng _ n 0 n (by omega) (by omega)) (bt_ask _ _ n 0 n (by omega) (by omega))
theorem fSum_bd : ∀ n, n < 21 → fSum n ≤ 200 := by decide +kernel
theorem ev_dsum {n : Nat} (hn : n ≤ 20) : 0 ≤ dsum ((ev (rgI n)).sp 0) ∧ dsum ((ev (rgI n)).sp 0) ≤ 200 := by
  have h1 := ev_sd _ (rgI n) (Nat.le_refl _)
  rw [rgI_len] at h1
  have h2 := fSum_bd n (by omega)
  rw [dsum_sd]
  omega
set_option maxRecDepth 100000 in
set_option maxHeartbeats 8000000 in
theorem TEvenL_any (a : Int) (w : World) (hL : LD w) : Calls Tryz.prog 8 #[I a] w (RetYes w) := by
  have HLV := Lib.hid fun wz hz => topLives_any wz hz
  have HLD := Lib.hid hL
  by_cases hneg : a < 0
  · go_enter Tryz.func8, Tryz.ntmps8
    go_wp2_with fail
    refine (HLV.out _ HLD.out).mono ?_
    rintro e w1 ⟨rfl, hb1⟩
    have HB1 := Lib.hid hb1
    have HLD1 := Lib.hid (HLD.out.next hb1)
    clear hb1
    go_wp2_with fail
    refine (HLV.out _ HLD1.out).mono ?_
    rintro e w2 ⟨rfl, hb2⟩
    have HB2 := Lib.hid hb2
    clear hb2
    go_wp2
    go_ret
    exact ⟨rfl, HB1.out.trans (HB2.out.mono HB1.out.size)⟩
  by_cases hbig : 20 < a
  · go_enter Tryz.func8, Tryz.ntmps8
    go_wp2_with fail
    refine (HLV.out _ HLD.out).mono ?_
    rintro e w1 ⟨rfl, hb1⟩
    have HB1 := Lib.hid hb1
    have HLD1 := Lib.hid (HLD.out.next hb1)
    clear hb1
    go_wp2_with fail
    refine (HLV.out _ HLD1.out).mono ?_
    rintro e w2 ⟨rfl, hb2⟩
    have HB2 := Lib.hid hb2
    clear hb2
    go_wp2
    go_ret
    exact ⟨rfl, HB1.out.trans (HB2.out.mono HB1.out.size)⟩
  obtain ⟨n, rfl⟩ : ∃ n : Nat, a = n := ⟨a.toNat, by omega⟩
  have hn : n ≤ 20 := by omega
  have f1 : ¬ ((n : Int) < 0) := by omega
  have f2 : ¬ (20 < (n : Int)) := by omega
  have HRI := Lib.hid (rgI_rise hn)
  have HIN := Lib.hid (ones_in hn)
  have HEA := Lib.hid (ev_ask (n := n))
  have HEL := Lib.hid (ev_lc hn)
  have HER := Lib.hid (ev_rng (n := n))
  have hmk := fun w => run_makeI (P := Tryz.prog) 46 3 Tryz.underlying46 int_info (n + 1) (n + 1) (Nat.le_refl _) (by omega) w
  obtain ⟨O, HO, hmk⟩ : ∃ O, Hid (O = .cells ((List.replicate (n + 1) (0 : Int)).map I).toArray 3) ∧ ∀ w, (Instr.makeSlice 46 (.int .i64 ((n : Int) + 1)) (.int .i64 ((n : Int) + 1))).run Tryz.prog w = .ok (.slice (some ⟨w.heap.size, 0, none⟩) (n + 1) (n + 1)) (w.alloc O) := ⟨_, Lib.hid rfl, hmk⟩
  obtain ⟨i0, hi, hz0, hz1, hz2⟩ := info_parts int_info
  have HI := Lib.hid hi
  have HZ0 := Lib.hid hz0
  have HZ1 := Lib.hid hz1
  have HZ2 := Lib.hid hz2
  clear hneg hbig hi hz0 hz1 hz2 hL
  go_enter Tryz.func8, Tryz.ntmps8
  go_wp2_with fail
  refine (HLV.out _ HLD.out).mono ?_
  rintro e w1 ⟨rfl, hb1⟩
  have HB1 := Lib.hid hb1
  have HLD1 := Lib.hid (HLD.out.next hb1)
  clear hb1
  go_wp2
  go_loopw [3, 4, 29] (fun a b iv wr => ∃ k : Nat, k ≤ n ∧ iv = .int .i64 k ∧ Hid (Tw2 wr w1.heap.size 3 3 1 1 a b k k ((rgI k).map I) ((List.replicate k (1 : Int)).map I)) ∧ Hid (Below w1.heap.size w1 wr)) (fun _ _ iv _ => n - (intOf iv).toNat)
  case atStart =>
    exact ⟨0, Nat.zero_le _, rfl, ⟨World.ownsRow_nil _ _ _ _, World.ownsRow_nil _ _ _ _, fun g h => by cases h⟩, Below.refl _ _⟩
  case round =>
    obtain ⟨k, hk, rfl, HT, HB⟩ := hrel
    by_cases hkn : k < n
    · have hsz := HB.out.size
      go_wp2_with (first
        | (at_builtin
           refine wpList_append_own_at _ rfl (.tmp 32) (.tmp 34) 46 rfl w1.heap.size 3 i0 _ 1 8 Tryz.underlying46 HI.out HZ0.out HZ1.out HZ2.out rfl (by omega) _ k ((rgI k).map I) rfl (HT.out.below ((Below.refl _ _).alloc (Nat.le_refl _) _)).fa ⟨wr.heap.size, 0, none⟩ 1 1 [I k] rfl rfl (cell_one_new _ _ _) (one_I k) (by unfold maxLen; omega) (by omega) (by simp; omega) ?_
           intro v2 w2 hown2 hgrow2 _ hat2
           have HT2 := Lib.hid (HT.out.fst ((Below.refl _ _).alloc (Nat.le_refl _) _) hgrow2 hown2 hat2)
           have HB2 := Lib.hid (Below.grown (HB.out.alloc hsz _) hgrow2 (by simp; omega) (own_ge1 HT.out.fa))
           have hsz2 := HB2.out.size
           clear hown2 hgrow2 hat2)
        | (at_builtin
           refine wpList_append_own_at _ rfl (.tmp 36) (.tmp 37) 46 rfl w1.heap.size 3 i0 _ 1 8 Tryz.underlying46 HI.out HZ0.out HZ1.out HZ2.out rfl (by omega) _ k ((List.replicate k (1 : Int)).map I) rfl (HT2.out.below ((Below.refl _ _).alloc (Nat.le_refl _) _)).fb ⟨w2.heap.size, 0, none⟩ 1 1 [I 1] rfl rfl (cell_one_new _ _ _) (one_I 1) (by unfold maxLen; omega) (by omega) (by simp; omega) ?_
           intro v3 w3 hown3 hgrow3 _ hat3
           have HT3 := Lib.hid (HT2.out.symm.fst ((Below.refl _ _).alloc (Nat.le_refl _) _) hgrow3 hown3 hat3).symm
           have HB3 := Lib.hid (Below.grown (HB2.out.alloc hsz2 _) hgrow3 (by simp; omega) (own_ge1 HT2.out.fb))
           clear hown3 hgrow3 hat3)
        | fail)
      go_roundw
      case rel =>
        refine ⟨k + 1, by omega, by go_num, ?_, HB3.out⟩
        show Tw2 _ _ _ _ _ _ _ _ _ _ _ _
        have e1 : (rgI (k + 1)).map I = (rgI k).map I ++ [I k] := by rw [rgI_succ]; simp
        have e2 : (List.replicate (k + 1) (1 : Int)).map I = (List.replicate k (1 : Int)).map I ++ [I 1] := by rw [List.replicate_succ']; simp
        rw [e1, e2]
        exact HT3.out
      case measure => simp [intOf]; omega
    · obtain rfl : k = n := by omega
      have hk1 : OwnI wr w1.heap.size u3 (rgI k) := by unfold OwnI; rw [rgI_len]; exact HT.out.fa
      have hk2 : OwnI wr w1.heap.size u4 (List.replicate k 1) := by unfold OwnI; rw [List.length_replicate]; exact HT.out.fb
      obtain ⟨A1, c1, rfl, h1, -⟩ := hk1.is_
      obtain ⟨A2, c2, rfl, h2, -⟩ := hk2.is_
      rw [rgI_len] at h1 ⊢
      rw [List.length_replicate] at h2 ⊢
      have H1 := Lib.hid h1
      have H2 := Lib.hid h2
      have HBB := Lib.hid (HB1.out.trans (HB.out.mono HB1.out.size))
      have HLDr := Lib.hid (HLD1.out.next HB.out)
      have h3 : IS (wr.alloc O) (some ⟨wr.heap.size, 0, none⟩) (k + 1) (k + 1) (List.replicate (k + 1) 0) := by rw [HO.out]; have := is_new wr 3 (List.replicate (k + 1) 0); rw [List.length_replicate] at this; exact this
      have H3 := Lib.hid h3
      have HX : Hid (Below wr.heap.size wr (wr.alloc O)) := (Below.refl _ _).alloc (Nat.le_refl _) _
      clear h1 h2 h3 hk1 hk2 hkn
      go_wp2_with fail
      refine (Even_ok A1 k c1 (rgI k) (wr.alloc O) (H1.out.below HX.out) HRI.out (HLDr.out.next HX.out).tb).mono ?_
      rintro e w3 ⟨A4, c4, rfl, hp4, hb4⟩
      have HP4 := Lib.hid hp4
      have HX3 : Hid (Below wr.heap.size wr w3) := HX.out.trans (hb4.mono HX.out.size)
      have H23 := Lib.hid (H2.out.below HX3.out)
      have H33 := Lib.hid (H3.out.below hb4)
      clear hp4 hb4
      go_wp2_with fail
      refine (Sum2_ok A4 k c4 (ev (rgI k)) w3 HP4.out (rng_istree HER.out (by omega))).mono ?_
      rintro e w4 ⟨rfl, hb4⟩
      have HX4 : Hid (Below wr.heap.size wr w4) := HX3.out.trans (hb4.mono HX3.out.size)
      have HP5 := Lib.hid (HP4.out.below hb4)
      have H24 := Lib.hid (H23.out.below hb4)
      have H34 := Lib.hid (H33.out.below hb4)
      clear hb4
      go_wp2_with fail
      refine (Cost_ok A4 A2 _ c4 k c2 (k + 1) (ev (rgI k)) _ _ w4 HP5.out H24.out H34.out HIN.out HER.out).mono ?_
      rintro e w5 ⟨rfl, hb5⟩
      rw [HEA.out]
      have HX5 : Hid (Below wr.heap.size wr w5) := HX4.out.trans (hb5.mono HX4.out.size)
      have H25 := Lib.hid (H24.out.below hb5)
      have H35 := Lib.hid (H34.out.below hb5)
      clear hb5
      go_wp2_with fail
      refine (TreeB_ok A2 _ k c2 (k + 1) _ _ w5 H25.out H35.out HIN.out).mono ?_
      rintro e w6 ⟨A6, c6, rfl, hp6, hb6⟩
      rw [HEL.out]
      have HX6 : Hid (Below wr.heap.size wr w6) := HX5.out.trans (hb6.mono HX5.out.size)
      clear hb6 hp6
      obtain ⟨S, hS⟩ : ∃ S, dsum ((ev (rgI k)).sp 0) = S := ⟨_, rfl⟩
      rw [hS]
      have hS2 := ev_dsum hn
      rw [hS] at hS2
      have g1 := hS2.1
      have g2 := hS2.2
      have HOK := Lib.hid (tok_any (some ⟨w6.heap.size, 0, none⟩) 4 4 [0, 0, 0, 0] (w6.alloc (.cells #[I 0, I 0, I 0, I 0] 35)) (is_new w6 35 [0, 0, 0, 0]) (by omega) (by simp))
      clear hS2 hS
      go_wp2_with fail
      refine HOK.out.mono ?_
      rintro e w7 ⟨rfl, rfl⟩
      go_wp2
      go_ret
      refine ⟨?_, HBB.out.trans ((HX6.out.alloc HX6.out.size _).mono HBB.out.size)⟩
      simp
end Go.Proofs.YtpnjnedfcdppaaaGreatDoor
