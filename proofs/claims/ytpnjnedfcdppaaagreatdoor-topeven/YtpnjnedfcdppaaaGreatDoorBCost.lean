/-
  best.Cost.
-/
import Derived.Test.YtpnjnedfcdppaaaGreatDoorBMet
import Derived.Test.YtpnjnedfcdppaaaGreatDoorSpotBAll
namespace Go.Proofs.YtpnjnedfcdppaaaGreatDoor
open Go.RowKit

/-- a number and its error -/
def RetC (x E : Int) (w : World) (e : Ending) (w' : World) : Prop := e = .returned (.tuple #[I x, I E]) ∧ Below w.heap.size w w'
/-- what is wrong with what is handed in to Cost -/
noncomputable def costE (l : PL) (hits gaps : List Int) : Int := if chkB hits gaps ≠ 0 then chkB hits gaps else if chkS l ≠ 0 then chkS l else if keysR l hits.length then 0 else 3

set_option maxRecDepth 100000 in
set_option maxHeartbeats 2000000 in
theorem Cost_bad (A1 A A' : Option Addr) (n1 c1 n c n' c' : Nat) (l : PL) (hits gaps : List Int) (w : World) (h1 : PS w A1 n1 c1 l) (h : IS w A n c hits) (h' : IS w A' n' c' gaps) (hn1 : n1 ≤ 9223372036854775807) (hn : n ≤ 9223372036854775807) (hn' : n' ≤ 9223372036854775807) (E : Int) (hE : costE l hits gaps = E) (hE0 : E ≠ 0) :
    Calls Tryz.prog 30 #[.slice A1 n1 c1, .slice A n c, .slice A' n' c'] w (RetC 0 E w) := by
  have HC := Lib.hid (checkB_any A A' n c n' c' hits gaps w h h' hn hn')
  have HS := Lib.hid (CheckS_any A1 n1 c1 l w h1 hn1)
  have H1 := Lib.hid h1
  have HL1 := Lib.hid h1.len
  have HL := Lib.hid h.len
  clear h h' h1
  by_cases hb : chkB hits gaps = 0
  · have hin := chkB_ok hb
    have hn20 := hin.n20
    rw [HL.out] at hn20
    rw [hb] at HC
    unfold costE at hE
    rw [if_neg (by simp [hb])] at hE
    by_cases hs : chkS l = 0
    · rw [if_neg (by simp [hs])] at hE
      have hT := chkS_zero.1 hs
      have hl200 : n1 ≤ 200 := by rw [← HL1.out]; exact hT.1
      have hk : keysR l n = false ∧ E = 3 := by
        rw [HL.out] at hE
        cases hk : keysR l n with
        | true => rw [hk] at hE; exact absurd hE.symm hE0
        | false => rw [hk] at hE; exact ⟨rfl, hE.symm⟩
      obtain ⟨hk, rfl⟩ := hk
      rw [hs] at HS
      clear hin hb hs hT hE hE0
      have HK := Lib.hid (fun w2 (h : PS w2 A1 n1 c1 l) => hasKeys_any A1 n1 c1 n l w2 h hl200 hn20)
      rw [hk] at HK
      clear hk
      go_enter Tryz.func30, Tryz.ntmps30
      go_wp2_with fail
      refine HC.out.mono ?_
      rintro e w1 ⟨rfl, rfl⟩
      go_wp2_with fail
      refine HS.out.mono ?_
      rintro e w2 ⟨rfl, hb2⟩
      have HB2 := Lib.hid hb2
      clear hb2
      go_wp2_with fail
      refine (HK.out w2 (H1.out.below HB2.out)).mono ?_
      rintro e w3 ⟨rfl, hb3⟩
      have HB3 := Lib.hid (HB2.out.trans (hb3.mono HB2.out.size))
      clear hb3
      go_wp2
      go_ret2
      exact ⟨rfl, HB3.out⟩
    · rw [if_pos hs] at hE
      rw [hE] at HS
      have hne : (E != 0) = true := by simpa using hE0
      clear hin hb hs hE hE0
      go_enter Tryz.func30, Tryz.ntmps30
      go_wp2_with fail
      refine HC.out.mono ?_
      rintro e w1 ⟨rfl, rfl⟩
      go_wp2_with fail
      refine HS.out.mono ?_
      rintro e w2 ⟨rfl, hb2⟩
      have HB2 := Lib.hid hb2
      clear hb2
      go_wp2
      go_ret2
      exact ⟨rfl, HB2.out⟩
  · unfold costE at hE
    rw [if_pos hb] at hE
    rw [hE] at HC
    have hne : (E != 0) = true := by simpa using hE0
    clear hb hE hE0
    go_enter Tryz.func30, Tryz.ntmps30
    go_wp2_with fail
    refine HC.out.mono ?_
    rintro e w1 ⟨rfl, rfl⟩
    go_wp2
    go_ret2
    exact ⟨rfl, Below.refl _ _⟩

theorem mul_bd2 {x y : Int} (h1 : 0 ≤ x ∧ x ≤ 1000) (h2 : 0 ≤ y ∧ y ≤ 201) : 0 ≤ x * y ∧ x * y ≤ 201000 := by
  refine ⟨Int.mul_nonneg h1.1 h2.1, ?_⟩
  have a := Int.mul_le_mul_of_nonneg_right h1.2 h2.1
  omega

set_option maxRecDepth 100000 in
set_option maxHeartbeats 4000000 in
theorem Cost_ok (A1 A A' : Option Addr) (c1 n c c' : Nat) (t : Tr) (hits gaps : List Int) (w : World) (h1 : PS w A1 n c1 (t.sp 0)) (h : IS w A n c hits) (h' : IS w A' (n + 1) c' gaps) (hI : InB hits gaps n) (hR : Rng t 0 n) :
    Calls Tryz.prog 30 #[.slice A1 n c1, .slice A n c, .slice A' (n + 1) c'] w (RetC (t.ask hits gaps 0 0) 0 w) := by
  have hn := hI.n20
  have hsz := rng_size hR
  have hT := rng_istree hR (by omega)
  have HC := Lib.hid (checkB_any A A' n c (n + 1) c' hits gaps w h h' (by omega) (by omega))
  rw [chkB_in hI] at HC
  have HS := Lib.hid (CheckS_is A1 n c1 (t.sp 0) w h1 (by omega) 0 (chkS_zero.2 hT))
  have hk : keysR (t.sp 0) n = true := by
    unfold keysR
    rw [decide_eq_true_eq, sp_length]
    refine ⟨by omega, fun i hi => ?_⟩
    rw [rng_keys 0 hR i hi]
    omega
  have HK := Lib.hid (fun w2 (h : PS w2 A1 n c1 (t.sp 0)) => hasKeys_any A1 n c1 n (t.sp 0) w2 h (by omega) hn)
  rw [hk] at HK
  have HDP : Hid (∀ i, 0 ≤ dp (t.sp 0) i ∧ dp (t.sp 0) i ≤ 200) := tree_dp hT
  have HM := Lib.hid (fun g w2 (h : PS w2 A1 n c1 (t.sp 0)) (hg : g ≤ n) => met_any A1 n c1 g (t.sp 0) w2 h (by omega) hg HDP.out)
  have HMB : Hid (∀ g, 0 ≤ mtd 0 (t.sp 0) g ∧ mtd 0 (t.sp 0) g ≤ 201) := fun g => by
    unfold mtd
    have a := HDP.out (g - 1)
    have b := HDP.out g
    split <;> split <;> omega
  have HASK := Lib.hid (ask_sums hits gaps t 0 n 0 hR)
  rw [show t.size = n by omega] at HASK
  have HHB : Hid (∀ q (hq : q < n), 0 ≤ hits[q]?.getD 0 ∧ hits[q]?.getD 0 ≤ 1000) := fun q hq => by
    have : q < hits.length := by rw [hI.h]; exact hq
    rw [List.getElem?_eq_getElem this]
    exact hI.hh _ (List.getElem_mem this)
  have HGB : Hid (∀ q (hq : q < n + 1), 0 ≤ gaps[q]?.getD 0 ∧ gaps[q]?.getD 0 ≤ 1000) := fun q hq => by
    have : q < gaps.length := by rw [hI.g]; exact hq
    rw [List.getElem?_eq_getElem this]
    exact hI.hg _ (List.getElem_mem this)
  have HTH : Hid (∀ q, q < n → 0 ≤ costH hits 0 (t.sp 0) q ∧ costH hits 0 (t.sp 0) q ≤ 201000) := fun q hq => by
    unfold costH
    rw [Nat.zero_add]
    have := HDP.out q
    exact mul_bd2 (HHB.out q hq) (by omega)
  have HTG : Hid (∀ q, q < n + 1 → 0 ≤ costG gaps 0 0 (t.sp 0) q ∧ costG gaps 0 0 (t.sp 0) q ≤ 201000) := fun q hq => by
    unfold costG
    rw [Nat.zero_add]
    exact mul_bd2 (HGB.out q hq) (HMB.out q)
  have HSH := Lib.hid (bsum_bd HTH.out)
  have HSG := Lib.hid (bsum_bd HTG.out)
  have H1 := Lib.hid h1
  have H := Lib.hid h
  have H' := Lib.hid h'
  have HLH := Lib.hid hI.h
  have HLG := Lib.hid hI.g
  have HF : Hid (∀ q, q < n → costH hits 0 (t.sp 0) q = hits[q]?.getD 0 * (dp (t.sp 0) q + 1)) := fun q _ => by unfold costH; rw [Nat.zero_add]
  have HG : Hid (∀ q, q < n + 1 → costG gaps 0 0 (t.sp 0) q = gaps[q]?.getD 0 * mtd 0 (t.sp 0) q) := fun q _ => by unfold costG; rw [Nat.zero_add]
  clear h1 h h' hI hR hsz hT hk
  obtain ⟨x, hx⟩ : ∃ x, t.ask hits gaps 0 0 = x := ⟨_, rfl⟩
  rw [hx] at HASK ⊢
  clear hx
  generalize costH hits 0 (t.sp 0) = fh at *
  generalize costG gaps 0 0 (t.sp 0) = fg at *
  generalize t.sp 0 = L at *
  go_enter Tryz.func30, Tryz.ntmps30
  go_wp2_with fail
  refine HC.out.mono ?_
  rintro e w1 ⟨rfl, rfl⟩
  go_wp2_with fail
  refine HS.out.mono ?_
  rintro e w2 ⟨rfl, hb2⟩
  have HB2 := Lib.hid hb2
  clear hb2
  go_wp2_with fail
  refine (HK.out w2 (H1.out.below HB2.out)).mono ?_
  rintro e w3 ⟨rfl, hb3⟩
  have HB3 := Lib.hid (HB2.out.trans (hb3.mono HB2.out.size))
  clear hb3
  go_wp2
  go_loopw [10, 33] (fun s i wr => ∃ (k : Nat) (y : Int), k ≤ n ∧ i = .int .i64 k ∧ s = .int .i64 y ∧ Hid (bsum fh k = y) ∧ wr = w3) (fun _ i _ => n - (intOf i).toNat)
  case atStart => exact ⟨0, 0, Nat.zero_le _, rfl, rfl, (rfl : bsum fh 0 = 0), rfl⟩
  case round =>
    obtain ⟨k, y, hk, rfl, rfl, HY, rfl⟩ := hrel
    have hy := HSH.out k hk
    rw [HY.out] at hy
    by_cases hlt : k < n
    · obtain ⟨b, off, rfl, hb, hcs⟩ := (H.out.below HB3.out).at_ (by omega)
      obtain ⟨b1, off1, rfl, hb1, hcs1⟩ := (H1.out.below HB3.out).dat (by omega)
      have hkl : k < hits.length := by rw [HLH.out]; exact hlt
      have hc0 := hcs k hlt
      have hc1 := (hcs1 k hlt).2
      have hxb := HHB.out k hlt
      have hdb := HDP.out k
      have hf := HF.out k hlt
      rw [List.getElem?_eq_getElem hkl, Option.getD_some] at hxb hf
      generalize hits[k] = u at *
      generalize dp L k = d at *
      have hfb := HTH.out k hlt
      have hs : bsum fh (k + 1) = bsum fh k + fh k := rfl
      rw [HY.out] at hs
      generalize fh k = P at *
      have e1 : IntKind.i64.wrap (d + 1) = d + 1 := IntWalk.i64_in _ (by omega)
      have e2 : IntKind.i64.wrap (u * (d + 1)) = P := by rw [← hf]; exact IntWalk.i64_in _ (by omega)
      have HN : Hid (bsum fh (k + 1) = y + P) := hs
      have e3 : IntKind.i64.wrap (y + P) = y + P := IntWalk.i64_in _ (by omega)
      clear hcs hcs1 hf hs
      go_wp2
      go_roundw
      case rel => exact ⟨k + 1, y + P, by omega, by go_num, rfl, HN.out, by first | trivial | rfl⟩
      case measure => simp [intOf]; omega
    · obtain rfl : k = n := by omega
      have hslt : ¬ ((k : Int) < (k : Int)) := by omega
      go_wp2
      go_loopw [10, 51] (fun s i wr => ∃ (j : Nat) (z : Int), j ≤ k + 1 ∧ i = .int .i64 j ∧ s = .int .i64 (y + z) ∧ Hid (bsum fg j = z) ∧ Below w.heap.size w wr) (fun _ i _ => k + 1 - (intOf i).toNat)
      case atStart => exact ⟨0, 0, Nat.zero_le _, rfl, by simp, (rfl : bsum fg 0 = 0), HB3.out⟩
      case round =>
        obtain ⟨j, z, hj, rfl, rfl, HZ, hnx⟩ := hrel
        have hz := HSG.out j hj
        rw [HZ.out] at hz
        have HNX := Lib.hid hnx
        clear hnx
        by_cases hlt2 : j < k + 1
        · obtain ⟨b, off, rfl, hb, hcs⟩ := (H'.out.below HNX.out).at_ (by omega)
          have hjl : j < gaps.length := by rw [HLG.out]; exact hlt2
          have hc0 := hcs j hlt2
          have hxb := HGB.out j hlt2
          have hmb := HMB.out j
          have hf := HG.out j hlt2
          have hM := HM.out j _ (H1.out.below HNX.out) (by omega)
          rw [List.getElem?_eq_getElem hjl, Option.getD_some] at hxb hf
          generalize gaps[j] = u at *
          generalize mtd 0 L j = d at *
          have HM2 := Lib.hid hM
          have hfb := HTG.out j hlt2
          have hs : bsum fg (j + 1) = bsum fg j + fg j := rfl
          rw [HZ.out] at hs
          generalize fg j = P at *
          have e2 : IntKind.i64.wrap (u * d) = P := by rw [← hf]; exact IntWalk.i64_in _ (by omega)
          have HN : Hid (bsum fg (j + 1) = z + P) := hs
          have e3 : IntKind.i64.wrap (y + z + P) = y + z + P := IntWalk.i64_in _ (by omega)
          have hlt3 : (j : Int) < (k : Int) + 1 := by omega
          clear hcs hf hs hM
          go_wp2_with fail
          refine HM2.out.mono ?_
          rintro e w4 ⟨rfl, hb4⟩
          have HB4 := Lib.hid (HNX.out.trans (hb4.mono HNX.out.size))
          clear hb4
          go_wp2
          go_roundw
          case rel => exact ⟨j + 1, z + P, by omega, by go_num, by first | rfl | rw [Int.add_assoc], HN.out, HB4.out⟩
          case measure => simp [intOf]; omega
        · obtain rfl : j = k + 1 := by omega
          have HX : Hid (y + z = x) := by show _ = _; rw [HASK.out, HY.out, HZ.out]
          have hlt3 : ¬ (((k + 1 : Nat) : Int) < (k : Int) + 1) := by omega
          go_wp2
          go_ret2
          exact ⟨by rw [HX.out]; rfl, HNX.out⟩

end Go.Proofs.YtpnjnedfcdppaaaGreatDoor
