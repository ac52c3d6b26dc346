/-
  TopTurns, walked.
-/
import Derived.Test.YtpnjnedfcdppaaaGreatDoorDLivesAll
import Derived.Test.YtpnjnedfcdppaaaGreatDoorTOk
import Derived.Test.YtpnjnedfcdppaaaGreatDoorTTurn
import Derived.Test.YtpnjnedfcdppaaaGreatDoorTMapsL
import Derived.Test.YtpnjnedfcdppaaaGreatDoorGOfAll
import Derived.Test.YtpnjnedfcdppaaaGreatDoorGInts
import Derived.Test.YtpnjnedfcdppaaaGreatDoorSEqAll
namespace Go.Proofs.YtpnjnedfcdppaaaGreatDoor
open Go.RowKit

theorem unl_perm {l m : List Int} (h : List.Perm m l) (hu : unl l = 0) : unl m = 0 := by
  obtain ⟨h1, h2, h3⟩ := unl_zero.1 hu
  exact unl_zero.2 ⟨by rw [h.length_eq]; exact h1, fun x hx => h2 x (h.mem_iff.1 hx), h.nodup_iff.2 h3⟩
theorem gro_perm {l m : List Int} (h : List.Perm m l) : (gro .nil m).ks = (gro .nil l).ks :=
  up_ext (up_gro (t := .nil) (by simp [Tr.ks, Up]) m) (up_gro (t := .nil) (by simp [Tr.ks, Up]) l) fun x => by
    rw [mem_gro, mem_gro, h.mem_iff]
theorem gro_istree {l : List Int} (hu : unl l = 0) : IsTree ((gro .nil l).sp 0) ∧ (gro .nil l).size = l.length := by
  obtain ⟨h1, h2, h3⟩ := unl_zero.1 hu
  have hs : (gro .nil l).size = l.length := by
    rw [← ks_length, ← qs_gro _ l (Nat.le_refl _) h3, qs_length _ l (Nat.le_refl _)]
  exact ⟨istree_of (up_gro (t := .nil) (by simp [Tr.ks, Up]) l) (by omega), hs⟩
theorem swap_at (s : Int) (k : Nat) (hk : k ≤ 1000) : ∃ j : Nat, wrap64 ((IntKind.u64.wrap (IntKind.u64.wrap s + (k : Int) * 7)).tmod ((k : Int) + 1)) = (j : Int) ∧ j ≤ k := by
  have h0 := wrap_u64_nonneg (IntKind.u64.wrap s + (k : Int) * 7)
  generalize IntKind.u64.wrap (IntKind.u64.wrap s + (k : Int) * 7) = X at *
  obtain ⟨x, rfl⟩ : ∃ x : Nat, X = x := ⟨X.toNat, by omega⟩
  have e : ((x : Int)).tmod ((k : Int) + 1) = ((x % (k + 1) : Nat) : Int) := by
    rw [Int.tmod_eq_emod_of_nonneg (by omega)]
    push_cast
    rfl
  have hlt := Nat.mod_lt x (show 0 < k + 1 by omega)
  rw [e]
  generalize x % (k + 1) = m at *
  exact ⟨m, IntWalk.wrap64_in _ ⟨by omega, by omega⟩, by omega⟩
set_option maxRecDepth 100000 in
set_option maxHeartbeats 8000000 in
theorem TTurns_bad (A : Option Addr) (n c : Nat) (l : List Int) (s : Int) (w : World) (h : IS w A n c l) (hu : unl l ≠ 0) (hL : LD w) : Calls Tryz.prog 10 #[.slice A n c, I s] w (RetYes w) := by
  have HLV := Lib.hid fun wz hz => topLives_any wz hz
  have HLD := Lib.hid hL
  have HS := Lib.hid (Of_bad A n c l w h (unl l) rfl hu)
  obtain ⟨E, hE⟩ : ∃ E, unl l = E := ⟨_, rfl⟩
  rw [hE] at HS hu
  have hne : (E != 0) = true := by simpa using hu
  clear h hu hE hL
  go_enter Tryz.func10, Tryz.ntmps10
  go_wp2_with fail
  refine HS.out.mono ?_
  rintro e w1 ⟨rfl, hb1⟩
  have HB1 := Lib.hid hb1
  clear hb1
  go_wp2_with fail
  refine (HLV.out _ (HLD.out.next HB1.out)).mono ?_
  rintro e w2 ⟨rfl, hb2⟩
  have HB2 := Lib.hid (w_trans HB1.out hb2)
  clear hb2
  go_wp2_with fail
  refine (HLV.out _ (HLD.out.next HB2.out)).mono ?_
  rintro e w3 ⟨rfl, hb3⟩
  have HB3 := Lib.hid (w_trans HB2.out hb3)
  clear hb3
  go_wp2
  go_ret
  exact ⟨rfl, HB3.out⟩
set_option maxRecDepth 100000 in
set_option maxHeartbeats 8000000 in
theorem TTurns_big (A : Option Addr) (n c : Nat) (l : List Int) (s : Int) (w : World) (h : IS w A n c l) (hu : unl l = 0) (hb : 60 < n) (hL : LD w) : Calls Tryz.prog 10 #[.slice A n c, I s] w (RetYes w) := by
  have HLV := Lib.hid fun wz hz => topLives_any wz hz
  have HLD := Lib.hid hL
  have HS := Lib.hid (GOf_ok A n c l w h hu)
  have f1 : (60 : Int) < (n : Int) := by omega
  clear h hu hb hL
  go_enter Tryz.func10, Tryz.ntmps10
  go_wp2_with fail
  refine HS.out.mono ?_
  rintro e w1 ⟨A1, n1, c1, rfl, -, hb1⟩
  have HB1 := Lib.hid hb1
  clear hb1
  go_wp2_with fail
  refine (HLV.out _ (HLD.out.next HB1.out)).mono ?_
  rintro e w2 ⟨rfl, hb2⟩
  have HB2 := Lib.hid (w_trans HB1.out hb2)
  clear hb2
  go_wp2_with fail
  refine (HLV.out _ (HLD.out.next HB2.out)).mono ?_
  rintro e w3 ⟨rfl, hb3⟩
  have HB3 := Lib.hid (w_trans HB2.out hb3)
  clear hb3
  go_wp2
  go_ret
  exact ⟨rfl, HB3.out⟩
set_option maxRecDepth 100000 in
set_option maxHeartbeats 8000000 in
theorem TTurns_ok (A : Option Addr) (n c : Nat) (l : List Int) (s : Int) (w : World) (h : IS w A n c l) (hu : unl l = 0) (hn : n ≤ 60) (hL : LD w) : Calls Tryz.prog 10 #[.slice A n c, I s] w (RetYes w) := by
  have HLV := Lib.hid fun wz hz => topLives_any wz hz
  have HLD := Lib.hid hL
  have HS := Lib.hid (GOf_ok A n c l w h hu)
  have HIS := Lib.hid h
  have HN := Lib.hid h.len
  have HU := Lib.hid hu
  have hgt := gro_istree hu
  have HGT := Lib.hid hgt.1
  have hgs := hgt.2
  rw [h.len] at hgs
  have f1 : ¬ (60 : Int) < (n : Int) := by omega
  clear h hu hL hgt
  go_enter Tryz.func10, Tryz.ntmps10
  go_wp2_with fail
  refine HS.out.mono ?_
  rintro e w1 ⟨A1, n1, c1, rfl, hp1, hb1⟩
  have HB1 := Lib.hid hb1
  have hn1 : n1 = n := by rw [← hp1.len, sp_length, hgs]
  subst hn1
  have HP1 := Lib.hid hp1
  clear hb1 hp1
  go_wp2_with fail
  refine (HLV.out _ (HLD.out.next HB1.out)).mono ?_
  rintro e w2 ⟨rfl, hb2⟩
  have HB2 := Lib.hid (w_trans HB1.out hb2)
  have HP2 := Lib.hid (HP1.out.below hb2)
  clear hb2 HP1
  go_wp2_with fail
  refine (cloneI_any A n1 c l w2 (HIS.out.below HB2.out) (by omega)).mono ?_
  rintro e w3 ⟨v3, rfl, ho3, hb3⟩
  have HB3 := Lib.hid (w_trans HB2.out hb3)
  have HBX := Lib.hid hb3
  have hrow : ∃ A3 c3, v3 = .slice A3 n1 c3 ∧ n1 ≤ c3 ∧ (0 < n1 → ∃ g, A3 = some ⟨g, 0, none⟩ ∧ w2.heap.size ≤ g ∧ IR w3 g l) := by
    rcases ho3.row with ⟨rfl, e⟩ | ⟨g, c3, rfl, hg, hc3, hr⟩
    · have h0 : n1 = 0 := by rw [← HN.out, e]; rfl
      exact ⟨none, 0, by rw [h0], by omega, fun h => by omega⟩
    · rw [HN.out] at hc3 ⊢
      exact ⟨_, c3, rfl, hc3, fun _ => ⟨g, rfl, hg, hr⟩⟩
  obtain ⟨A3, c3, rfl, hc3, hg3⟩ := hrow
  have HG3 := Lib.hid hg3
  clear hb3 ho3 hg3
  go_wp2
  go_loopw [42] (fun i wr => ∃ (k : Nat) (L : List Int), k ≤ n1 ∧ i = .int .i64 k ∧ Hid (List.Perm L l) ∧ Hid (0 < n1 → ∃ g, A3 = some ⟨g, 0, none⟩ ∧ w2.heap.size ≤ g ∧ IR wr g L) ∧ Hid (Below w2.heap.size w2 wr)) (fun i _ => n1 - (intOf i).toNat)
  case atStart => exact ⟨0, l, Nat.zero_le _, rfl, List.Perm.refl _, HG3.out, HBX.out⟩
  case round =>
    obtain ⟨k, L, hk, rfl, HPM, HG, HNX⟩ := hrel
    have hLl : L.length = n1 := by rw [← HN.out]; exact HPM.out.length_eq
    have HLL := Lib.hid hLl
    by_cases hlt : k < n1
    · obtain ⟨g, rfl, hge, hir⟩ := HG.out (by omega)
      have hjx := swap_at s k (by omega)
      go_wp2
      obtain ⟨j, hj, hjk⟩ := hjx
      rw [hj]
      have hgl := hir.lt
      have ck := hir.cell k (by omega)
      have cj := hir.cell j (by omega)
      have fk := hir.frozen k
      have fj := hir.frozen j
      have hir1 := hir.set k (by omega) (L[j]'(by omega))
      have cz := hir1.cell j (by rw [List.length_set]; omega)
      have fz := hir1.frozen j
      obtain ⟨z, hz⟩ : ∃ z, (L.set k (L[j]'(by omega)))[j]'(by rw [List.length_set]; omega) = z := ⟨_, rfl⟩
      rw [hz] at cz
      have HIR := Lib.hid ((hir.set k (by omega) (L[j]'(by omega))).set j (by rw [List.length_set]; omega) (L[k]'(by omega)))
      have HPM2 : Hid (List.Perm ((L.set k (L[j]'(by omega))).set j (L[k]'(by omega))) l) := (@List.set_set_perm _ L k j (by omega) (by omega)).trans HPM.out
      obtain ⟨L2, hL2⟩ : ∃ L2, (L.set k (L[j]'(by omega))).set j (L[k]'(by omega)) = L2 := ⟨_, rfl⟩
      rw [hL2] at HIR HPM2
      obtain ⟨x, hx⟩ : ∃ x, L[k] = x := ⟨_, rfl⟩
      obtain ⟨y, hy⟩ : ∃ y, L[j] = y := ⟨_, rfl⟩
      rw [hx] at ck HIR
      rw [hy] at cj HIR cz fz
      have hj0 : (0 : Int) ≤ (j : Int) := by omega
      have hjn : (j : Int) < (n1 : Int) := by omega
      have hk0 : (0 : Int) ≤ (k : Int) := by omega
      have hkn : (k : Int) < (n1 : Int) := by omega
      have hjn2 : j < n1 := by omega
      clear hir hir1 hj hL2 hx hy hLl hz
      go_region
      have HIR2 : Hid (IR ((wr.setCell ⟨g, k, none⟩ (.int .i64 y)).setCell ⟨g, j, none⟩ (.int .i64 x)).drew g L2) := HIR
      have HBW : Hid (Below w2.heap.size w2 ((wr.setCell ⟨g, k, none⟩ (.int .i64 y)).setCell ⟨g, j, none⟩ (.int .i64 x)).drew) := ((HNX.out.setCell (p := ⟨g, k, none⟩) hge _).setCell (p := ⟨g, j, none⟩) hge _).drew
      clear HIR ck cj fk fj cz fz
      generalize ((wr.setCell ⟨g, k, none⟩ (.int .i64 y)).setCell ⟨g, j, none⟩ (.int .i64 x)).drew = W at *
      go_wp2
      go_roundw
      case rel => exact ⟨k + 1, L2, by omega, by go_num, HPM2, fun _ => ⟨g, rfl, hge, HIR2.out⟩, HBW.out⟩
      case measure => simp [intOf]; omega
    · obtain rfl : k = n1 := by omega
      have his : IS wr A3 k c3 L := by
        rcases Nat.eq_zero_or_pos k with h0 | h0
        · subst h0
          exact ⟨hLl, Nat.zero_le _, fun h => absurd h (by omega)⟩
        · obtain ⟨g, rfl, hge, hir⟩ := HG.out h0
          have := hir.is_ (c := c3) (by omega)
          rw [hLl] at this
          exact this
      have hu2 := unl_perm HPM.out HU.out
      have hgt2 := gro_istree hu2
      have hgs2 := hgt2.2
      rw [hLl] at hgs2
      have HGT2 := Lib.hid hgt2.1
      have hks := gro_perm HPM.out
      have HGO := Lib.hid (GOf_ok A3 k c3 L wr his hu2)
      have HBR := Lib.hid (w_trans HB2.out HNX.out)
      obtain ⟨t1, ht1⟩ : ∃ t, gro .nil l = t := ⟨_, rfl⟩
      obtain ⟨t2, ht2⟩ : ∃ t, gro .nil L = t := ⟨_, rfl⟩
      rw [ht1] at HGT HP2 hgs hks
      rw [ht2] at HGT2 HGO hgs2 hks
      have HKS : Hid (vsp [] 0 t2.ks = vsp [] 0 t1.ks) := by show _ = _; rw [hks]
      have hv1 := vks_less t1
      have hv2 := vks_less t2
      rw [hgs] at hv1
      rw [hgs2] at hv2
      obtain ⟨d1, hd1⟩ : ∃ d, (vks t1).length = d := ⟨_, rfl⟩
      obtain ⟨d2, hd2⟩ : ∃ d, (vks t2).length = d := ⟨_, rfl⟩
      rw [hd1] at hv1
      rw [hd2] at hv2
      have HD1 := Lib.hid hd1
      have HV1 := Lib.hid hv1
      have HV2 := Lib.hid hv2
      have HD2 := Lib.hid hd2
      have HP4 := Lib.hid (HP2.out.below HNX.out)
      clear his hu2 hgt2 ht1 ht2 hks hd1 hd2 hlt
      go_wp2_with fail
      refine HGO.out.mono ?_
      rintro e w5 ⟨A5, n5, c5, rfl, hp5, hb5⟩
      have HB5 := Lib.hid (w_trans HBR.out hb5)
      have hn5 : n5 = k := by rw [← hp5.len, sp_length, hgs2]
      subst hn5
      have HP5 := Lib.hid hp5
      have HP45 := Lib.hid (HP4.out.below hb5)
      clear hp5 hb5
      go_wp2_with fail
      refine (Vine_ok A1 n5 c1 t1 w5 HP45.out HGT.out).mono ?_
      rintro e w6 ⟨A6, c6, rfl, hi6, hb6⟩
      rw [HD1.out] at hi6 ⊢
      have HB6 := Lib.hid (w_trans HB5.out hb6)
      have HI6 := Lib.hid hi6
      have HP46 := Lib.hid (HP45.out.below hb6)
      have HP56 := Lib.hid (HP5.out.below hb6)
      clear hi6 hb6
      go_wp2_with fail
      refine (Vine_ok A5 n5 c5 t2 w6 HP56.out HGT2.out).mono ?_
      rintro e w7 ⟨A7, c7, rfl, hi7, hb7⟩
      rw [HD2.out] at hi7 ⊢
      have HB7 := Lib.hid (w_trans HB6.out hb7)
      have HI7 := Lib.hid hi7
      have HI67 := Lib.hid (HI6.out.below hb7)
      have HP47 := Lib.hid (HP46.out.below hb7)
      have HP57 := Lib.hid (HP56.out.below hb7)
      clear hi7 hb7
      have HOK := Lib.hid (tok_any (some ⟨w7.heap.size, 0, none⟩) 3 3 [0, 0, 0] (w7.alloc (.cells #[I 0, I 0, I 0] 35)) (is_new w7 35 [0, 0, 0]) (by omega) (by simp))
      have hax : Below w7.heap.size w7 (w7.alloc (.cells #[I 0, I 0, I 0] 35)) := (Below.refl _ _).alloc (Nat.le_refl _) _
      have HAX := Lib.hid hax
      have HT1 := Lib.hid (turned_any A1 A6 n5 c1 d1 c6 t1 _ (HP47.out.below hax) HGT.out (HI67.out.below hax))
      have HT2 := Lib.hid fun wz (hz : Below (w7.alloc (.cells #[I 0, I 0, I 0] 35)).heap.size (w7.alloc (.cells #[I 0, I 0, I 0] 35)) wz) => turned_any A5 A7 n5 c5 d2 c7 t2 wz ((HP57.out.below hax).below hz) HGT2.out ((HI7.out.below hax).below hz)
      rw [HKS.out] at HT2
      obtain ⟨F, hF⟩ : ∃ F, vsp [] 0 t1.ks = F := ⟨_, rfl⟩
      rw [hF] at HT1 HT2
      clear hax hF
      go_wp2_with fail
      refine HOK.out.mono ?_
      rintro e w8 ⟨rfl, rfl⟩
      go_wp2_with fail
      refine HT1.out.mono ?_
      rintro e w9 ⟨A9, c9, rfl, hp9, hb9⟩
      have HP9 := Lib.hid hp9
      have HB9 := Lib.hid hb9
      clear hp9 hb9
      go_wp2_with fail
      refine (HT2.out _ HB9.out).mono ?_
      rintro e w10 ⟨A10, c10, rfl, hp10, hb10⟩
      have HP10 := Lib.hid hp10
      have HP910 := Lib.hid (HP9.out.below hb10)
      have HB10 := Lib.hid (w_trans HB9.out hb10)
      clear hp10 hb10
      go_wp2_with fail
      refine (eqSpot_any A9 A10 n5 n5 c9 c10 F F w10 HP910.out HP10.out (by omega) (by omega)).mono ?_
      rintro e w11 ⟨rfl, hb11⟩
      rw [decide_eq_true (rfl : F = F)]
      have HB11 := Lib.hid (w_trans HB7.out (w_trans HAX.out (w_trans HB10.out hb11)))
      clear hb11
      go_wp2
      go_ret
      refine ⟨?_, HB11.out⟩
      have h1 := HV1.out
      have h2 := HV2.out
      have hfin : decide ((d1 : Int) + (d2 : Int) < 2 * max (n5 : Int) 1) = true := decide_eq_true (by omega)
      exact congrArg (fun b => Ending.returned (.bool b)) hfin
theorem TTurnsL_any (A : Option Addr) (n c : Nat) (l : List Int) (s : Int) (w : World) (h : IS w A n c l) (_hm : n ≤ 9223372036854775807) (hL : LD w) : Calls Tryz.prog 10 #[.slice A n c, I s] w (RetYes w) := by
  by_cases hu : unl l = 0
  · rcases Nat.lt_or_ge 60 n with hn | hn
    · exact TTurns_big A n c l s w h hu hn hL
    · exact TTurns_ok A n c l s w h hu hn hL
  · exact TTurns_bad A n c l s w h hu hL
end Go.Proofs.YtpnjnedfcdppaaaGreatDoor
