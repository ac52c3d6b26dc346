/-
  DeskZip, walked.
-/
import Derived.Test.YtpnjnedfcdppaaaGreatDoorDZipR
namespace Go.Proofs.YtpnjnedfcdppaaaGreatDoor
open Go.RowKit

set_option maxRecDepth 100000 in
set_option maxHeartbeats 8000000 in
theorem DZip_lim (l : List UInt8) (w : World) (hl : l.length ≤ 1048576) (h : 4000 < l.length ∨ 40 < (dln l).length) (hL : LD w) : Calls Tryz.prog 6 #[.string (bsv l)] w (RetYes w) := by
  have HLV := Lib.hid fun wz hz => deskLives_any wz hz
  have HLD := Lib.hid hL
  have HDL := Lib.hid (DeskLines_any l w hl hL)
  have hsz : (bsv l).size = l.length := bsv_size l
  obtain ⟨m, hm⟩ : ∃ m, (dln l).length = m := ⟨_, rfl⟩
  have HM := Lib.hid hm
  obtain ⟨n, hn⟩ : ∃ n, l.length = n := ⟨_, rfl⟩
  rw [hm, hn] at h
  rw [hn] at hsz
  clear hm hn hl hL
  by_cases h1 : 4000 < n
  · have f1 : (4000 : Int) < (n : Int) := by omega
    clear h
    go_enter Tryz.func6, Tryz.ntmps6
    go_wp2_with fail
    refine HDL.out.mono ?_
    rintro e w1 ⟨v, rfl, -, hb1⟩
    rw [HM.out]
    have HB1 := Lib.hid hb1
    clear hb1
    go_wp2_with fail
    refine (HLV.out _ (HLD.out.next HB1.out)).mono ?_
    rintro e w2 ⟨rfl, hb2⟩
    have HB2 := Lib.hid (tr2 HB1.out hb2)
    clear hb2
    go_wp2_with fail
    refine (HLV.out _ (HLD.out.next HB2.out)).mono ?_
    rintro e w3 ⟨rfl, hb3⟩
    have HB3 := Lib.hid (tr2 HB2.out hb3)
    clear hb3
    go_wp2
    go_ret
    exact ⟨rfl, HB3.out⟩
  · have f1 : ¬ (4000 : Int) < (n : Int) := by omega
    have f2 : (40 : Int) < (m : Int) := by omega
    clear h
    go_enter Tryz.func6, Tryz.ntmps6
    go_wp2_with fail
    refine HDL.out.mono ?_
    rintro e w1 ⟨v, rfl, -, hb1⟩
    rw [HM.out]
    have HB1 := Lib.hid hb1
    clear hb1
    go_wp2_with fail
    refine (HLV.out _ (HLD.out.next HB1.out)).mono ?_
    rintro e w2 ⟨rfl, hb2⟩
    have HB2 := Lib.hid (tr2 HB1.out hb2)
    clear hb2
    go_wp2_with fail
    refine (HLV.out _ (HLD.out.next HB2.out)).mono ?_
    rintro e w3 ⟨rfl, hb3⟩
    have HB3 := Lib.hid (tr2 HB2.out hb3)
    clear hb3
    go_wp2
    go_ret
    exact ⟨rfl, HB3.out⟩
set_option maxRecDepth 100000 in
set_option maxHeartbeats 8000000 in
theorem DZip_ok (l : List UInt8) (w : World) (h1 : l.length ≤ 4000) (h2 : (dln l).length ≤ 40) (hL : LD w) : Calls Tryz.prog 6 #[.string (bsv l)] w (RetYes w) := by
  have HLV := Lib.hid fun wz hz => deskLives_any wz hz
  have HLD := Lib.hid hL
  have HDL := Lib.hid (DeskLines_any l w (by omega) hL)
  obtain ⟨K, Y, Y2, hZ⟩ := zip_f l h1 h2
  have HZ := Lib.hid hZ
  obtain ⟨P, hP⟩ : ∃ P, (zT K).pre = P := ⟨_, rfl⟩
  have hPl := hZ.len
  rw [hP] at hPl
  have hy1 := hZ.y1
  have hy2 := hZ.y2
  have HR1 := Lib.hid fun wz hz => Run_dany (l ++ 10 :: zEnd) wz (by simp [zEnd]; omega) hz
  rw [← bsv_app] at HR1
  have hol := deskP_len (l ++ 10 :: zEnd)
  have HS1 := Lib.hid fun wz hz => dsplit_any (deskP (l ++ 10 :: zEnd)) 10 wz (by omega) hz
  rw [hZ.one] at HS1
  have hsz : (bsv l).size = l.length := bsv_size l
  obtain ⟨m, hm⟩ : ∃ m, (dln l).length = m := ⟨_, rfl⟩
  have HM := Lib.hid hm
  obtain ⟨n, hn⟩ : ∃ n, l.length = n := ⟨_, rfl⟩
  rw [hn] at hsz h1
  rw [hm] at h2
  have f1 : ¬ (4000 : Int) < (n : Int) := by omega
  have f2 : ¬ (40 : Int) < (m : Int) := by omega
  have hcat : ¬ (9223372036854775807 < n + 15) := by omega
  obtain ⟨o1, ho1⟩ : ∃ o, deskP (l ++ 10 :: zEnd) = o := ⟨_, rfl⟩
  rw [ho1] at HR1 HS1 hol
  have hYl : (Y ++ [tellT K, tellR K, []]).length = Y.length + 3 := by simp
  obtain ⟨yl, hyl⟩ : ∃ y, Y.length = y := ⟨_, rfl⟩
  rw [hyl] at hYl hy1
  rw [hYl] at HS1
  obtain ⟨N, hN⟩ : ∃ N, yl + 3 = N := ⟨_, rfl⟩
  rw [hN] at HS1
  obtain ⟨yz, hyz⟩ : ∃ z, yl + 1 = z := ⟨_, rfl⟩
  have ix1 : IntKind.i64.wrap ((N : Int) - 3) = (yl : Int) := by rw [← hN]; have := IntWalk.i64_in (((yl + 3 : Nat) : Int) - 3) (by omega); rw [this]; omega
  have ix2 : IntKind.i64.wrap ((N : Int) - 2) = (yz : Int) := by rw [← hN, ← hyz]; have := IntWalk.i64_in (((yl + 3 : Nat) : Int) - 2) (by omega); rw [this]; omega
  have f3 : ¬ (N : Int) < 3 := by omega
  have j1 : (0 : Int) ≤ (yl : Int) := by omega
  have j2 : (yl : Int) < (N : Int) := by omega
  have j3 : (0 : Int) ≤ (yz : Int) := by omega
  have j4 : (yz : Int) < (N : Int) := by omega
  have j5 : yl < N := by omega
  have j6 : yz < N := by omega
  have HYL := Lib.hid hyl
  have HR2 := Lib.hid fun wz hz => Run_dany (anT [] P ++ 10 :: zEnd) wz (by have := anT_len P []; simp [zEnd] at this ⊢; omega) hz
  have hol2 := deskP_len (anT [] P ++ 10 :: zEnd)
  have HS2 := Lib.hid fun wz hz => dsplit_any (deskP (anT [] P ++ 10 :: zEnd)) 10 wz (by omega) hz
  have hz2 := hZ.two
  rw [hP] at hz2
  rw [hz2] at HS2
  have hYl2 : (Y2 ++ [tellT K, tellR K, []]).length = Y2.length + 3 := by simp
  obtain ⟨o2, ho2⟩ : ∃ o, deskP (anT [] P ++ 10 :: zEnd) = o := ⟨_, rfl⟩
  rw [ho2] at HR2 HS2 hol2
  obtain ⟨ya, hya⟩ : ∃ y, Y2.length = y := ⟨_, rfl⟩
  rw [hya] at hYl2 hy2
  rw [hYl2] at HS2
  have HYA := Lib.hid hya
  obtain ⟨M, hMM⟩ : ∃ M, ya + 3 = M := ⟨_, rfl⟩
  rw [hMM] at HS2
  obtain ⟨yb, hyb⟩ : ∃ z, ya + 1 = z := ⟨_, rfl⟩
  have HYB : Hid (yb = ya + 1) := hyb.symm
  have ia1 : IntKind.i64.wrap ((M : Int) - 3) = (ya : Int) := by rw [← hMM]; have := IntWalk.i64_in (((ya + 3 : Nat) : Int) - 3) (by omega); rw [this]; omega
  have ia2 : IntKind.i64.wrap ((M : Int) - 2) = (yb : Int) := by rw [← hMM, ← hyb]; have := IntWalk.i64_in (((ya + 3 : Nat) : Int) - 2) (by omega); rw [this]; omega
  have k0 : (3 : Int) ≤ (M : Int) := by omega
  have k1 : (0 : Int) ≤ (ya : Int) := by omega
  have k2 : (ya : Int) < (M : Int) := by omega
  have k3 : (0 : Int) ≤ (yb : Int) := by omega
  have k4 : (yb : Int) < (M : Int) := by omega
  have k5 : ya < M := by omega
  have k6 : yb < M := by omega
  have hTl : (tellT K).length ≤ 200000 := by
    unfold tellT
    have h1 := orN_len (jnd (zT K).pre)
    have h2 := jnd_len (l := (zT K).pre) (by rw [hP]; omega)
    omega
  have HNO : Hid (tellT K = [110, 111, 110, 101] ↔ P = []) := by rw [← hP]; exact hZ.none_
  have HJN : Hid (P ≠ [] → spl 32 (tellT K) = P.map fun x => dg x.toNat) := fun hne => by
    unfold tellT
    rw [hP]
    have hj : jnd P ≠ [] := fun e => by
      have := congrArg (spl 32) e
      rw [spl_jnd hne] at this
      cases P with
      | nil => exact hne rfl
      | cons x r =>
        simp only [List.map_cons] at this
        have h2 := (List.cons.inj this).1
        exact dg_ne _ h2
    unfold orN
    rw [if_neg hj]
    exact spl_jnd hne
  obtain ⟨T, hT⟩ : ∃ T, tellT K = T := ⟨_, rfl⟩
  obtain ⟨R, hR⟩ : ∃ R, tellR K = R := ⟨_, rfl⟩
  rw [hT, hR] at HS1 HS2
  rw [hT] at HNO HJN hTl
  clear hZ hm hn hL ho1 hP hyl hYl hz2 hYl2 ho2 hya hMM hyb hT hR HZ
  go_enter Tryz.func6, Tryz.ntmps6
  go_wp2_with fail
  refine HDL.out.mono ?_
  rintro e w1 ⟨v, rfl, -, hb1⟩
  rw [HM.out]
  have HB1 := Lib.hid hb1
  clear hb1
  go_wp2_with fail
  refine (HLV.out _ (HLD.out.next HB1.out)).mono ?_
  rintro e w2 ⟨rfl, hb2⟩
  have HB2 := Lib.hid (tr2 HB1.out hb2)
  clear hb2
  go_wp2_with fail
  refine (HR1.out _ (HLD.out.next HB2.out)).mono ?_
  rintro e w3 ⟨rfl, hb3⟩
  have HB3 := Lib.hid (tr2 HB2.out hb3)
  clear hb3
  go_wp2_with fail
  refine (HS1.out _ (HLD.out.next HB3.out)).mono ?_
  rintro e w4 ⟨rfl, hT4, hb4⟩
  have HB4 := Lib.hid (tr2 HB3.out hb4)
  have HT4 := Lib.hid hT4
  have hlt4 := hT4.lt
  have c1 : w4.cell? ⟨w3.heap.size, yl, none⟩ = some (.string (bsv T)) := by
    rw [hT4.cell yl, ← HYL.out]; simp
  have c2 : w4.cell? ⟨w3.heap.size, yz, none⟩ = some (.string (bsv R)) := by
    rw [← hyz, hT4.cell (yl + 1), ← HYL.out, List.getElem?_append_right (by omega)]; simp
  clear hT4 hb4
  go_wp2_with fail
  go_quiet (fail)
  -- END
  have hq4 : Below w.heap.size w (w4.drewN nq) := below_drewN HB4.out nq
  obtain ⟨w5, hw5⟩ : ∃ x, w4.drewN nq = x := ⟨_, rfl⟩
  rw [hw5] at hq4 ⊢
  have HB5 := Lib.hid hq4
  clear hq4 hw5 c1 c2
  by_cases hT0 : T = [110, 111, 110, 101]
  · have hp0 : P = [] := HNO.out.1 hT0
    have g1 : (T == [110, 111, 110, 101]) = true := by rw [hT0]; rfl
    rw [hp0] at HR2
    have HR2 : Hid (∀ wz, LD wz → Calls Tryz.prog 11 #[.string (⟨#[]⟩ ++ ⟨#[10, 116, 114, 101, 101, 32, 122, 105, 112, 10, 114, 111, 119, 115, 10]⟩)] wz (RetTx o2 wz)) := HR2
    clear hT0 hp0
    go_wp2_with fail
    refine (HR2.out _ (HLD.out.next HB5.out)).mono ?_
    rintro e wa ⟨rfl, hba⟩
    have HBA := Lib.hid (tr2 HB5.out hba)
    clear hba
    go_wp2_with fail
    refine (HS2.out _ (HLD.out.next HBA.out)).mono ?_
    rintro e wb ⟨rfl, hTb, hbb⟩
    have HBB := Lib.hid (tr2 HBA.out hbb)
    have hltb := hTb.lt
    have c3 : wb.cell? ⟨wa.heap.size, ya, none⟩ = some (.string (bsv T)) := by
      rw [hTb.cell ya, ← HYA.out]; simp
    have c4 : wb.cell? ⟨wa.heap.size, yb, none⟩ = some (.string (bsv R)) := by
      rw [HYB.out, hTb.cell (ya + 1), ← HYA.out, List.getElem?_append_right (by omega)]; simp
    clear hTb hbb
    go_wp2
    go_ret
    exact ⟨by simp, HBB.out⟩
  · have hp0 : P ≠ [] := fun e => hT0 (HNO.out.2 e)
    have g1 : (T == [110, 111, 110, 101]) = false := by rw [beq_eq_false_iff_ne]; exact hT0
    have HS3 := Lib.hid (dsplit_any T 32 w5 (by omega) (HLD.out.next HB5.out))
    rw [HJN.out hp0] at HS3
    obtain ⟨p, hp⟩ : ∃ p, P.length = p := ⟨_, rfl⟩
    rw [List.length_map, hp] at HS3
    have HP := Lib.hid hp
    rw [hp] at hPl
    clear hT0 hp0 hp
    go_wp2_with fail
    refine HS3.out.mono ?_
    rintro e w6 ⟨rfl, hT6, hb6⟩
    have HB6 := Lib.hid (tr2 HB5.out hb6)
    have HT6 := Lib.hid hT6
    clear hT6 hb6
    go_wp2
    go_loopw [9, 55] (fun v iv wr => ∃ k : Nat, k ≤ p ∧ iv = .int .i64 k ∧ v = .string (bsv (anT [] (P.take k))) ∧ wr = w6) (fun _ iv _ => p - (intOf iv).toNat)
    case atStart => exact ⟨0, Nat.zero_le _, rfl, rfl, rfl⟩
    case round =>
      obtain ⟨k, hk, rfl, rfl, rfl⟩ := hrel
      by_cases hkp : k < p
      · have hkl : k < P.length := by rw [HP.out]; exact hkp
        have hck := HT6.out.cell k
        rw [List.getElem?_map, List.getElem?_eq_getElem hkl] at hck
        have hlt6 := HT6.out.lt
        have HE := Lib.hid (anT_snoc [] (P.take k) P[k])
        have htk : P.take (k + 1) = P.take k ++ [P[k]] := List.take_succ_eq_append_getElem hkl
        have HTK := Lib.hid htk
        have hal := anT_len (P.take k) []
        have htl : (P.take k).length ≤ 40 := by rw [List.length_take]; omega
        have hdl := dg_len P[k].toNat
        simp only [Option.map_some] at hck
        obtain ⟨d, hd⟩ : ∃ d, dg P[k].toNat = d := ⟨_, rfl⟩
        rw [hd] at hck HE hdl
        obtain ⟨ac, hac⟩ : ∃ a, anT [] (P.take k) = a := ⟨_, rfl⟩
        rw [hac] at HE hal ⊢
        have hs1 : (bsv d).size = d.length := bsv_size d
        have hs2 : (bsv ac).size = ac.length := bsv_size ac
        have hbl : ac.length ≤ 1200 := by simp at hal; omega
        have q1 : ¬ (9223372036854775807 < 4 + d.length) := by omega
        have q2 : ¬ (9223372036854775807 < 4 + d.length + 3) := by omega
        have q3 : ¬ (9223372036854775807 < 4 + d.length + 3 + ac.length) := by omega
        clear hd hac htk hal htl
        go_wp2
        go_roundw
        case rel =>
          refine ⟨k + 1, by omega, by go_num, ?_, by trivial⟩
          rw [HTK.out, HE.out, ← bsv_app, ← bsv_app, ← bsv_app]
        case measure => simp [intOf]; omega
      · obtain rfl : k = p := by omega
        have htk : P.take k = P := List.take_of_length_le (by rw [HP.out]; exact Nat.le_refl _)
        rw [htk]
        rw [← bsv_app] at HR2
        have hs2 : (bsv (anT [] P)).size = (anT [] P).length := bsv_size _
        have hal := anT_len P []
        obtain ⟨ac, hac⟩ : ∃ a, anT [] P = a := ⟨_, rfl⟩
        rw [hac] at HR2 hs2 hal ⊢
        have hbl : ac.length ≤ 1200 := by rw [HP.out] at hal; simp at hal; omega
        have q3 : ¬ (9223372036854775807 < ac.length + 15) := by omega
        clear htk hac hal
        go_wp2_with fail
        refine (HR2.out _ (HLD.out.next HB6.out)).mono ?_
        rintro e wa ⟨rfl, hba⟩
        have HBA := Lib.hid (tr2 HB6.out hba)
        clear hba
        go_wp2_with fail
        refine (HS2.out _ (HLD.out.next HBA.out)).mono ?_
        rintro e wb ⟨rfl, hTb, hbb⟩
        have HBB := Lib.hid (tr2 HBA.out hbb)
        have hltb := hTb.lt
        have c3 : wb.cell? ⟨wa.heap.size, ya, none⟩ = some (.string (bsv T)) := by
          rw [hTb.cell ya, ← HYA.out]; simp
        have c4 : wb.cell? ⟨wa.heap.size, yb, none⟩ = some (.string (bsv R)) := by
          rw [HYB.out, hTb.cell (ya + 1), ← HYA.out, List.getElem?_append_right (by omega)]; simp
        clear hTb hbb
        go_wp2
        go_ret
        exact ⟨by simp, HBB.out⟩
theorem DZipL_any (l : List UInt8) (w : World) (hl : l.length + 1 ≤ 1048576) (hL : LD w) : Calls Tryz.prog 6 #[.string (bsv l)] w (RetYes w) := by
  rcases Decidable.em (4000 < l.length ∨ 40 < (dln l).length) with h | h
  · exact DZip_lim l w (by omega) h hL
  · exact DZip_ok l w (by omega) (by omega) hL
end Go.Proofs.YtpnjnedfcdppaaaGreatDoor
