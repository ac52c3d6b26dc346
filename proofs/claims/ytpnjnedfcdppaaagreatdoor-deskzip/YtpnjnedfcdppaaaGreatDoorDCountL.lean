/-
  DeskCounts, walked.
-/
import Derived.Test.YtpnjnedfcdppaaaGreatDoorDNl
import Derived.Test.YtpnjnedfcdppaaaGreatDoorDRef
import Derived.Test.YtpnjnedfcdppaaaGreatDoorDLivesAll
namespace Go.Proofs.YtpnjnedfcdppaaaGreatDoor
open Go.RowKit

theorem dl_lim {l : List UInt8} (h : 8192 < l.length ∨ 100 < (dln l).length) : deskP l = [101, 114, 114, 111, 114, 32, 50, 10] := by
  unfold deskP
  split
  · decide
  · rename_i h1
    rw [if_pos (by omega)]
    decide
theorem dl_runs {l : List UInt8} (h1 : l.length ≤ 8192) (h2 : (dln l).length ≤ 100) : deskP l = dRunL [] (dln l) := by
  unfold deskP
  rw [if_neg (by omega), if_neg (by omega)]
theorem deskP_len (l : List UInt8) : (deskP l).length ≤ 1000000000 := by
  rcases Decidable.em (8192 < l.length ∨ 100 < (dln l).length) with h | h
  · rw [dl_lim h]; decide
  · rw [dl_runs (by omega) (by omega), ← stK_all]
    have := (stK_len (dln l) (dln l).length (Nat.le_refl _)).1
    omega
theorem tr2 {a b c : World} (h : Below a.heap.size a b) (k : Below b.heap.size b c) : Below a.heap.size a c := h.trans (k.mono h.size)
set_option maxRecDepth 100000 in
set_option maxHeartbeats 8000000 in
theorem DCount_lim (l : List UInt8) (w : World) (hl : l.length ≤ 1048576) (h : 8192 < l.length ∨ 100 < (dln l).length) (hL : LD w) : Calls Tryz.prog 4 #[.string (bsv l)] w (RetYes w) := by
  have HLV := Lib.hid fun wz hz => deskLives_any wz hz
  have HLD := Lib.hid hL
  have HDL := Lib.hid (DeskLines_any l w hl hL)
  have HR := Lib.hid fun wz hz => Run_dany l wz (by omega) hz
  rw [dl_lim h] at HR
  have hsz : (bsv l).size = l.length := bsv_size l
  obtain ⟨m, hm⟩ : ∃ m, (dln l).length = m := ⟨_, rfl⟩
  have HM := Lib.hid hm
  obtain ⟨n, hn⟩ : ∃ n, l.length = n := ⟨_, rfl⟩
  rw [hm, hn] at h
  rw [hn] at hsz
  clear hm hn hl hL
  by_cases h1 : 8192 < n
  · have f1 : (8192 : Int) < (n : Int) := by omega
    clear h
    go_enter Tryz.func4, Tryz.ntmps4
    go_wp2_with fail
    refine HDL.out.mono ?_
    rintro e w1 ⟨v, rfl, -, hb1⟩
    rw [HM.out]
    have HB1 := Lib.hid hb1
    clear hb1
    go_wp2_with fail
    refine (HR.out _ (HLD.out.next HB1.out)).mono ?_
    rintro e w2 ⟨rfl, hb2⟩
    have HB2 := Lib.hid (tr2 HB1.out hb2)
    clear hb2
    go_wp2_with fail
    refine (HLV.out _ (HLD.out.next HB2.out)).mono ?_
    rintro e w3 ⟨rfl, hb3⟩
    have HB3 := Lib.hid (tr2 HB2.out hb3)
    clear hb3
    go_wp2_with fail
    refine (HLV.out _ (HLD.out.next HB3.out)).mono ?_
    rintro e w4 ⟨rfl, hb4⟩
    have HB4 := Lib.hid (tr2 HB3.out hb4)
    clear hb4
    go_wp2
    go_ret
    exact ⟨rfl, HB4.out⟩
  · have f1 : ¬ (8192 : Int) < (n : Int) := by omega
    have f2 : (100 : Int) < (m : Int) := by omega
    clear h
    go_enter Tryz.func4, Tryz.ntmps4
    go_wp2_with fail
    refine HDL.out.mono ?_
    rintro e w1 ⟨v, rfl, -, hb1⟩
    rw [HM.out]
    have HB1 := Lib.hid hb1
    clear hb1
    go_wp2_with fail
    refine (HR.out _ (HLD.out.next HB1.out)).mono ?_
    rintro e w2 ⟨rfl, hb2⟩
    have HB2 := Lib.hid (tr2 HB1.out hb2)
    clear hb2
    go_wp2_with fail
    refine (HLV.out _ (HLD.out.next HB2.out)).mono ?_
    rintro e w3 ⟨rfl, hb3⟩
    have HB3 := Lib.hid (tr2 HB2.out hb3)
    clear hb3
    go_wp2_with fail
    refine (HLV.out _ (HLD.out.next HB3.out)).mono ?_
    rintro e w4 ⟨rfl, hb4⟩
    have HB4 := Lib.hid (tr2 HB3.out hb4)
    clear hb4
    go_wp2
    go_ret
    exact ⟨rfl, HB4.out⟩
set_option maxRecDepth 100000 in
set_option maxHeartbeats 8000000 in
theorem DCount_ok (l : List UInt8) (w : World) (h1 : l.length ≤ 8192) (h2 : (dln l).length ≤ 100) (hL : LD w) : Calls Tryz.prog 4 #[.string (bsv l)] w (RetYes w) := by
  have HLV := Lib.hid fun wz hz => deskLives_any wz hz
  have HLD := Lib.hid hL
  have HDL := Lib.hid (DeskLines_any l w (by omega) hL)
  have HR := Lib.hid fun wz hz => Run_dany l wz (by omega) hz
  have hol := deskP_len l
  rw [dl_runs h1 h2] at HR hol
  have hc := dRunL_count (dln l) []
  have he := dRunL_end (dln l) []
  have hsz : (bsv l).size = l.length := bsv_size l
  obtain ⟨m, hm⟩ : ∃ m, (dln l).length = m := ⟨_, rfl⟩
  have HM := Lib.hid hm
  obtain ⟨n, hn⟩ : ∃ n, l.length = n := ⟨_, rfl⟩
  rw [hn] at hsz h1
  rw [hm] at hc h2
  obtain ⟨o, ho⟩ : ∃ o, dRunL [] (dln l) = o := ⟨_, rfl⟩
  rw [ho] at HR hc he hol
  have f1 : ¬ (8192 : Int) < (n : Int) := by omega
  have f2 : ¬ (100 : Int) < (m : Int) := by omega
  have HCN : Hid (∀ wz, Calls Tryz.prog 15 #[.string (bsv o), .string ⟨#[10]⟩] wz fun e w' => e = .returned (.int .i64 (m : Int)) ∧ w' = wz) := fun wz => by
    have h := Tryz.strings_Count_one (bsv o) 10 wz
    unfold Lib.countByte at h
    rw [bsv_data, hc] at h
    exact h
  have HSX : Hid (∀ wz, Calls Tryz.prog 16 #[.string (bsv o), .string ⟨#[10]⟩] wz fun e w' => e = .returned (.bool (Lib.hasSuffix o [10])) ∧ w' = wz) := fun wz => by
    have h := Tryz.strings_HasSuffix (bsv o) (bsv [10]) wz (by rw [bsv_size]; omega)
    rw [bsv_data, bsv_data] at h
    exact h
  have HE := Lib.hid he
  clear hm hn hL ho h1 h2 hc he hol
  go_enter Tryz.func4, Tryz.ntmps4
  go_wp2_with fail
  refine HDL.out.mono ?_
  rintro e w1 ⟨v, rfl, -, hb1⟩
  rw [HM.out]
  have HB1 := Lib.hid hb1
  clear hb1
  go_wp2_with fail
  refine (HR.out _ (HLD.out.next HB1.out)).mono ?_
  rintro e w2 ⟨rfl, hb2⟩
  have HB2 := Lib.hid (tr2 HB1.out hb2)
  clear hb2
  go_wp2_with fail
  refine (HLV.out _ (HLD.out.next HB2.out)).mono ?_
  rintro e w3 ⟨rfl, hb3⟩
  have HB3 := Lib.hid (tr2 HB2.out hb3)
  clear hb3
  go_wp2_with fail
  refine (HCN.out _).mono ?_
  rintro e w4 ⟨rfl, rfl⟩
  by_cases h0 : o = []
  · have hoe : o.isEmpty = true := by rw [h0]; rfl
    clear h0
    go_wp2
    go_ret
    exact ⟨by simp, HB3.out⟩
  · have hoe : o.isEmpty = false := by cases o with | nil => exact absurd rfl h0 | cons a t => rfl
    have hs := HE.out.resolve_left h0
    rw [hs] at HSX
    clear h0 hs
    go_wp2_with fail
    refine (HSX.out _).mono ?_
    rintro e w5 ⟨rfl, rfl⟩
    go_wp2
    go_ret
    exact ⟨by simp, HB3.out⟩
theorem DCountL_any (l : List UInt8) (w : World) (hl : l.length ≤ 1048576) (hL : LD w) : Calls Tryz.prog 4 #[.string (bsv l)] w (RetYes w) := by
  rcases Decidable.em (8192 < l.length ∨ 100 < (dln l).length) with h | h
  · exact DCount_lim l w hl h hL
  · exact DCount_ok l w (by omega) (by omega) hL
end Go.Proofs.YtpnjnedfcdppaaaGreatDoor
