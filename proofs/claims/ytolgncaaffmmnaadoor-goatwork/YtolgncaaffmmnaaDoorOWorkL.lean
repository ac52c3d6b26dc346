/-
  GoatWork: GALPERIN, RIVEST: no more is built.
-/
import Derived.Test.YtolgncaaffmmnaaDoorOSumAll
import Derived.Test.YtolgncaaffmmnaaDoorOCountAll
namespace Go.Proofs.YtolgncaaffmmnaaDoor
open Go.RowKit

set_option maxRecDepth 100000 in
set_option maxHeartbeats 8000000 in
theorem OWorkL_small (A : Option Addr) (n c : Nat) (ops : List OP) (w : World) (h : OS w A n c ops) (hn : n ≤ 300) (hT : Tb w) :
    Calls Tryd.prog 5 #[.slice A n c] w fun e w' => e = .returned (.bool true) ∧ Below w.heap.size w w' := by
  have hgb := go_bounds ops (by rw [h.len]; exact hn)
  obtain ⟨m, hm⟩ : ∃ m, (goT ops).t.size = m := ⟨_, rfl⟩
  have hm2 : m ≤ 200 := by rw [← hm]; exact hgb.size
  have hwk := go_work ops
  have hcap := (go_inv ops).inv.cap
  have hcl := cn_le ops
  rw [h.len] at hcl
  have hbl := hgb.built
  have HC := Lib.hid (ORun_any A n c m ops w h hn hm)
  have H := Lib.hid h
  have HL := Lib.hid h.len
  have HT := Lib.hid hT
  have HM := Lib.hid hm
  have HWK := Lib.hid hwk
  have HCAP := Lib.hid hcap
  have HCL := Lib.hid hcl
  have HBL := Lib.hid hbl
  clear hwk hcap hcl hbl
  clear h hT hgb hm
  go_enter Tryd.func5, Tryd.ntmps5
  go_wp2_with fail
  refine HC.out.mono ?_
  rintro e w1 ⟨A1, c1, A2, n2, c2, rfl, hps, has, hb1⟩
  obtain rfl : n2 = n := by rw [← has.len, runR_len]; exact HL.out
  have HP1 := Lib.hid hps
  have HA1 := Lib.hid has
  have HB1 := Lib.hid hb1
  have HT1 := Lib.hid (HT.out.next hb1)
  have H1 := Lib.hid (H.out.below hb1)
  clear hps has hb1 HC H
  go_wp2_with fail
  refine (goatLives_any w1 HT1.out).mono ?_
  rintro e w2 ⟨rfl, hb2⟩
  have HB2 := Lib.hid (below_next HB1.out hb2)
  have HP2 := Lib.hid (HP1.out.below hb2)
  have HA2 := Lib.hid (HA1.out.below hb2)
  have H2 := Lib.hid (H1.out.below hb2)
  clear hb2 HP1 HA1 H1
  obtain ⟨w3, hw3⟩ : ∃ w3, w3 = w2 := ⟨_, rfl⟩
  subst hw3
  have HB3 := Lib.hid HB2.out
  have HA3 := Lib.hid HA2.out
  have H3 := Lib.hid H2.out
  clear HP2 HA2 H2 HB2
  go_wp2
  go_loopg [7, 8, 9, 10, 35] n2 (fun m cm wn nw tp i wr => ∃ k : Nat, k ≤ n2 ∧ n2 - k ≤ m ∧ i = .int .i64 k ∧ cm = I (goN (ops.take k)).came ∧ wn = I (goN (ops.take k)).went ∧ nw = I (goN (ops.take k)).now ∧ tp = I (goN (ops.take k)).top ∧ Below w3.heap.size w3 wr)
  case atStart => exact ⟨0, Nat.zero_le _, by omega, rfl, rfl, rfl, rfl, rfl, Below.refl _ _⟩
  case round =>
    obtain ⟨k, hk, hkm, rfl, rfl, rfl, rfl, rfl, hnx⟩ := hrel
    have HNX := Lib.hid hnx
    have hsz := hnx.size
    clear hnx
    by_cases hlt : k < n2
    · obtain ⟨b, off, rfl, hb, hc⟩ := H3.out.at_ (by omega)
      obtain ⟨ba, offa, rfl, hba, hca⟩ := HA3.out.at_ (by omega)
      have hkl : k < ops.length := by rw [HL.out]; exact hlt
      have hc0 : wr.cell? ⟨b, off + k * 3, none⟩ = some (I ops[k].1) := (HNX.out.cell (by exact hb)).trans (hc k hlt).1
      have hc1 : wr.cell? ⟨b, off + k * 3 + 1, none⟩ = some (I ops[k].2.1) := (HNX.out.cell (by exact hb)).trans (hc k hlt).2.1
      have hc2 : wr.cell? ⟨b, off + k * 3 + 2, none⟩ = some (I ops[k].2.2) := (HNX.out.cell (by exact hb)).trans (hc k hlt).2.2
      have hcak := hca k hlt
      rw [runR_ans ops k hkl] at hcak
      obtain ⟨q1, q2, q3, hcn⟩ := cn_step ops k hkl _ rfl _ rfl _ rfl
      generalize doA (runR (ops.take k)).1 ops[k].1 ops[k].2.1 = a at hcak hcn
      generalize ops[k] = o at hc0 hc1 hc2 hcn
      obtain ⟨kind, key, val⟩ := o
      simp only at hc0 hc1 hc2 hcn
      have ha0 : wr.cell? ⟨ba, offa + k * 4, none⟩ = some (I a.e) := (HNX.out.cell (by exact hba)).trans hcak.1
      have ha3 : wr.cell? ⟨ba, offa + k * 4 + 3, none⟩ = some (.bool a.b) := (HNX.out.cell (by exact hba)).trans hcak.2.2.2
      have hbw : b < wr.heap.size := by omega
      have hbaw : ba < wr.heap.size := by omega
      have HN2 := Lib.hid (HNX.out.alloc hsz (opO kind key val))
      clear hc hca hcak
      obtain ⟨ae, ak, av, ab⟩ := a
      simp only at ha0 ha3 hcn
      obtain ⟨c0, hc0'⟩ : ∃ c0, goN (ops.take k) = c0 := ⟨_, rfl⟩
      rw [hc0'] at q1 q2 q3 hcn ⊢
      clear hc0'
      obtain ⟨came, went, now, top⟩ := c0
      simp only at q1 q2 q3 hcn ⊢
      rcases hcn with ⟨e1, e2⟩ | ⟨rfl, rfl, rfl, e2⟩ | ⟨rfl, rfl, rfl, e1, e2⟩ | ⟨rfl, e1, e2⟩
      · have hne := oerr_ne e1
        have HS := Lib.hid e2
        clear e1 e2
        go_wp2
        go_roundg (gk - 1)
        case measure => omega
        case rel => exact ⟨k + 1, by omega, by omega, by go_num, by rw [HS.out], by rw [HS.out], by rw [HS.out], by rw [HS.out], HN2.out⟩
      · have HS := Lib.hid e2
        obtain ⟨T, hT'⟩ : ∃ T, max top (now + 1) = T := ⟨_, rfl⟩
        rw [hT'] at HS
        have hmx : (if (top : Int) < (now : Int) + 1 then (now : Int) + 1 else (top : Int)) = (T : Int) := by split <;> omega
        clear e2 hT'
        go_wp2
        go_roundg (gk - 1)
        case measure => omega
        case rel => exact ⟨k + 1, by omega, by omega, by go_num, by rw [HS.out]; go_num, by rw [HS.out], by rw [HS.out]; go_num, by rw [HS.out], HN2.out⟩
      · have HS := Lib.hid e2
        have hmx : (if (top : Int) < (now : Int) - 1 then (now : Int) - 1 else (top : Int)) = (top : Int) := by split <;> omega
        clear e2
        go_wp2
        go_roundg (gk - 1)
        case measure => omega
        case rel => exact ⟨k + 1, by omega, by omega, by go_num, by rw [HS.out], by rw [HS.out]; go_num, by rw [HS.out]; go_num, by rw [HS.out], HN2.out⟩
      · have HS := Lib.hid e2
        have hmx : (if (top : Int) < (now : Int) then (now : Int) else (top : Int)) = (top : Int) := by split <;> omega
        clear e2
        rcases e1 with ⟨rfl, rfl⟩ | ⟨rfl, rfl⟩ | ⟨e1, e2⟩
        · go_wp2
          go_roundg (gk - 1)
          case measure => omega
          case rel => exact ⟨k + 1, by omega, by omega, by go_num, by rw [HS.out], by rw [HS.out], by rw [HS.out], by rw [HS.out], HN2.out⟩
        · go_wp2
          go_roundg (gk - 1)
          case measure => omega
          case rel => exact ⟨k + 1, by omega, by omega, by go_num, by rw [HS.out], by rw [HS.out], by rw [HS.out], by rw [HS.out], HN2.out⟩
        · have h1 : (kind == 1) = false := by simpa using e1
          have h3 : (kind == 3) = false := by simpa using e2
          clear e1 e2
          go_wp2
          go_roundg (gk - 1)
          case measure => omega
          case rel => exact ⟨k + 1, by omega, by omega, by go_num, by rw [HS.out], by rw [HS.out], by rw [HS.out], by rw [HS.out], HN2.out⟩
    · have htk : ops.take k = ops := List.take_of_length_le (by rw [HL.out]; omega)
      rw [htk]
      clear htk
      have HBX := Lib.hid (below_next HB3.out HNX.out)
      have hwk := HWK.out
      have hcap := HCAP.out
      have hcl := HCL.out
      have hbl := HBL.out
      obtain ⟨cc, hcc⟩ : ∃ cc, goN ops = cc := ⟨_, rfl⟩
      rw [hcc] at hwk hcap hcl ⊢
      clear hcc
      obtain ⟨came, went, now, top⟩ := cc
      simp only at hwk hcap hcl ⊢
      generalize (goT ops).built = bu at *
      have HDT := Lib.hid (ODeepest_ok top wr hcap)
      have hDb := dpst_mono hcap
      rw [dpst_200] at hDb
      generalize dpst top = D at *
      obtain ⟨Z, hZ⟩ : ∃ Z, (came + went) * (D + 2) = Z := ⟨_, rfl⟩
      have hZb : Z ≤ 300 * 15 := by rw [← hZ]; exact Nat.mul_le_mul (by omega) (by omega)
      rw [hZ] at hwk
      have hz1 : 6 * ((came : Int) + (went : Int)) * ((D : Int) + 2) = 6 * (Z : Int) := by
        rw [Int.mul_assoc, ← hZ]
        simp
      have hle : (bu : Int) ≤ 6 * (Z : Int) := by omega
      have hz2 : IntKind.i64.wrap (6 * (Z : Int)) = 6 * (Z : Int) := IntWalk.i64_in _ (by omega)
      have hmn : ¬ (200 : Int) < (top : Int) := by omega
      clear hZ HWK HCAP HCL HBL hwk
      go_wp2_with fail
      refine HDT.out.mono ?_
      rintro e w5 ⟨rfl, hw5⟩
      subst hw5
      go_wp2
      go_ret
      exact ⟨rfl, HBX.out⟩


set_option maxRecDepth 100000 in
set_option maxHeartbeats 4000000 in
theorem OWorkL_large (A : Option Addr) (n c : Nat) (w : World) (hn : 300 < n) (hm : n ≤ 9223372036854775807) (hT : Tb w) :
    Calls Tryd.prog 5 #[.slice A n c] w fun e w' => e = .returned (.bool true) ∧ Below w.heap.size w w' := by
  have HR := Lib.hid (ORun_large A n c w hn hm)
  have HT := Lib.hid hT
  clear hT
  go_enter Tryd.func5, Tryd.ntmps5
  go_wp2_with fail
  refine HR.out.mono ?_
  rintro e w1 ⟨A1, c1, A2, n2, c2, rfl, hps, has, hb1⟩
  have HB1 := Lib.hid hb1
  have HT1 := Lib.hid (HT.out.next hb1)
  clear hps has hb1 HR
  go_wp2_with fail
  refine (goatLives_any w1 HT1.out).mono ?_
  rintro e w2 ⟨rfl, hb2⟩
  have HB2 := Lib.hid (below_next HB1.out hb2)
  have HT2 := Lib.hid (HT1.out.next hb2)
  clear hb2
  go_wp2_with fail
  refine (goatLives_any w2 HT2.out).mono ?_
  rintro e w3 ⟨rfl, hb3⟩
  have HB3 := Lib.hid (below_next HB2.out hb3)
  clear hb3
  go_wp2
  go_ret
  exact ⟨rfl, HB3.out⟩
theorem OWorkL_any (A : Option Addr) (n c : Nat) (ops : List OP) (w : World) (h : OS w A n c ops) (hn : n ≤ 9223372036854775807) (hT : Tb w) :
    Calls Tryd.prog 5 #[.slice A n c] w fun e w' => e = .returned (.bool true) ∧ Below w.heap.size w w' := by
  by_cases hc : n ≤ 300
  · exact OWorkL_small A n c ops w h hc hT
  · exact OWorkL_large A n c w (by omega) hn hT

end Go.Proofs.YtolgncaaffmmnaaDoor
