/-
  Joined texts: YtpnjnedfcdppaaaGreatDoorDLineF, YtpnjnedfcdppaaaGreatDoorDLineG, YtpnjnedfcdppaaaGreatDoorDLineH.
-/
import Derived.Test.YtpnjnedfcdppaaaGreatDoorDLineEAll
import Derived.Test.YtpnjnedfcdppaaaGreatDoorKRef4All
import Derived.Test.YtpnjnedfcdppaaaGreatDoorGRefGAll
import Derived.Test.YtpnjnedfcdppaaaGreatDoorZRunsAll
import Derived.Test.YtpnjnedfcdppaaaGreatDoorOGoatedAll
import Derived.Test.YtpnjnedfcdppaaaGreatDoorGRefUAll
import Derived.Test.YtpnjnedfcdppaaaGreatDoorOSumAll
import Derived.Test.YtpnjnedfcdppaaaGreatDoorDWordsAll
import Derived.Test.YtpnjnedfcdppaaaGreatDoorDLivesAll
import Derived.Test.YtpnjnedfcdppaaaGreatDoorDWay3All
/-
  hedgref.deskLine: lines with too few words, or too many; rows. Written by tools/gen_dline.py.
-/
namespace Go.Proofs.YtpnjnedfcdppaaaGreatDoor
open Go.RowKit

set_option maxRecDepth 100000 in
set_option maxHeartbeats 8000000 in
theorem ln_many_rows {A A' W : Option Addr} {n c n' c' m mc : Nat} {ops : List OP} {f : List UInt8} {r : List (List UInt8)} {w : World} (h : LnA w A n c A' n' c' W m mc ops (f :: r)) (hk : kindB f = 0) (hf : f = [114, 111, 119, 115]) (h0 : r.length ≠ 0) (h1 : r.length ≠ 1) :
    Calls Tryz.prog 49 #[.slice A n c, .slice A' n' c', .slice W m mc] w (RetLine ops (f :: r) w) := by
  obtain ⟨m1, rfl⟩ : ∃ k, m = k + 1 := ⟨r.length, by have := h.wd.len; simp at this; omega⟩
  have hrl : r.length = m1 := by have := h.wd.len; simp at this; omega
  obtain ⟨b, off, rfl, hb, hcs⟩ := h.wd.at_ (by omega)
  have HX := Lib.hid h
  have HC0 : Hid (∀ wz, Below w.heap.size w wz → wz.cell? ⟨b, off, none⟩ = some (.string (bsv f))) := fun wz hz => (hz.cell (p := ⟨b, off, none⟩) hb).trans (hcs 0 (by omega))
  have hc0 := HC0.out w (Below.refl _ _)
  have c0n : (w.alloc namO).cell? ⟨b, off, none⟩ = some (.string (bsv f)) := HC0.out _ ((Below.refl _ _).alloc (Nat.le_refl _) _)
  have HWR : Hid (∀ wz, Below w.heap.size w wz → WS wz (some ⟨b, off + 1, none⟩) m1 (mc - 1) r ∧ (mc = 1 → ∀ A9, WS wz A9 m1 0 r)) := fun wz hz => ws_rest h.wd hz
  have hm10 := h.m1
  have hcap := h.wd.cap
  have hn1 : (1 : Int) ≤ (m1 : Int) + 1 := by omega
  have hcq1 : (m1 : Int) + 1 ≤ (mc : Int) := by omega
  have hcq2 : (1 : Int) ≤ (mc : Int) := by omega
  have hn0 : (0 : Int) < (m1 : Int) + 1 := by omega
  have HIX := Lib.hid (ix_no hk)
  obtain ⟨kn, hkn⟩ : ∃ x, (kys (runR ops).1).length = x := ⟨_, rfl⟩
  have hk200 : kn ≤ 200 := by rw [← hkn]; exact (rise_kys (chk_runR ops)).len
  have HMK : Hid (∀ wz, Below w.heap.size w wz → Calls Tryz.prog 106 #[.slice A n c] wz fun e w' => ∃ KA kc, e = .returned (.slice KA kn kc) ∧ IS w' KA kn kc (kys (runR ops).1) ∧ Below wz.heap.size wz w') := fun wz hz => by
    rw [← hkn]
    exact MapKeys_any A n c (runR ops).1 wz (h.ps.below hz) (by rw [← h.ps.len, ← kys_len]; omega)
  have HRK := Lib.hid (rise_kys (chk_runR ops))
  have HKN := Lib.hid hkn
  clear hkn
  have hfr : (f == [114, 111, 119, 115]) = true := by rw [hf]; exact beq_self_eq_true _
  have HA : Hid (dAns ops (f :: r) = (e1T, ops)) := dAns_many hk h1 (fun _ => h0)
  have hm1b : (((m1 : Int) + 1) == 1) = false := by simp; omega
  have hm2b : (((m1 : Int) + 1) != 2) = true := by simp; omega
  clear hk hf h0 h1
  clear h hcs hrl
  go_enter Tryz.func49, Tryz.ntmps49
  go_wp2_with fail
  refine (index_any (some ⟨w.heap.size, 0, none⟩) 7 7 nmL f _ (ws_names w) (by omega)).mono ?_
  rintro e w1 ⟨rfl, hw1⟩
  have HB1 : Hid (Below w.heap.size w w1) := by show Below _ _ _; rw [hw1]; exact (Below.refl _ _).alloc (Nat.le_refl _) _
  have c01 := HC0.out w1 HB1.out
  rw [HIX.out]
  clear hw1
  go_wp2_with fail
  refine (HMK.out w1 HB1.out).mono ?_
  rintro e w2 ⟨KA, kc, rfl, hki, hb2⟩
  have HKI := Lib.hid hki
  have HB2 := Lib.hid (tr2 HB1.out hb2)
  have c02 := HC0.out w2 HB2.out
  clear hki hb2 c01 hc0 c0n
  go_wp2
  go_ret3
  exact ln_same HX.out HA.out HB2.out e1_bsv.symm
set_option maxRecDepth 100000 in
set_option maxHeartbeats 8000000 in
theorem ln_many {A A' W : Option Addr} {n c n' c' m mc : Nat} {ops : List OP} {f : List UInt8} {r : List (List UInt8)} {w : World} (h : LnA w A n c A' n' c' W m mc ops (f :: r)) (hk : kindB f = 0) (hf : f ≠ [114, 111, 119, 115]) (h1 : r.length ≠ 1) :
    Calls Tryz.prog 49 #[.slice A n c, .slice A' n' c', .slice W m mc] w (RetLine ops (f :: r) w) := by
  obtain ⟨m1, rfl⟩ : ∃ k, m = k + 1 := ⟨r.length, by have := h.wd.len; simp at this; omega⟩
  have hrl : r.length = m1 := by have := h.wd.len; simp at this; omega
  obtain ⟨b, off, rfl, hb, hcs⟩ := h.wd.at_ (by omega)
  have HX := Lib.hid h
  have HC0 : Hid (∀ wz, Below w.heap.size w wz → wz.cell? ⟨b, off, none⟩ = some (.string (bsv f))) := fun wz hz => (hz.cell (p := ⟨b, off, none⟩) hb).trans (hcs 0 (by omega))
  have hc0 := HC0.out w (Below.refl _ _)
  have c0n : (w.alloc namO).cell? ⟨b, off, none⟩ = some (.string (bsv f)) := HC0.out _ ((Below.refl _ _).alloc (Nat.le_refl _) _)
  have HWR : Hid (∀ wz, Below w.heap.size w wz → WS wz (some ⟨b, off + 1, none⟩) m1 (mc - 1) r ∧ (mc = 1 → ∀ A9, WS wz A9 m1 0 r)) := fun wz hz => ws_rest h.wd hz
  have hm10 := h.m1
  have hcap := h.wd.cap
  have hn1 : (1 : Int) ≤ (m1 : Int) + 1 := by omega
  have hcq1 : (m1 : Int) + 1 ≤ (mc : Int) := by omega
  have hcq2 : (1 : Int) ≤ (mc : Int) := by omega
  have hn0 : (0 : Int) < (m1 : Int) + 1 := by omega
  have HIX := Lib.hid (ix_no hk)
  obtain ⟨kn, hkn⟩ : ∃ x, (kys (runR ops).1).length = x := ⟨_, rfl⟩
  have hk200 : kn ≤ 200 := by rw [← hkn]; exact (rise_kys (chk_runR ops)).len
  have HMK : Hid (∀ wz, Below w.heap.size w wz → Calls Tryz.prog 106 #[.slice A n c] wz fun e w' => ∃ KA kc, e = .returned (.slice KA kn kc) ∧ IS w' KA kn kc (kys (runR ops).1) ∧ Below wz.heap.size wz w') := fun wz hz => by
    rw [← hkn]
    exact MapKeys_any A n c (runR ops).1 wz (h.ps.below hz) (by rw [← h.ps.len, ← kys_len]; omega)
  have HRK := Lib.hid (rise_kys (chk_runR ops))
  have HKN := Lib.hid hkn
  clear hkn
  have hfr : (f == [114, 111, 119, 115]) = false := by simpa using hf
  have HA : Hid (dAns ops (f :: r) = (e1T, ops)) := dAns_many hk h1 (fun e => absurd e hf)
  have hm2b : (((m1 : Int) + 1) != 2) = true := by simp; omega
  clear hk hf h1
  clear h hcs hrl
  go_enter Tryz.func49, Tryz.ntmps49
  go_wp2_with fail
  refine (index_any (some ⟨w.heap.size, 0, none⟩) 7 7 nmL f _ (ws_names w) (by omega)).mono ?_
  rintro e w1 ⟨rfl, hw1⟩
  have HB1 : Hid (Below w.heap.size w w1) := by show Below _ _ _; rw [hw1]; exact (Below.refl _ _).alloc (Nat.le_refl _) _
  have c01 := HC0.out w1 HB1.out
  rw [HIX.out]
  clear hw1
  go_wp2_with fail
  refine (HMK.out w1 HB1.out).mono ?_
  rintro e w2 ⟨KA, kc, rfl, hki, hb2⟩
  have HKI := Lib.hid hki
  have HB2 := Lib.hid (tr2 HB1.out hb2)
  have c02 := HC0.out w2 HB2.out
  clear hki hb2 c01 hc0 c0n
  go_wp2
  go_ret3
  exact ln_same HX.out HA.out HB2.out e1_bsv.symm
theorem join_ne {a : List UInt8} {t : List (List UInt8)} {sep : List UInt8} (h : a ≠ []) : Lib.join (a :: t) sep ≠ [] := by
  rw [Lib.join_cons]
  cases a with
  | nil => exact absurd rfl h
  | cons x r => simp
theorem row_facts {l : List Int} (hR : Rise l) {k : Nat} (hk : k < (rowsL l).length) : (rowsL l)[k] ≠ [] ∧ (rowsL l)[k].length ≤ 200 ∧ ∀ x ∈ (rowsL l)[k], 0 ≤ x ∧ x < 1000000000 := by
  have hk2 : k < hiR l := by rw [rowsL_len] at hk; exact hk
  have e : (rowsL l)[k] = rowL l k := by
    have := rowsL_at l k hk2
    rw [List.getElem?_eq_getElem hk] at this
    exact Option.some.inj this
  rw [e]
  refine ⟨hiR_some l k hk2, Nat.le_trans (rowL_len l k) hR.len, fun x hx => ?_⟩
  have := hR.bd x (List.mem_filter.mp hx).1
  omega
theorem rows_ne {l : List Int} (hR : Rise l) (h : 0 < (rowsL l).length) : rowsT (rowsL l) ≠ [] := by
  have h1 := (row_facts hR h).1
  unfold rowsT
  cases hr : rowsL l with
  | nil => rw [hr] at h; exact absurd h (by simp)
  | cons a t =>
    refine join_ne (jnd_ne ?_)
    have : (rowsL l)[0] = a := by simp [hr]
    rw [← this]
    exact h1
set_option maxRecDepth 100000 in
set_option maxHeartbeats 8000000 in
theorem ln_rows {A A' W : Option Addr} {n c n' c' m mc : Nat} {ops : List OP} {f : List UInt8} {r : List (List UInt8)} {w : World} (h : LnA w A n c A' n' c' W m mc ops (f :: r)) (hk : kindB f = 0) (hf : f = [114, 111, 119, 115]) (h0 : r.length = 0) :
    Calls Tryz.prog 49 #[.slice A n c, .slice A' n' c', .slice W m mc] w (RetLine ops (f :: r) w) := by
  obtain ⟨m1, rfl⟩ : ∃ k, m = k + 1 := ⟨r.length, by have := h.wd.len; simp at this; omega⟩
  have hrl : r.length = m1 := by have := h.wd.len; simp at this; omega
  obtain ⟨b, off, rfl, hb, hcs⟩ := h.wd.at_ (by omega)
  have HX := Lib.hid h
  have HC0 : Hid (∀ wz, Below w.heap.size w wz → wz.cell? ⟨b, off, none⟩ = some (.string (bsv f))) := fun wz hz => (hz.cell (p := ⟨b, off, none⟩) hb).trans (hcs 0 (by omega))
  have hc0 := HC0.out w (Below.refl _ _)
  have c0n : (w.alloc namO).cell? ⟨b, off, none⟩ = some (.string (bsv f)) := HC0.out _ ((Below.refl _ _).alloc (Nat.le_refl _) _)
  have HWR : Hid (∀ wz, Below w.heap.size w wz → WS wz (some ⟨b, off + 1, none⟩) m1 (mc - 1) r ∧ (mc = 1 → ∀ A9, WS wz A9 m1 0 r)) := fun wz hz => ws_rest h.wd hz
  have hm10 := h.m1
  have hcap := h.wd.cap
  have hn1 : (1 : Int) ≤ (m1 : Int) + 1 := by omega
  have hcq1 : (m1 : Int) + 1 ≤ (mc : Int) := by omega
  have hcq2 : (1 : Int) ≤ (mc : Int) := by omega
  have hn0 : (0 : Int) < (m1 : Int) + 1 := by omega
  have HIX := Lib.hid (ix_no hk)
  obtain ⟨kn, hkn⟩ : ∃ x, (kys (runR ops).1).length = x := ⟨_, rfl⟩
  have hk200 : kn ≤ 200 := by rw [← hkn]; exact (rise_kys (chk_runR ops)).len
  have HMK : Hid (∀ wz, Below w.heap.size w wz → Calls Tryz.prog 106 #[.slice A n c] wz fun e w' => ∃ KA kc, e = .returned (.slice KA kn kc) ∧ IS w' KA kn kc (kys (runR ops).1) ∧ Below wz.heap.size wz w') := fun wz hz => by
    rw [← hkn]
    exact MapKeys_any A n c (runR ops).1 wz (h.ps.below hz) (by rw [← h.ps.len, ← kys_len]; omega)
  have HRK := Lib.hid (rise_kys (chk_runR ops))
  have HKN := Lib.hid hkn
  clear hkn
  have hfr : (f == [114, 111, 119, 115]) = true := by rw [hf]; exact beq_self_eq_true _
  have HA : Hid (dAns ops (f :: r) = (orN (rowsT (rowsL (kys (runR ops).1))), ops)) := by show _ = _; rw [dAns_rows hf, if_pos h0]
  have hm1b : (((m1 : Int) + 1) == 1) = true := by simp; omega
  have hTL := rows_txt (L := rowsL (kys (runR ops).1)) (by rw [rowsL_len]; exact hiR_le _) (fun r9 hr' => by
    obtain ⟨i, _, rfl⟩ := List.mem_map.mp hr'
    exact Nat.le_trans (rowL_len _ i) HRK.out.len)
  have hR12 : (rowsL (kys (runR ops).1)).length ≤ 12 := by rw [rowsL_len]; exact hiR_le _
  obtain ⟨j0, hj, hy0, hy1, hy2⟩ := info_parts str_info
  have HJ := Lib.hid hj
  have HY0 := Lib.hid hy0
  have HY1 := Lib.hid hy1
  have HY2 := Lib.hid hy2
  clear hk hf h0 hj hy0 hy1 hy2
  clear h hcs hrl
  go_enter Tryz.func49, Tryz.ntmps49
  go_wp2_with fail
  refine (index_any (some ⟨w.heap.size, 0, none⟩) 7 7 nmL f _ (ws_names w) (by omega)).mono ?_
  rintro e w1 ⟨rfl, hw1⟩
  have HB1 : Hid (Below w.heap.size w w1) := by show Below _ _ _; rw [hw1]; exact (Below.refl _ _).alloc (Nat.le_refl _) _
  have c01 := HC0.out w1 HB1.out
  rw [HIX.out]
  clear hw1
  go_wp2_with fail
  refine (HMK.out w1 HB1.out).mono ?_
  rintro e w2 ⟨KA, kc, rfl, hki, hb2⟩
  have HKI := Lib.hid hki
  have HB2 := Lib.hid (tr2 HB1.out hb2)
  have c02 := HC0.out w2 HB2.out
  clear hki hb2 c01 hc0 c0n
  go_wp2_with fail
  refine (RowsOf_any KA kn kc _ w2 HKI.out (by omega)).mono ?_
  rintro e w3 ⟨RA, rm, rc, rfl, hri, hb3⟩
  have hrm : rm ≤ 12 := by rw [← hri.len]; exact hR12
  have HRI := Lib.hid hri
  have HRL := Lib.hid hri.len
  have HB3 := Lib.hid (tr2 HB2.out hb3)
  have HTL := Lib.hid hTL
  have HRF := Lib.hid fun (k : Nat) hk => row_facts HRK.out (k := k) hk
  have HRN := Lib.hid (rows_ne HRK.out)
  obtain ⟨L, hL⟩ : ∃ L, rowsL (kys (runR ops).1) = L := ⟨_, rfl⟩
  rw [hL] at HRI HRL HTL HRF HRN HA
  clear hri hb3 hTL hR12 hL c02
  go_wp2
  go_loopw [20, 144] (fun v iv wr => ∃ k : Nat, k ≤ rm ∧ iv = .int .i64 k ∧ Hid (wr.ownsRow w3.heap.size 9 1 v k (((L.take k).map jnd).map fun x => Value.string (bsv x))) ∧ Hid (Below w3.heap.size w3 wr)) (fun _ iv _ => rm - (intOf iv).toNat)
  case atStart => exact ⟨0, Nat.zero_le _, rfl, World.ownsRow_nil _ _ _ _, Below.refl _ _⟩
  case round =>
    obtain ⟨k, hk, rfl, HO, HB⟩ := hrel
    by_cases hkn : k < rm
    · obtain ⟨b7, off7, rfl, hb7, hc7⟩ := HRI.out.at_ (by omega)
      obtain ⟨A8, n8, c8, hcell, his⟩ := hc7 k hkn
      have hkl : k < L.length := by rw [HRL.out]; exact hkn
      obtain ⟨hf1, hf2, hf3⟩ := HRF.out k hkl
      have hrow : L[k]?.getD [] = L[k] := by rw [List.getElem?_eq_getElem hkl]; rfl
      rw [hrow] at his
      have e0 : wr.cell? ⟨b7, off7 + k, none⟩ = some (.slice A8 n8 c8) := (HB.out.cell (p := ⟨b7, off7 + k, none⟩) hb7).trans hcell
      obtain ⟨row, hrw⟩ : ∃ x, L[k] = x := ⟨_, rfl⟩
      have HTK : Hid (((L.take (k + 1)).map jnd).map (fun x => Value.string (bsv x)) = ((L.take k).map jnd).map (fun x => Value.string (bsv x)) ++ [.string (bsv (jnd row))]) := by
        show _ = _
        rw [List.take_succ_eq_append_getElem hkl, hrw]
        simp
      rw [hrw] at his hf1 hf2 hf3
      have HW : Hid (Calls Tryz.prog 108 #[.slice A8 n8 c8] wr fun e w' => e = .returned (.string (bsv (jnd row))) ∧ Below wr.heap.size wr w') := by
        have h9 := wordsOf_any A8 n8 c8 row wr (his.below HB.out) (by rw [← his.len]; omega) hf3
        unfold orN at h9
        rwa [if_neg (jnd_ne hf1)] at h9
      have hsz := HB.out.size
      clear hc7 hcell his hf1 hf2 hf3 hrow hrw hkl
      go_wp2_with fail
      refine HW.out.mono ?_
      rintro e w5 ⟨rfl, hb5⟩
      have HB5 := Lib.hid (tr2 HB.out hb5)
      have HO5 := Lib.hid (own_below HO.out hb5)
      have hsz5 := HB5.out.size
      clear hb5
      go_wp2_with (first
        | (at_builtin
           refine wpList_append_own_at _ rfl (.tmp 148) (.tmp 151) 30 rfl w3.heap.size 9 j0 _ 1 16 Tryz.underlying30 HJ.out HY0.out HY1.out HY2.out rfl (by omega) _ k _ rfl (own_below HO5.out ((Below.refl _ _).alloc (Nat.le_refl _) _)) ⟨w5.heap.size, 0, none⟩ 1 1 [.string (bsv (jnd row))] rfl rfl (cell_one_new _ _ _) (one_S _) (by unfold maxLen; omega) (by omega) (by simp; omega) ?_
           intro v6 w6 hown6 hgrow6 _ hat6)
        | fail)
      go_roundw
      case rel =>
        refine ⟨k + 1, by omega, by go_num, ?_, ?_⟩
        · show World.ownsRow _ _ _ _ _ _ _
          rw [HTK.out]
          exact hown6
        · exact Below.grown (HB5.out.alloc hsz5 _) hgrow6 (by simp; omega) (own_ge1 HO5.out)
      case measure => simp [intOf]; omega
    · obtain rfl : k = rm := by omega
      have htk : L.take k = L := List.take_of_length_le (by rw [HRL.out]; exact Nat.le_refl _)
      rw [htk] at HO
      have HBE := Lib.hid (tr2 HB3.out HB.out)
      rcases Nat.eq_zero_or_pos k with h0 | h0
      · subst h0
        obtain ⟨A7, c7, rfl⟩ := own_sl HO.out
        have hl0 : L = [] := List.eq_nil_of_length_eq_zero HRL.out
        have HL0 := Lib.hid hl0
        clear htk hl0
        go_wp2
        go_ret3
        exact ln_same HX.out HA.out HBE.out (by rw [HL0.out]; rfl)
      · have hml : (L.map jnd).length = k := by rw [List.length_map]; exact HRL.out
        have hRN := HRN.out (by rw [HRL.out]; exact h0)
        obtain ⟨A7, c7, hv, hj⟩ := join_own (ws := L.map jnd) (by rw [hml]; exact HO.out) (by intro e; rw [e] at hml; simp at hml; omega) [124] (by omega) (by have := HTL.out; show (rowsT L).length ≤ _; omega)
        rw [hml] at hv hj
        subst hv
        have HJN := Lib.hid hj
        have HOR : Hid (Lib.join (L.map jnd) [124] = orN (rowsT L)) := by show _ = _; unfold orN; rw [if_neg hRN]; rfl
        have f0 : ((k : Int) == 0) = false := by simp; omega
        have f1 : ¬ ((k : Int) = 0) := by omega
        clear hj htk hml hRN
        go_wp2_with fail
        refine HJN.out.mono ?_
        rintro e w6 ⟨rfl, hb6⟩
        have HB6 := Lib.hid (tr2 HBE.out hb6)
        clear hb6
        go_wp2
        go_ret3
        exact ln_same HX.out HA.out HB6.out (congrArg bsv HOR.out)
end Go.Proofs.YtpnjnedfcdppaaaGreatDoor

/-
  hedgref.deskLine: path. Written by tools/gen_dline.py.
-/
namespace Go.Proofs.YtpnjnedfcdppaaaGreatDoor
open Go.RowKit

set_option maxRecDepth 100000 in
set_option maxHeartbeats 8000000 in
theorem ln_path_bad {A A' W : Option Addr} {n c n' c' m mc : Nat} {ops : List OP} {f : List UInt8} {r : List (List UInt8)} {w : World} (h : LnA w A n c A' n' c' W m mc ops (f :: r)) (hk : kindB f = 0) (hf : f = [112, 97, 116, 104]) (h1 : r.length = 1) (hr : nmsL r = none) :
    Calls Tryz.prog 49 #[.slice A n c, .slice A' n' c', .slice W m mc] w (RetLine ops (f :: r) w) := by
  obtain ⟨m1, rfl⟩ : ∃ k, m = k + 1 := ⟨r.length, by have := h.wd.len; simp at this; omega⟩
  have hrl : r.length = m1 := by have := h.wd.len; simp at this; omega
  obtain ⟨b, off, rfl, hb, hcs⟩ := h.wd.at_ (by omega)
  have HX := Lib.hid h
  have HC0 : Hid (∀ wz, Below w.heap.size w wz → wz.cell? ⟨b, off, none⟩ = some (.string (bsv f))) := fun wz hz => (hz.cell (p := ⟨b, off, none⟩) hb).trans (hcs 0 (by omega))
  have hc0 := HC0.out w (Below.refl _ _)
  have c0n : (w.alloc namO).cell? ⟨b, off, none⟩ = some (.string (bsv f)) := HC0.out _ ((Below.refl _ _).alloc (Nat.le_refl _) _)
  have HWR : Hid (∀ wz, Below w.heap.size w wz → WS wz (some ⟨b, off + 1, none⟩) m1 (mc - 1) r ∧ (mc = 1 → ∀ A9, WS wz A9 m1 0 r)) := fun wz hz => ws_rest h.wd hz
  have hm10 := h.m1
  have hcap := h.wd.cap
  have hn1 : (1 : Int) ≤ (m1 : Int) + 1 := by omega
  have hcq1 : (m1 : Int) + 1 ≤ (mc : Int) := by omega
  have hcq2 : (1 : Int) ≤ (mc : Int) := by omega
  have hn0 : (0 : Int) < (m1 : Int) + 1 := by omega
  have HIX := Lib.hid (ix_no hk)
  obtain ⟨kn, hkn⟩ : ∃ x, (kys (runR ops).1).length = x := ⟨_, rfl⟩
  have hk200 : kn ≤ 200 := by rw [← hkn]; exact (rise_kys (chk_runR ops)).len
  have HMK : Hid (∀ wz, Below w.heap.size w wz → Calls Tryz.prog 106 #[.slice A n c] wz fun e w' => ∃ KA kc, e = .returned (.slice KA kn kc) ∧ IS w' KA kn kc (kys (runR ops).1) ∧ Below wz.heap.size wz w') := fun wz hz => by
    rw [← hkn]
    exact MapKeys_any A n c (runR ops).1 wz (h.ps.below hz) (by rw [← h.ps.len, ← kys_len]; omega)
  have HRK := Lib.hid (rise_kys (chk_runR ops))
  have HKN := Lib.hid hkn
  clear hkn
  have hfp : (f == [112, 97, 116, 104]) = true := by rw [hf]; exact beq_self_eq_true _
  have hfr : (f == [114, 111, 119, 115]) = false := by rw [hf]; decide
  have hm1 : m1 = 1 := by rw [← hrl]; exact h1
  have hm2b : (((m1 : Int) + 1) != 2) = false := by simp; omega
  have hnms : nms 1 r = nmsL r := by unfold nms; rw [if_pos h1]
  have HNUM : Hid (∀ A9 c9 wz, WS wz A9 m1 c9 r → Calls Tryz.prog 102 #[.slice A9 m1 c9] wz (RetNum (none) wz)) := fun A9 c9 wz hz => by
    have := refNums_any A9 m1 c9 r wz hz (by omega) (fun x hx => h.wl x (List.mem_cons_of_mem _ hx))
    rwa [hr] at this
  have HA : Hid (dAns ops (f :: r) = (e1T, ops)) := by show _ = _; rw [dAns_path hf, hnms, hr]; rfl
  clear hk hf h1 hr hnms hm1
  clear h hcs hrl
  go_enter Tryz.func49, Tryz.ntmps49
  go_wp2_with fail
  refine (index_any (some ⟨w.heap.size, 0, none⟩) 7 7 nmL f _ (ws_names w) (by omega)).mono ?_
  rintro e w1 ⟨rfl, hw1⟩
  have HB1 : Hid (Below w.heap.size w w1) := by show Below _ _ _; rw [hw1]; exact (Below.refl _ _).alloc (Nat.le_refl _) _
  have c01 := HC0.out w1 HB1.out
  rw [HIX.out]
  clear hw1
  go_wp2_with fail
  refine (HMK.out w1 HB1.out).mono ?_
  rintro e w2 ⟨KA, kc, rfl, hki, hb2⟩
  have HKI := Lib.hid hki
  have HB2 := Lib.hid (tr2 HB1.out hb2)
  have c02 := HC0.out w2 HB2.out
  clear hki hb2 c01 hc0 c0n
  go_wp2_with fail
  all_goals
    refine (HNUM.out _ _ w2 ?hw).mono ?_
    case hw => first | with_reducible exact (HWR.out w2 HB2.out).1 | exact (HWR.out w2 HB2.out).2 (by omega) _
    rintro e w3 ⟨rfl, hb3⟩
    have HB3 := Lib.hid (tr2 HB2.out hb3)
    clear hb3
    go_wp2
    go_ret3
    exact ln_same HX.out HA.out HB3.out e1_bsv.symm
set_option maxRecDepth 100000 in
set_option maxHeartbeats 8000000 in
theorem ln_path_big {A A' W : Option Addr} {n c n' c' m mc : Nat} {ops : List OP} {f : List UInt8} {r : List (List UInt8)} {w : World} (h : LnA w A n c A' n' c' W m mc ops (f :: r)) (hk : kindB f = 0) (hf : f = [112, 97, 116, 104]) (h1 : r.length = 1) {k0 : Nat} (hr : nmsL r = some [k0]) (hbg : 1000000 < k0) :
    Calls Tryz.prog 49 #[.slice A n c, .slice A' n' c', .slice W m mc] w (RetLine ops (f :: r) w) := by
  obtain ⟨m1, rfl⟩ : ∃ k, m = k + 1 := ⟨r.length, by have := h.wd.len; simp at this; omega⟩
  have hrl : r.length = m1 := by have := h.wd.len; simp at this; omega
  obtain ⟨b, off, rfl, hb, hcs⟩ := h.wd.at_ (by omega)
  have HX := Lib.hid h
  have HC0 : Hid (∀ wz, Below w.heap.size w wz → wz.cell? ⟨b, off, none⟩ = some (.string (bsv f))) := fun wz hz => (hz.cell (p := ⟨b, off, none⟩) hb).trans (hcs 0 (by omega))
  have hc0 := HC0.out w (Below.refl _ _)
  have c0n : (w.alloc namO).cell? ⟨b, off, none⟩ = some (.string (bsv f)) := HC0.out _ ((Below.refl _ _).alloc (Nat.le_refl _) _)
  have HWR : Hid (∀ wz, Below w.heap.size w wz → WS wz (some ⟨b, off + 1, none⟩) m1 (mc - 1) r ∧ (mc = 1 → ∀ A9, WS wz A9 m1 0 r)) := fun wz hz => ws_rest h.wd hz
  have hm10 := h.m1
  have hcap := h.wd.cap
  have hn1 : (1 : Int) ≤ (m1 : Int) + 1 := by omega
  have hcq1 : (m1 : Int) + 1 ≤ (mc : Int) := by omega
  have hcq2 : (1 : Int) ≤ (mc : Int) := by omega
  have hn0 : (0 : Int) < (m1 : Int) + 1 := by omega
  have HIX := Lib.hid (ix_no hk)
  obtain ⟨kn, hkn⟩ : ∃ x, (kys (runR ops).1).length = x := ⟨_, rfl⟩
  have hk200 : kn ≤ 200 := by rw [← hkn]; exact (rise_kys (chk_runR ops)).len
  have HMK : Hid (∀ wz, Below w.heap.size w wz → Calls Tryz.prog 106 #[.slice A n c] wz fun e w' => ∃ KA kc, e = .returned (.slice KA kn kc) ∧ IS w' KA kn kc (kys (runR ops).1) ∧ Below wz.heap.size wz w') := fun wz hz => by
    rw [← hkn]
    exact MapKeys_any A n c (runR ops).1 wz (h.ps.below hz) (by rw [← h.ps.len, ← kys_len]; omega)
  have HRK := Lib.hid (rise_kys (chk_runR ops))
  have HKN := Lib.hid hkn
  clear hkn
  have hfp : (f == [112, 97, 116, 104]) = true := by rw [hf]; exact beq_self_eq_true _
  have hfr : (f == [114, 111, 119, 115]) = false := by rw [hf]; decide
  have hm1 : m1 = 1 := by rw [← hrl]; exact h1
  have hm2b : (((m1 : Int) + 1) != 2) = false := by simp; omega
  have hnms : nms 1 r = nmsL r := by unfold nms; rw [if_pos h1]
  have HNUM : Hid (∀ A9 c9 wz, WS wz A9 m1 c9 r → Calls Tryz.prog 102 #[.slice A9 m1 c9] wz (RetNum (some [k0]) wz)) := fun A9 c9 wz hz => by
    have := refNums_any A9 m1 c9 r wz hz (by omega) (fun x hx => h.wl x (List.mem_cons_of_mem _ hx))
    rwa [hr] at this
  have HA : Hid (dAns ops (f :: r) = (e1T, ops)) := by show _ = _; rw [dAns_path hf, hnms, hr, pathR_f (by unfold kyB; exact decide_eq_false (by omega))]
  have hgt : (1000000 : Int) < (k0 : Int) := by omega
  clear hk hf h1 hr hnms hm1
  clear h hcs hrl
  go_enter Tryz.func49, Tryz.ntmps49
  go_wp2_with fail
  refine (index_any (some ⟨w.heap.size, 0, none⟩) 7 7 nmL f _ (ws_names w) (by omega)).mono ?_
  rintro e w1 ⟨rfl, hw1⟩
  have HB1 : Hid (Below w.heap.size w w1) := by show Below _ _ _; rw [hw1]; exact (Below.refl _ _).alloc (Nat.le_refl _) _
  have c01 := HC0.out w1 HB1.out
  rw [HIX.out]
  clear hw1
  go_wp2_with fail
  refine (HMK.out w1 HB1.out).mono ?_
  rintro e w2 ⟨KA, kc, rfl, hki, hb2⟩
  have HKI := Lib.hid hki
  have HB2 := Lib.hid (tr2 HB1.out hb2)
  have c02 := HC0.out w2 HB2.out
  clear hki hb2 c01 hc0 c0n
  go_wp2_with fail
  all_goals
    refine (HNUM.out _ _ w2 ?hw).mono ?_
    case hw => first | with_reducible exact (HWR.out w2 HB2.out).1 | exact (HWR.out w2 HB2.out).2 (by omega) _
    rintro e w3 ⟨v9, rfl, ho9, hb3⟩
    obtain ⟨A9, c9, rfl, _, his9⟩ := ownI_told (n := 1) ho9 rfl
    obtain ⟨b9, off9, rfl, hb9, hcs9⟩ := his9.at_ (by omega)
    have e0 : w3.cell? ⟨b9, off9, none⟩ = some (I k0) := hcs9 0 (by omega)
    have HB3 := Lib.hid (tr2 HB2.out hb3)
    have HKI3 := Lib.hid (HKI.out.below hb3)
    clear hb3 ho9 his9 hcs9
    go_wp2
    go_ret3
    exact ln_same HX.out HA.out HB3.out e1_bsv.symm
set_option maxRecDepth 100000 in
set_option maxHeartbeats 8000000 in
theorem ln_path_ok {A A' W : Option Addr} {n c n' c' m mc : Nat} {ops : List OP} {f : List UInt8} {r : List (List UInt8)} {w : World} (h : LnA w A n c A' n' c' W m mc ops (f :: r)) (hk : kindB f = 0) (hf : f = [112, 97, 116, 104]) (h1 : r.length = 1) {k0 : Nat} (hr : nmsL r = some [k0]) (hbg : k0 ≤ 1000000) :
    Calls Tryz.prog 49 #[.slice A n c, .slice A' n' c', .slice W m mc] w (RetLine ops (f :: r) w) := by
  obtain ⟨m1, rfl⟩ : ∃ k, m = k + 1 := ⟨r.length, by have := h.wd.len; simp at this; omega⟩
  have hrl : r.length = m1 := by have := h.wd.len; simp at this; omega
  obtain ⟨b, off, rfl, hb, hcs⟩ := h.wd.at_ (by omega)
  have HX := Lib.hid h
  have HC0 : Hid (∀ wz, Below w.heap.size w wz → wz.cell? ⟨b, off, none⟩ = some (.string (bsv f))) := fun wz hz => (hz.cell (p := ⟨b, off, none⟩) hb).trans (hcs 0 (by omega))
  have hc0 := HC0.out w (Below.refl _ _)
  have c0n : (w.alloc namO).cell? ⟨b, off, none⟩ = some (.string (bsv f)) := HC0.out _ ((Below.refl _ _).alloc (Nat.le_refl _) _)
  have HWR : Hid (∀ wz, Below w.heap.size w wz → WS wz (some ⟨b, off + 1, none⟩) m1 (mc - 1) r ∧ (mc = 1 → ∀ A9, WS wz A9 m1 0 r)) := fun wz hz => ws_rest h.wd hz
  have hm10 := h.m1
  have hcap := h.wd.cap
  have hn1 : (1 : Int) ≤ (m1 : Int) + 1 := by omega
  have hcq1 : (m1 : Int) + 1 ≤ (mc : Int) := by omega
  have hcq2 : (1 : Int) ≤ (mc : Int) := by omega
  have hn0 : (0 : Int) < (m1 : Int) + 1 := by omega
  have HIX := Lib.hid (ix_no hk)
  obtain ⟨kn, hkn⟩ : ∃ x, (kys (runR ops).1).length = x := ⟨_, rfl⟩
  have hk200 : kn ≤ 200 := by rw [← hkn]; exact (rise_kys (chk_runR ops)).len
  have HMK : Hid (∀ wz, Below w.heap.size w wz → Calls Tryz.prog 106 #[.slice A n c] wz fun e w' => ∃ KA kc, e = .returned (.slice KA kn kc) ∧ IS w' KA kn kc (kys (runR ops).1) ∧ Below wz.heap.size wz w') := fun wz hz => by
    rw [← hkn]
    exact MapKeys_any A n c (runR ops).1 wz (h.ps.below hz) (by rw [← h.ps.len, ← kys_len]; omega)
  have HRK := Lib.hid (rise_kys (chk_runR ops))
  have HKN := Lib.hid hkn
  clear hkn
  have hfp : (f == [112, 97, 116, 104]) = true := by rw [hf]; exact beq_self_eq_true _
  have hfr : (f == [114, 111, 119, 115]) = false := by rw [hf]; decide
  have hm1 : m1 = 1 := by rw [← hrl]; exact h1
  have hm2b : (((m1 : Int) + 1) != 2) = false := by simp; omega
  have hnms : nms 1 r = nmsL r := by unfold nms; rw [if_pos h1]
  have HNUM : Hid (∀ A9 c9 wz, WS wz A9 m1 c9 r → Calls Tryz.prog 102 #[.slice A9 m1 c9] wz (RetNum (some [k0]) wz)) := fun A9 c9 wz hz => by
    have := refNums_any A9 m1 c9 r wz hz (by omega) (fun x hx => h.wl x (List.mem_cons_of_mem _ hx))
    rwa [hr] at this
  have hky : kyB (k0 : Int) = true := by unfold kyB; exact decide_eq_true (by omega)
  have HA : Hid (dAns ops (f :: r) = (orN (jnd ((stops (kys (runR ops).1) k0).map Prod.snd)), ops)) := by show _ = _; rw [dAns_path hf, hnms, hr, pathR_t hky]
  have hgt : ¬ (1000000 : Int) < (k0 : Int) := by omega
  have HST : Hid (∀ KA kc wz, IS wz KA kn kc (kys (runR ops).1) → Calls Tryz.prog 110 #[.slice KA kn kc, I k0] wz (RetSt (stops (kys (runR ops).1) k0) wz)) := fun KA kc wz hz => Stops_any KA kn kc _ k0 wz hz HRK.out hky
  have hsl : (stops (kys (runR ops).1) k0).length ≤ 12 * (kys (runR ops).1).length := stTo_len _ _ 12
  rw [HKN.out] at hsl
  have HSM : Hid (∀ s ∈ stops (kys (runR ops).1) k0, 0 ≤ s.2 ∧ s.2 < 1000000000) := fun s hs => by
    have := HRK.out.bd s.2 (stops_mem HRK.out k0 s hs)
    omega
  obtain ⟨p, hp⟩ : ∃ p, stops (kys (runR ops).1) k0 = p := ⟨_, rfl⟩
  rw [hp] at HA HST hsl HSM
  obtain ⟨sn, hsn⟩ : ∃ x, p.length = x := ⟨_, rfl⟩
  have HSN := Lib.hid hsn
  rw [hsn] at hsl
  obtain ⟨i0, hi, hz0, hz1, hz2⟩ := info_parts int_info
  have HI := Lib.hid hi
  have HZ0 := Lib.hid hz0
  have HZ1 := Lib.hid hz1
  have HZ2 := Lib.hid hz2
  clear hk hf h1 hr hnms hm1 hbg hky hp hsn hi hz0 hz1 hz2
  clear h hcs hrl
  go_enter Tryz.func49, Tryz.ntmps49
  go_wp2_with fail
  refine (index_any (some ⟨w.heap.size, 0, none⟩) 7 7 nmL f _ (ws_names w) (by omega)).mono ?_
  rintro e w1 ⟨rfl, hw1⟩
  have HB1 : Hid (Below w.heap.size w w1) := by show Below _ _ _; rw [hw1]; exact (Below.refl _ _).alloc (Nat.le_refl _) _
  have c01 := HC0.out w1 HB1.out
  rw [HIX.out]
  clear hw1
  go_wp2_with fail
  refine (HMK.out w1 HB1.out).mono ?_
  rintro e w2 ⟨KA, kc, rfl, hki, hb2⟩
  have HKI := Lib.hid hki
  have HB2 := Lib.hid (tr2 HB1.out hb2)
  have c02 := HC0.out w2 HB2.out
  clear hki hb2 c01 hc0 c0n
  go_wp2_with fail
  all_goals
    refine (HNUM.out _ _ w2 ?hw).mono ?_
    case hw => first | with_reducible exact (HWR.out w2 HB2.out).1 | exact (HWR.out w2 HB2.out).2 (by omega) _
    rintro e w3 ⟨v9, rfl, ho9, hb3⟩
    obtain ⟨A9, c9, rfl, _, his9⟩ := ownI_told (n := 1) ho9 rfl
    obtain ⟨b9, off9, rfl, hb9, hcs9⟩ := his9.at_ (by omega)
    have e0 : w3.cell? ⟨b9, off9, none⟩ = some (I k0) := hcs9 0 (by omega)
    have HB3 := Lib.hid (tr2 HB2.out hb3)
    have HKI3 := Lib.hid (HKI.out.below hb3)
    clear hb3 ho9 his9 hcs9
    go_wp2_with fail
    refine (HST.out _ _ w3 HKI3.out).mono ?_
    rintro e w4 ⟨SA, scp, rfl, hps, hb4⟩
    rw [HSN.out] at hps ⊢
    have HPS := Lib.hid hps
    have HB4 := Lib.hid (tr2 HB3.out hb4)
    clear hps hb4 e0 c02
    go_wp2
    go_loopw [25, 196] (fun v iv wr => ∃ k : Nat, k ≤ sn ∧ iv = .int .i64 k ∧ Hid (wr.ownsRow w4.heap.size 3 1 v k (((p.take k).map Prod.snd).map I)) ∧ Hid (Below w4.heap.size w4 wr)) (fun _ iv _ => sn - (intOf iv).toNat)
    case atStart => exact ⟨0, Nat.zero_le _, rfl, World.ownsRow_nil _ _ _ _, Below.refl _ _⟩
    case round =>
      obtain ⟨k, hk, rfl, HO, HB⟩ := hrel
      by_cases hkn : k < sn
      · obtain ⟨b7, off7, rfl, hb7, hc7⟩ := HPS.out.at_ (by omega)
        have hkl : k < p.length := by rw [HSN.out]; exact hkn
        obtain ⟨x, hx⟩ : ∃ x, p[k].1 = x := ⟨_, rfl⟩
        obtain ⟨y, hy⟩ : ∃ y, p[k].2 = y := ⟨_, rfl⟩
        have q0 : wr.cell? ⟨b7, off7 + k * 2, none⟩ = some (I x) := by rw [← hx]; exact (HB.out.cell (p := ⟨b7, off7 + k * 2, none⟩) hb7).trans (hc7 k hkn).1
        have q1 : wr.cell? ⟨b7, off7 + k * 2 + 1, none⟩ = some (I y) := by rw [← hy]; exact (HB.out.cell (p := ⟨b7, off7 + k * 2 + 1, none⟩) hb7).trans (hc7 k hkn).2
        have HTK : Hid (((p.take (k + 1)).map Prod.snd).map I = ((p.take k).map Prod.snd).map I ++ [I y]) := by
          show _ = _
          rw [List.take_succ_eq_append_getElem hkl, List.map_append, List.map_append, List.map_singleton, List.map_singleton, hy]
        have hsz := HB.out.size
        clear hc7 hx hy hkl
        go_wp2_with (first
          | (at_builtin
             refine wpList_append_own_at _ rfl (.tmp 200) (.tmp 203) 46 rfl w4.heap.size 3 i0 _ 1 8 Tryz.underlying46 HI.out HZ0.out HZ1.out HZ2.out rfl (by omega) _ k _ rfl (own_below HO.out (((Below.refl _ _).alloc (Nat.le_refl _) _).alloc (by simp) _)) ⟨wr.heap.size + 1, 0, none⟩ 1 1 [I y] rfl rfl (by have := cell_one_new (wr.alloc (.cells #[I x, I y] 173)) (I y) 3; simpa using this) (one_I y) (by unfold maxLen; omega) (by omega) (by simp; omega) ?_
             intro v6 w6 hown6 hgrow6 _ hat6)
          | fail)
        go_roundw
        case rel =>
          refine ⟨k + 1, by omega, by go_num, ?_, ?_⟩
          · show World.ownsRow _ _ _ _ _ _ _
            rw [HTK.out]
            exact hown6
          · exact Below.grown ((HB.out.alloc hsz _).alloc (by simp; omega) _) hgrow6 (by simp; omega) (own_ge1 HO.out)
        case measure => simp [intOf]; omega
      · obtain rfl : k = sn := by omega
        have htk : p.take k = p := List.take_of_length_le (by rw [HSN.out]; exact Nat.le_refl _)
        rw [htk] at HO
        obtain ⟨A7, c7, rfl⟩ := own_sl HO.out
        have HOI : OwnI wr w4.heap.size (.slice A7 k c7) (p.map Prod.snd) := by
          unfold OwnI
          rw [List.length_map, HSN.out]
          exact HO.out
        obtain ⟨A8, c8, e8, _, his7⟩ := ownI_told (n := k) HOI (by rw [List.length_map]; exact HSN.out)
        cases e8
        have HBE := Lib.hid (tr2 HB4.out HB.out)
        have HW := Lib.hid (wordsOf_any A7 k c7 (p.map Prod.snd) wr his7 (by omega) (fun x hx => by obtain ⟨s, hs, rfl⟩ := List.mem_map.mp hx; exact HSM.out s hs))
        clear htk HOI his7
        go_wp2_with fail
        refine HW.out.mono ?_
        rintro e w6 ⟨rfl, hb6⟩
        have HB6 := Lib.hid (tr2 HBE.out hb6)
        clear hb6
        go_wp2
        go_ret3
        exact ln_same HX.out HA.out HB6.out rfl
end Go.Proofs.YtpnjnedfcdppaaaGreatDoor

/-
  hedgref.deskLine: trees. Written by tools/gen_dline.py.
-/
namespace Go.Proofs.YtpnjnedfcdppaaaGreatDoor
open Go.RowKit

theorem dtall_le (t : Tr) : t.tall ≤ t.size := by
  induction t with
  | nil => exact Nat.le_refl _
  | node a k b iha ihb =>
    show max a.tall b.tall + 1 ≤ a.size + 1 + b.size
    omega
end Go.Proofs.YtpnjnedfcdppaaaGreatDoor
