/-
  Joined texts: YtpnjnedfcdppaaaGreatDoorDLineH2, YtpnjnedfcdppaaaGreatDoorDLineH3.
-/
import Derived.Test.YtpnjnedfcdppaaaGreatDoorDLineEAll
import Derived.Test.YtpnjnedfcdppaaaGreatDoorKRef4All
import Derived.Test.YtpnjnedfcdppaaaGreatDoorGRefGAll
import Derived.Test.YtpnjnedfcdppaaaGreatDoorZRunsAll
import Derived.Test.YtpnjnedfcdppaaaGreatDoorOGoatedAll
import Derived.Test.YtpnjnedfcdppaaaGreatDoorGRefUAll
import Derived.Test.YtpnjnedfcdppaaaGreatDoorOSumAll
import Derived.Test.YtpnjnedfcdppaaaGreatDoorDWordsAll
import Derived.Test.YtpnjnedfcdppaaaGreatDoorDLivesAll
import Derived.Test.YtpnjnedfcdppaaaGreatDoorDWay3All
import Derived.Test.YtpnjnedfcdppaaaGreatDoorDLineHAll
/-
  hedgref.deskLine: tree and deep of goat. Written by tools/gen_dline.py.
-/
namespace Go.Proofs.YtpnjnedfcdppaaaGreatDoor
open Go.RowKit

set_option maxRecDepth 100000 in
set_option maxHeartbeats 8000000 in
theorem ln_tree_goat {A A' W : Option Addr} {n c n' c' m mc : Nat} {ops : List OP} {f : List UInt8} {x : List UInt8} {w : World} (h : LnA w A n c A' n' c' W m mc ops (f :: [x])) (hk : kindB f = 0) (hf : f = [116, 114, 101, 101]) (hx : x = [103, 111, 97, 116]) :
    Calls Tryz.prog 49 #[.slice A n c, .slice A' n' c', .slice W m mc] w (RetLine ops (f :: [x]) w) := by
  obtain ⟨m1, rfl⟩ : ∃ k, m = k + 1 := ⟨1, by have h9 : 2 = m := h.wd.len; omega⟩
  have hrl : [x].length = m1 := by have h9 : 2 = m1 + 1 := h.wd.len; show 1 = m1; omega
  obtain ⟨b, off, rfl, hb, hcs⟩ := h.wd.at_ (by omega)
  have HX := Lib.hid h
  have HC0 : Hid (∀ wz, Below w.heap.size w wz → wz.cell? ⟨b, off, none⟩ = some (.string (bsv f))) := fun wz hz => (hz.cell (p := ⟨b, off, none⟩) hb).trans (hcs 0 (by omega))
  have hc0 := HC0.out w (Below.refl _ _)
  have c0n : (w.alloc namO).cell? ⟨b, off, none⟩ = some (.string (bsv f)) := HC0.out _ ((Below.refl _ _).alloc (Nat.le_refl _) _)
  have HWR : Hid (∀ wz, Below w.heap.size w wz → WS wz (some ⟨b, off + 1, none⟩) m1 (mc - 1) [x] ∧ (mc = 1 → ∀ A9, WS wz A9 m1 0 [x])) := fun wz hz => ws_rest h.wd hz
  have hm10 := h.m1
  have hcap := h.wd.cap
  have hn1 : (1 : Int) ≤ (m1 : Int) + 1 := by omega
  have hcq1 : (m1 : Int) + 1 ≤ (mc : Int) := by omega
  have hcq2 : (1 : Int) ≤ (mc : Int) := by omega
  have hn0 : (0 : Int) < (m1 : Int) + 1 := by omega
  have HIX := Lib.hid (ix_no hk)
  obtain ⟨kn, hkn⟩ : ∃ x, (kys (runR ops).1).length = x := ⟨_, rfl⟩
  have hk200 : kn ≤ 200 := by rw [← hkn]; exact (rise_kys (chk_runR ops)).len
  have HMK : Hid (∀ wz, Below w.heap.size w wz → Calls Tryz.prog 106 #[.slice A n c] wz fun e w' => ∃ KA kc, e = .returned (.slice KA kn kc) ∧ IS w' KA kn kc (kys (runR ops).1) ∧ Below wz.heap.size wz w') := fun wz hz => by
    rw [← hkn]
    exact MapKeys_any A n c (runR ops).1 wz (h.ps.below hz) (by rw [← h.ps.len, ← kys_len]; omega)
  have HRK := Lib.hid (rise_kys (chk_runR ops))
  have HKN := Lib.hid hkn
  clear hkn
  have hwx : w.cell? ⟨b, off + 1, none⟩ = some (.string (bsv x)) := hcs 1 (by have h9 : 1 = m1 := hrl; omega)
  have HCX : Hid (∀ wz, Below w.heap.size w wz → wz.cell? ⟨b, off + 1, none⟩ = some (.string (bsv x))) := fun wz hz => (hz.cell (p := ⟨b, off + 1, none⟩) hb).trans hwx
  have hm1 : m1 = 1 := by rw [← hrl]; rfl
  have hm1b : (((m1 : Int) + 1) == 1) = false := by simp; omega
  have hm2b : (((m1 : Int) + 1) != 2) = false := by simp; omega
  have hi1 : (1 : Int) < (m1 : Int) + 1 := by omega
  have hn3 := h.n3
  have HAW : Hid (∀ wz, Below w.heap.size w wz → Calls Tryz.prog 111 #[.slice A' n' c'] wz (RetAns (runR ops).1 (runR ops).2 wz)) := fun wz hz => Answered_any A' n' c' ops wz (h.os.below hz) (by omega)
  have hfr : (f == [114, 111, 119, 115]) = false := by rw [hf]; decide
  have hfp : (f == [112, 97, 116, 104]) = false := by rw [hf]; decide
  have hft : (f == [116, 114, 101, 101]) = true := by rw [hf]; exact beq_self_eq_true _
  have hfd : (f == [100, 101, 101, 112]) = false := by rw [hf]; decide
  have hx0 : (x == [103, 114, 111, 119]) = false := by rw [hx]; decide
  have hx1 : (x == [122, 105, 112]) = false := by rw [hx]; decide
  have hx2 : (x == [103, 111, 97, 116]) = true := by rw [hx]; decide
  have hdt := show dTree ops x = some ((goT ops).t) by rw [hx]; rfl
  have HA : Hid (dAns ops (f :: [x]) = (orN (jnd ((goT ops).t).pre), ops)) := by show _ = _; rw [dAns_tree hf, ordR_some hdt]
  have hts := (dTree_tree hdt).2
  have HPB : Hid (∀ y ∈ ((goT ops).t).pre, 0 ≤ y ∧ y < 1000000000) := fun y hy => by
    have h9 : y ∈ kys (runR ops).1 := by rw [← dTree_ks hdt]; exact pre_mem hy
    have := HRK.out.bd y h9
    omega
  try clear hk
  try clear hf
  try clear hx
  try clear hwx
  try clear hm1
  try clear hr0
  try clear hp0
  try clear ht0
  try clear hd0
  try clear hnil
  clear hdt
  clear h hcs hrl
  go_enter Tryz.func49, Tryz.ntmps49
  go_wp2_with fail
  refine (index_any (some ⟨w.heap.size, 0, none⟩) 7 7 nmL f _ (ws_names w) (by omega)).mono ?_
  rintro e w1 ⟨rfl, hw1⟩
  have HB1 : Hid (Below w.heap.size w w1) := by show Below _ _ _; rw [hw1]; exact (Below.refl _ _).alloc (Nat.le_refl _) _
  have c01 := HC0.out w1 HB1.out
  rw [HIX.out]
  clear hw1
  go_wp2_with fail
  refine (HMK.out w1 HB1.out).mono ?_
  rintro e w2 ⟨KA, kc, rfl, hki, hb2⟩
  have HKI := Lib.hid hki
  have HB2 := Lib.hid (tr2 HB1.out hb2)
  have c02 := HC0.out w2 HB2.out
  clear hki hb2 c01 hc0 c0n
  go_wp2_with fail
  refine (HAW.out w2 HB2.out).mono ?_
  rintro e w3 ⟨A5, n5, c5, A6, n6, c6, rfl, -, has, hb3⟩
  have hn6 : n6 = n' := by rw [← has.len, ← HX.out.os.len]; exact runR_len ops
  subst hn6
  have HAS := Lib.hid has
  have HB3 := Lib.hid (tr2 HB2.out hb3)
  have HKI3 := Lib.hid (HKI.out.below hb3)
  have HOS3 := Lib.hid (HX.out.os.below HB3.out)
  have cx3 := HCX.out w3 HB3.out
  have cf3 := HC0.out w3 HB3.out
  clear has hb3 c02
  go_wp2_with fail
  refine (Goated_any _ _ _ _ _ ops w3 HOS3.out HAS.out (by omega)).mono ?_
  rintro e w4 ⟨q, rfl, hrt, hb4⟩
  have HRT0 := Lib.hid hrt
  have HB4 := Lib.hid (tr2 HB3.out hb4)
  have cf4 := HC0.out w4 HB4.out
  clear hrt hb4 cx3 cf3
  have HRT : Hid (RT w4 q ((goT ops).t)) := HRT0.out
  obtain ⟨t, ht⟩ : ∃ t, (goT ops).t = t := ⟨_, rfl⟩
  rw [ht] at HRT HA HPB hts
  obtain ⟨tn, htn⟩ : ∃ n, t.size = n := ⟨_, rfl⟩
  have HTN := Lib.hid htn
  rw [htn] at hts
  clear ht htn HRT0
  go_wp2_with fail
  refine (toldKeys_any t q w4 HRT.out (by rw [HTN.out]; omega)).mono ?_
  rintro e w5 ⟨TA, tc, rfl, his5, hb5⟩
  rw [HTN.out] at his5 ⊢
  have HIS5 := Lib.hid his5
  have HB5 := Lib.hid (tr2 HB4.out hb5)
  clear his5 hb5
  go_wp2_with fail
  refine (wordsOf_any TA tn tc t.pre w5 HIS5.out (by omega) HPB.out).mono ?_
  rintro e w6 ⟨rfl, hb6⟩
  have HB6 := Lib.hid (tr2 HB5.out hb6)
  clear hb6
  go_wp2
  go_ret3
  exact ln_same HX.out HA.out HB6.out rfl
set_option maxRecDepth 100000 in
set_option maxHeartbeats 8000000 in
theorem ln_deep0_goat {A A' W : Option Addr} {n c n' c' m mc : Nat} {ops : List OP} {f : List UInt8} {x : List UInt8} {w : World} (h : LnA w A n c A' n' c' W m mc ops (f :: [x])) (hk : kindB f = 0) (hf : f = [100, 101, 101, 112]) (hx : x = [103, 111, 97, 116]) (hnil : (goT ops).t = .nil) :
    Calls Tryz.prog 49 #[.slice A n c, .slice A' n' c', .slice W m mc] w (RetLine ops (f :: [x]) w) := by
  obtain ⟨m1, rfl⟩ : ∃ k, m = k + 1 := ⟨1, by have h9 : 2 = m := h.wd.len; omega⟩
  have hrl : [x].length = m1 := by have h9 : 2 = m1 + 1 := h.wd.len; show 1 = m1; omega
  obtain ⟨b, off, rfl, hb, hcs⟩ := h.wd.at_ (by omega)
  have HX := Lib.hid h
  have HC0 : Hid (∀ wz, Below w.heap.size w wz → wz.cell? ⟨b, off, none⟩ = some (.string (bsv f))) := fun wz hz => (hz.cell (p := ⟨b, off, none⟩) hb).trans (hcs 0 (by omega))
  have hc0 := HC0.out w (Below.refl _ _)
  have c0n : (w.alloc namO).cell? ⟨b, off, none⟩ = some (.string (bsv f)) := HC0.out _ ((Below.refl _ _).alloc (Nat.le_refl _) _)
  have HWR : Hid (∀ wz, Below w.heap.size w wz → WS wz (some ⟨b, off + 1, none⟩) m1 (mc - 1) [x] ∧ (mc = 1 → ∀ A9, WS wz A9 m1 0 [x])) := fun wz hz => ws_rest h.wd hz
  have hm10 := h.m1
  have hcap := h.wd.cap
  have hn1 : (1 : Int) ≤ (m1 : Int) + 1 := by omega
  have hcq1 : (m1 : Int) + 1 ≤ (mc : Int) := by omega
  have hcq2 : (1 : Int) ≤ (mc : Int) := by omega
  have hn0 : (0 : Int) < (m1 : Int) + 1 := by omega
  have HIX := Lib.hid (ix_no hk)
  obtain ⟨kn, hkn⟩ : ∃ x, (kys (runR ops).1).length = x := ⟨_, rfl⟩
  have hk200 : kn ≤ 200 := by rw [← hkn]; exact (rise_kys (chk_runR ops)).len
  have HMK : Hid (∀ wz, Below w.heap.size w wz → Calls Tryz.prog 106 #[.slice A n c] wz fun e w' => ∃ KA kc, e = .returned (.slice KA kn kc) ∧ IS w' KA kn kc (kys (runR ops).1) ∧ Below wz.heap.size wz w') := fun wz hz => by
    rw [← hkn]
    exact MapKeys_any A n c (runR ops).1 wz (h.ps.below hz) (by rw [← h.ps.len, ← kys_len]; omega)
  have HRK := Lib.hid (rise_kys (chk_runR ops))
  have HKN := Lib.hid hkn
  clear hkn
  have hwx : w.cell? ⟨b, off + 1, none⟩ = some (.string (bsv x)) := hcs 1 (by have h9 : 1 = m1 := hrl; omega)
  have HCX : Hid (∀ wz, Below w.heap.size w wz → wz.cell? ⟨b, off + 1, none⟩ = some (.string (bsv x))) := fun wz hz => (hz.cell (p := ⟨b, off + 1, none⟩) hb).trans hwx
  have hm1 : m1 = 1 := by rw [← hrl]; rfl
  have hm1b : (((m1 : Int) + 1) == 1) = false := by simp; omega
  have hm2b : (((m1 : Int) + 1) != 2) = false := by simp; omega
  have hi1 : (1 : Int) < (m1 : Int) + 1 := by omega
  have hn3 := h.n3
  have HAW : Hid (∀ wz, Below w.heap.size w wz → Calls Tryz.prog 111 #[.slice A' n' c'] wz (RetAns (runR ops).1 (runR ops).2 wz)) := fun wz hz => Answered_any A' n' c' ops wz (h.os.below hz) (by omega)
  have hfr : (f == [114, 111, 119, 115]) = false := by rw [hf]; decide
  have hfp : (f == [112, 97, 116, 104]) = false := by rw [hf]; decide
  have hft : (f == [116, 114, 101, 101]) = false := by rw [hf]; decide
  have hfd : (f == [100, 101, 101, 112]) = true := by rw [hf]; exact beq_self_eq_true _
  have hx0 : (x == [103, 114, 111, 119]) = false := by rw [hx]; decide
  have hx1 : (x == [122, 105, 112]) = false := by rw [hx]; decide
  have hx2 : (x == [103, 111, 97, 116]) = true := by rw [hx]; decide
  have hdt := show dTree ops x = some ((goT ops).t) by rw [hx]; rfl
  have HA : Hid (dAns ops (f :: [x]) = ([110, 111, 110, 101], ops)) := by show _ = _; rw [dAns_deep hf, deepR_some hdt, hnil]; rfl
  have HNIL := Lib.hid hnil
  try clear hk
  try clear hf
  try clear hx
  try clear hwx
  try clear hm1
  try clear hr0
  try clear hp0
  try clear ht0
  try clear hd0
  try clear hnil
  clear hdt
  clear h hcs hrl
  go_enter Tryz.func49, Tryz.ntmps49
  go_wp2_with fail
  refine (index_any (some ⟨w.heap.size, 0, none⟩) 7 7 nmL f _ (ws_names w) (by omega)).mono ?_
  rintro e w1 ⟨rfl, hw1⟩
  have HB1 : Hid (Below w.heap.size w w1) := by show Below _ _ _; rw [hw1]; exact (Below.refl _ _).alloc (Nat.le_refl _) _
  have c01 := HC0.out w1 HB1.out
  rw [HIX.out]
  clear hw1
  go_wp2_with fail
  refine (HMK.out w1 HB1.out).mono ?_
  rintro e w2 ⟨KA, kc, rfl, hki, hb2⟩
  have HKI := Lib.hid hki
  have HB2 := Lib.hid (tr2 HB1.out hb2)
  have c02 := HC0.out w2 HB2.out
  clear hki hb2 c01 hc0 c0n
  go_wp2_with fail
  refine (HAW.out w2 HB2.out).mono ?_
  rintro e w3 ⟨A5, n5, c5, A6, n6, c6, rfl, -, has, hb3⟩
  have hn6 : n6 = n' := by rw [← has.len, ← HX.out.os.len]; exact runR_len ops
  subst hn6
  have HAS := Lib.hid has
  have HB3 := Lib.hid (tr2 HB2.out hb3)
  have HKI3 := Lib.hid (HKI.out.below hb3)
  have HOS3 := Lib.hid (HX.out.os.below HB3.out)
  have cx3 := HCX.out w3 HB3.out
  have cf3 := HC0.out w3 HB3.out
  clear has hb3 c02
  go_wp2_with fail
  refine (Goated_any _ _ _ _ _ ops w3 HOS3.out HAS.out (by omega)).mono ?_
  rintro e w4 ⟨q, rfl, hrt, hb4⟩
  have HRT0 := Lib.hid hrt
  have HB4 := Lib.hid (tr2 HB3.out hb4)
  have cf4 := HC0.out w4 HB4.out
  clear hrt hb4 cx3 cf3
  have hq : q = none := by have h9 : RT w4 q ((goT ops).t) := HRT0.out; rw [HNIL.out] at h9; exact h9
  subst hq
  clear HRT0
  go_wp2
  go_ret3
  exact ln_same HX.out HA.out HB4.out rfl
set_option maxRecDepth 100000 in
set_option maxHeartbeats 8000000 in
theorem ln_deep_goat {A A' W : Option Addr} {n c n' c' m mc : Nat} {ops : List OP} {f : List UInt8} {x : List UInt8} {w : World} (h : LnA w A n c A' n' c' W m mc ops (f :: [x])) (hk : kindB f = 0) (hf : f = [100, 101, 101, 112]) (hx : x = [103, 111, 97, 116]) (hnil : (goT ops).t ≠ .nil) :
    Calls Tryz.prog 49 #[.slice A n c, .slice A' n' c', .slice W m mc] w (RetLine ops (f :: [x]) w) := by
  obtain ⟨m1, rfl⟩ : ∃ k, m = k + 1 := ⟨1, by have h9 : 2 = m := h.wd.len; omega⟩
  have hrl : [x].length = m1 := by have h9 : 2 = m1 + 1 := h.wd.len; show 1 = m1; omega
  obtain ⟨b, off, rfl, hb, hcs⟩ := h.wd.at_ (by omega)
  have HX := Lib.hid h
  have HC0 : Hid (∀ wz, Below w.heap.size w wz → wz.cell? ⟨b, off, none⟩ = some (.string (bsv f))) := fun wz hz => (hz.cell (p := ⟨b, off, none⟩) hb).trans (hcs 0 (by omega))
  have hc0 := HC0.out w (Below.refl _ _)
  have c0n : (w.alloc namO).cell? ⟨b, off, none⟩ = some (.string (bsv f)) := HC0.out _ ((Below.refl _ _).alloc (Nat.le_refl _) _)
  have HWR : Hid (∀ wz, Below w.heap.size w wz → WS wz (some ⟨b, off + 1, none⟩) m1 (mc - 1) [x] ∧ (mc = 1 → ∀ A9, WS wz A9 m1 0 [x])) := fun wz hz => ws_rest h.wd hz
  have hm10 := h.m1
  have hcap := h.wd.cap
  have hn1 : (1 : Int) ≤ (m1 : Int) + 1 := by omega
  have hcq1 : (m1 : Int) + 1 ≤ (mc : Int) := by omega
  have hcq2 : (1 : Int) ≤ (mc : Int) := by omega
  have hn0 : (0 : Int) < (m1 : Int) + 1 := by omega
  have HIX := Lib.hid (ix_no hk)
  obtain ⟨kn, hkn⟩ : ∃ x, (kys (runR ops).1).length = x := ⟨_, rfl⟩
  have hk200 : kn ≤ 200 := by rw [← hkn]; exact (rise_kys (chk_runR ops)).len
  have HMK : Hid (∀ wz, Below w.heap.size w wz → Calls Tryz.prog 106 #[.slice A n c] wz fun e w' => ∃ KA kc, e = .returned (.slice KA kn kc) ∧ IS w' KA kn kc (kys (runR ops).1) ∧ Below wz.heap.size wz w') := fun wz hz => by
    rw [← hkn]
    exact MapKeys_any A n c (runR ops).1 wz (h.ps.below hz) (by rw [← h.ps.len, ← kys_len]; omega)
  have HRK := Lib.hid (rise_kys (chk_runR ops))
  have HKN := Lib.hid hkn
  clear hkn
  have hwx : w.cell? ⟨b, off + 1, none⟩ = some (.string (bsv x)) := hcs 1 (by have h9 : 1 = m1 := hrl; omega)
  have HCX : Hid (∀ wz, Below w.heap.size w wz → wz.cell? ⟨b, off + 1, none⟩ = some (.string (bsv x))) := fun wz hz => (hz.cell (p := ⟨b, off + 1, none⟩) hb).trans hwx
  have hm1 : m1 = 1 := by rw [← hrl]; rfl
  have hm1b : (((m1 : Int) + 1) == 1) = false := by simp; omega
  have hm2b : (((m1 : Int) + 1) != 2) = false := by simp; omega
  have hi1 : (1 : Int) < (m1 : Int) + 1 := by omega
  have hn3 := h.n3
  have HAW : Hid (∀ wz, Below w.heap.size w wz → Calls Tryz.prog 111 #[.slice A' n' c'] wz (RetAns (runR ops).1 (runR ops).2 wz)) := fun wz hz => Answered_any A' n' c' ops wz (h.os.below hz) (by omega)
  have hfr : (f == [114, 111, 119, 115]) = false := by rw [hf]; decide
  have hfp : (f == [112, 97, 116, 104]) = false := by rw [hf]; decide
  have hft : (f == [116, 114, 101, 101]) = false := by rw [hf]; decide
  have hfd : (f == [100, 101, 101, 112]) = true := by rw [hf]; exact beq_self_eq_true _
  have hx0 : (x == [103, 114, 111, 119]) = false := by rw [hx]; decide
  have hx1 : (x == [122, 105, 112]) = false := by rw [hx]; decide
  have hx2 : (x == [103, 111, 97, 116]) = true := by rw [hx]; decide
  have hdt := show dTree ops x = some ((goT ops).t) by rw [hx]; rfl
  have HA : Hid (dAns ops (f :: [x]) = (deepT ((goT ops).t), ops)) := by show _ = _; rw [dAns_deep hf, deepR_some hdt]
  have hts := (dTree_tree hdt).2
  have HNIL := Lib.hid hnil
  try clear hk
  try clear hf
  try clear hx
  try clear hwx
  try clear hm1
  try clear hr0
  try clear hp0
  try clear ht0
  try clear hd0
  try clear hnil
  clear hdt
  clear h hcs hrl
  go_enter Tryz.func49, Tryz.ntmps49
  go_wp2_with fail
  refine (index_any (some ⟨w.heap.size, 0, none⟩) 7 7 nmL f _ (ws_names w) (by omega)).mono ?_
  rintro e w1 ⟨rfl, hw1⟩
  have HB1 : Hid (Below w.heap.size w w1) := by show Below _ _ _; rw [hw1]; exact (Below.refl _ _).alloc (Nat.le_refl _) _
  have c01 := HC0.out w1 HB1.out
  rw [HIX.out]
  clear hw1
  go_wp2_with fail
  refine (HMK.out w1 HB1.out).mono ?_
  rintro e w2 ⟨KA, kc, rfl, hki, hb2⟩
  have HKI := Lib.hid hki
  have HB2 := Lib.hid (tr2 HB1.out hb2)
  have c02 := HC0.out w2 HB2.out
  clear hki hb2 c01 hc0 c0n
  go_wp2_with fail
  refine (HAW.out w2 HB2.out).mono ?_
  rintro e w3 ⟨A5, n5, c5, A6, n6, c6, rfl, -, has, hb3⟩
  have hn6 : n6 = n' := by rw [← has.len, ← HX.out.os.len]; exact runR_len ops
  subst hn6
  have HAS := Lib.hid has
  have HB3 := Lib.hid (tr2 HB2.out hb3)
  have HKI3 := Lib.hid (HKI.out.below hb3)
  have HOS3 := Lib.hid (HX.out.os.below HB3.out)
  have cx3 := HCX.out w3 HB3.out
  have cf3 := HC0.out w3 HB3.out
  clear has hb3 c02
  go_wp2_with fail
  refine (Goated_any _ _ _ _ _ ops w3 HOS3.out HAS.out (by omega)).mono ?_
  rintro e w4 ⟨q, rfl, hrt, hb4⟩
  have HRT0 := Lib.hid hrt
  have HB4 := Lib.hid (tr2 HB3.out hb4)
  have cf4 := HC0.out w4 HB4.out
  clear hrt hb4 cx3 cf3
  have HRT : Hid (RT w4 q ((goT ops).t)) := HRT0.out
  obtain ⟨t, ht⟩ : ∃ t, (goT ops).t = t := ⟨_, rfl⟩
  rw [ht] at HRT HA HNIL hts
  obtain ⟨tn, htn⟩ : ∃ n, t.size = n := ⟨_, rfl⟩
  have HTN := Lib.hid htn
  rw [htn] at hts
  have hqs : ∃ g, q = some ⟨g, 0, none⟩ := by
    have h9 := HRT.out
    have h8 := HNIL.out
    cases t with
    | nil => exact absurd rfl h8
    | node a k b9 =>
      obtain ⟨g, qa, qb, e, _⟩ := h9
      exact ⟨g, e⟩
  obtain ⟨g, rfl⟩ := hqs
  clear ht htn HRT0
  go_wp2_with fail
  refine (rspots_any t _ 0 w4 HRT.out (Int.le_refl 0) (by rw [HTN.out]; omega) (by rw [HTN.out]; omega)).mono ?_
  rintro e w5 ⟨v5, rfl, ho5, hb5⟩
  obtain ⟨TA, tc, rfl, _, hps5⟩ := ownR_told (n := tn) ho5 (by rw [sp_length]; exact HTN.out)
  have HPS := Lib.hid hps5
  have HB5 := Lib.hid (tr2 HB4.out hb5)
  clear ho5 hb5 hps5 cf4
  have HMX := Lib.hid (mxd_tall t)
  have HSN : Hid ((t.sp 0).length = tn) := by show _ = _; rw [sp_length]; exact HTN.out
  have HNN : Hid (∀ i, i < tn → 0 ≤ dp (t.sp 0) i) := fun i hi => sp_ge t 0 i (by rw [HTN.out]; exact hi)
  rw [HTN.out] at HMX
  obtain ⟨L, hL⟩ : ∃ L, t.sp 0 = L := ⟨_, rfl⟩
  rw [hL] at HPS HMX HSN HNN
  clear hL
  go_wp2
  go_loopw [31, 271] (fun dv iv wr => ∃ k mv : Nat, k ≤ tn ∧ iv = .int .i64 k ∧ dv = .int .i64 mv ∧ Hid ((mv : Int) = max 0 (mxd L k)) ∧ mv ≤ 1000 ∧ Hid (Below w5.heap.size w5 wr)) (fun _ iv _ => tn - (intOf iv).toNat)
  case atStart => exact ⟨0, 0, Nat.zero_le _, rfl, rfl, rfl, by omega, Below.refl _ _⟩
  case round =>
    obtain ⟨k, mv, hk, rfl, rfl, HM, hmv, HB⟩ := hrel
    by_cases hkn : k < tn
    · obtain ⟨b7, off7, rfl, hb7, hc7⟩ := HPS.out.at_ (by omega)
      have hkl : k < L.length := by rw [HSN.out]; exact hkn
      obtain ⟨y, hy⟩ : ∃ y, L[k].1 = y := ⟨_, rfl⟩
      have hdp : dp L k = L[k].2 := by unfold dp; rw [List.getElem?_eq_getElem hkl]; rfl
      have hnn := HNN.out k hkn
      obtain ⟨d, hd⟩ : ∃ d : Nat, L[k].2 = d := ⟨L[k].2.toNat, by omega⟩
      have q0 : wr.cell? ⟨b7, off7 + k * 2, none⟩ = some (I y) := by rw [← hy]; exact (HB.out.cell (p := ⟨b7, off7 + k * 2, none⟩) hb7).trans (hc7 k hkn).1
      have q1 : wr.cell? ⟨b7, off7 + k * 2 + 1, none⟩ = some (I d) := by rw [← hd]; exact (HB.out.cell (p := ⟨b7, off7 + k * 2 + 1, none⟩) hb7).trans (hc7 k hkn).2
      have HNX : Hid (mxd L (k + 1) = max (mxd L k) d) := by show max (mxd L k) (dp L k) = _; rw [hdp, hd]
      have hsz := HB.out.size
      have hdb : d ≤ 1000 := by
        have h1 := mxd_ge (l := L) (k := tn) (i := k) hkn
        have h2 := HMX.out
        have h3 : t.tall ≤ 1000 := by have := dtall_le t; rw [HTN.out] at this; omega
        omega
      clear hc7 hy hd hdp hkl hnn
      by_cases hlt : mv < d
      · have hli : (mv : Int) < (d : Int) := by omega
        go_wp2
        go_roundw
        case rel => exact ⟨k + 1, d, by omega, by go_num, congrArg (Value.int .i64) (by omega), by show _ = _; rw [HNX.out]; have := HM.out; omega, hdb, HB.out.alloc hsz _⟩
        case measure => simp [intOf]; omega
      · have hli : ¬ (mv : Int) < (d : Int) := by omega
        go_wp2
        go_roundw
        case rel => exact ⟨k + 1, mv, by omega, by go_num, congrArg (Value.int .i64) (by omega), by show _ = _; rw [HNX.out]; have := HM.out; omega, hmv, HB.out.alloc hsz _⟩
        case measure => simp [intOf]; omega
    · obtain rfl : k = tn := by omega
      have HBE := Lib.hid (tr2 HB5.out HB.out)
      have HDT : Hid (deepT t = dg mv) := by
        show _ = _
        have h1 := HM.out
        have h2 := HMX.out
        have h3 : t.tall ≠ 0 := by
          have h8 := HNIL.out
          cases t with
          | nil => exact absurd rfl h8
          | node a k9 b9 => show max a.tall b9.tall + 1 ≠ 0; omega
        unfold deepT
        rw [if_neg h3]
        congr 1
        omega
      go_wp2_with fail
      refine (Digits_any mv mv (Nat.le_refl _) (by omega) _).mono ?_
      rintro e w6 ⟨rfl, rfl⟩
      go_wp2
      go_ret3
      exact ln_same HX.out HA.out HBE.out (congrArg bsv HDT.out.symm)
set_option maxRecDepth 100000 in
set_option maxHeartbeats 8000000 in
theorem ln_othera_goat {A A' W : Option Addr} {n c n' c' m mc : Nat} {ops : List OP} {f : List UInt8} {x : List UInt8} {w : World} (h : LnA w A n c A' n' c' W m mc ops (f :: [x])) (hk : kindB f = 0) (hf : f = [114, 111, 119, 115]) (hx : x = [103, 111, 97, 116]) :
    Calls Tryz.prog 49 #[.slice A n c, .slice A' n' c', .slice W m mc] w (RetLine ops (f :: [x]) w) := by
  obtain ⟨m1, rfl⟩ : ∃ k, m = k + 1 := ⟨1, by have h9 : 2 = m := h.wd.len; omega⟩
  have hrl : [x].length = m1 := by have h9 : 2 = m1 + 1 := h.wd.len; show 1 = m1; omega
  obtain ⟨b, off, rfl, hb, hcs⟩ := h.wd.at_ (by omega)
  have HX := Lib.hid h
  have HC0 : Hid (∀ wz, Below w.heap.size w wz → wz.cell? ⟨b, off, none⟩ = some (.string (bsv f))) := fun wz hz => (hz.cell (p := ⟨b, off, none⟩) hb).trans (hcs 0 (by omega))
  have hc0 := HC0.out w (Below.refl _ _)
  have c0n : (w.alloc namO).cell? ⟨b, off, none⟩ = some (.string (bsv f)) := HC0.out _ ((Below.refl _ _).alloc (Nat.le_refl _) _)
  have HWR : Hid (∀ wz, Below w.heap.size w wz → WS wz (some ⟨b, off + 1, none⟩) m1 (mc - 1) [x] ∧ (mc = 1 → ∀ A9, WS wz A9 m1 0 [x])) := fun wz hz => ws_rest h.wd hz
  have hm10 := h.m1
  have hcap := h.wd.cap
  have hn1 : (1 : Int) ≤ (m1 : Int) + 1 := by omega
  have hcq1 : (m1 : Int) + 1 ≤ (mc : Int) := by omega
  have hcq2 : (1 : Int) ≤ (mc : Int) := by omega
  have hn0 : (0 : Int) < (m1 : Int) + 1 := by omega
  have HIX := Lib.hid (ix_no hk)
  obtain ⟨kn, hkn⟩ : ∃ x, (kys (runR ops).1).length = x := ⟨_, rfl⟩
  have hk200 : kn ≤ 200 := by rw [← hkn]; exact (rise_kys (chk_runR ops)).len
  have HMK : Hid (∀ wz, Below w.heap.size w wz → Calls Tryz.prog 106 #[.slice A n c] wz fun e w' => ∃ KA kc, e = .returned (.slice KA kn kc) ∧ IS w' KA kn kc (kys (runR ops).1) ∧ Below wz.heap.size wz w') := fun wz hz => by
    rw [← hkn]
    exact MapKeys_any A n c (runR ops).1 wz (h.ps.below hz) (by rw [← h.ps.len, ← kys_len]; omega)
  have HRK := Lib.hid (rise_kys (chk_runR ops))
  have HKN := Lib.hid hkn
  clear hkn
  have hwx : w.cell? ⟨b, off + 1, none⟩ = some (.string (bsv x)) := hcs 1 (by have h9 : 1 = m1 := hrl; omega)
  have HCX : Hid (∀ wz, Below w.heap.size w wz → wz.cell? ⟨b, off + 1, none⟩ = some (.string (bsv x))) := fun wz hz => (hz.cell (p := ⟨b, off + 1, none⟩) hb).trans hwx
  have hm1 : m1 = 1 := by rw [← hrl]; rfl
  have hm1b : (((m1 : Int) + 1) == 1) = false := by simp; omega
  have hm2b : (((m1 : Int) + 1) != 2) = false := by simp; omega
  have hi1 : (1 : Int) < (m1 : Int) + 1 := by omega
  have hn3 := h.n3
  have HAW : Hid (∀ wz, Below w.heap.size w wz → Calls Tryz.prog 111 #[.slice A' n' c'] wz (RetAns (runR ops).1 (runR ops).2 wz)) := fun wz hz => Answered_any A' n' c' ops wz (h.os.below hz) (by omega)
  have hfr : (f == [114, 111, 119, 115]) = true := by rw [hf]; exact beq_self_eq_true _
  have hfp : (f == [112, 97, 116, 104]) = false := by rw [hf]; decide
  have hft : (f == [116, 114, 101, 101]) = false := by rw [hf]; decide
  have hfd : (f == [100, 101, 101, 112]) = false := by rw [hf]; decide
  have hx0 : (x == [103, 114, 111, 119]) = false := by rw [hx]; decide
  have hx1 : (x == [122, 105, 112]) = false := by rw [hx]; decide
  have hx2 : (x == [103, 111, 97, 116]) = true := by rw [hx]; decide
  have HA : Hid (dAns ops (f :: [x]) = (e1T, ops)) := dAns_other hk (by rw [hf]; decide) (by rw [hf]; decide) (by rw [hf]; decide)
  try clear hk
  try clear hf
  try clear hx
  try clear hwx
  try clear hm1
  try clear hr0
  try clear hp0
  try clear ht0
  try clear hd0
  try clear hnil
  clear h hcs hrl
  go_enter Tryz.func49, Tryz.ntmps49
  go_wp2_with fail
  refine (index_any (some ⟨w.heap.size, 0, none⟩) 7 7 nmL f _ (ws_names w) (by omega)).mono ?_
  rintro e w1 ⟨rfl, hw1⟩
  have HB1 : Hid (Below w.heap.size w w1) := by show Below _ _ _; rw [hw1]; exact (Below.refl _ _).alloc (Nat.le_refl _) _
  have c01 := HC0.out w1 HB1.out
  rw [HIX.out]
  clear hw1
  go_wp2_with fail
  refine (HMK.out w1 HB1.out).mono ?_
  rintro e w2 ⟨KA, kc, rfl, hki, hb2⟩
  have HKI := Lib.hid hki
  have HB2 := Lib.hid (tr2 HB1.out hb2)
  have c02 := HC0.out w2 HB2.out
  clear hki hb2 c01 hc0 c0n
  go_wp2_with fail
  refine (HAW.out w2 HB2.out).mono ?_
  rintro e w3 ⟨A5, n5, c5, A6, n6, c6, rfl, -, has, hb3⟩
  have hn6 : n6 = n' := by rw [← has.len, ← HX.out.os.len]; exact runR_len ops
  subst hn6
  have HAS := Lib.hid has
  have HB3 := Lib.hid (tr2 HB2.out hb3)
  have HKI3 := Lib.hid (HKI.out.below hb3)
  have HOS3 := Lib.hid (HX.out.os.below HB3.out)
  have cx3 := HCX.out w3 HB3.out
  have cf3 := HC0.out w3 HB3.out
  clear has hb3 c02
  go_wp2_with fail
  refine (Goated_any _ _ _ _ _ ops w3 HOS3.out HAS.out (by omega)).mono ?_
  rintro e w4 ⟨q, rfl, hrt, hb4⟩
  have HRT0 := Lib.hid hrt
  have HB4 := Lib.hid (tr2 HB3.out hb4)
  have cf4 := HC0.out w4 HB4.out
  clear hrt hb4 cx3 cf3
  clear HRT0
  go_wp2
  go_ret3
  exact ln_same HX.out HA.out HB4.out e1_bsv.symm
set_option maxRecDepth 100000 in
set_option maxHeartbeats 8000000 in
theorem ln_otherb_goat {A A' W : Option Addr} {n c n' c' m mc : Nat} {ops : List OP} {f : List UInt8} {x : List UInt8} {w : World} (h : LnA w A n c A' n' c' W m mc ops (f :: [x])) (hk : kindB f = 0) (hr0 : f ≠ [114, 111, 119, 115]) (hp0 : f ≠ [112, 97, 116, 104]) (ht0 : f ≠ [116, 114, 101, 101]) (hd0 : f ≠ [100, 101, 101, 112]) (hx : x = [103, 111, 97, 116]) :
    Calls Tryz.prog 49 #[.slice A n c, .slice A' n' c', .slice W m mc] w (RetLine ops (f :: [x]) w) := by
  obtain ⟨m1, rfl⟩ : ∃ k, m = k + 1 := ⟨1, by have h9 : 2 = m := h.wd.len; omega⟩
  have hrl : [x].length = m1 := by have h9 : 2 = m1 + 1 := h.wd.len; show 1 = m1; omega
  obtain ⟨b, off, rfl, hb, hcs⟩ := h.wd.at_ (by omega)
  have HX := Lib.hid h
  have HC0 : Hid (∀ wz, Below w.heap.size w wz → wz.cell? ⟨b, off, none⟩ = some (.string (bsv f))) := fun wz hz => (hz.cell (p := ⟨b, off, none⟩) hb).trans (hcs 0 (by omega))
  have hc0 := HC0.out w (Below.refl _ _)
  have c0n : (w.alloc namO).cell? ⟨b, off, none⟩ = some (.string (bsv f)) := HC0.out _ ((Below.refl _ _).alloc (Nat.le_refl _) _)
  have HWR : Hid (∀ wz, Below w.heap.size w wz → WS wz (some ⟨b, off + 1, none⟩) m1 (mc - 1) [x] ∧ (mc = 1 → ∀ A9, WS wz A9 m1 0 [x])) := fun wz hz => ws_rest h.wd hz
  have hm10 := h.m1
  have hcap := h.wd.cap
  have hn1 : (1 : Int) ≤ (m1 : Int) + 1 := by omega
  have hcq1 : (m1 : Int) + 1 ≤ (mc : Int) := by omega
  have hcq2 : (1 : Int) ≤ (mc : Int) := by omega
  have hn0 : (0 : Int) < (m1 : Int) + 1 := by omega
  have HIX := Lib.hid (ix_no hk)
  obtain ⟨kn, hkn⟩ : ∃ x, (kys (runR ops).1).length = x := ⟨_, rfl⟩
  have hk200 : kn ≤ 200 := by rw [← hkn]; exact (rise_kys (chk_runR ops)).len
  have HMK : Hid (∀ wz, Below w.heap.size w wz → Calls Tryz.prog 106 #[.slice A n c] wz fun e w' => ∃ KA kc, e = .returned (.slice KA kn kc) ∧ IS w' KA kn kc (kys (runR ops).1) ∧ Below wz.heap.size wz w') := fun wz hz => by
    rw [← hkn]
    exact MapKeys_any A n c (runR ops).1 wz (h.ps.below hz) (by rw [← h.ps.len, ← kys_len]; omega)
  have HRK := Lib.hid (rise_kys (chk_runR ops))
  have HKN := Lib.hid hkn
  clear hkn
  have hwx : w.cell? ⟨b, off + 1, none⟩ = some (.string (bsv x)) := hcs 1 (by have h9 : 1 = m1 := hrl; omega)
  have HCX : Hid (∀ wz, Below w.heap.size w wz → wz.cell? ⟨b, off + 1, none⟩ = some (.string (bsv x))) := fun wz hz => (hz.cell (p := ⟨b, off + 1, none⟩) hb).trans hwx
  have hm1 : m1 = 1 := by rw [← hrl]; rfl
  have hm1b : (((m1 : Int) + 1) == 1) = false := by simp; omega
  have hm2b : (((m1 : Int) + 1) != 2) = false := by simp; omega
  have hi1 : (1 : Int) < (m1 : Int) + 1 := by omega
  have hn3 := h.n3
  have HAW : Hid (∀ wz, Below w.heap.size w wz → Calls Tryz.prog 111 #[.slice A' n' c'] wz (RetAns (runR ops).1 (runR ops).2 wz)) := fun wz hz => Answered_any A' n' c' ops wz (h.os.below hz) (by omega)
  have hfr : (f == [114, 111, 119, 115]) = false := by simpa using hr0
  have hfp : (f == [112, 97, 116, 104]) = false := by simpa using hp0
  have hft : (f == [116, 114, 101, 101]) = false := by simpa using ht0
  have hfd : (f == [100, 101, 101, 112]) = false := by simpa using hd0
  have hx0 : (x == [103, 114, 111, 119]) = false := by rw [hx]; decide
  have hx1 : (x == [122, 105, 112]) = false := by rw [hx]; decide
  have hx2 : (x == [103, 111, 97, 116]) = true := by rw [hx]; decide
  have HA : Hid (dAns ops (f :: [x]) = (e1T, ops)) := dAns_other hk hp0 ht0 hd0
  try clear hk
  try clear hf
  try clear hx
  try clear hwx
  try clear hm1
  try clear hr0
  try clear hp0
  try clear ht0
  try clear hd0
  try clear hnil
  clear h hcs hrl
  go_enter Tryz.func49, Tryz.ntmps49
  go_wp2_with fail
  refine (index_any (some ⟨w.heap.size, 0, none⟩) 7 7 nmL f _ (ws_names w) (by omega)).mono ?_
  rintro e w1 ⟨rfl, hw1⟩
  have HB1 : Hid (Below w.heap.size w w1) := by show Below _ _ _; rw [hw1]; exact (Below.refl _ _).alloc (Nat.le_refl _) _
  have c01 := HC0.out w1 HB1.out
  rw [HIX.out]
  clear hw1
  go_wp2_with fail
  refine (HMK.out w1 HB1.out).mono ?_
  rintro e w2 ⟨KA, kc, rfl, hki, hb2⟩
  have HKI := Lib.hid hki
  have HB2 := Lib.hid (tr2 HB1.out hb2)
  have c02 := HC0.out w2 HB2.out
  clear hki hb2 c01 hc0 c0n
  go_wp2_with fail
  refine (HAW.out w2 HB2.out).mono ?_
  rintro e w3 ⟨A5, n5, c5, A6, n6, c6, rfl, -, has, hb3⟩
  have hn6 : n6 = n' := by rw [← has.len, ← HX.out.os.len]; exact runR_len ops
  subst hn6
  have HAS := Lib.hid has
  have HB3 := Lib.hid (tr2 HB2.out hb3)
  have HKI3 := Lib.hid (HKI.out.below hb3)
  have HOS3 := Lib.hid (HX.out.os.below HB3.out)
  have cx3 := HCX.out w3 HB3.out
  have cf3 := HC0.out w3 HB3.out
  clear has hb3 c02
  go_wp2_with fail
  refine (Goated_any _ _ _ _ _ ops w3 HOS3.out HAS.out (by omega)).mono ?_
  rintro e w4 ⟨q, rfl, hrt, hb4⟩
  have HRT0 := Lib.hid hrt
  have HB4 := Lib.hid (tr2 HB3.out hb4)
  have cf4 := HC0.out w4 HB4.out
  clear hrt hb4 cx3 cf3
  clear HRT0
  go_wp2
  go_ret3
  exact ln_same HX.out HA.out HB4.out e1_bsv.symm
end Go.Proofs.YtpnjnedfcdppaaaGreatDoor

/-
  hedgref.deskLine: tree and deep of even. Written by tools/gen_dline.py.
-/
namespace Go.Proofs.YtpnjnedfcdppaaaGreatDoor
open Go.RowKit

set_option maxRecDepth 100000 in
set_option maxHeartbeats 8000000 in
theorem ln_tree_even {A A' W : Option Addr} {n c n' c' m mc : Nat} {ops : List OP} {f : List UInt8} {x : List UInt8} {w : World} (h : LnA w A n c A' n' c' W m mc ops (f :: [x])) (hk : kindB f = 0) (hf : f = [116, 114, 101, 101]) (hx : x = [101, 118, 101, 110]) :
    Calls Tryz.prog 49 #[.slice A n c, .slice A' n' c', .slice W m mc] w (RetLine ops (f :: [x]) w) := by
  obtain ⟨m1, rfl⟩ : ∃ k, m = k + 1 := ⟨1, by have h9 : 2 = m := h.wd.len; omega⟩
  have hrl : [x].length = m1 := by have h9 : 2 = m1 + 1 := h.wd.len; show 1 = m1; omega
  obtain ⟨b, off, rfl, hb, hcs⟩ := h.wd.at_ (by omega)
  have HX := Lib.hid h
  have HC0 : Hid (∀ wz, Below w.heap.size w wz → wz.cell? ⟨b, off, none⟩ = some (.string (bsv f))) := fun wz hz => (hz.cell (p := ⟨b, off, none⟩) hb).trans (hcs 0 (by omega))
  have hc0 := HC0.out w (Below.refl _ _)
  have c0n : (w.alloc namO).cell? ⟨b, off, none⟩ = some (.string (bsv f)) := HC0.out _ ((Below.refl _ _).alloc (Nat.le_refl _) _)
  have HWR : Hid (∀ wz, Below w.heap.size w wz → WS wz (some ⟨b, off + 1, none⟩) m1 (mc - 1) [x] ∧ (mc = 1 → ∀ A9, WS wz A9 m1 0 [x])) := fun wz hz => ws_rest h.wd hz
  have hm10 := h.m1
  have hcap := h.wd.cap
  have hn1 : (1 : Int) ≤ (m1 : Int) + 1 := by omega
  have hcq1 : (m1 : Int) + 1 ≤ (mc : Int) := by omega
  have hcq2 : (1 : Int) ≤ (mc : Int) := by omega
  have hn0 : (0 : Int) < (m1 : Int) + 1 := by omega
  have HIX := Lib.hid (ix_no hk)
  obtain ⟨kn, hkn⟩ : ∃ x, (kys (runR ops).1).length = x := ⟨_, rfl⟩
  have hk200 : kn ≤ 200 := by rw [← hkn]; exact (rise_kys (chk_runR ops)).len
  have HMK : Hid (∀ wz, Below w.heap.size w wz → Calls Tryz.prog 106 #[.slice A n c] wz fun e w' => ∃ KA kc, e = .returned (.slice KA kn kc) ∧ IS w' KA kn kc (kys (runR ops).1) ∧ Below wz.heap.size wz w') := fun wz hz => by
    rw [← hkn]
    exact MapKeys_any A n c (runR ops).1 wz (h.ps.below hz) (by rw [← h.ps.len, ← kys_len]; omega)
  have HRK := Lib.hid (rise_kys (chk_runR ops))
  have HKN := Lib.hid hkn
  clear hkn
  have hwx : w.cell? ⟨b, off + 1, none⟩ = some (.string (bsv x)) := hcs 1 (by have h9 : 1 = m1 := hrl; omega)
  have HCX : Hid (∀ wz, Below w.heap.size w wz → wz.cell? ⟨b, off + 1, none⟩ = some (.string (bsv x))) := fun wz hz => (hz.cell (p := ⟨b, off + 1, none⟩) hb).trans hwx
  have hm1 : m1 = 1 := by rw [← hrl]; rfl
  have hm1b : (((m1 : Int) + 1) == 1) = false := by simp; omega
  have hm2b : (((m1 : Int) + 1) != 2) = false := by simp; omega
  have hi1 : (1 : Int) < (m1 : Int) + 1 := by omega
  have hn3 := h.n3
  have HAW : Hid (∀ wz, Below w.heap.size w wz → Calls Tryz.prog 111 #[.slice A' n' c'] wz (RetAns (runR ops).1 (runR ops).2 wz)) := fun wz hz => Answered_any A' n' c' ops wz (h.os.below hz) (by omega)
  have hfr : (f == [114, 111, 119, 115]) = false := by rw [hf]; decide
  have hfp : (f == [112, 97, 116, 104]) = false := by rw [hf]; decide
  have hft : (f == [116, 114, 101, 101]) = true := by rw [hf]; exact beq_self_eq_true _
  have hfd : (f == [100, 101, 101, 112]) = false := by rw [hf]; decide
  have hx0 : (x == [103, 114, 111, 119]) = false := by rw [hx]; decide
  have hx1 : (x == [122, 105, 112]) = false := by rw [hx]; decide
  have hx2 : (x == [103, 111, 97, 116]) = false := by rw [hx]; decide
  have hx3 : (x == [101, 118, 101, 110]) = true := by rw [hx]; decide
  have hdt := show dTree ops x = some (ev (kys (runR ops).1)) by rw [hx]; rfl
  have HA : Hid (dAns ops (f :: [x]) = (orN (jnd (ev (kys (runR ops).1)).pre), ops)) := by show _ = _; rw [dAns_tree hf, ordR_some hdt]
  have hts := (dTree_tree hdt).2
  have HPB : Hid (∀ y ∈ (ev (kys (runR ops).1)).pre, 0 ≤ y ∧ y < 1000000000) := fun y hy => by
    have h9 : y ∈ kys (runR ops).1 := by rw [← dTree_ks hdt]; exact pre_mem hy
    have := HRK.out.bd y h9
    omega
  try clear hk
  try clear hf
  try clear hx
  try clear hwx
  try clear hm1
  try clear hr0
  try clear hp0
  try clear ht0
  try clear hd0
  try clear hnil
  clear hdt
  clear h hcs hrl
  go_enter Tryz.func49, Tryz.ntmps49
  go_wp2_with fail
  refine (index_any (some ⟨w.heap.size, 0, none⟩) 7 7 nmL f _ (ws_names w) (by omega)).mono ?_
  rintro e w1 ⟨rfl, hw1⟩
  have HB1 : Hid (Below w.heap.size w w1) := by show Below _ _ _; rw [hw1]; exact (Below.refl _ _).alloc (Nat.le_refl _) _
  have c01 := HC0.out w1 HB1.out
  rw [HIX.out]
  clear hw1
  go_wp2_with fail
  refine (HMK.out w1 HB1.out).mono ?_
  rintro e w2 ⟨KA, kc, rfl, hki, hb2⟩
  have HKI := Lib.hid hki
  have HB2 := Lib.hid (tr2 HB1.out hb2)
  have c02 := HC0.out w2 HB2.out
  clear hki hb2 c01 hc0 c0n
  go_wp2_with fail
  refine (HAW.out w2 HB2.out).mono ?_
  rintro e w3 ⟨A5, n5, c5, A6, n6, c6, rfl, -, has, hb3⟩
  have hn6 : n6 = n' := by rw [← has.len, ← HX.out.os.len]; exact runR_len ops
  subst hn6
  have HAS := Lib.hid has
  have HB3 := Lib.hid (tr2 HB2.out hb3)
  have HKI3 := Lib.hid (HKI.out.below hb3)
  have HOS3 := Lib.hid (HX.out.os.below HB3.out)
  have cx3 := HCX.out w3 HB3.out
  have cf3 := HC0.out w3 HB3.out
  clear has hb3 c02
  go_wp2_with fail
  refine (EvenTree_any kn KA kn kc _ w3 (Nat.le_refl _) HKI3.out (by omega)).mono ?_
  rintro e w4 ⟨q, rfl, hrt, hb4⟩
  have HRT0 := Lib.hid hrt
  have HB4 := Lib.hid (tr2 HB3.out hb4)
  have cf4 := HC0.out w4 HB4.out
  clear hrt hb4 cx3 cf3
  have HRT : Hid (RT w4 q (ev (kys (runR ops).1))) := HRT0.out
  obtain ⟨t, ht⟩ : ∃ t, ev (kys (runR ops).1) = t := ⟨_, rfl⟩
  rw [ht] at HRT HA HPB hts
  obtain ⟨tn, htn⟩ : ∃ n, t.size = n := ⟨_, rfl⟩
  have HTN := Lib.hid htn
  rw [htn] at hts
  clear ht htn HRT0
  go_wp2_with fail
  refine (toldKeys_any t q w4 HRT.out (by rw [HTN.out]; omega)).mono ?_
  rintro e w5 ⟨TA, tc, rfl, his5, hb5⟩
  rw [HTN.out] at his5 ⊢
  have HIS5 := Lib.hid his5
  have HB5 := Lib.hid (tr2 HB4.out hb5)
  clear his5 hb5
  go_wp2_with fail
  refine (wordsOf_any TA tn tc t.pre w5 HIS5.out (by omega) HPB.out).mono ?_
  rintro e w6 ⟨rfl, hb6⟩
  have HB6 := Lib.hid (tr2 HB5.out hb6)
  clear hb6
  go_wp2
  go_ret3
  exact ln_same HX.out HA.out HB6.out rfl
set_option maxRecDepth 100000 in
set_option maxHeartbeats 8000000 in
theorem ln_deep0_even {A A' W : Option Addr} {n c n' c' m mc : Nat} {ops : List OP} {f : List UInt8} {x : List UInt8} {w : World} (h : LnA w A n c A' n' c' W m mc ops (f :: [x])) (hk : kindB f = 0) (hf : f = [100, 101, 101, 112]) (hx : x = [101, 118, 101, 110]) (hnil : ev (kys (runR ops).1) = .nil) :
    Calls Tryz.prog 49 #[.slice A n c, .slice A' n' c', .slice W m mc] w (RetLine ops (f :: [x]) w) := by
  obtain ⟨m1, rfl⟩ : ∃ k, m = k + 1 := ⟨1, by have h9 : 2 = m := h.wd.len; omega⟩
  have hrl : [x].length = m1 := by have h9 : 2 = m1 + 1 := h.wd.len; show 1 = m1; omega
  obtain ⟨b, off, rfl, hb, hcs⟩ := h.wd.at_ (by omega)
  have HX := Lib.hid h
  have HC0 : Hid (∀ wz, Below w.heap.size w wz → wz.cell? ⟨b, off, none⟩ = some (.string (bsv f))) := fun wz hz => (hz.cell (p := ⟨b, off, none⟩) hb).trans (hcs 0 (by omega))
  have hc0 := HC0.out w (Below.refl _ _)
  have c0n : (w.alloc namO).cell? ⟨b, off, none⟩ = some (.string (bsv f)) := HC0.out _ ((Below.refl _ _).alloc (Nat.le_refl _) _)
  have HWR : Hid (∀ wz, Below w.heap.size w wz → WS wz (some ⟨b, off + 1, none⟩) m1 (mc - 1) [x] ∧ (mc = 1 → ∀ A9, WS wz A9 m1 0 [x])) := fun wz hz => ws_rest h.wd hz
  have hm10 := h.m1
  have hcap := h.wd.cap
  have hn1 : (1 : Int) ≤ (m1 : Int) + 1 := by omega
  have hcq1 : (m1 : Int) + 1 ≤ (mc : Int) := by omega
  have hcq2 : (1 : Int) ≤ (mc : Int) := by omega
  have hn0 : (0 : Int) < (m1 : Int) + 1 := by omega
  have HIX := Lib.hid (ix_no hk)
  obtain ⟨kn, hkn⟩ : ∃ x, (kys (runR ops).1).length = x := ⟨_, rfl⟩
  have hk200 : kn ≤ 200 := by rw [← hkn]; exact (rise_kys (chk_runR ops)).len
  have HMK : Hid (∀ wz, Below w.heap.size w wz → Calls Tryz.prog 106 #[.slice A n c] wz fun e w' => ∃ KA kc, e = .returned (.slice KA kn kc) ∧ IS w' KA kn kc (kys (runR ops).1) ∧ Below wz.heap.size wz w') := fun wz hz => by
    rw [← hkn]
    exact MapKeys_any A n c (runR ops).1 wz (h.ps.below hz) (by rw [← h.ps.len, ← kys_len]; omega)
  have HRK := Lib.hid (rise_kys (chk_runR ops))
  have HKN := Lib.hid hkn
  clear hkn
  have hwx : w.cell? ⟨b, off + 1, none⟩ = some (.string (bsv x)) := hcs 1 (by have h9 : 1 = m1 := hrl; omega)
  have HCX : Hid (∀ wz, Below w.heap.size w wz → wz.cell? ⟨b, off + 1, none⟩ = some (.string (bsv x))) := fun wz hz => (hz.cell (p := ⟨b, off + 1, none⟩) hb).trans hwx
  have hm1 : m1 = 1 := by rw [← hrl]; rfl
  have hm1b : (((m1 : Int) + 1) == 1) = false := by simp; omega
  have hm2b : (((m1 : Int) + 1) != 2) = false := by simp; omega
  have hi1 : (1 : Int) < (m1 : Int) + 1 := by omega
  have hn3 := h.n3
  have HAW : Hid (∀ wz, Below w.heap.size w wz → Calls Tryz.prog 111 #[.slice A' n' c'] wz (RetAns (runR ops).1 (runR ops).2 wz)) := fun wz hz => Answered_any A' n' c' ops wz (h.os.below hz) (by omega)
  have hfr : (f == [114, 111, 119, 115]) = false := by rw [hf]; decide
  have hfp : (f == [112, 97, 116, 104]) = false := by rw [hf]; decide
  have hft : (f == [116, 114, 101, 101]) = false := by rw [hf]; decide
  have hfd : (f == [100, 101, 101, 112]) = true := by rw [hf]; exact beq_self_eq_true _
  have hx0 : (x == [103, 114, 111, 119]) = false := by rw [hx]; decide
  have hx1 : (x == [122, 105, 112]) = false := by rw [hx]; decide
  have hx2 : (x == [103, 111, 97, 116]) = false := by rw [hx]; decide
  have hx3 : (x == [101, 118, 101, 110]) = true := by rw [hx]; decide
  have hdt := show dTree ops x = some (ev (kys (runR ops).1)) by rw [hx]; rfl
  have HA : Hid (dAns ops (f :: [x]) = ([110, 111, 110, 101], ops)) := by show _ = _; rw [dAns_deep hf, deepR_some hdt, hnil]; rfl
  have HNIL := Lib.hid hnil
  try clear hk
  try clear hf
  try clear hx
  try clear hwx
  try clear hm1
  try clear hr0
  try clear hp0
  try clear ht0
  try clear hd0
  try clear hnil
  clear hdt
  clear h hcs hrl
  go_enter Tryz.func49, Tryz.ntmps49
  go_wp2_with fail
  refine (index_any (some ⟨w.heap.size, 0, none⟩) 7 7 nmL f _ (ws_names w) (by omega)).mono ?_
  rintro e w1 ⟨rfl, hw1⟩
  have HB1 : Hid (Below w.heap.size w w1) := by show Below _ _ _; rw [hw1]; exact (Below.refl _ _).alloc (Nat.le_refl _) _
  have c01 := HC0.out w1 HB1.out
  rw [HIX.out]
  clear hw1
  go_wp2_with fail
  refine (HMK.out w1 HB1.out).mono ?_
  rintro e w2 ⟨KA, kc, rfl, hki, hb2⟩
  have HKI := Lib.hid hki
  have HB2 := Lib.hid (tr2 HB1.out hb2)
  have c02 := HC0.out w2 HB2.out
  clear hki hb2 c01 hc0 c0n
  go_wp2_with fail
  refine (HAW.out w2 HB2.out).mono ?_
  rintro e w3 ⟨A5, n5, c5, A6, n6, c6, rfl, -, has, hb3⟩
  have hn6 : n6 = n' := by rw [← has.len, ← HX.out.os.len]; exact runR_len ops
  subst hn6
  have HAS := Lib.hid has
  have HB3 := Lib.hid (tr2 HB2.out hb3)
  have HKI3 := Lib.hid (HKI.out.below hb3)
  have HOS3 := Lib.hid (HX.out.os.below HB3.out)
  have cx3 := HCX.out w3 HB3.out
  have cf3 := HC0.out w3 HB3.out
  clear has hb3 c02
  go_wp2_with fail
  refine (EvenTree_any kn KA kn kc _ w3 (Nat.le_refl _) HKI3.out (by omega)).mono ?_
  rintro e w4 ⟨q, rfl, hrt, hb4⟩
  have HRT0 := Lib.hid hrt
  have HB4 := Lib.hid (tr2 HB3.out hb4)
  have cf4 := HC0.out w4 HB4.out
  clear hrt hb4 cx3 cf3
  have hq : q = none := by have h9 : RT w4 q (ev (kys (runR ops).1)) := HRT0.out; rw [HNIL.out] at h9; exact h9
  subst hq
  clear HRT0
  go_wp2
  go_ret3
  exact ln_same HX.out HA.out HB4.out rfl
set_option maxRecDepth 100000 in
set_option maxHeartbeats 8000000 in
theorem ln_deep_even {A A' W : Option Addr} {n c n' c' m mc : Nat} {ops : List OP} {f : List UInt8} {x : List UInt8} {w : World} (h : LnA w A n c A' n' c' W m mc ops (f :: [x])) (hk : kindB f = 0) (hf : f = [100, 101, 101, 112]) (hx : x = [101, 118, 101, 110]) (hnil : ev (kys (runR ops).1) ≠ .nil) :
    Calls Tryz.prog 49 #[.slice A n c, .slice A' n' c', .slice W m mc] w (RetLine ops (f :: [x]) w) := by
  obtain ⟨m1, rfl⟩ : ∃ k, m = k + 1 := ⟨1, by have h9 : 2 = m := h.wd.len; omega⟩
  have hrl : [x].length = m1 := by have h9 : 2 = m1 + 1 := h.wd.len; show 1 = m1; omega
  obtain ⟨b, off, rfl, hb, hcs⟩ := h.wd.at_ (by omega)
  have HX := Lib.hid h
  have HC0 : Hid (∀ wz, Below w.heap.size w wz → wz.cell? ⟨b, off, none⟩ = some (.string (bsv f))) := fun wz hz => (hz.cell (p := ⟨b, off, none⟩) hb).trans (hcs 0 (by omega))
  have hc0 := HC0.out w (Below.refl _ _)
  have c0n : (w.alloc namO).cell? ⟨b, off, none⟩ = some (.string (bsv f)) := HC0.out _ ((Below.refl _ _).alloc (Nat.le_refl _) _)
  have HWR : Hid (∀ wz, Below w.heap.size w wz → WS wz (some ⟨b, off + 1, none⟩) m1 (mc - 1) [x] ∧ (mc = 1 → ∀ A9, WS wz A9 m1 0 [x])) := fun wz hz => ws_rest h.wd hz
  have hm10 := h.m1
  have hcap := h.wd.cap
  have hn1 : (1 : Int) ≤ (m1 : Int) + 1 := by omega
  have hcq1 : (m1 : Int) + 1 ≤ (mc : Int) := by omega
  have hcq2 : (1 : Int) ≤ (mc : Int) := by omega
  have hn0 : (0 : Int) < (m1 : Int) + 1 := by omega
  have HIX := Lib.hid (ix_no hk)
  obtain ⟨kn, hkn⟩ : ∃ x, (kys (runR ops).1).length = x := ⟨_, rfl⟩
  have hk200 : kn ≤ 200 := by rw [← hkn]; exact (rise_kys (chk_runR ops)).len
  have HMK : Hid (∀ wz, Below w.heap.size w wz → Calls Tryz.prog 106 #[.slice A n c] wz fun e w' => ∃ KA kc, e = .returned (.slice KA kn kc) ∧ IS w' KA kn kc (kys (runR ops).1) ∧ Below wz.heap.size wz w') := fun wz hz => by
    rw [← hkn]
    exact MapKeys_any A n c (runR ops).1 wz (h.ps.below hz) (by rw [← h.ps.len, ← kys_len]; omega)
  have HRK := Lib.hid (rise_kys (chk_runR ops))
  have HKN := Lib.hid hkn
  clear hkn
  have hwx : w.cell? ⟨b, off + 1, none⟩ = some (.string (bsv x)) := hcs 1 (by have h9 : 1 = m1 := hrl; omega)
  have HCX : Hid (∀ wz, Below w.heap.size w wz → wz.cell? ⟨b, off + 1, none⟩ = some (.string (bsv x))) := fun wz hz => (hz.cell (p := ⟨b, off + 1, none⟩) hb).trans hwx
  have hm1 : m1 = 1 := by rw [← hrl]; rfl
  have hm1b : (((m1 : Int) + 1) == 1) = false := by simp; omega
  have hm2b : (((m1 : Int) + 1) != 2) = false := by simp; omega
  have hi1 : (1 : Int) < (m1 : Int) + 1 := by omega
  have hn3 := h.n3
  have HAW : Hid (∀ wz, Below w.heap.size w wz → Calls Tryz.prog 111 #[.slice A' n' c'] wz (RetAns (runR ops).1 (runR ops).2 wz)) := fun wz hz => Answered_any A' n' c' ops wz (h.os.below hz) (by omega)
  have hfr : (f == [114, 111, 119, 115]) = false := by rw [hf]; decide
  have hfp : (f == [112, 97, 116, 104]) = false := by rw [hf]; decide
  have hft : (f == [116, 114, 101, 101]) = false := by rw [hf]; decide
  have hfd : (f == [100, 101, 101, 112]) = true := by rw [hf]; exact beq_self_eq_true _
  have hx0 : (x == [103, 114, 111, 119]) = false := by rw [hx]; decide
  have hx1 : (x == [122, 105, 112]) = false := by rw [hx]; decide
  have hx2 : (x == [103, 111, 97, 116]) = false := by rw [hx]; decide
  have hx3 : (x == [101, 118, 101, 110]) = true := by rw [hx]; decide
  have hdt := show dTree ops x = some (ev (kys (runR ops).1)) by rw [hx]; rfl
  have HA : Hid (dAns ops (f :: [x]) = (deepT (ev (kys (runR ops).1)), ops)) := by show _ = _; rw [dAns_deep hf, deepR_some hdt]
  have hts := (dTree_tree hdt).2
  have HNIL := Lib.hid hnil
  try clear hk
  try clear hf
  try clear hx
  try clear hwx
  try clear hm1
  try clear hr0
  try clear hp0
  try clear ht0
  try clear hd0
  try clear hnil
  clear hdt
  clear h hcs hrl
  go_enter Tryz.func49, Tryz.ntmps49
  go_wp2_with fail
  refine (index_any (some ⟨w.heap.size, 0, none⟩) 7 7 nmL f _ (ws_names w) (by omega)).mono ?_
  rintro e w1 ⟨rfl, hw1⟩
  have HB1 : Hid (Below w.heap.size w w1) := by show Below _ _ _; rw [hw1]; exact (Below.refl _ _).alloc (Nat.le_refl _) _
  have c01 := HC0.out w1 HB1.out
  rw [HIX.out]
  clear hw1
  go_wp2_with fail
  refine (HMK.out w1 HB1.out).mono ?_
  rintro e w2 ⟨KA, kc, rfl, hki, hb2⟩
  have HKI := Lib.hid hki
  have HB2 := Lib.hid (tr2 HB1.out hb2)
  have c02 := HC0.out w2 HB2.out
  clear hki hb2 c01 hc0 c0n
  go_wp2_with fail
  refine (HAW.out w2 HB2.out).mono ?_
  rintro e w3 ⟨A5, n5, c5, A6, n6, c6, rfl, -, has, hb3⟩
  have hn6 : n6 = n' := by rw [← has.len, ← HX.out.os.len]; exact runR_len ops
  subst hn6
  have HAS := Lib.hid has
  have HB3 := Lib.hid (tr2 HB2.out hb3)
  have HKI3 := Lib.hid (HKI.out.below hb3)
  have HOS3 := Lib.hid (HX.out.os.below HB3.out)
  have cx3 := HCX.out w3 HB3.out
  have cf3 := HC0.out w3 HB3.out
  clear has hb3 c02
  go_wp2_with fail
  refine (EvenTree_any kn KA kn kc _ w3 (Nat.le_refl _) HKI3.out (by omega)).mono ?_
  rintro e w4 ⟨q, rfl, hrt, hb4⟩
  have HRT0 := Lib.hid hrt
  have HB4 := Lib.hid (tr2 HB3.out hb4)
  have cf4 := HC0.out w4 HB4.out
  clear hrt hb4 cx3 cf3
  have HRT : Hid (RT w4 q (ev (kys (runR ops).1))) := HRT0.out
  obtain ⟨t, ht⟩ : ∃ t, ev (kys (runR ops).1) = t := ⟨_, rfl⟩
  rw [ht] at HRT HA HNIL hts
  obtain ⟨tn, htn⟩ : ∃ n, t.size = n := ⟨_, rfl⟩
  have HTN := Lib.hid htn
  rw [htn] at hts
  have hqs : ∃ g, q = some ⟨g, 0, none⟩ := by
    have h9 := HRT.out
    have h8 := HNIL.out
    cases t with
    | nil => exact absurd rfl h8
    | node a k b9 =>
      obtain ⟨g, qa, qb, e, _⟩ := h9
      exact ⟨g, e⟩
  obtain ⟨g, rfl⟩ := hqs
  clear ht htn HRT0
  go_wp2_with fail
  refine (rspots_any t _ 0 w4 HRT.out (Int.le_refl 0) (by rw [HTN.out]; omega) (by rw [HTN.out]; omega)).mono ?_
  rintro e w5 ⟨v5, rfl, ho5, hb5⟩
  obtain ⟨TA, tc, rfl, _, hps5⟩ := ownR_told (n := tn) ho5 (by rw [sp_length]; exact HTN.out)
  have HPS := Lib.hid hps5
  have HB5 := Lib.hid (tr2 HB4.out hb5)
  clear ho5 hb5 hps5 cf4
  have HMX := Lib.hid (mxd_tall t)
  have HSN : Hid ((t.sp 0).length = tn) := by show _ = _; rw [sp_length]; exact HTN.out
  have HNN : Hid (∀ i, i < tn → 0 ≤ dp (t.sp 0) i) := fun i hi => sp_ge t 0 i (by rw [HTN.out]; exact hi)
  rw [HTN.out] at HMX
  obtain ⟨L, hL⟩ : ∃ L, t.sp 0 = L := ⟨_, rfl⟩
  rw [hL] at HPS HMX HSN HNN
  clear hL
  go_wp2
  go_loopw [31, 271] (fun dv iv wr => ∃ k mv : Nat, k ≤ tn ∧ iv = .int .i64 k ∧ dv = .int .i64 mv ∧ Hid ((mv : Int) = max 0 (mxd L k)) ∧ mv ≤ 1000 ∧ Hid (Below w5.heap.size w5 wr)) (fun _ iv _ => tn - (intOf iv).toNat)
  case atStart => exact ⟨0, 0, Nat.zero_le _, rfl, rfl, rfl, by omega, Below.refl _ _⟩
  case round =>
    obtain ⟨k, mv, hk, rfl, rfl, HM, hmv, HB⟩ := hrel
    by_cases hkn : k < tn
    · obtain ⟨b7, off7, rfl, hb7, hc7⟩ := HPS.out.at_ (by omega)
      have hkl : k < L.length := by rw [HSN.out]; exact hkn
      obtain ⟨y, hy⟩ : ∃ y, L[k].1 = y := ⟨_, rfl⟩
      have hdp : dp L k = L[k].2 := by unfold dp; rw [List.getElem?_eq_getElem hkl]; rfl
      have hnn := HNN.out k hkn
      obtain ⟨d, hd⟩ : ∃ d : Nat, L[k].2 = d := ⟨L[k].2.toNat, by omega⟩
      have q0 : wr.cell? ⟨b7, off7 + k * 2, none⟩ = some (I y) := by rw [← hy]; exact (HB.out.cell (p := ⟨b7, off7 + k * 2, none⟩) hb7).trans (hc7 k hkn).1
      have q1 : wr.cell? ⟨b7, off7 + k * 2 + 1, none⟩ = some (I d) := by rw [← hd]; exact (HB.out.cell (p := ⟨b7, off7 + k * 2 + 1, none⟩) hb7).trans (hc7 k hkn).2
      have HNX : Hid (mxd L (k + 1) = max (mxd L k) d) := by show max (mxd L k) (dp L k) = _; rw [hdp, hd]
      have hsz := HB.out.size
      have hdb : d ≤ 1000 := by
        have h1 := mxd_ge (l := L) (k := tn) (i := k) hkn
        have h2 := HMX.out
        have h3 : t.tall ≤ 1000 := by have := dtall_le t; rw [HTN.out] at this; omega
        omega
      clear hc7 hy hd hdp hkl hnn
      by_cases hlt : mv < d
      · have hli : (mv : Int) < (d : Int) := by omega
        go_wp2
        go_roundw
        case rel => exact ⟨k + 1, d, by omega, by go_num, congrArg (Value.int .i64) (by omega), by show _ = _; rw [HNX.out]; have := HM.out; omega, hdb, HB.out.alloc hsz _⟩
        case measure => simp [intOf]; omega
      · have hli : ¬ (mv : Int) < (d : Int) := by omega
        go_wp2
        go_roundw
        case rel => exact ⟨k + 1, mv, by omega, by go_num, congrArg (Value.int .i64) (by omega), by show _ = _; rw [HNX.out]; have := HM.out; omega, hmv, HB.out.alloc hsz _⟩
        case measure => simp [intOf]; omega
    · obtain rfl : k = tn := by omega
      have HBE := Lib.hid (tr2 HB5.out HB.out)
      have HDT : Hid (deepT t = dg mv) := by
        show _ = _
        have h1 := HM.out
        have h2 := HMX.out
        have h3 : t.tall ≠ 0 := by
          have h8 := HNIL.out
          cases t with
          | nil => exact absurd rfl h8
          | node a k9 b9 => show max a.tall b9.tall + 1 ≠ 0; omega
        unfold deepT
        rw [if_neg h3]
        congr 1
        omega
      go_wp2_with fail
      refine (Digits_any mv mv (Nat.le_refl _) (by omega) _).mono ?_
      rintro e w6 ⟨rfl, rfl⟩
      go_wp2
      go_ret3
      exact ln_same HX.out HA.out HBE.out (congrArg bsv HDT.out.symm)
set_option maxRecDepth 100000 in
set_option maxHeartbeats 8000000 in
theorem ln_othera_even {A A' W : Option Addr} {n c n' c' m mc : Nat} {ops : List OP} {f : List UInt8} {x : List UInt8} {w : World} (h : LnA w A n c A' n' c' W m mc ops (f :: [x])) (hk : kindB f = 0) (hf : f = [114, 111, 119, 115]) (hx : x = [101, 118, 101, 110]) :
    Calls Tryz.prog 49 #[.slice A n c, .slice A' n' c', .slice W m mc] w (RetLine ops (f :: [x]) w) := by
  obtain ⟨m1, rfl⟩ : ∃ k, m = k + 1 := ⟨1, by have h9 : 2 = m := h.wd.len; omega⟩
  have hrl : [x].length = m1 := by have h9 : 2 = m1 + 1 := h.wd.len; show 1 = m1; omega
  obtain ⟨b, off, rfl, hb, hcs⟩ := h.wd.at_ (by omega)
  have HX := Lib.hid h
  have HC0 : Hid (∀ wz, Below w.heap.size w wz → wz.cell? ⟨b, off, none⟩ = some (.string (bsv f))) := fun wz hz => (hz.cell (p := ⟨b, off, none⟩) hb).trans (hcs 0 (by omega))
  have hc0 := HC0.out w (Below.refl _ _)
  have c0n : (w.alloc namO).cell? ⟨b, off, none⟩ = some (.string (bsv f)) := HC0.out _ ((Below.refl _ _).alloc (Nat.le_refl _) _)
  have HWR : Hid (∀ wz, Below w.heap.size w wz → WS wz (some ⟨b, off + 1, none⟩) m1 (mc - 1) [x] ∧ (mc = 1 → ∀ A9, WS wz A9 m1 0 [x])) := fun wz hz => ws_rest h.wd hz
  have hm10 := h.m1
  have hcap := h.wd.cap
  have hn1 : (1 : Int) ≤ (m1 : Int) + 1 := by omega
  have hcq1 : (m1 : Int) + 1 ≤ (mc : Int) := by omega
  have hcq2 : (1 : Int) ≤ (mc : Int) := by omega
  have hn0 : (0 : Int) < (m1 : Int) + 1 := by omega
  have HIX := Lib.hid (ix_no hk)
  obtain ⟨kn, hkn⟩ : ∃ x, (kys (runR ops).1).length = x := ⟨_, rfl⟩
  have hk200 : kn ≤ 200 := by rw [← hkn]; exact (rise_kys (chk_runR ops)).len
  have HMK : Hid (∀ wz, Below w.heap.size w wz → Calls Tryz.prog 106 #[.slice A n c] wz fun e w' => ∃ KA kc, e = .returned (.slice KA kn kc) ∧ IS w' KA kn kc (kys (runR ops).1) ∧ Below wz.heap.size wz w') := fun wz hz => by
    rw [← hkn]
    exact MapKeys_any A n c (runR ops).1 wz (h.ps.below hz) (by rw [← h.ps.len, ← kys_len]; omega)
  have HRK := Lib.hid (rise_kys (chk_runR ops))
  have HKN := Lib.hid hkn
  clear hkn
  have hwx : w.cell? ⟨b, off + 1, none⟩ = some (.string (bsv x)) := hcs 1 (by have h9 : 1 = m1 := hrl; omega)
  have HCX : Hid (∀ wz, Below w.heap.size w wz → wz.cell? ⟨b, off + 1, none⟩ = some (.string (bsv x))) := fun wz hz => (hz.cell (p := ⟨b, off + 1, none⟩) hb).trans hwx
  have hm1 : m1 = 1 := by rw [← hrl]; rfl
  have hm1b : (((m1 : Int) + 1) == 1) = false := by simp; omega
  have hm2b : (((m1 : Int) + 1) != 2) = false := by simp; omega
  have hi1 : (1 : Int) < (m1 : Int) + 1 := by omega
  have hn3 := h.n3
  have HAW : Hid (∀ wz, Below w.heap.size w wz → Calls Tryz.prog 111 #[.slice A' n' c'] wz (RetAns (runR ops).1 (runR ops).2 wz)) := fun wz hz => Answered_any A' n' c' ops wz (h.os.below hz) (by omega)
  have hfr : (f == [114, 111, 119, 115]) = true := by rw [hf]; exact beq_self_eq_true _
  have hfp : (f == [112, 97, 116, 104]) = false := by rw [hf]; decide
  have hft : (f == [116, 114, 101, 101]) = false := by rw [hf]; decide
  have hfd : (f == [100, 101, 101, 112]) = false := by rw [hf]; decide
  have hx0 : (x == [103, 114, 111, 119]) = false := by rw [hx]; decide
  have hx1 : (x == [122, 105, 112]) = false := by rw [hx]; decide
  have hx2 : (x == [103, 111, 97, 116]) = false := by rw [hx]; decide
  have hx3 : (x == [101, 118, 101, 110]) = true := by rw [hx]; decide
  have HA : Hid (dAns ops (f :: [x]) = (e1T, ops)) := dAns_other hk (by rw [hf]; decide) (by rw [hf]; decide) (by rw [hf]; decide)
  try clear hk
  try clear hf
  try clear hx
  try clear hwx
  try clear hm1
  try clear hr0
  try clear hp0
  try clear ht0
  try clear hd0
  try clear hnil
  clear h hcs hrl
  go_enter Tryz.func49, Tryz.ntmps49
  go_wp2_with fail
  refine (index_any (some ⟨w.heap.size, 0, none⟩) 7 7 nmL f _ (ws_names w) (by omega)).mono ?_
  rintro e w1 ⟨rfl, hw1⟩
  have HB1 : Hid (Below w.heap.size w w1) := by show Below _ _ _; rw [hw1]; exact (Below.refl _ _).alloc (Nat.le_refl _) _
  have c01 := HC0.out w1 HB1.out
  rw [HIX.out]
  clear hw1
  go_wp2_with fail
  refine (HMK.out w1 HB1.out).mono ?_
  rintro e w2 ⟨KA, kc, rfl, hki, hb2⟩
  have HKI := Lib.hid hki
  have HB2 := Lib.hid (tr2 HB1.out hb2)
  have c02 := HC0.out w2 HB2.out
  clear hki hb2 c01 hc0 c0n
  go_wp2_with fail
  refine (HAW.out w2 HB2.out).mono ?_
  rintro e w3 ⟨A5, n5, c5, A6, n6, c6, rfl, -, has, hb3⟩
  have hn6 : n6 = n' := by rw [← has.len, ← HX.out.os.len]; exact runR_len ops
  subst hn6
  have HAS := Lib.hid has
  have HB3 := Lib.hid (tr2 HB2.out hb3)
  have HKI3 := Lib.hid (HKI.out.below hb3)
  have HOS3 := Lib.hid (HX.out.os.below HB3.out)
  have cx3 := HCX.out w3 HB3.out
  have cf3 := HC0.out w3 HB3.out
  clear has hb3 c02
  go_wp2_with fail
  refine (EvenTree_any kn KA kn kc _ w3 (Nat.le_refl _) HKI3.out (by omega)).mono ?_
  rintro e w4 ⟨q, rfl, hrt, hb4⟩
  have HRT0 := Lib.hid hrt
  have HB4 := Lib.hid (tr2 HB3.out hb4)
  have cf4 := HC0.out w4 HB4.out
  clear hrt hb4 cx3 cf3
  clear HRT0
  go_wp2
  go_ret3
  exact ln_same HX.out HA.out HB4.out e1_bsv.symm
set_option maxRecDepth 100000 in
set_option maxHeartbeats 8000000 in
theorem ln_otherb_even {A A' W : Option Addr} {n c n' c' m mc : Nat} {ops : List OP} {f : List UInt8} {x : List UInt8} {w : World} (h : LnA w A n c A' n' c' W m mc ops (f :: [x])) (hk : kindB f = 0) (hr0 : f ≠ [114, 111, 119, 115]) (hp0 : f ≠ [112, 97, 116, 104]) (ht0 : f ≠ [116, 114, 101, 101]) (hd0 : f ≠ [100, 101, 101, 112]) (hx : x = [101, 118, 101, 110]) :
    Calls Tryz.prog 49 #[.slice A n c, .slice A' n' c', .slice W m mc] w (RetLine ops (f :: [x]) w) := by
  obtain ⟨m1, rfl⟩ : ∃ k, m = k + 1 := ⟨1, by have h9 : 2 = m := h.wd.len; omega⟩
  have hrl : [x].length = m1 := by have h9 : 2 = m1 + 1 := h.wd.len; show 1 = m1; omega
  obtain ⟨b, off, rfl, hb, hcs⟩ := h.wd.at_ (by omega)
  have HX := Lib.hid h
  have HC0 : Hid (∀ wz, Below w.heap.size w wz → wz.cell? ⟨b, off, none⟩ = some (.string (bsv f))) := fun wz hz => (hz.cell (p := ⟨b, off, none⟩) hb).trans (hcs 0 (by omega))
  have hc0 := HC0.out w (Below.refl _ _)
  have c0n : (w.alloc namO).cell? ⟨b, off, none⟩ = some (.string (bsv f)) := HC0.out _ ((Below.refl _ _).alloc (Nat.le_refl _) _)
  have HWR : Hid (∀ wz, Below w.heap.size w wz → WS wz (some ⟨b, off + 1, none⟩) m1 (mc - 1) [x] ∧ (mc = 1 → ∀ A9, WS wz A9 m1 0 [x])) := fun wz hz => ws_rest h.wd hz
  have hm10 := h.m1
  have hcap := h.wd.cap
  have hn1 : (1 : Int) ≤ (m1 : Int) + 1 := by omega
  have hcq1 : (m1 : Int) + 1 ≤ (mc : Int) := by omega
  have hcq2 : (1 : Int) ≤ (mc : Int) := by omega
  have hn0 : (0 : Int) < (m1 : Int) + 1 := by omega
  have HIX := Lib.hid (ix_no hk)
  obtain ⟨kn, hkn⟩ : ∃ x, (kys (runR ops).1).length = x := ⟨_, rfl⟩
  have hk200 : kn ≤ 200 := by rw [← hkn]; exact (rise_kys (chk_runR ops)).len
  have HMK : Hid (∀ wz, Below w.heap.size w wz → Calls Tryz.prog 106 #[.slice A n c] wz fun e w' => ∃ KA kc, e = .returned (.slice KA kn kc) ∧ IS w' KA kn kc (kys (runR ops).1) ∧ Below wz.heap.size wz w') := fun wz hz => by
    rw [← hkn]
    exact MapKeys_any A n c (runR ops).1 wz (h.ps.below hz) (by rw [← h.ps.len, ← kys_len]; omega)
  have HRK := Lib.hid (rise_kys (chk_runR ops))
  have HKN := Lib.hid hkn
  clear hkn
  have hwx : w.cell? ⟨b, off + 1, none⟩ = some (.string (bsv x)) := hcs 1 (by have h9 : 1 = m1 := hrl; omega)
  have HCX : Hid (∀ wz, Below w.heap.size w wz → wz.cell? ⟨b, off + 1, none⟩ = some (.string (bsv x))) := fun wz hz => (hz.cell (p := ⟨b, off + 1, none⟩) hb).trans hwx
  have hm1 : m1 = 1 := by rw [← hrl]; rfl
  have hm1b : (((m1 : Int) + 1) == 1) = false := by simp; omega
  have hm2b : (((m1 : Int) + 1) != 2) = false := by simp; omega
  have hi1 : (1 : Int) < (m1 : Int) + 1 := by omega
  have hn3 := h.n3
  have HAW : Hid (∀ wz, Below w.heap.size w wz → Calls Tryz.prog 111 #[.slice A' n' c'] wz (RetAns (runR ops).1 (runR ops).2 wz)) := fun wz hz => Answered_any A' n' c' ops wz (h.os.below hz) (by omega)
  have hfr : (f == [114, 111, 119, 115]) = false := by simpa using hr0
  have hfp : (f == [112, 97, 116, 104]) = false := by simpa using hp0
  have hft : (f == [116, 114, 101, 101]) = false := by simpa using ht0
  have hfd : (f == [100, 101, 101, 112]) = false := by simpa using hd0
  have hx0 : (x == [103, 114, 111, 119]) = false := by rw [hx]; decide
  have hx1 : (x == [122, 105, 112]) = false := by rw [hx]; decide
  have hx2 : (x == [103, 111, 97, 116]) = false := by rw [hx]; decide
  have hx3 : (x == [101, 118, 101, 110]) = true := by rw [hx]; decide
  have HA : Hid (dAns ops (f :: [x]) = (e1T, ops)) := dAns_other hk hp0 ht0 hd0
  try clear hk
  try clear hf
  try clear hx
  try clear hwx
  try clear hm1
  try clear hr0
  try clear hp0
  try clear ht0
  try clear hd0
  try clear hnil
  clear h hcs hrl
  go_enter Tryz.func49, Tryz.ntmps49
  go_wp2_with fail
  refine (index_any (some ⟨w.heap.size, 0, none⟩) 7 7 nmL f _ (ws_names w) (by omega)).mono ?_
  rintro e w1 ⟨rfl, hw1⟩
  have HB1 : Hid (Below w.heap.size w w1) := by show Below _ _ _; rw [hw1]; exact (Below.refl _ _).alloc (Nat.le_refl _) _
  have c01 := HC0.out w1 HB1.out
  rw [HIX.out]
  clear hw1
  go_wp2_with fail
  refine (HMK.out w1 HB1.out).mono ?_
  rintro e w2 ⟨KA, kc, rfl, hki, hb2⟩
  have HKI := Lib.hid hki
  have HB2 := Lib.hid (tr2 HB1.out hb2)
  have c02 := HC0.out w2 HB2.out
  clear hki hb2 c01 hc0 c0n
  go_wp2_with fail
  refine (HAW.out w2 HB2.out).mono ?_
  rintro e w3 ⟨A5, n5, c5, A6, n6, c6, rfl, -, has, hb3⟩
  have hn6 : n6 = n' := by rw [← has.len, ← HX.out.os.len]; exact runR_len ops
  subst hn6
  have HAS := Lib.hid has
  have HB3 := Lib.hid (tr2 HB2.out hb3)
  have HKI3 := Lib.hid (HKI.out.below hb3)
  have HOS3 := Lib.hid (HX.out.os.below HB3.out)
  have cx3 := HCX.out w3 HB3.out
  have cf3 := HC0.out w3 HB3.out
  clear has hb3 c02
  go_wp2_with fail
  refine (EvenTree_any kn KA kn kc _ w3 (Nat.le_refl _) HKI3.out (by omega)).mono ?_
  rintro e w4 ⟨q, rfl, hrt, hb4⟩
  have HRT0 := Lib.hid hrt
  have HB4 := Lib.hid (tr2 HB3.out hb4)
  have cf4 := HC0.out w4 HB4.out
  clear hrt hb4 cx3 cf3
  clear HRT0
  go_wp2
  go_ret3
  exact ln_same HX.out HA.out HB4.out e1_bsv.symm
end Go.Proofs.YtpnjnedfcdppaaaGreatDoor
