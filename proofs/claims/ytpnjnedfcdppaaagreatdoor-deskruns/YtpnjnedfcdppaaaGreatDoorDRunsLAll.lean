/-
  Joined texts: YtpnjnedfcdppaaaGreatDoorDLineI, YtpnjnedfcdppaaaGreatDoorDTold, YtpnjnedfcdppaaaGreatDoorDRunsL.
-/
import Derived.Test.YtpnjnedfcdppaaaGreatDoorDLineEAll
import Derived.Test.YtpnjnedfcdppaaaGreatDoorKRef4All
import Derived.Test.YtpnjnedfcdppaaaGreatDoorGRefGAll
import Derived.Test.YtpnjnedfcdppaaaGreatDoorZRunsAll
import Derived.Test.YtpnjnedfcdppaaaGreatDoorOGoatedAll
import Derived.Test.YtpnjnedfcdppaaaGreatDoorGRefUAll
import Derived.Test.YtpnjnedfcdppaaaGreatDoorOSumAll
import Derived.Test.YtpnjnedfcdppaaaGreatDoorDWordsAll
import Derived.Test.YtpnjnedfcdppaaaGreatDoorDLivesAll
import Derived.Test.YtpnjnedfcdppaaaGreatDoorDWay3All
import Derived.Test.YtpnjnedfcdppaaaGreatDoorDLineB
import Derived.Test.YtpnjnedfcdppaaaGreatDoorDLineD
import Derived.Test.YtpnjnedfcdppaaaGreatDoorDLineHAll
import Derived.Test.YtpnjnedfcdppaaaGreatDoorDLineH1All
import Derived.Test.YtpnjnedfcdppaaaGreatDoorDLineH3All
/-
  hedgref.deskLine: no such tree; all of it. Written by tools/gen_dline.py.
-/
namespace Go.Proofs.YtpnjnedfcdppaaaGreatDoor
open Go.RowKit

set_option maxRecDepth 100000 in
set_option maxHeartbeats 8000000 in
theorem ln_oaka {A A' W : Option Addr} {n c n' c' m mc : Nat} {ops : List OP} {f : List UInt8} {x : List UInt8} {w : World} (h : LnA w A n c A' n' c' W m mc ops (f :: [x])) (hk : kindB f = 0) (hf : f = [114, 111, 119, 115]) (hx0' : x ≠ [103, 114, 111, 119]) (hx1' : x ≠ [122, 105, 112]) (hx2' : x ≠ [103, 111, 97, 116]) (hx3' : x ≠ [101, 118, 101, 110]) :
    Calls Tryz.prog 49 #[.slice A n c, .slice A' n' c', .slice W m mc] w (RetLine ops (f :: [x]) w) := by
  obtain ⟨m1, rfl⟩ : ∃ k, m = k + 1 := ⟨1, by have h9 : 2 = m := h.wd.len; omega⟩
  have hrl : [x].length = m1 := by have h9 : 2 = m1 + 1 := h.wd.len; show 1 = m1; omega
  obtain ⟨b, off, rfl, hb, hcs⟩ := h.wd.at_ (by omega)
  have HX := Lib.hid h
  have HC0 : Hid (∀ wz, Below w.heap.size w wz → wz.cell? ⟨b, off, none⟩ = some (.string (bsv f))) := fun wz hz => (hz.cell (p := ⟨b, off, none⟩) hb).trans (hcs 0 (by omega))
  have hc0 := HC0.out w (Below.refl _ _)
  have c0n : (w.alloc namO).cell? ⟨b, off, none⟩ = some (.string (bsv f)) := HC0.out _ ((Below.refl _ _).alloc (Nat.le_refl _) _)
  have HWR : Hid (∀ wz, Below w.heap.size w wz → WS wz (some ⟨b, off + 1, none⟩) m1 (mc - 1) [x] ∧ (mc = 1 → ∀ A9, WS wz A9 m1 0 [x])) := fun wz hz => ws_rest h.wd hz
  have hm10 := h.m1
  have hcap := h.wd.cap
  have hn1 : (1 : Int) ≤ (m1 : Int) + 1 := by omega
  have hcq1 : (m1 : Int) + 1 ≤ (mc : Int) := by omega
  have hcq2 : (1 : Int) ≤ (mc : Int) := by omega
  have hn0 : (0 : Int) < (m1 : Int) + 1 := by omega
  have HIX := Lib.hid (ix_no hk)
  obtain ⟨kn, hkn⟩ : ∃ x, (kys (runR ops).1).length = x := ⟨_, rfl⟩
  have hk200 : kn ≤ 200 := by rw [← hkn]; exact (rise_kys (chk_runR ops)).len
  have HMK : Hid (∀ wz, Below w.heap.size w wz → Calls Tryz.prog 106 #[.slice A n c] wz fun e w' => ∃ KA kc, e = .returned (.slice KA kn kc) ∧ IS w' KA kn kc (kys (runR ops).1) ∧ Below wz.heap.size wz w') := fun wz hz => by
    rw [← hkn]
    exact MapKeys_any A n c (runR ops).1 wz (h.ps.below hz) (by rw [← h.ps.len, ← kys_len]; omega)
  have HRK := Lib.hid (rise_kys (chk_runR ops))
  have HKN := Lib.hid hkn
  clear hkn
  have hwx : w.cell? ⟨b, off + 1, none⟩ = some (.string (bsv x)) := hcs 1 (by have h9 : 1 = m1 := hrl; omega)
  have HCX : Hid (∀ wz, Below w.heap.size w wz → wz.cell? ⟨b, off + 1, none⟩ = some (.string (bsv x))) := fun wz hz => (hz.cell (p := ⟨b, off + 1, none⟩) hb).trans hwx
  have hm1 : m1 = 1 := by rw [← hrl]; rfl
  have hm1b : (((m1 : Int) + 1) == 1) = false := by simp; omega
  have hm2b : (((m1 : Int) + 1) != 2) = false := by simp; omega
  have hi1 : (1 : Int) < (m1 : Int) + 1 := by omega
  have hn3 := h.n3
  have HAW : Hid (∀ wz, Below w.heap.size w wz → Calls Tryz.prog 111 #[.slice A' n' c'] wz (RetAns (runR ops).1 (runR ops).2 wz)) := fun wz hz => Answered_any A' n' c' ops wz (h.os.below hz) (by omega)
  have hfr : (f == [114, 111, 119, 115]) = true := by rw [hf]; exact beq_self_eq_true _
  have hfp : (f == [112, 97, 116, 104]) = false := by rw [hf]; decide
  have hft : (f == [116, 114, 101, 101]) = false := by rw [hf]; decide
  have hfd : (f == [100, 101, 101, 112]) = false := by rw [hf]; decide
  have hx0 : (x == [103, 114, 111, 119]) = false := by simpa using hx0'
  have hx1 : (x == [122, 105, 112]) = false := by simpa using hx1'
  have hx2 : (x == [103, 111, 97, 116]) = false := by simpa using hx2'
  have hx3 : (x == [101, 118, 101, 110]) = false := by simpa using hx3'
  have HA : Hid (dAns ops (f :: [x]) = (e1T, ops)) := dAns_oak hk (by rw [hf]; decide) (by unfold dTree; rw [if_neg hx0', if_neg hx1', if_neg hx2', if_neg hx3'])
  try clear hk
  try clear hf
  try clear hx
  try clear hwx
  try clear hm1
  try clear hr0
  try clear hp0
  try clear ht0
  try clear hd0
  try clear hnil
  clear hx0' hx1' hx2' hx3'
  clear h hcs hrl
  go_enter Tryz.func49, Tryz.ntmps49
  go_wp2_with fail
  refine (index_any (some ⟨w.heap.size, 0, none⟩) 7 7 nmL f _ (ws_names w) (by omega)).mono ?_
  rintro e w1 ⟨rfl, hw1⟩
  have HB1 : Hid (Below w.heap.size w w1) := by show Below _ _ _; rw [hw1]; exact (Below.refl _ _).alloc (Nat.le_refl _) _
  have c01 := HC0.out w1 HB1.out
  rw [HIX.out]
  clear hw1
  go_wp2_with fail
  refine (HMK.out w1 HB1.out).mono ?_
  rintro e w2 ⟨KA, kc, rfl, hki, hb2⟩
  have HKI := Lib.hid hki
  have HB2 := Lib.hid (tr2 HB1.out hb2)
  have c02 := HC0.out w2 HB2.out
  clear hki hb2 c01 hc0 c0n
  go_wp2_with fail
  refine (HAW.out w2 HB2.out).mono ?_
  rintro e w3 ⟨A5, n5, c5, A6, n6, c6, rfl, -, has, hb3⟩
  have hn6 : n6 = n' := by rw [← has.len, ← HX.out.os.len]; exact runR_len ops
  subst hn6
  have HAS := Lib.hid has
  have HB3 := Lib.hid (tr2 HB2.out hb3)
  have HKI3 := Lib.hid (HKI.out.below hb3)
  have HOS3 := Lib.hid (HX.out.os.below HB3.out)
  have cx3 := HCX.out w3 HB3.out
  have cf3 := HC0.out w3 HB3.out
  clear has hb3 c02
  go_wp2
  go_ret3
  exact ln_same HX.out HA.out HB3.out e1_bsv.symm
set_option maxRecDepth 100000 in
set_option maxHeartbeats 8000000 in
theorem ln_oakb {A A' W : Option Addr} {n c n' c' m mc : Nat} {ops : List OP} {f : List UInt8} {x : List UInt8} {w : World} (h : LnA w A n c A' n' c' W m mc ops (f :: [x])) (hk : kindB f = 0) (hr0 : f ≠ [114, 111, 119, 115]) (hp0 : f ≠ [112, 97, 116, 104]) (hx0' : x ≠ [103, 114, 111, 119]) (hx1' : x ≠ [122, 105, 112]) (hx2' : x ≠ [103, 111, 97, 116]) (hx3' : x ≠ [101, 118, 101, 110]) :
    Calls Tryz.prog 49 #[.slice A n c, .slice A' n' c', .slice W m mc] w (RetLine ops (f :: [x]) w) := by
  obtain ⟨m1, rfl⟩ : ∃ k, m = k + 1 := ⟨1, by have h9 : 2 = m := h.wd.len; omega⟩
  have hrl : [x].length = m1 := by have h9 : 2 = m1 + 1 := h.wd.len; show 1 = m1; omega
  obtain ⟨b, off, rfl, hb, hcs⟩ := h.wd.at_ (by omega)
  have HX := Lib.hid h
  have HC0 : Hid (∀ wz, Below w.heap.size w wz → wz.cell? ⟨b, off, none⟩ = some (.string (bsv f))) := fun wz hz => (hz.cell (p := ⟨b, off, none⟩) hb).trans (hcs 0 (by omega))
  have hc0 := HC0.out w (Below.refl _ _)
  have c0n : (w.alloc namO).cell? ⟨b, off, none⟩ = some (.string (bsv f)) := HC0.out _ ((Below.refl _ _).alloc (Nat.le_refl _) _)
  have HWR : Hid (∀ wz, Below w.heap.size w wz → WS wz (some ⟨b, off + 1, none⟩) m1 (mc - 1) [x] ∧ (mc = 1 → ∀ A9, WS wz A9 m1 0 [x])) := fun wz hz => ws_rest h.wd hz
  have hm10 := h.m1
  have hcap := h.wd.cap
  have hn1 : (1 : Int) ≤ (m1 : Int) + 1 := by omega
  have hcq1 : (m1 : Int) + 1 ≤ (mc : Int) := by omega
  have hcq2 : (1 : Int) ≤ (mc : Int) := by omega
  have hn0 : (0 : Int) < (m1 : Int) + 1 := by omega
  have HIX := Lib.hid (ix_no hk)
  obtain ⟨kn, hkn⟩ : ∃ x, (kys (runR ops).1).length = x := ⟨_, rfl⟩
  have hk200 : kn ≤ 200 := by rw [← hkn]; exact (rise_kys (chk_runR ops)).len
  have HMK : Hid (∀ wz, Below w.heap.size w wz → Calls Tryz.prog 106 #[.slice A n c] wz fun e w' => ∃ KA kc, e = .returned (.slice KA kn kc) ∧ IS w' KA kn kc (kys (runR ops).1) ∧ Below wz.heap.size wz w') := fun wz hz => by
    rw [← hkn]
    exact MapKeys_any A n c (runR ops).1 wz (h.ps.below hz) (by rw [← h.ps.len, ← kys_len]; omega)
  have HRK := Lib.hid (rise_kys (chk_runR ops))
  have HKN := Lib.hid hkn
  clear hkn
  have hwx : w.cell? ⟨b, off + 1, none⟩ = some (.string (bsv x)) := hcs 1 (by have h9 : 1 = m1 := hrl; omega)
  have HCX : Hid (∀ wz, Below w.heap.size w wz → wz.cell? ⟨b, off + 1, none⟩ = some (.string (bsv x))) := fun wz hz => (hz.cell (p := ⟨b, off + 1, none⟩) hb).trans hwx
  have hm1 : m1 = 1 := by rw [← hrl]; rfl
  have hm1b : (((m1 : Int) + 1) == 1) = false := by simp; omega
  have hm2b : (((m1 : Int) + 1) != 2) = false := by simp; omega
  have hi1 : (1 : Int) < (m1 : Int) + 1 := by omega
  have hn3 := h.n3
  have HAW : Hid (∀ wz, Below w.heap.size w wz → Calls Tryz.prog 111 #[.slice A' n' c'] wz (RetAns (runR ops).1 (runR ops).2 wz)) := fun wz hz => Answered_any A' n' c' ops wz (h.os.below hz) (by omega)
  have hfr : (f == [114, 111, 119, 115]) = false := by simpa using hr0
  have hfp : (f == [112, 97, 116, 104]) = false := by simpa using hp0
  have hx0 : (x == [103, 114, 111, 119]) = false := by simpa using hx0'
  have hx1 : (x == [122, 105, 112]) = false := by simpa using hx1'
  have hx2 : (x == [103, 111, 97, 116]) = false := by simpa using hx2'
  have hx3 : (x == [101, 118, 101, 110]) = false := by simpa using hx3'
  have HA : Hid (dAns ops (f :: [x]) = (e1T, ops)) := dAns_oak hk hp0 (by unfold dTree; rw [if_neg hx0', if_neg hx1', if_neg hx2', if_neg hx3'])
  try clear hk
  try clear hf
  try clear hx
  try clear hwx
  try clear hm1
  try clear hr0
  try clear hp0
  try clear ht0
  try clear hd0
  try clear hnil
  clear hx0' hx1' hx2' hx3'
  clear h hcs hrl
  go_enter Tryz.func49, Tryz.ntmps49
  go_wp2_with fail
  refine (index_any (some ⟨w.heap.size, 0, none⟩) 7 7 nmL f _ (ws_names w) (by omega)).mono ?_
  rintro e w1 ⟨rfl, hw1⟩
  have HB1 : Hid (Below w.heap.size w w1) := by show Below _ _ _; rw [hw1]; exact (Below.refl _ _).alloc (Nat.le_refl _) _
  have c01 := HC0.out w1 HB1.out
  rw [HIX.out]
  clear hw1
  go_wp2_with fail
  refine (HMK.out w1 HB1.out).mono ?_
  rintro e w2 ⟨KA, kc, rfl, hki, hb2⟩
  have HKI := Lib.hid hki
  have HB2 := Lib.hid (tr2 HB1.out hb2)
  have c02 := HC0.out w2 HB2.out
  clear hki hb2 c01 hc0 c0n
  go_wp2_with fail
  refine (HAW.out w2 HB2.out).mono ?_
  rintro e w3 ⟨A5, n5, c5, A6, n6, c6, rfl, -, has, hb3⟩
  have hn6 : n6 = n' := by rw [← has.len, ← HX.out.os.len]; exact runR_len ops
  subst hn6
  have HAS := Lib.hid has
  have HB3 := Lib.hid (tr2 HB2.out hb3)
  have HKI3 := Lib.hid (HKI.out.below hb3)
  have HOS3 := Lib.hid (HX.out.os.below HB3.out)
  have cx3 := HCX.out w3 HB3.out
  have cf3 := HC0.out w3 HB3.out
  clear has hb3 c02
  go_wp2
  go_ret3
  exact ln_same HX.out HA.out HB3.out e1_bsv.symm
theorem two_of {l : List Nat} (h : l.length = 2) : ∃ a b, l = [a, b] := by
  match l, h with
  | [a, b], _ => exact ⟨a, b, rfl⟩
theorem deskLine_any {A A' W : Option Addr} {n c n' c' m mc : Nat} {ops : List OP} {ws : List (List UInt8)} {w : World} (h : LnA w A n c A' n' c' W m mc ops ws) (hne : ws ≠ []) :
    Calls Tryz.prog 49 #[.slice A n c, .slice A' n' c', .slice W m mc] w (RetLine ops ws w) := by
  obtain ⟨f, r, rfl⟩ : ∃ a b, ws = a :: b := by cases ws with | nil => exact absurd rfl hne | cons a b => exact ⟨a, b, rfl⟩
  by_cases hk : kindB f = 0
  · by_cases hf : f = [114, 111, 119, 115]
    · by_cases h0 : r.length = 0
      · exact ln_rows h hk hf h0
      by_cases h1 : r.length = 1
      · obtain ⟨x, rfl⟩ := List.length_eq_one_iff.mp h1
        by_cases hx0 : x = [103, 114, 111, 119]
        · exact ln_othera_grow h hk hf hx0
        by_cases hx1 : x = [122, 105, 112]
        · exact ln_othera_zip h hk hf hx1
        by_cases hx2 : x = [103, 111, 97, 116]
        · exact ln_othera_goat h hk hf hx2
        by_cases hx3 : x = [101, 118, 101, 110]
        · exact ln_othera_even h hk hf hx3
        exact ln_oaka h hk hf hx0 hx1 hx2 hx3
      · exact ln_many_rows h hk hf h0 h1
    · by_cases h1 : r.length = 1
      · by_cases hp : f = [112, 97, 116, 104]
        · cases hr : nmsL r with
          | none => exact ln_path_bad h hk hp h1 hr
          | some ks =>
            have hl := nmsL_len hr
            obtain ⟨k0, rfl⟩ := List.length_eq_one_iff.mp (hl.trans h1)
            rcases Nat.lt_or_ge 1000000 k0 with hb | hb
            · exact ln_path_big h hk hp h1 hr hb
            · exact ln_path_ok h hk hp h1 hr hb
        obtain ⟨x, rfl⟩ := List.length_eq_one_iff.mp h1
        by_cases ht : f = [116, 114, 101, 101]
        · skip
          by_cases hx0 : x = [103, 114, 111, 119]
          · exact ln_tree_grow h hk ht hx0
          by_cases hx1 : x = [122, 105, 112]
          · exact ln_tree_zip h hk ht hx1
          by_cases hx2 : x = [103, 111, 97, 116]
          · exact ln_tree_goat h hk ht hx2
          by_cases hx3 : x = [101, 118, 101, 110]
          · exact ln_tree_even h hk ht hx3
          exact ln_oakb h hk hf hp hx0 hx1 hx2 hx3
        by_cases hd : f = [100, 101, 101, 112]
        · skip
          by_cases hx0 : x = [103, 114, 111, 119]
          · by_cases hn : grT ops = .nil
            · exact ln_deep0_grow h hk hd hx0 hn
            · exact ln_deep_grow h hk hd hx0 hn
          by_cases hx1 : x = [122, 105, 112]
          · by_cases hn : zT (kys (runR ops).1) = .nil
            · exact ln_deep0_zip h hk hd hx1 hn
            · exact ln_deep_zip h hk hd hx1 hn
          by_cases hx2 : x = [103, 111, 97, 116]
          · by_cases hn : (goT ops).t = .nil
            · exact ln_deep0_goat h hk hd hx2 hn
            · exact ln_deep_goat h hk hd hx2 hn
          by_cases hx3 : x = [101, 118, 101, 110]
          · by_cases hn : ev (kys (runR ops).1) = .nil
            · exact ln_deep0_even h hk hd hx3 hn
            · exact ln_deep_even h hk hd hx3 hn
          exact ln_oakb h hk hf hp hx0 hx1 hx2 hx3
        by_cases hx0 : x = [103, 114, 111, 119]
        · exact ln_otherb_grow h hk hf hp ht hd hx0
        by_cases hx1 : x = [122, 105, 112]
        · exact ln_otherb_zip h hk hf hp ht hd hx1
        by_cases hx2 : x = [103, 111, 97, 116]
        · exact ln_otherb_goat h hk hf hp ht hd hx2
        by_cases hx3 : x = [101, 118, 101, 110]
        · exact ln_otherb_even h hk hf hp ht hd hx3
        exact ln_oakb h hk hf hp hx0 hx1 hx2 hx3
      · exact ln_many h hk hf h1
  · obtain ⟨j, hj⟩ : ∃ j, kindB f = j + 1 := ⟨kindB f - 1, by omega⟩
    cases hr : nmsL r with
    | none => exact ln_bad h hj hr
    | some ks =>
      rcases Nat.eq_zero_or_pos j with rfl | hj0
      · by_cases hl : ks.length = 2
        · obtain ⟨a, b2, rfl⟩ := two_of hl
          by_cases he : (doA (runR ops).1 1 a).e = 0
          · cases hb : (doA (runR ops).1 1 a).b with
            | true => exact ln_put_old h hj hr he hb
            | false => exact ln_put_new h hj hr he hb
          · exact ln_put_err h hj hr he
        · exact ln_len0 h hj hr hl
      · by_cases hl : ks.length = 1
        · obtain ⟨a, rfl⟩ := List.length_eq_one_iff.mp hl
          by_cases he : (doA (runR ops).1 ((j : Int) + 1) a).e = 0
          · cases hb : (doA (runR ops).1 ((j : Int) + 1) a).b with
            | true =>
              by_cases h5 : j = 5
              · exact ln_one_cnt h hj hj0 h5 hr he hb
              by_cases h3 : j < 3
              · exact ln_one_val h hj hj0 h3 hr he hb
              · exact ln_one_kv h hj hj0 h5 h3 hr he hb
            | false =>
              by_cases h5 : j = 5
              · subst h5
                have h9 := doA_count (chk_runR ops) (a : Int)
                have h8 : (doA (runR ops).1 6 (a : Int)).b = false := hb
                rw [h9] at h8
                cases h8
              · exact ln_one_none h hj hj0 h5 hr he hb
          · exact ln_one_err h hj hj0 hr he
        · exact ln_len1 h hj hj0 hr hl
end Go.Proofs.YtpnjnedfcdppaaaGreatDoor

/-
  hedgref.DeskTold.
-/
namespace Go.Proofs.YtpnjnedfcdppaaaGreatDoor
open Go.RowKit

theorem pathR_ops (ops : List OP) (r : Option (List Nat)) : (pathR ops r).2 = ops := by
  unfold pathR
  split <;> rfl
theorem ordR_ops (ops : List OP) (r : List (List UInt8)) : (ordR ops r).2 = ops := by
  unfold ordR
  split <;> rfl
theorem deepR_ops (ops : List OP) (r : List (List UInt8)) : (deepR ops r).2 = ops := by
  unfold deepR
  split <;> rfl
theorem dAns_ob {ops : List OP} {ws : List (List UInt8)} (h : OB2 ops) : OB2 (dAns ops ws).2 := by
  cases ws with
  | nil => exact h
  | cons f r =>
    by_cases hk : kindB f = 0
    · by_cases h1 : f = [112, 97, 116, 104]
      · rw [dAns_path h1, pathR_ops]; exact h
      by_cases h2 : f = [114, 111, 119, 115]
      · rw [dAns_rows h2]; exact h
      by_cases h3 : f = [116, 114, 101, 101]
      · rw [dAns_tree h3, ordR_ops]; exact h
      by_cases h4 : f = [100, 101, 101, 112]
      · rw [dAns_deep h4, deepR_ops]; exact h
      rw [dAns_else hk h1 h2 h3 h4]; exact h
    · rw [dAns_op hk]
      cases hd : dOp (kindB f) r with
      | none => exact h
      | some o =>
        obtain ⟨k, a, b⟩ := o
        have hb := dOp_bd hd
        show OB2 (if (doA (runR ops).1 k a).e ≠ 0 then (errT (doA (runR ops).1 k a).e.toNat, ops) else (dTold k (doA (runR ops).1 k a), ops ++ [(k, a, b)])).2
        split
        · exact h
        · refine ⟨fun o ho => ?_⟩
          rcases List.mem_append.mp ho with ho | ho
          · exact h.each o ho
          · rw [List.mem_singleton.mp ho]
            exact ⟨hb.2.1, hb.2.2.1, hb.2.2.2.1, hb.2.2.2.2⟩
theorem stK_ob (Ls : List (List (List UInt8))) : ∀ k, k ≤ Ls.length → OB2 (stK Ls k).2
  | 0, _ => ⟨fun o ho => by cases ho⟩
  | k + 1, h => by
    rw [stK_succ (by omega)]
    exact dAns_ob (stK_ob Ls k (by omega))
theorem dln_mem {l : List UInt8} {ws : List (List UInt8)} (h : ws ∈ dln l) : ws ≠ [] ∧ ws.length ≤ l.length + 1 ∧ ∀ x ∈ ws, x ≠ [] ∧ x.length ≤ l.length := by
  unfold dln at h
  obtain ⟨h1, h2⟩ := List.mem_filter.mp h
  obtain ⟨y, hy, rfl⟩ := List.mem_map.mp h1
  have hyl := spl_mem hy
  have htw := tw_len y
  have hml : ((y.takeWhile (· != 59)).map t2b).length = (y.takeWhile (· != 59)).length := List.length_map _
  rw [wds_spl] at h2 ⊢
  have hcn := List.count_le_length (a := (32 : UInt8)) (l := (y.takeWhile (· != 59)).map t2b)
  have hsl := spl_length 32 ((y.takeWhile (· != 59)).map t2b)
  refine ⟨fun e => ?_, ?_, fun x hx => ?_⟩
  · rw [e] at h2
    simp at h2
  · refine Nat.le_trans (List.length_filter_le _ _) ?_
    omega
  · obtain ⟨h3, h4⟩ := List.mem_filter.mp hx
    have := spl_mem h3
    exact ⟨fun e => by rw [e] at h4; simp at h4, by omega⟩
set_option maxRecDepth 100000 in
set_option maxHeartbeats 8000000 in
theorem DTold_lim (l : List UInt8) (w : World) (hl : l.length ≤ 1048576) (h : 8192 < l.length ∨ 100 < (dln l).length) (hL : LD w) :
    Calls Tryz.prog 12 #[.string (bsv l)] w fun e w' => e = .returned (.string (bsv (deskP l))) ∧ Below w.heap.size w w' := by
  have HDL := Lib.hid (DeskLines_any l w hl hL)
  have HP := Lib.hid (dl_lim h)
  have hsz : (bsv l).size = l.length := bsv_size l
  obtain ⟨m, hm⟩ : ∃ m, (dln l).length = m := ⟨_, rfl⟩
  have HM := Lib.hid hm
  obtain ⟨n, hn⟩ : ∃ n, l.length = n := ⟨_, rfl⟩
  rw [hm, hn] at h
  rw [hn] at hsz
  clear hm hn hl hL
  by_cases h1 : 8192 < n
  · have f1 : (8192 : Int) < (n : Int) := by omega
    clear h
    go_enter Tryz.func12, Tryz.ntmps12
    go_wp2_with fail
    refine HDL.out.mono ?_
    rintro e w1 ⟨v, rfl, -, hb1⟩
    rw [HM.out]
    have HB1 := Lib.hid hb1
    clear hb1
    go_wp2
    go_ret
    exact ⟨by rw [HP.out]; rfl, HB1.out⟩
  · have f1 : ¬ (8192 : Int) < (n : Int) := by omega
    have f2 : (100 : Int) < (m : Int) := by omega
    clear h
    go_enter Tryz.func12, Tryz.ntmps12
    go_wp2_with fail
    refine HDL.out.mono ?_
    rintro e w1 ⟨v, rfl, -, hb1⟩
    rw [HM.out]
    have HB1 := Lib.hid hb1
    clear hb1
    go_wp2
    go_ret
    exact ⟨by rw [HP.out]; rfl, HB1.out⟩
set_option maxRecDepth 100000 in
set_option maxHeartbeats 8000000 in
theorem DTold_ok (l : List UInt8) (w : World) (h1 : l.length ≤ 8192) (h2 : (dln l).length ≤ 100) (hL : LD w) :
    Calls Tryz.prog 12 #[.string (bsv l)] w fun e w' => e = .returned (.string (bsv (deskP l))) ∧ Below w.heap.size w w' := by
  have HDL := Lib.hid (DeskLines_any l w (by omega) hL)
  have HP := Lib.hid (dl_runs h1 h2)
  have HMM := Lib.hid fun (k : Nat) (hk : k < (dln l).length) => dln_mem (List.getElem_mem hk)
  have hsz : (bsv l).size = l.length := bsv_size l
  obtain ⟨Ls, hLs⟩ : ∃ Ls, dln l = Ls := ⟨_, rfl⟩
  rw [hLs] at HDL HP HMM h2
  obtain ⟨m, hm⟩ : ∃ m, Ls.length = m := ⟨_, rfl⟩
  have HM := Lib.hid hm
  obtain ⟨n, hn⟩ : ∃ n, l.length = n := ⟨_, rfl⟩
  rw [hn] at h1 hsz HMM
  rw [hm] at h2
  have f1 : ¬ (8192 : Int) < (n : Int) := by omega
  have f2 : ¬ (100 : Int) < (m : Int) := by omega
  clear hm hn hL hLs
  go_enter Tryz.func12, Tryz.ntmps12
  go_wp2_with fail
  refine HDL.out.mono ?_
  rintro e w1 ⟨v, rfl, hln, hb1⟩
  obtain ⟨LA, lc, rfl, hls⟩ := hln.is_
  rw [HM.out]
  have HLS := Lib.hid hls
  have HB1 := Lib.hid hb1
  clear hb1 hln hls
  go_wp2
  go_loopw [5, 6, 7, 25] (fun ov lv pv iv wr => ∃ (k : Nat) (A : Option Addr) (n1 c1 : Nat) (A' : Option Addr) (n2 c2 : Nat), k ≤ m ∧ iv = .int .i64 k ∧ ov = .string (bsv (stK Ls k).1) ∧ lv = .slice A n1 c1 ∧ pv = .slice A' n2 c2 ∧ Hid (PS wr A n1 c1 (runR (stK Ls k).2).1) ∧ Hid (OS wr A' n2 c2 (stK Ls k).2) ∧ Hid (Below w1.heap.size w1 wr)) (fun _ _ _ iv _ => m - (intOf iv).toNat)
  case atStart => exact ⟨0, none, 0, 0, none, 0, 0, Nat.zero_le _, rfl, rfl, rfl, rfl, ⟨rfl, Rd.none_⟩, ⟨rfl, Rd.none_⟩, Below.refl _ _⟩
  case round =>
    obtain ⟨k, A, n1, c1, A', n2, c2, hk, rfl, rfl, rfl, rfl, HPS, HOS, HB⟩ := hrel
    by_cases hkm : k < m
    · have hkl : k < Ls.length := by rw [HM.out]; exact hkm
      obtain ⟨b7, off7, u, rfl, hb7, -, hc7, g, c9, cs, fz, rfl, -, hws, -⟩ := HLS.out k hkl
      obtain ⟨hne, hwl, hwx⟩ := HMM.out k hkl
      have c0 : wr.cell? ⟨b7, off7 + k, none⟩ = some (.slice (some ⟨g, 0, none⟩) Ls[k].length c9) := (HB.out.cell (p := ⟨b7, off7 + k, none⟩) hb7).trans hc7
      have hsk := stK_succ hkl
      obtain ⟨hs1, hs2⟩ := stK_len Ls k (by omega)
      have hob := stK_ob Ls k (by omega)
      obtain ⟨ws, hwe⟩ : ∃ ws, Ls[k] = ws := ⟨_, rfl⟩
      rw [hwe] at c0 hws hne hwl hwx hsk
      have HSK := Lib.hid hsk
      obtain ⟨⟨ot, ops⟩, hst⟩ : ∃ s, stK Ls k = s := ⟨_, rfl⟩
      rw [hst] at HPS HOS HSK hs1 hs2 hob ⊢
      have hol : ot.length ≤ 300000100 := by have h9 : ot.length ≤ 3000001 * k := hs1; omega
      have HDA := Lib.hid (dAns_len ops ws)
      have HLN := Lib.hid (deskLine_any (W := some ⟨g, 0, none⟩) (m := ws.length) (mc := c9) ⟨HPS.out, HOS.out, hws.below HB.out, by have h9 := HOS.out.len; have h8 : ops.length ≤ k := hs2; omega, by omega, fun x hx => ⟨(hwx x hx).1, by have := (hwx x hx).2; omega⟩, hob⟩ hne)
      obtain ⟨wn, hwn⟩ : ∃ x, ws.length = x := ⟨_, rfl⟩
      rw [hwn] at c0 HLN
      clear hc7 hws hne hwl hwx hsk hs1 hs2 hob hwe hst hwn
      go_wp2_with fail
      refine HLN.out.mono ?_
      rintro e w2 ⟨A3, n3, c3, A4, n4, c4, rfl, hps, hos, hb2⟩
      have HPS3 := Lib.hid hps
      have HOS3 := Lib.hid hos
      have HB2 := Lib.hid (tr2 HB.out hb2)
      have hal := HDA.out.1
      obtain ⟨⟨at_, ops2⟩, hat⟩ : ∃ s, dAns ops ws = s := ⟨_, rfl⟩
      rw [hat] at HPS3 HOS3 hal ⊢
      have HNX : Hid (stK Ls (k + 1) = (ot ++ at_ ++ [10], ops2)) := by
        show _ = _
        rw [HSK.out]
        show (ot ++ (dAns ops ws).1 ++ [10], (dAns ops ws).2) = _
        rw [hat]
      have hal2 : at_.length ≤ 3000000 := hal
      have hz1 : ¬ (9223372036854775807 < at_.length + 1) := by omega
      have hz2 : ¬ (9223372036854775807 < ot.length + (at_.length + 1)) := by omega
      have hzo : (bsv ot).size = ot.length := bsv_size _
      have hza : (bsv at_).size = at_.length := bsv_size _
      clear hps hos hb2 hal hat
      go_wp2
      go_roundw
      case rel =>
        refine ⟨k + 1, A3, n3, c3, A4, n4, c4, by omega, by go_num, ?_, rfl, rfl, ?_, ?_, HB2.out⟩
        · rw [HNX.out]
          show Value.string (bsv ot ++ (bsv at_ ++ bsv [10])) = .string (bsv (ot ++ at_ ++ [10]))
          rw [bsv_app, bsv_app, List.append_assoc]
        · show PS _ _ _ _ _
          rw [HNX.out]
          exact HPS3.out
        · show OS _ _ _ _ _
          rw [HNX.out]
          exact HOS3.out
      case measure => simp [intOf]; omega
    · obtain rfl : k = m := by omega
      have HE : Hid (deskP l = (stK Ls k).1) := by
        show _ = _
        rw [HP.out, ← stK_all, HM.out]
      have HBE := Lib.hid (tr2 HB1.out HB.out)
      obtain ⟨ot, hot⟩ : ∃ o, (stK Ls k).1 = o := ⟨_, rfl⟩
      rw [hot] at HE ⊢
      clear hot
      go_wp2
      go_ret
      exact ⟨congrArg (fun s => Ending.returned (Value.string (bsv s))) HE.out.symm, HBE.out⟩
theorem DTold_any (l : List UInt8) (w : World) (hl : l.length ≤ 1048576) (hL : LD w) :
    Calls Tryz.prog 12 #[.string (bsv l)] w fun e w' => e = .returned (.string (bsv (deskP l))) ∧ Below w.heap.size w w' := by
  rcases Decidable.em (8192 < l.length ∨ 100 < (dln l).length) with h | h
  · exact DTold_lim l w hl h hL
  · exact DTold_ok l w (by omega) (by omega) hL
end Go.Proofs.YtpnjnedfcdppaaaGreatDoor

/-
  DeskRuns, walked.
-/
namespace Go.Proofs.YtpnjnedfcdppaaaGreatDoor
open Go.RowKit

set_option maxRecDepth 100000 in
theorem DRunsL_any (l : List UInt8) (w : World) (hl : l.length ≤ 1048576) (hL : LD w) : Calls Tryz.prog 3 #[.string (bsv l)] w (RetYes w) := by
  have HLD := Lib.hid hL
  have HR := Lib.hid fun wz hz => Run_dany l wz (by omega) hz
  have HT := Lib.hid fun wz hz => DTold_any l wz hl hz
  obtain ⟨o, ho⟩ : ∃ o, deskP l = o := ⟨_, rfl⟩
  rw [ho] at HR HT
  have hoo : (o == o) = true := beq_self_eq_true o
  clear ho hL hl
  go_enter Tryz.func3, Tryz.ntmps3
  go_wp2_with fail
  refine (HR.out _ HLD.out).mono ?_
  rintro e w1 ⟨rfl, hb1⟩
  have HB1 := Lib.hid hb1
  clear hb1
  go_wp2_with fail
  refine (HT.out _ (HLD.out.next HB1.out)).mono ?_
  rintro e w2 ⟨rfl, hb2⟩
  have HB2 := Lib.hid (tr2 HB1.out hb2)
  clear hb2
  go_wp2
  go_ret
  exact ⟨by first | rfl | simp, HB2.out⟩
end Go.Proofs.YtpnjnedfcdppaaaGreatDoor
