/-
  hedgref.deskLine: put, done. Written by tools/gen_dline.py.
-/
import Derived.Test.YtpnjnedfcdppaaaGreatDoorDLineEAll
namespace Go.Proofs.YtpnjnedfcdppaaaGreatDoor
open Go.RowKit

set_option maxRecDepth 100000 in
set_option maxHeartbeats 8000000 in
theorem ln_put_old {A A' W : Option Addr} {n c n' c' m mc : Nat} {ops : List OP} {f : List UInt8} {r : List (List UInt8)} {w : World} (h : LnA w A n c A' n' c' W m mc ops (f :: r)) {a b2 : Nat} (hk : kindB f = 0 + 1) (hr : nmsL r = some [a, b2]) (he : (doA (runR ops).1 1 a).e = 0) (hab : (doA (runR ops).1 1 a).b = true) :
    Calls Tryz.prog 49 #[.slice A n c, .slice A' n' c', .slice W m mc] w (RetLine ops (f :: r) w) := by
  obtain ⟨m1, rfl⟩ : ∃ k, m = k + 1 := ⟨r.length, by have := h.wd.len; simp at this; omega⟩
  have hrl : r.length = m1 := by have := h.wd.len; simp at this; omega
  obtain ⟨b, off, rfl, hb, hcs⟩ := h.wd.at_ (by omega)
  have HX := Lib.hid h
  have HC0 : Hid (∀ wz, Below w.heap.size w wz → wz.cell? ⟨b, off, none⟩ = some (.string (bsv f))) := fun wz hz => (hz.cell (p := ⟨b, off, none⟩) hb).trans (hcs 0 (by omega))
  have hc0 := HC0.out w (Below.refl _ _)
  have c0n : (w.alloc namO).cell? ⟨b, off, none⟩ = some (.string (bsv f)) := HC0.out _ ((Below.refl _ _).alloc (Nat.le_refl _) _)
  have HWR : Hid (∀ wz, Below w.heap.size w wz → WS wz (some ⟨b, off + 1, none⟩) m1 (mc - 1) r ∧ (mc = 1 → ∀ A9, WS wz A9 m1 0 r)) := fun wz hz => ws_rest h.wd hz
  have hm10 := h.m1
  have hcap := h.wd.cap
  have hn1 : (1 : Int) ≤ (m1 : Int) + 1 := by omega
  have hcq1 : (m1 : Int) + 1 ≤ (mc : Int) := by omega
  have hcq2 : (1 : Int) ≤ (mc : Int) := by omega
  have hn0 : (0 : Int) < (m1 : Int) + 1 := by omega
  have HIX := Lib.hid (ix_at hk)
  have HNUM : Hid (∀ A9 c9 wz, WS wz A9 m1 c9 r → Calls Tryz.prog 102 #[.slice A9 m1 c9] wz (RetNum (some [a, b2]) wz)) := fun A9 c9 wz hz => by
    have := refNums_any A9 m1 c9 r wz hz (by omega) (fun x hx => h.wl x (List.mem_cons_of_mem _ hx))
    rwa [hr] at this
  have HDN : Hid (∀ wz, Below w.heap.size w wz → Calls Tryz.prog 103 #[.slice A n c, .agg #[I 1, I a, I b2]] wz (RetD A n (doL (runR ops).1 1 a b2) (doA (runR ops).1 1 a) wz)) := fun wz hz => Done_any A n c (runR ops).1 1 a b2 wz (h.ps.below hz) (chk_runR ops)
  have hbd := doA_bd (kind := 1) (key := (a : Int)) (chk_runR ops) (runR_vals _ ops rfl h.ob)
  have hn3 := h.n3
  have HA : Hid (dAns ops (f :: r) = (([111, 108, 100]), ops ++ [((1 : Int), (a : Int), (b2 : Int))])) := by show _ = _; rw [dAns_op (by omega), show dOp (kindB f) r = some (1, (a : Int), (b2 : Int)) by rw [hk]; exact dOp_put hr]; unfold opR; simp only []; rw [if_neg (by rw [he]; decide)]; exact congrArg (fun z => (z, _)) (by unfold dTold; rw [if_pos rfl, if_pos hab])
  obtain ⟨hb1, hb2', hb3', hb4'⟩ := hbd
  have hbd0 := True.intro
  obtain ⟨⟨ae, ak, av, ab⟩, hann⟩ : ∃ x, doA (runR ops).1 1 a = x := ⟨_, rfl⟩
  rw [hann] at HDN he hb1 hb2' hb3' hb4' hab
  have he2 : ae = 0 := he
  have hab2 : ab = true := hab
  subst he2 hab2
  obtain ⟨xk, rfl⟩ : ∃ x : Nat, ak = x := ⟨ak.toNat, by have : 0 ≤ ak := hb1; omega⟩
  obtain ⟨xv, rfl⟩ : ∃ x : Nat, av = x := ⟨av.toNat, by have : 0 ≤ av := hb3'; omega⟩
  have hxk : xk < 100000000 := by have : (xk : Int) < 100000000 := hb2'; omega
  have hxv : xv < 100000000 := by have : (xv : Int) < 100000000 := hb4'; omega
  have hlo : ops.length ≤ 200 := by rw [h.os.len]; exact hn3
  try clear hk
  try clear hr
  try clear he
  try clear hann
  try clear hab
  try clear hbd0
  try clear hb1
  try clear hb2'
  try clear hb3'
  try clear hb4'
  try clear hn3
  try clear hj5
  clear h hcs hrl
  go_enter Tryz.func49, Tryz.ntmps49
  go_wp2_with fail
  refine (index_any (some ⟨w.heap.size, 0, none⟩) 7 7 nmL f _ (ws_names w) (by omega)).mono ?_
  rintro e w1 ⟨rfl, hw1⟩
  have HB1 : Hid (Below w.heap.size w w1) := by show Below _ _ _; rw [hw1]; exact (Below.refl _ _).alloc (Nat.le_refl _) _
  have c01 := HC0.out w1 HB1.out
  rw [HIX.out]
  clear hw1
  go_wp2_with fail
  all_goals
    refine (HNUM.out _ _ w1 ?hw).mono ?_
    case hw => first | with_reducible exact (HWR.out w1 HB1.out).1 | exact (HWR.out w1 HB1.out).2 (by omega) _
    rintro e w2 ⟨v9, rfl, ho9, hb2⟩
    obtain ⟨A9, c9, rfl, _, his9⟩ := ownI_told (n := 2) ho9 rfl
    obtain ⟨b9, off9, rfl, hb9, hcs9⟩ := his9.at_ (by omega)
    have e0 : w2.cell? ⟨b9, off9, none⟩ = some (I a) := hcs9 0 (by omega)
    have e1 : ∀ o, (w2.alloc o).cell? ⟨b9, off9 + 1, none⟩ = some (I b2) := fun o => ck (hcs9 1 (by omega)) o
    have HB2 := Lib.hid (tr2 HB1.out hb2)
    clear hb2 ho9 his9 hcs9
    go_wp2_with fail
    refine (HDN.out _ (HB2.out.alloc HB2.out.size _)).mono ?_
    rintro e w3 ⟨A3, n3, c3, rfl, hps3, hb3, -⟩
    have HPS3 := Lib.hid hps3
    have HB23 : Hid (Below w2.heap.size w2 w3) := ((Below.refl _ _).alloc (Nat.le_refl _) _).trans (hb3.mono (by simp))
    have HOP3 : Hid (w3.heap[w2.heap.size]? = some (.cells #[I 1, I a, I b2] 69 (0, 0))) := (hb3.block _ (by simp)).trans (heap_alloc_new _ _)
    have hz3 : w2.heap.size + 1 ≤ w3.heap.size := by have h9 := hb3.size; rw [World.size_alloc] at h9; exact h9
    have HB3 := Lib.hid (tr2 HB2.out HB23.out)
    clear hps3 hb3
    go_upto_region 26 with fail
    have hop4 : (w3.alloc (.cells #[I 0, I xk, I xv, .bool true] 51)).heap[w2.heap.size]? = some (.cells #[I 1, I a, I b2] 69 (0, 0)) := (Below.heap_alloc _ _ _ (by omega)).trans HOP3.out
    have HB4 := Lib.hid (HB3.out.alloc HB3.out.size (.cells #[I 0, I xk, I xv, .bool true] 51))
    have HPS4 := Lib.hid (HPS3.out.alloc (.cells #[I 0, I xk, I xv, .bool true] 51))
    have hgo : w2.heap.size < (w3.alloc (.cells #[I 0, I xk, I xv, .bool true] 51)).heap.size := by simp; omega
    generalize (w3.alloc (.cells #[I 0, I xk, I xv, .bool true] 51)) = w4 at *
    generalize w2.heap.size = go at *
    have p0 : w4.cell? ⟨go, 0, none⟩ = some (I 1) := by simp [World.cell?, hop4]
    have p1 : w4.cell? ⟨go, 1, none⟩ = some (I a) := by simp [World.cell?, hop4]
    have p2 : w4.cell? ⟨go, 2, none⟩ = some (I b2) := by simp [World.cell?, hop4]
    clear hop4
    have HCL : Hid (∀ x, Below w4.heap.size w4 x → Calls Tryz.prog 105 #[.slice A' n' c'] x fun e w' => ∃ v, e = .returned v ∧ OwnO w' x.heap.size v ops ∧ Below x.heap.size x w') := fun x hx => cloneO_any A' n' c' ops x (HX.out.os.below (HB4.out.trans (hx.mono HB4.out.size))) (by have := HX.out.n3; omega)
    go_region_held3 (fun V => V.cell? ⟨go, 0, none⟩ = some (I 1) ∧ V.cell? ⟨go, 1, none⟩ = some (I a) ∧ V.cell? ⟨go, 2, none⟩ = some (I b2))
      (first
        | exact ⟨q0, q1, q2⟩
        | exact ⟨ck q0 _, ck q1 _, ck q2 _⟩
        | exact ⟨p0, p1, p2⟩
        | exact ⟨ck p0 _, ck p1 _, ck p2 _⟩)
      (first
        | (go_at_call 105
           with_reducible refine (HCL.out _ (by first | exact (Below.refl _ _).drew | exact ((Below.refl _ _).alloc (Nat.le_refl _) _).drew)).mono ?_
           rintro e w5 ⟨v5, rfl, ho5, hb5⟩
           have hB5 : Below w4.heap.size w4 w5 := by
             first
               | exact (Below.refl w4.heap.size w4).drew.trans hb5
               | exact ((Below.refl w4.heap.size w4).alloc (Nat.le_refl _) _).drew.trans (hb5.mono (by simp))
           have q0 : w5.cell? ⟨go, 0, none⟩ = some (I 1) := (hB5.cell (p := ⟨go, 0, none⟩) hgo).trans p0
           have q1 : w5.cell? ⟨go, 1, none⟩ = some (I a) := (hB5.cell (p := ⟨go, 1, none⟩) hgo).trans p1
           have q2 : w5.cell? ⟨go, 2, none⟩ = some (I b2) := (hB5.cell (p := ⟨go, 2, none⟩) hgo).trans p2
           have HO5 : Hid (w5.ownsRow w4.heap.size 69 3 v5 ops.length (flatO ops)) := own_mono1 ho5 (by simp)
           try (have HN5 : Hid (∀ j u, [I 1, I a, I b2][j]? = some u → w5.cell? ((⟨w4.heap.size, 0, none⟩ : Addr).add j) = some u) := lk_keep (w := (w4.alloc (lnO 1 a b2)).drew) (sp := ⟨w4.heap.size, 0, none⟩) (fun j u hu => three_new w4 1 a b2 69 j u hu) hb5)
           have HB5 := Lib.hid hB5
           clear ho5 hb5 hB5)
        | (refine step_op1 rfl (.tmp 125) (.tmp 127) 32 rfl 69 Tryz.underlying32 op_info w4.heap.size v5 ops.length (flatO ops) ⟨w4.heap.size, 0, none⟩ [I 1, I a, I b2] rfl rfl HO5.out rfl HN5.out (three_one 1 a b2) (by omega) HB5.out.size ?_
           intro v6 w6 hown6 hgrow6
           have hb6 : Below w4.heap.size w4 w6 := HB5.out.grown hgrow6 HB5.out.size (own_ge1 HO5.out)
           have q0 : w6.cell? ⟨go, 0, none⟩ = some (I 1) := (hb6.cell (p := ⟨go, 0, none⟩) hgo).trans p0
           have q1 : w6.cell? ⟨go, 1, none⟩ = some (I a) := (hb6.cell (p := ⟨go, 1, none⟩) hgo).trans p1
           have q2 : w6.cell? ⟨go, 2, none⟩ = some (I b2) := (hb6.cell (p := ⟨go, 2, none⟩) hgo).trans p2
           obtain ⟨A6, c6, hv6, hos6⟩ := OwnO.os (own_op1 hown6)
           have HB6 := Lib.hid hb6
           have HV6 := Lib.hid hv6
           have HOS6 := Lib.hid hos6
           clear hown6 hgrow6 hv6 hos6 hb6)
        | (refine step_op1 rfl (.tmp 125) (.tmp 127) 32 rfl 69 Tryz.underlying32 op_info w4.heap.size v5 ops.length (flatO ops) ⟨w5.heap.size, 0, none⟩ [I 1, I a, I b2] rfl rfl (own_below HO5.out ((Below.refl _ _).alloc (Nat.le_refl _) _)) rfl (fun j u hu => three_new w5 1 a b2 69 j u hu) (three_one 1 a b2) (by omega) (by have := HB5.out.size; simp; omega) ?_
           intro v6 w6 hown6 hgrow6
           have hb6 : Below w4.heap.size w4 w6 := (HB5.out.alloc HB5.out.size _).grown hgrow6 (by have := HB5.out.size; simp; omega) (own_ge1 HO5.out)
           have q0 : w6.cell? ⟨go, 0, none⟩ = some (I 1) := (hb6.cell (p := ⟨go, 0, none⟩) hgo).trans p0
           have q1 : w6.cell? ⟨go, 1, none⟩ = some (I a) := (hb6.cell (p := ⟨go, 1, none⟩) hgo).trans p1
           have q2 : w6.cell? ⟨go, 2, none⟩ = some (I b2) := (hb6.cell (p := ⟨go, 2, none⟩) hgo).trans p2
           obtain ⟨A6, c6, hv6, hos6⟩ := OwnO.os (own_op1 hown6)
           have HB6 := Lib.hid hb6
           have HV6 := Lib.hid hv6
           have HOS6 := Lib.hid hos6
           clear hown6 hgrow6 hv6 hos6 hb6)
        | fail)
    all_goals go_wp2
    all_goals go_ret3
    all_goals exact ln_done (HPS4.out.below HB6.out) HOS6.out HV6.out (tr2 HB4.out HB6.out) HA.out rfl
set_option maxRecDepth 100000 in
set_option maxHeartbeats 8000000 in
theorem ln_put_new {A A' W : Option Addr} {n c n' c' m mc : Nat} {ops : List OP} {f : List UInt8} {r : List (List UInt8)} {w : World} (h : LnA w A n c A' n' c' W m mc ops (f :: r)) {a b2 : Nat} (hk : kindB f = 0 + 1) (hr : nmsL r = some [a, b2]) (he : (doA (runR ops).1 1 a).e = 0) (hab : (doA (runR ops).1 1 a).b = false) :
    Calls Tryz.prog 49 #[.slice A n c, .slice A' n' c', .slice W m mc] w (RetLine ops (f :: r) w) := by
  obtain ⟨m1, rfl⟩ : ∃ k, m = k + 1 := ⟨r.length, by have := h.wd.len; simp at this; omega⟩
  have hrl : r.length = m1 := by have := h.wd.len; simp at this; omega
  obtain ⟨b, off, rfl, hb, hcs⟩ := h.wd.at_ (by omega)
  have HX := Lib.hid h
  have HC0 : Hid (∀ wz, Below w.heap.size w wz → wz.cell? ⟨b, off, none⟩ = some (.string (bsv f))) := fun wz hz => (hz.cell (p := ⟨b, off, none⟩) hb).trans (hcs 0 (by omega))
  have hc0 := HC0.out w (Below.refl _ _)
  have c0n : (w.alloc namO).cell? ⟨b, off, none⟩ = some (.string (bsv f)) := HC0.out _ ((Below.refl _ _).alloc (Nat.le_refl _) _)
  have HWR : Hid (∀ wz, Below w.heap.size w wz → WS wz (some ⟨b, off + 1, none⟩) m1 (mc - 1) r ∧ (mc = 1 → ∀ A9, WS wz A9 m1 0 r)) := fun wz hz => ws_rest h.wd hz
  have hm10 := h.m1
  have hcap := h.wd.cap
  have hn1 : (1 : Int) ≤ (m1 : Int) + 1 := by omega
  have hcq1 : (m1 : Int) + 1 ≤ (mc : Int) := by omega
  have hcq2 : (1 : Int) ≤ (mc : Int) := by omega
  have hn0 : (0 : Int) < (m1 : Int) + 1 := by omega
  have HIX := Lib.hid (ix_at hk)
  have HNUM : Hid (∀ A9 c9 wz, WS wz A9 m1 c9 r → Calls Tryz.prog 102 #[.slice A9 m1 c9] wz (RetNum (some [a, b2]) wz)) := fun A9 c9 wz hz => by
    have := refNums_any A9 m1 c9 r wz hz (by omega) (fun x hx => h.wl x (List.mem_cons_of_mem _ hx))
    rwa [hr] at this
  have HDN : Hid (∀ wz, Below w.heap.size w wz → Calls Tryz.prog 103 #[.slice A n c, .agg #[I 1, I a, I b2]] wz (RetD A n (doL (runR ops).1 1 a b2) (doA (runR ops).1 1 a) wz)) := fun wz hz => Done_any A n c (runR ops).1 1 a b2 wz (h.ps.below hz) (chk_runR ops)
  have hbd := doA_bd (kind := 1) (key := (a : Int)) (chk_runR ops) (runR_vals _ ops rfl h.ob)
  have hn3 := h.n3
  have HA : Hid (dAns ops (f :: r) = (([110, 101, 119]), ops ++ [((1 : Int), (a : Int), (b2 : Int))])) := by show _ = _; rw [dAns_op (by omega), show dOp (kindB f) r = some (1, (a : Int), (b2 : Int)) by rw [hk]; exact dOp_put hr]; unfold opR; simp only []; rw [if_neg (by rw [he]; decide)]; exact congrArg (fun z => (z, _)) (by unfold dTold; rw [if_pos rfl, if_neg (by rw [hab]; decide)])
  obtain ⟨hb1, hb2', hb3', hb4'⟩ := hbd
  have hbd0 := True.intro
  obtain ⟨⟨ae, ak, av, ab⟩, hann⟩ : ∃ x, doA (runR ops).1 1 a = x := ⟨_, rfl⟩
  rw [hann] at HDN he hb1 hb2' hb3' hb4' hab
  have he2 : ae = 0 := he
  have hab2 : ab = false := hab
  subst he2 hab2
  obtain ⟨xk, rfl⟩ : ∃ x : Nat, ak = x := ⟨ak.toNat, by have : 0 ≤ ak := hb1; omega⟩
  obtain ⟨xv, rfl⟩ : ∃ x : Nat, av = x := ⟨av.toNat, by have : 0 ≤ av := hb3'; omega⟩
  have hxk : xk < 100000000 := by have : (xk : Int) < 100000000 := hb2'; omega
  have hxv : xv < 100000000 := by have : (xv : Int) < 100000000 := hb4'; omega
  have hlo : ops.length ≤ 200 := by rw [h.os.len]; exact hn3
  try clear hk
  try clear hr
  try clear he
  try clear hann
  try clear hab
  try clear hbd0
  try clear hb1
  try clear hb2'
  try clear hb3'
  try clear hb4'
  try clear hn3
  try clear hj5
  clear h hcs hrl
  go_enter Tryz.func49, Tryz.ntmps49
  go_wp2_with fail
  refine (index_any (some ⟨w.heap.size, 0, none⟩) 7 7 nmL f _ (ws_names w) (by omega)).mono ?_
  rintro e w1 ⟨rfl, hw1⟩
  have HB1 : Hid (Below w.heap.size w w1) := by show Below _ _ _; rw [hw1]; exact (Below.refl _ _).alloc (Nat.le_refl _) _
  have c01 := HC0.out w1 HB1.out
  rw [HIX.out]
  clear hw1
  go_wp2_with fail
  all_goals
    refine (HNUM.out _ _ w1 ?hw).mono ?_
    case hw => first | with_reducible exact (HWR.out w1 HB1.out).1 | exact (HWR.out w1 HB1.out).2 (by omega) _
    rintro e w2 ⟨v9, rfl, ho9, hb2⟩
    obtain ⟨A9, c9, rfl, _, his9⟩ := ownI_told (n := 2) ho9 rfl
    obtain ⟨b9, off9, rfl, hb9, hcs9⟩ := his9.at_ (by omega)
    have e0 : w2.cell? ⟨b9, off9, none⟩ = some (I a) := hcs9 0 (by omega)
    have e1 : ∀ o, (w2.alloc o).cell? ⟨b9, off9 + 1, none⟩ = some (I b2) := fun o => ck (hcs9 1 (by omega)) o
    have HB2 := Lib.hid (tr2 HB1.out hb2)
    clear hb2 ho9 his9 hcs9
    go_wp2_with fail
    refine (HDN.out _ (HB2.out.alloc HB2.out.size _)).mono ?_
    rintro e w3 ⟨A3, n3, c3, rfl, hps3, hb3, -⟩
    have HPS3 := Lib.hid hps3
    have HB23 : Hid (Below w2.heap.size w2 w3) := ((Below.refl _ _).alloc (Nat.le_refl _) _).trans (hb3.mono (by simp))
    have HOP3 : Hid (w3.heap[w2.heap.size]? = some (.cells #[I 1, I a, I b2] 69 (0, 0))) := (hb3.block _ (by simp)).trans (heap_alloc_new _ _)
    have hz3 : w2.heap.size + 1 ≤ w3.heap.size := by have h9 := hb3.size; rw [World.size_alloc] at h9; exact h9
    have HB3 := Lib.hid (tr2 HB2.out HB23.out)
    clear hps3 hb3
    go_upto_region 26 with fail
    have hop4 : (w3.alloc (.cells #[I 0, I xk, I xv, .bool false] 51)).heap[w2.heap.size]? = some (.cells #[I 1, I a, I b2] 69 (0, 0)) := (Below.heap_alloc _ _ _ (by omega)).trans HOP3.out
    have HB4 := Lib.hid (HB3.out.alloc HB3.out.size (.cells #[I 0, I xk, I xv, .bool false] 51))
    have HPS4 := Lib.hid (HPS3.out.alloc (.cells #[I 0, I xk, I xv, .bool false] 51))
    have hgo : w2.heap.size < (w3.alloc (.cells #[I 0, I xk, I xv, .bool false] 51)).heap.size := by simp; omega
    generalize (w3.alloc (.cells #[I 0, I xk, I xv, .bool false] 51)) = w4 at *
    generalize w2.heap.size = go at *
    have p0 : w4.cell? ⟨go, 0, none⟩ = some (I 1) := by simp [World.cell?, hop4]
    have p1 : w4.cell? ⟨go, 1, none⟩ = some (I a) := by simp [World.cell?, hop4]
    have p2 : w4.cell? ⟨go, 2, none⟩ = some (I b2) := by simp [World.cell?, hop4]
    clear hop4
    have HCL : Hid (∀ x, Below w4.heap.size w4 x → Calls Tryz.prog 105 #[.slice A' n' c'] x fun e w' => ∃ v, e = .returned v ∧ OwnO w' x.heap.size v ops ∧ Below x.heap.size x w') := fun x hx => cloneO_any A' n' c' ops x (HX.out.os.below (HB4.out.trans (hx.mono HB4.out.size))) (by have := HX.out.n3; omega)
    go_region_held3 (fun V => V.cell? ⟨go, 0, none⟩ = some (I 1) ∧ V.cell? ⟨go, 1, none⟩ = some (I a) ∧ V.cell? ⟨go, 2, none⟩ = some (I b2))
      (first
        | exact ⟨q0, q1, q2⟩
        | exact ⟨ck q0 _, ck q1 _, ck q2 _⟩
        | exact ⟨p0, p1, p2⟩
        | exact ⟨ck p0 _, ck p1 _, ck p2 _⟩)
      (first
        | (go_at_call 105
           with_reducible refine (HCL.out _ (by first | exact (Below.refl _ _).drew | exact ((Below.refl _ _).alloc (Nat.le_refl _) _).drew)).mono ?_
           rintro e w5 ⟨v5, rfl, ho5, hb5⟩
           have hB5 : Below w4.heap.size w4 w5 := by
             first
               | exact (Below.refl w4.heap.size w4).drew.trans hb5
               | exact ((Below.refl w4.heap.size w4).alloc (Nat.le_refl _) _).drew.trans (hb5.mono (by simp))
           have q0 : w5.cell? ⟨go, 0, none⟩ = some (I 1) := (hB5.cell (p := ⟨go, 0, none⟩) hgo).trans p0
           have q1 : w5.cell? ⟨go, 1, none⟩ = some (I a) := (hB5.cell (p := ⟨go, 1, none⟩) hgo).trans p1
           have q2 : w5.cell? ⟨go, 2, none⟩ = some (I b2) := (hB5.cell (p := ⟨go, 2, none⟩) hgo).trans p2
           have HO5 : Hid (w5.ownsRow w4.heap.size 69 3 v5 ops.length (flatO ops)) := own_mono1 ho5 (by simp)
           try (have HN5 : Hid (∀ j u, [I 1, I a, I b2][j]? = some u → w5.cell? ((⟨w4.heap.size, 0, none⟩ : Addr).add j) = some u) := lk_keep (w := (w4.alloc (lnO 1 a b2)).drew) (sp := ⟨w4.heap.size, 0, none⟩) (fun j u hu => three_new w4 1 a b2 69 j u hu) hb5)
           have HB5 := Lib.hid hB5
           clear ho5 hb5 hB5)
        | (refine step_op1 rfl (.tmp 125) (.tmp 127) 32 rfl 69 Tryz.underlying32 op_info w4.heap.size v5 ops.length (flatO ops) ⟨w4.heap.size, 0, none⟩ [I 1, I a, I b2] rfl rfl HO5.out rfl HN5.out (three_one 1 a b2) (by omega) HB5.out.size ?_
           intro v6 w6 hown6 hgrow6
           have hb6 : Below w4.heap.size w4 w6 := HB5.out.grown hgrow6 HB5.out.size (own_ge1 HO5.out)
           have q0 : w6.cell? ⟨go, 0, none⟩ = some (I 1) := (hb6.cell (p := ⟨go, 0, none⟩) hgo).trans p0
           have q1 : w6.cell? ⟨go, 1, none⟩ = some (I a) := (hb6.cell (p := ⟨go, 1, none⟩) hgo).trans p1
           have q2 : w6.cell? ⟨go, 2, none⟩ = some (I b2) := (hb6.cell (p := ⟨go, 2, none⟩) hgo).trans p2
           obtain ⟨A6, c6, hv6, hos6⟩ := OwnO.os (own_op1 hown6)
           have HB6 := Lib.hid hb6
           have HV6 := Lib.hid hv6
           have HOS6 := Lib.hid hos6
           clear hown6 hgrow6 hv6 hos6 hb6)
        | (refine step_op1 rfl (.tmp 125) (.tmp 127) 32 rfl 69 Tryz.underlying32 op_info w4.heap.size v5 ops.length (flatO ops) ⟨w5.heap.size, 0, none⟩ [I 1, I a, I b2] rfl rfl (own_below HO5.out ((Below.refl _ _).alloc (Nat.le_refl _) _)) rfl (fun j u hu => three_new w5 1 a b2 69 j u hu) (three_one 1 a b2) (by omega) (by have := HB5.out.size; simp; omega) ?_
           intro v6 w6 hown6 hgrow6
           have hb6 : Below w4.heap.size w4 w6 := (HB5.out.alloc HB5.out.size _).grown hgrow6 (by have := HB5.out.size; simp; omega) (own_ge1 HO5.out)
           have q0 : w6.cell? ⟨go, 0, none⟩ = some (I 1) := (hb6.cell (p := ⟨go, 0, none⟩) hgo).trans p0
           have q1 : w6.cell? ⟨go, 1, none⟩ = some (I a) := (hb6.cell (p := ⟨go, 1, none⟩) hgo).trans p1
           have q2 : w6.cell? ⟨go, 2, none⟩ = some (I b2) := (hb6.cell (p := ⟨go, 2, none⟩) hgo).trans p2
           obtain ⟨A6, c6, hv6, hos6⟩ := OwnO.os (own_op1 hown6)
           have HB6 := Lib.hid hb6
           have HV6 := Lib.hid hv6
           have HOS6 := Lib.hid hos6
           clear hown6 hgrow6 hv6 hos6 hb6)
        | fail)
    all_goals go_wp2
    all_goals go_ret3
    all_goals exact ln_done (HPS4.out.below HB6.out) HOS6.out HV6.out (tr2 HB4.out HB6.out) HA.out rfl
end Go.Proofs.YtpnjnedfcdppaaaGreatDoor
