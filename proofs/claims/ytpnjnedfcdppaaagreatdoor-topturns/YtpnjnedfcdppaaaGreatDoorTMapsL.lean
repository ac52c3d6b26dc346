/-
  TopMaps, walked.
-/
import Derived.Test.YtpnjnedfcdppaaaGreatDoorDLivesAll
import Derived.Test.YtpnjnedfcdppaaaGreatDoorTOk
import Derived.Test.YtpnjnedfcdppaaaGreatDoorTKeysAll
import Derived.Test.YtpnjnedfcdppaaaGreatDoorKRunAll
import Derived.Test.YtpnjnedfcdppaaaGreatDoorGRun
import Derived.Test.YtpnjnedfcdppaaaGreatDoorZRunAll
import Derived.Test.YtpnjnedfcdppaaaGreatDoorORunAll
import Derived.Test.YtpnjnedfcdppaaaGreatDoorSEqAll
import Derived.Maps.AppendAt
namespace Go.Proofs.YtpnjnedfcdppaaaGreatDoor
open Go.RowKit

theorem RI.first {w : World} {A : Option Addr} {m c : Nat} {K : List Int} (h : RI w A m c (rowsL K)) (hm : 0 < m) : ∃ b off A' n' c', A = some ⟨b, off, none⟩ ∧ b < w.heap.size ∧ w.cell? ⟨b, off, none⟩ = some (.slice A' n' c') ∧ IS w A' n' c' K := by
  obtain ⟨b, off, e, hb, hc⟩ := h.at_ hm
  obtain ⟨A', n', c', h1, h2⟩ := hc 0 hm
  have hl := h.len
  rw [rowsL_len] at hl
  rw [rowsL_at K 0 (by omega), rowL_zero] at h2
  exact ⟨b, off, A', n', c', e, hb, h1, h2⟩
/-- what each way to keep a map tells: keys (as rows), answers, an error -/
theorem w_trans {a b c : World} (h : Below a.heap.size a b) (k : Below b.heap.size b c) : Below a.heap.size a c := h.trans (k.mono h.size)
set_option maxRecDepth 100000 in
set_option maxHeartbeats 8000000 in
theorem TMaps_large (A : Option Addr) (n c : Nat) (w : World) (hn : 300 < n) (hm : n ≤ 9223372036854775807) (hL : LD w) : Calls Tryz.prog 7 #[.slice A n c] w (RetYes w) := by
  have HLV := Lib.hid fun wz hz => topLives_any wz hz
  have HLD := Lib.hid hL
  have H1 := Lib.hid fun wz => Run_large A n c wz hn hm
  have H2 := Lib.hid fun wz => RunS_large A n c wz hn hm
  have H3 := Lib.hid fun wz => GRun_large A n c wz hn hm
  have H4 := Lib.hid fun wz => RunZ_large A n c wz hn hm
  have H5 := Lib.hid fun wz => ORun_large A n c wz hn hm
  clear hn hm hL
  go_enter Tryz.func7, Tryz.ntmps7
  go_wp2_with fail
  refine (H1.out _).mono ?_
  rintro e w1 ⟨A1, n1, c1, B1, m1, d1, rfl, -, -, hb1⟩
  have HB1 := Lib.hid hb1
  clear hb1
  go_wp2_with fail
  refine (H2.out _).mono ?_
  rintro e w2 ⟨A2, n2, c2, B2, m2, d2, rfl, -, -, hb2⟩
  have HB2 := Lib.hid (w_trans HB1.out hb2)
  clear hb2
  go_wp2_with fail
  refine (H3.out _).mono ?_
  rintro e w3 ⟨A3, n3, c3, B3, m3, d3, rfl, -, -, hb3⟩
  have HB3 := Lib.hid (w_trans HB2.out hb3)
  clear hb3
  go_wp2_with fail
  refine (H4.out _).mono ?_
  rintro e w4 ⟨rfl, hb4⟩
  have HB4 := Lib.hid (w_trans HB3.out hb4)
  clear hb4
  go_wp2_with fail
  refine (H5.out _).mono ?_
  rintro e w5 ⟨A5, c5, B5, m5, d5, rfl, -, -, hb5⟩
  have HB5 := Lib.hid (w_trans HB4.out hb5)
  clear hb5
  go_wp2_with fail
  refine (HLV.out _ (HLD.out.next HB5.out)).mono ?_
  rintro e w6 ⟨rfl, hb6⟩
  have HB6 := Lib.hid (w_trans HB5.out hb6)
  clear hb6
  go_wp2
  go_ret
  exact ⟨rfl, HB6.out⟩
set_option maxRecDepth 100000 in
set_option maxHeartbeats 16000000 in
theorem TMaps_small (A : Option Addr) (n c : Nat) (ops : List OP) (w : World) (h : OS w A n c ops) (hn : n ≤ 300) (hL : LD w) : Calls Tryz.prog 7 #[.slice A n c] w (RetYes w) := by
  have HLV := Lib.hid fun wz hz => topLives_any wz hz
  have HLD := Lib.hid hL
  have hlen : (runR ops).1.length ≤ 200 := chk_len (chk_runR ops)
  have HOS := Lib.hid h
  have hk1 : kys ((grT ops).sp 0) = kys (runR ops).1 := by unfold kys; rw [sp_ks]; exact (grT_same ops).ks
  have hk2 : kys ((zT (kys (runR ops).1)).sp 0) = kys (runR ops).1 := by
    unfold kys
    rw [sp_ks, hp_ks (zT_hp _)]
    unfold zpl
    rw [List.map_map]
    have e : (Prod.fst ∘ fun k : Int => (k, (ht k : Int))) = id := rfl
    rw [e, List.map_id]
  have hk3 : kys ((goT ops).t.sp 0) = kys (runR ops).1 := by unfold kys; rw [sp_ks]; exact (go_inv ops).same.ks
  have H1 := Lib.hid (Run_any A n c ops w h hn)
  have H2 := Lib.hid fun wz hz ht => RunS_any A n c ops wz hz hn hlen ht
  have H3 := Lib.hid fun wz hz => GRun_any A n c ops wz hz hn
  have H4 := Lib.hid fun wz hz ht => RunZ_any A n c ops (zT (kys (runR ops).1)) _ wz hz hn rfl hlen (zT_hp _) ht
  have H5 := Lib.hid fun wz hz => ORun_any A n c _ ops wz hz hn rfl
  have hal : (runR ops).2.length = n := by rw [runR_len]; exact h.len
  obtain ⟨a, ha⟩ : ∃ a, (runR ops).2 = a := ⟨_, rfl⟩
  obtain ⟨l, hl⟩ : ∃ l, (runR ops).1 = l := ⟨_, rfl⟩
  obtain ⟨g, hg⟩ : ∃ g, (grT ops).sp 0 = g := ⟨_, rfl⟩
  obtain ⟨o, ho⟩ : ∃ o, (goT ops).t.sp 0 = o := ⟨_, rfl⟩
  rw [hl] at hk1 hk2 hk3 H1 H2 H4 hlen
  rw [ha] at hal H1 H2 H3 H4 H5
  rw [hg] at hk1 H3
  rw [ho] at hk3 H5
  obtain ⟨z, hz⟩ : ∃ z, (zT (kys l)).sp 0 = z := ⟨_, rfl⟩
  rw [hz] at hk2 H4
  obtain ⟨on, hon⟩ : ∃ on, (goT ops).t.size = on := ⟨_, rfl⟩
  rw [hon] at H5
  obtain ⟨ob, hob⟩ : ∃ ob, ((goT ops).built : Int) = ob := ⟨_, rfl⟩
  have HK1 := Lib.hid hk1
  have HK2 := Lib.hid hk2
  have HK3 := Lib.hid hk3
  have HAL := Lib.hid hal
  have HLL := Lib.hid hlen
  obtain ⟨i0, hi, hz0, hz1, hz2⟩ := info_parts int_info
  have HI := Lib.hid hi
  have HZ0 := Lib.hid hz0
  have HZ1 := Lib.hid hz1
  have HZ2 := Lib.hid hz2
  clear hi hz0 hz1 hz2 h hL ha hl hg ho hz hon hob hk1 hk2 hk3 hal
  go_enter Tryz.func7, Tryz.ntmps7
  go_wp2_with fail
  refine H1.out.mono ?_
  rintro e w1 ⟨A1, n1, c1, B1, m1, d1, rfl, hp1, hs1, hb1⟩
  have HB1 := Lib.hid hb1
  have HP1 := Lib.hid hp1
  have HS1 := Lib.hid hs1
  clear hb1 hp1 hs1
  go_wp2_with fail
  refine (H2.out _ (HOS.out.below HB1.out) (HLD.out.next HB1.out).tb).mono ?_
  rintro e w2 ⟨A2, n2, c2, B2, m2, d2, rfl, hp2, hs2, hb2⟩
  have HB2 := Lib.hid (w_trans HB1.out hb2)
  have HP12 := Lib.hid (HP1.out.below hb2)
  have HS12 := Lib.hid (HS1.out.below hb2)
  have HP2 := Lib.hid hp2
  have HS2 := Lib.hid hs2
  clear hb2 hp2 hs2 HP1 HS1
  go_wp2_with fail
  refine (H3.out _ (HOS.out.below HB2.out)).mono ?_
  rintro e w3 ⟨A3, n3, c3, B3, m3, d3, rfl, hp3, hs3, hb3⟩
  have HB3 := Lib.hid (w_trans HB2.out hb3)
  have HP13 := Lib.hid (HP12.out.below hb3)
  have HS13 := Lib.hid (HS12.out.below hb3)
  have HP23 := Lib.hid (HP2.out.below hb3)
  have HS23 := Lib.hid (HS2.out.below hb3)
  have HP3 := Lib.hid hp3
  have HS3 := Lib.hid hs3
  clear hb3 hp3 hs3 HP12 HS12 HP2 HS2
  go_wp2_with fail
  refine (H4.out _ (HOS.out.below HB3.out) (HLD.out.next HB3.out).tb).mono ?_
  rintro e w4 ⟨A4, c4, B4, m4, d4, rfl, hp4, hs4, hb4⟩
  have HB4 := Lib.hid (w_trans HB3.out hb4)
  have HP14 := Lib.hid (HP13.out.below hb4)
  have HS14 := Lib.hid (HS13.out.below hb4)
  have HP24 := Lib.hid (HP23.out.below hb4)
  have HS24 := Lib.hid (HS23.out.below hb4)
  have HP34 := Lib.hid (HP3.out.below hb4)
  have HS34 := Lib.hid (HS3.out.below hb4)
  have HP4 := Lib.hid hp4
  have HS4 := Lib.hid hs4
  clear hb4 hp4 hs4 HP13 HS13 HP23 HS23 HP3 HS3
  go_wp2_with fail
  refine (H5.out _ (HOS.out.below HB4.out)).mono ?_
  rintro e w5 ⟨A5, c5, B5, m5, d5, rfl, hp5, hs5, hb5⟩
  have HB5 := Lib.hid (w_trans HB4.out hb5)
  have HP15 := Lib.hid (HP14.out.below hb5)
  have HS15 := Lib.hid (HS14.out.below hb5)
  have HP25 := Lib.hid (HP24.out.below hb5)
  have HS25 := Lib.hid (HS24.out.below hb5)
  have HP35 := Lib.hid (HP34.out.below hb5)
  have HS35 := Lib.hid (HS34.out.below hb5)
  have HP45 := Lib.hid (HP4.out.below hb5)
  have HS45 := Lib.hid (HS4.out.below hb5)
  have HP5 := Lib.hid hp5
  have HS5 := Lib.hid hs5
  clear hb5 hp5 hs5 HP14 HS14 HP24 HS24 HP34 HS34 HP4 HS4
  go_wp2_with fail
  refine (HLV.out _ (HLD.out.next HB5.out)).mono ?_
  rintro e w6 ⟨rfl, hb6⟩
  have HB6 := Lib.hid (w_trans HB5.out hb6)
  have HP1 := Lib.hid (HP15.out.below hb6)
  have HS1 := Lib.hid (HS15.out.below hb6)
  have HP2 := Lib.hid (HP25.out.below hb6)
  have HS2 := Lib.hid (HS25.out.below hb6)
  have HP3 := Lib.hid (HP35.out.below hb6)
  have HS3 := Lib.hid (HS35.out.below hb6)
  have HP4 := Lib.hid (HP45.out.below hb6)
  have HS4 := Lib.hid (HS45.out.below hb6)
  have HP6 := Lib.hid (HP5.out.below hb6)
  have HS6 := Lib.hid (HS5.out.below hb6)
  clear hb6 HP15 HS15 HP25 HS25 HP35 HS35 HP45 HS45 HP5 HS5
  go_wp2
  go_loopw [19, 80] (fun v i wr => ∃ k : Nat, k ≤ n1 ∧ i = .int .i64 k ∧ Hid (OwnI wr w6.heap.size v (kys (l.take k))) ∧ Hid (Below w6.heap.size w6 wr)) (fun _ i _ => n1 - (intOf i).toNat)
  case atStart => exact ⟨0, Nat.zero_le _, rfl, World.ownsRow_nil _ _ _ _, Below.refl _ _⟩
  case round =>
    obtain ⟨k, hk, rfl, HOWN0, HNX⟩ := hrel
    by_cases hlt : k < n1
    · have hkl : k < l.length := by rw [HP1.out.len]; exact hlt
      obtain ⟨b, off, rfl, hbw, hcs⟩ := HP1.out.at_ (by omega)
      obtain ⟨x, hx⟩ : ∃ x, l[k].1 = x := ⟨_, rfl⟩
      obtain ⟨y, hy⟩ : ∃ y, l[k].2 = y := ⟨_, rfl⟩
      have hc0 : wr.cell? ⟨b, off + k * 2, none⟩ = some (I x) := by rw [← hx]; exact (HNX.out.cell (by exact hbw)).trans (hcs k hlt).1
      have hc1 : wr.cell? ⟨b, off + k * 2 + 1, none⟩ = some (I y) := by rw [← hy]; exact (HNX.out.cell (by exact hbw)).trans (hcs k hlt).2
      have HK := Lib.hid (kys_take l k hkl)
      rw [hx] at HK
      obtain ⟨xs, hxs⟩ : ∃ xs, kys (l.take k) = xs := ⟨_, rfl⟩
      have hxl : xs.length ≤ 1000 := by rw [← hxs]; simp [kys]; omega
      rw [hxs] at HOWN0 HK
      have hz := HNX.out.size
      clear hcs hx hy hxs
      go_wp2_with (first
        | (at_builtin
           refine wpList_append_own_at _ rfl (.tmp 84) (.tmp 87) 46 rfl w6.heap.size 3 i0 _ 1 8 Tryz.underlying46 HI.out HZ0.out HZ1.out HZ2.out rfl (by omega) _ xs.length (xs.map I) rfl (own_below HOWN0.out (((Below.refl _ _).alloc (Nat.le_refl _) _).alloc (by simp) _)) ⟨wr.heap.size + 1, 0, none⟩ 1 1 [I x] rfl rfl (by have := cell_one_new (wr.alloc (.cells #[I x, I y] 48)) (I x) 3; simpa using this) (one_I x) (by unfold maxLen; omega) (by omega) (by simp; omega) ?_
           intro v2 w2 hown2 hgrow2 _ hat2)
        | fail)
      go_roundw
      case rel =>
        refine ⟨k + 1, by omega, by go_num, ?_, ?_⟩
        · show OwnI _ _ _ _
          rw [HK.out]
          unfold OwnI
          simpa using hown2
        · exact Below.grown ((HNX.out.alloc hz _).alloc (by simp; omega) _) hgrow2 (by simp; omega) (own_ge1 HOWN0.out)
      case measure => simp [intOf]; omega
    · rw [List.take_of_length_le (by rw [HP1.out.len]; omega)] at HOWN0
      obtain ⟨K, hK⟩ : ∃ K, kys l = K := ⟨_, rfl⟩
      have hKl : K.length ≤ 200 := by rw [← hK]; unfold kys; rw [List.length_map]; exact HLL.out
      rw [hK] at HOWN0 HK1 HK2 HK3 HP2
      obtain ⟨A7, c7, rfl, h7, -⟩ := HOWN0.out.is_
      obtain ⟨kn, hkn⟩ : ∃ kn, K.length = kn := ⟨_, rfl⟩
      rw [hkn] at h7 hKl ⊢
      have H7 := Lib.hid h7
      have HKN := Lib.hid hkn
      clear h7 hkn hK
      -- END
      have hm1 : m1 ≤ 300 := by have := HS1.out.len; have := HAL.out; omega
      have hm2 : m2 ≤ 300 := by have := HS2.out.len; have := HAL.out; omega
      have hm3 : m3 ≤ 300 := by have := HS3.out.len; have := HAL.out; omega
      have hm4 : m4 ≤ 300 := by have := HS4.out.len; have := HAL.out; omega
      have hm5 : m5 ≤ 300 := by have := HS6.out.len; have := HAL.out; omega
      have hKn := HKN.out
      have hn3 : n3 ≤ 200 := by have := HP3.out.len; have h2 := congrArg List.length HK1.out; unfold kys at h2; rw [List.length_map] at h2; omega
      have hon : on ≤ 200 := by have := HP6.out.len; have h2 := congrArg List.length HK3.out; unfold kys at h2; rw [List.length_map] at h2; omega
      rcases Nat.eq_zero_or_pos n2 with h0 | h0
      · subst h0
        go_wp2_with fail
        refine (eqAns_any B1 B2 m1 m2 d1 d2 a a wr (HS1.out.below HNX.out) (HS2.out.below HNX.out) (by omega) (by omega)).mono ?_
        rintro e x1 ⟨rfl, hx1⟩
        rw [decide_eq_true (rfl : a = a)]
        have HX1 : Hid (Below wr.heap.size wr x1) := hx1
        clear hx1
        go_wp2_with fail
        refine (eqAns_any B1 B3 m1 m3 d1 d3 a a x1 ((HS1.out.below HNX.out).below HX1.out) ((HS3.out.below HNX.out).below HX1.out) (by omega) (by omega)).mono ?_
        rintro e x2 ⟨rfl, hx2⟩
        rw [decide_eq_true (rfl : a = a)]
        have HX2 : Hid (Below wr.heap.size wr x2) := w_trans HX1.out hx2
        clear hx2
        go_wp2_with fail
        refine (eqAns_any B1 B4 m1 m4 d1 d4 a a x2 ((HS1.out.below HNX.out).below HX2.out) ((HS4.out.below HNX.out).below HX2.out) (by omega) (by omega)).mono ?_
        rintro e x3 ⟨rfl, hx3⟩
        rw [decide_eq_true (rfl : a = a)]
        have HX3 : Hid (Below wr.heap.size wr x3) := w_trans HX2.out hx3
        clear hx3
        go_wp2_with fail
        refine (eqAns_any B1 B5 m1 m5 d1 d5 a a x3 ((HS1.out.below HNX.out).below HX3.out) ((HS6.out.below HNX.out).below HX3.out) (by omega) (by omega)).mono ?_
        rintro e x4 ⟨rfl, hx4⟩
        rw [decide_eq_true (rfl : a = a)]
        have HX4 : Hid (Below wr.heap.size wr x4) := w_trans HX3.out hx4
        clear hx4
        go_wp2_with fail
        refine (eqInt_any A7 A7 kn kn c7 c7 K K x4 (H7.out.below HX4.out) (H7.out.below HX4.out) (by omega) (by omega)).mono ?_
        rintro e x5 ⟨rfl, hx5⟩
        rw [decide_eq_true (rfl : K = K)]
        have HX5 : Hid (Below wr.heap.size wr x5) := w_trans HX4.out hx5
        clear hx5
        go_wp2_with fail
        refine (tkeys_any A3 n3 c3 g x5 ((HP3.out.below HNX.out).below HX5.out) (by omega)).mono ?_
        rw [HK1.out]
        rintro e x6 ⟨Q6, q6, rfl, hi6, hx6⟩
        rw [hKn] at hi6 ⊢
        have HX6 : Hid (Below wr.heap.size wr x6) := w_trans HX5.out hx6
        have HQ6 := Lib.hid hi6
        clear hx6 hi6
        go_wp2_with fail
        refine (eqInt_any Q6 A7 kn kn q6 c7 K K x6 HQ6.out (H7.out.below HX6.out) (by omega) (by omega)).mono ?_
        rintro e x7 ⟨rfl, hx7⟩
        rw [decide_eq_true (rfl : K = K)]
        have HX7 : Hid (Below wr.heap.size wr x7) := w_trans HX6.out hx7
        clear hx7
        go_wp2_with fail
        refine (tkeys_any A4 _ c4 z x7 ((HP4.out.below HNX.out).below HX7.out) (by omega)).mono ?_
        rw [HK2.out]
        rintro e x8 ⟨Q8, q8, rfl, hi8, hx8⟩
        rw [hKn] at hi8 ⊢
        have HX8 : Hid (Below wr.heap.size wr x8) := w_trans HX7.out hx8
        have HQ8 := Lib.hid hi8
        clear hx8 hi8
        go_wp2_with fail
        refine (eqInt_any Q8 A7 kn kn q8 c7 K K x8 HQ8.out (H7.out.below HX8.out) (by omega) (by omega)).mono ?_
        rintro e x9 ⟨rfl, hx9⟩
        rw [decide_eq_true (rfl : K = K)]
        have HX9 : Hid (Below wr.heap.size wr x9) := w_trans HX8.out hx9
        clear hx9
        go_wp2_with fail
        refine (tkeys_any A5 on c5 o x9 ((HP6.out.below HNX.out).below HX9.out) (by omega)).mono ?_
        rw [HK3.out]
        rintro e x10 ⟨Q10, q10, rfl, hi10, hx10⟩
        rw [hKn] at hi10 ⊢
        have HX10 : Hid (Below wr.heap.size wr x10) := w_trans HX9.out hx10
        have HQ10 := Lib.hid hi10
        clear hx10 hi10
        go_wp2_with fail
        refine (eqInt_any Q10 A7 kn kn q10 c7 K K x10 HQ10.out (H7.out.below HX10.out) (by omega) (by omega)).mono ?_
        rintro e x11 ⟨rfl, hx11⟩
        rw [decide_eq_true (rfl : K = K)]
        have HX11 : Hid (Below wr.heap.size wr x11) := w_trans HX10.out hx11
        clear hx11
        go_wp2
        go_ret
        exact ⟨rfl, w_trans HB6.out (w_trans HNX.out HX11.out)⟩
      · obtain ⟨rb, ro, RA, rn, rc, rfl, hrb, hrc, hri⟩ := (HP2.out.below HNX.out).first h0
        have hrn : rn ≤ 200 := by have := hri.len; omega
        have HRI := Lib.hid hri
        have f0 : (0 : Int) < (n2 : Int) := by omega
        clear hri
        go_wp2_with fail
        refine (eqAns_any B1 B2 m1 m2 d1 d2 a a wr (HS1.out.below HNX.out) (HS2.out.below HNX.out) (by omega) (by omega)).mono ?_
        rintro e x1 ⟨rfl, hx1⟩
        rw [decide_eq_true (rfl : a = a)]
        have HX1 : Hid (Below wr.heap.size wr x1) := hx1
        clear hx1
        go_wp2_with fail
        refine (eqAns_any B1 B3 m1 m3 d1 d3 a a x1 ((HS1.out.below HNX.out).below HX1.out) ((HS3.out.below HNX.out).below HX1.out) (by omega) (by omega)).mono ?_
        rintro e x2 ⟨rfl, hx2⟩
        rw [decide_eq_true (rfl : a = a)]
        have HX2 : Hid (Below wr.heap.size wr x2) := w_trans HX1.out hx2
        clear hx2
        go_wp2_with fail
        refine (eqAns_any B1 B4 m1 m4 d1 d4 a a x2 ((HS1.out.below HNX.out).below HX2.out) ((HS4.out.below HNX.out).below HX2.out) (by omega) (by omega)).mono ?_
        rintro e x3 ⟨rfl, hx3⟩
        rw [decide_eq_true (rfl : a = a)]
        have HX3 : Hid (Below wr.heap.size wr x3) := w_trans HX2.out hx3
        clear hx3
        go_wp2_with fail
        refine (eqAns_any B1 B5 m1 m5 d1 d5 a a x3 ((HS1.out.below HNX.out).below HX3.out) ((HS6.out.below HNX.out).below HX3.out) (by omega) (by omega)).mono ?_
        rintro e x4 ⟨rfl, hx4⟩
        rw [decide_eq_true (rfl : a = a)]
        have HX4 : Hid (Below wr.heap.size wr x4) := w_trans HX3.out hx4
        clear hx4
        go_wp2_with fail
        refine (eqInt_any RA A7 rn kn rc c7 K K x4 (HRI.out.below HX4.out) (H7.out.below HX4.out) (by omega) (by omega)).mono ?_
        rintro e x5 ⟨rfl, hx5⟩
        rw [decide_eq_true (rfl : K = K)]
        have HX5 : Hid (Below wr.heap.size wr x5) := w_trans HX4.out hx5
        clear hx5
        go_wp2_with fail
        refine (tkeys_any A3 n3 c3 g x5 ((HP3.out.below HNX.out).below HX5.out) (by omega)).mono ?_
        rw [HK1.out]
        rintro e x6 ⟨Q6, q6, rfl, hi6, hx6⟩
        rw [hKn] at hi6 ⊢
        have HX6 : Hid (Below wr.heap.size wr x6) := w_trans HX5.out hx6
        have HQ6 := Lib.hid hi6
        clear hx6 hi6
        go_wp2_with fail
        refine (eqInt_any Q6 A7 kn kn q6 c7 K K x6 HQ6.out (H7.out.below HX6.out) (by omega) (by omega)).mono ?_
        rintro e x7 ⟨rfl, hx7⟩
        rw [decide_eq_true (rfl : K = K)]
        have HX7 : Hid (Below wr.heap.size wr x7) := w_trans HX6.out hx7
        clear hx7
        go_wp2_with fail
        refine (tkeys_any A4 _ c4 z x7 ((HP4.out.below HNX.out).below HX7.out) (by omega)).mono ?_
        rw [HK2.out]
        rintro e x8 ⟨Q8, q8, rfl, hi8, hx8⟩
        rw [hKn] at hi8 ⊢
        have HX8 : Hid (Below wr.heap.size wr x8) := w_trans HX7.out hx8
        have HQ8 := Lib.hid hi8
        clear hx8 hi8
        go_wp2_with fail
        refine (eqInt_any Q8 A7 kn kn q8 c7 K K x8 HQ8.out (H7.out.below HX8.out) (by omega) (by omega)).mono ?_
        rintro e x9 ⟨rfl, hx9⟩
        rw [decide_eq_true (rfl : K = K)]
        have HX9 : Hid (Below wr.heap.size wr x9) := w_trans HX8.out hx9
        clear hx9
        go_wp2_with fail
        refine (tkeys_any A5 on c5 o x9 ((HP6.out.below HNX.out).below HX9.out) (by omega)).mono ?_
        rw [HK3.out]
        rintro e x10 ⟨Q10, q10, rfl, hi10, hx10⟩
        rw [hKn] at hi10 ⊢
        have HX10 : Hid (Below wr.heap.size wr x10) := w_trans HX9.out hx10
        have HQ10 := Lib.hid hi10
        clear hx10 hi10
        go_wp2_with fail
        refine (eqInt_any Q10 A7 kn kn q10 c7 K K x10 HQ10.out (H7.out.below HX10.out) (by omega) (by omega)).mono ?_
        rintro e x11 ⟨rfl, hx11⟩
        rw [decide_eq_true (rfl : K = K)]
        have HX11 : Hid (Below wr.heap.size wr x11) := w_trans HX10.out hx11
        clear hx11
        go_wp2
        go_ret
        exact ⟨rfl, w_trans HB6.out (w_trans HNX.out HX11.out)⟩
theorem TMapsL_any (A : Option Addr) (n c : Nat) (ops : List OP) (w : World) (h : OS w A n c ops) (hm : n ≤ 9223372036854775807) (hL : LD w) : Calls Tryz.prog 7 #[.slice A n c] w (RetYes w) := by
  rcases Nat.lt_or_ge 300 n with hn | hn
  · exact TMaps_large A n c w hn hm hL
  · exact TMaps_small A n c ops w h hn hL
end Go.Proofs.YtpnjnedfcdppaaaGreatDoor
