/-
  The law ZipBack.
-/
import Derived.Test.YtjnkfpagaajfeaaDoorZBaseAll
import Derived.Test.YtjnkfpagaajfeaaDoorZLives
namespace Go.Proofs.YtjnkfpagaajfeaaDoor
open Go.RowKit

theorem up_kys {l : PL} (h : upTo l l.length) : Up (kys l) := by
  show List.Pairwise _ _
  refine List.pairwise_iff_getElem.2 fun i j hi hj hij => ?_
  rw [kys_len] at hi hj
  rw [kys_at l i hi, kys_at l j hj]
  exact up_lt h i j hij hj
/-- a part of a tree's keys, zipped, is a tree -/
theorem zpart_tree {l : PL} {s : Tr} {ks : List Int} (h : IsTree l) (hk : ks.Sublist (kys l)) (hs : Hp s (zpl ks)) : chkS (s.sp 0) = 0 := by
  refine chkS_zero.2 (istree_of ?_ ?_)
  · rw [zks hs]
    exact List.Pairwise.sublist hk (up_kys h.2.1)
  · rw [← hp_len hs, zpl_length]
    have := hk.length_le
    rw [kys_len] at this
    have := h.1
    omega
theorem kys_takeN (l : PL) (p : Nat) : kys (l.take p) = (kys l).take p := by simp [kys]
theorem kys_dropN (l : PL) (p : Nat) : kys (l.drop p) = (kys l).drop p := by simp [kys]
theorem zpart_take {l : PL} {s : Tr} {p k : Nat} (hs : Hp s (zpl (kys (l.take p)))) (hk : k < p) (hp : p ≤ l.length) : ky (s.sp 0) k = ky l k := by
  have hkl : k < (kys (l.take p)).length := by rw [kys_len]; simp; omega
  rw [zks_at hs k hkl, kys_at _ k (by simp; omega), ky_in (by simp; omega), ky_in (show k < l.length by omega)]
  simp
theorem zpart_drop {l : PL} {s : Tr} {p k : Nat} (hs : Hp s (zpl (kys (l.drop p)))) (hk : p + k < l.length) : ky (s.sp 0) k = ky l (p + k) := by
  have hkl : k < (kys (l.drop p)).length := by rw [kys_len]; simp; omega
  rw [zks_at hs k hkl, kys_at _ k (by simp; omega), ky_in (by simp; omega), ky_in hk]
  simp

set_option maxRecDepth 100000 in
set_option maxHeartbeats 2000000 in
theorem zback_bad (v : Value) (key : Int) (w : World) (h : Calls Tryd.prog 19 #[v, I key] w (RetBad w)) (hT : Tb w) :
    Calls Tryd.prog 5 #[v, I key] w fun e w' => e = .returned (.bool true) ∧ Below w.heap.size w w' := by
  have HC := Lib.hid h
  have HT := Lib.hid hT
  clear h hT
  go_enter Tryd.func5, Tryd.ntmps5
  go_wp2_with fail
  refine HC.out.mono ?_
  rintro e w1 ⟨E, hE, rfl, hb1⟩
  have hne : (E != 0) = true := by simpa using hE
  have HB1 := Lib.hid hb1
  have HT1 := Lib.hid (HT.out.next hb1)
  clear hb1 HC hE
  go_wp2_with fail
  refine (zipLives_any w1 HT1.out).mono ?_
  rintro e w2 ⟨rfl, hb2⟩
  have HB2 := Lib.hid (below_next HB1.out hb2)
  have HT2 := Lib.hid (HT1.out.next hb2)
  clear hb2
  go_wp2_with fail
  refine (zipLives_any w2 HT2.out).mono ?_
  rintro e w3 ⟨rfl, hb3⟩
  have HB3 := Lib.hid (below_next HB2.out hb3)
  clear hb3
  go_wp2
  go_ret
  exact ⟨rfl, HB3.out⟩

set_option maxRecDepth 100000 in
set_option maxHeartbeats 4000000 in
theorem zback_ok (A : Option Addr) (n c : Nat) (l : PL) (t : Tr) (key : Int) (w : World) (h : PS w A n c l) (hE : chkS l = 0) (hn : n ≤ 200) (ht' : Hp t (zpl (kys l))) (hne : l = t.sp 0) (hk0 : 0 ≤ key) (hk1 : key ≤ 1000000) (hT : Tb w) :
    Calls Tryd.prog 5 #[.slice A n c, I key] w fun e w' => e = .returned (.bool true) ∧ Below w.heap.size w w' := by
  have HC := Lib.hid (Split_ok A n c l t key w h hE hn ht' hne hk0 hk1 hT)
  have HTR := Lib.hid (chkS_zero.1 hE)
  have HL := Lib.hid h.len
  have H := Lib.hid h
  have HT := Lib.hid hT
  have HP := Lib.hid ht'
  have HNE := Lib.hid hne
  clear h hE ht' hne hT
  go_enter Tryd.func5, Tryd.ntmps5
  go_wp2_with fail
  refine HC.out.mono ?_
  rintro e w1 ⟨p, ta, tb, A1, c1, A2, c2, rfl, hp1, hp2, hp3, hta, htb, hpa, hpb, hb1⟩
  obtain ⟨m, hm⟩ : ∃ m, n - p = m := ⟨_, rfl⟩
  have hm2 : p + m = n := by omega
  rw [hm] at hpb ⊢
  have HB1 := Lib.hid hb1
  have HT1 := Lib.hid (HT.out.next hb1)
  have H1 := Lib.hid (H.out.below hb1)
  have HX1 := Lib.hid hpa
  have HY1 := Lib.hid hpb
  have hlen : l.length = n := HL.out
  have HCA : Hid (chkS (ta.sp 0) = 0) := zpart_tree HTR.out (by rw [kys_takeN]; exact List.take_sublist _ _) hta
  have HCB : Hid (chkS (tb.sp 0) = 0) := zpart_tree HTR.out (by rw [kys_dropN]; exact List.drop_sublist _ _) htb
  have HPA : Hid (Hp ta (zpl (kys (ta.sp 0)))) := by show Hp _ _; rw [kys_sp hta]; exact hta
  have HPB : Hid (Hp tb (zpl (kys (tb.sp 0)))) := by show Hp _ _; rw [kys_sp htb]; exact htb
  have HPT : Hid (Hp t (zpl (kys (ta.sp 0 ++ tb.sp 0)))) := by
    have e : kys (ta.sp 0 ++ tb.sp 0) = kys l := by
      have e1 : kys (ta.sp 0 ++ tb.sp 0) = kys (ta.sp 0) ++ kys (tb.sp 0) := by simp [kys]
      rw [e1, kys_sp hta, kys_sp htb, kys_takeN, kys_dropN, List.take_append_drop]
    show Hp _ _
    rw [e]
    exact HP.out
  have HLO : Hid (∀ k, k < p → ky (ta.sp 0) k < key) := fun k hk => by rw [zpart_take hta hk (by omega)]; exact hp2 k hk
  have HHI : Hid (∀ k, k < m → key ≤ ky (tb.sp 0) k) := fun k hk => by
    rw [zpart_drop htb (by omega)]
    have h1 := hp3 (by omega)
    rcases Nat.eq_zero_or_pos k with h0 | h0
    · subst h0
      exact h1
    · have := up_lt HTR.out.2.1 p (p + k) (by omega) (by omega)
      omega
  have HBH : Hid (0 < p → 0 < m → ky (ta.sp 0) (p - 1) < ky (tb.sp 0) 0) := fun h1 h2 => by
    have := HLO.out (p - 1) (by omega)
    have := HHI.out 0 h2
    omega
  clear hp2 hp3 hta htb hpa hpb hb1 HC hm H hlen
  go_wp2_with fail
  refine (zipLives_any w1 HT1.out).mono ?_
  rintro e w2 ⟨rfl, hb2⟩
  have HB2 := Lib.hid (below_next HB1.out hb2)
  have HT2 := Lib.hid (HT1.out.next hb2)
  have H2 := Lib.hid (H1.out.below hb2)
  have HX2 := Lib.hid (HX1.out.below hb2)
  have HY2 := Lib.hid (HY1.out.below hb2)
  clear hb2 HX1 HY1 H1 HB1 HT1
  go_wp2_with fail
  refine (Merge_ok A1 A2 p c1 m c2 (ta.sp 0) (tb.sp 0) ta tb t w2 HX2.out HY2.out HCA.out HCB.out HPA.out HPB.out rfl rfl (by omega) HBH.out HPT.out HT2.out).mono ?_
  rw [hm2, ← HNE.out]
  rintro e w3 ⟨A3, c3, rfl, hps3, hb3⟩
  have HB3 := Lib.hid (below_next HB2.out hb3)
  have H3 := Lib.hid (H2.out.below hb3)
  have HX3 := Lib.hid (HX2.out.below hb3)
  have HY3 := Lib.hid (HY2.out.below hb3)
  have HE := Lib.hid (eqSpot_t A3 A n c3 c l w3 hps3 H3.out (by omega))
  clear hb3 hps3 HX2 HY2 H2 HB2 HT2
  go_wp2_with fail
  refine HE.out.mono ?_
  rintro e w4 ⟨rfl, hb4⟩
  have HB4 := Lib.hid (below_next HB3.out hb4)
  have HX4 := Lib.hid (HX3.out.below hb4)
  have HY4 := Lib.hid (HY3.out.below hb4)
  clear hb4 HX3 HY3 H3 HB3 HE
  go_wp2_with fail
  refine (CheckS_is A1 p c1 (ta.sp 0) w4 HX4.out (by omega) 0 HCA.out).mono ?_
  rintro e w5 ⟨rfl, hb5⟩
  have HB5 := Lib.hid (below_next HB4.out hb5)
  have HX5 := Lib.hid (HX4.out.below hb5)
  have HY5 := Lib.hid (HY4.out.below hb5)
  clear hb5 HX4 HY4 HB4
  go_wp2_with fail
  refine (CheckS_is A2 m c2 (tb.sp 0) w5 HY5.out (by omega) 0 HCB.out).mono ?_
  rintro e w6 ⟨rfl, hb6⟩
  have HB6 := Lib.hid (below_next HB5.out hb6)
  have HX6 := Lib.hid (HX5.out.below hb6)
  have HY6 := Lib.hid (HY5.out.below hb6)
  clear hb6 HX5 HY5 HB5
  go_wp2
  go_loopw [62] (fun i wr => ∃ k : Nat, k ≤ p ∧ i = .int .i64 k ∧ Below w6.heap.size w6 wr) (fun i _ => p - (intOf i).toNat)
  case atStart => exact ⟨0, Nat.zero_le _, rfl, Below.refl _ _⟩
  case round =>
    obtain ⟨k, hk, rfl, hnx⟩ := hrel
    have HNX := Lib.hid hnx
    have hsz := hnx.size
    clear hnx
    by_cases hlt : k < p
    · obtain ⟨b, off, rfl, hb, hcs⟩ := (HX6.out.below HNX.out).dat (by omega)
      have hc0 : wr.cell? ⟨b, off + k * 2, none⟩ = some (I (ky (ta.sp 0) k)) := (hcs k hlt).1
      have hc1 : wr.cell? ⟨b, off + k * 2 + 1, none⟩ = some (I (dp (ta.sp 0) k)) := (hcs k hlt).2
      have hlo := HLO.out k hlt
      generalize ky (ta.sp 0) k = x at *
      generalize dp (ta.sp 0) k = y at *
      clear hcs
      go_wp2
      go_roundw
      case rel => exact ⟨k + 1, by omega, by go_num, HNX.out.alloc hsz _⟩
      case measure => simp [intOf]; omega
    · obtain ⟨wq, hwq⟩ : ∃ wq, wq = wr := ⟨_, rfl⟩
      rw [← hwq] at HNX ⊢
      clear hwq hsz
      go_wp2
      go_loopw [73] (fun i wr => ∃ k : Nat, k ≤ m ∧ i = .int .i64 k ∧ Below w6.heap.size w6 wr) (fun i _ => m - (intOf i).toNat)
      case atStart => exact ⟨0, Nat.zero_le _, rfl, HNX.out⟩
      case round =>
        clear HNX
        obtain ⟨j, hj, rfl, hnx⟩ := hrel
        have HNX := Lib.hid hnx
        have hsz := hnx.size
        clear hnx
        by_cases hlt2 : j < m
        · obtain ⟨b, off, rfl, hb, hcs⟩ := (HY6.out.below HNX.out).dat (by omega)
          have hc0 : wr.cell? ⟨b, off + j * 2, none⟩ = some (I (ky (tb.sp 0) j)) := (hcs j hlt2).1
          have hc1 : wr.cell? ⟨b, off + j * 2 + 1, none⟩ = some (I (dp (tb.sp 0) j)) := (hcs j hlt2).2
          have hlo := HHI.out j hlt2
          generalize ky (tb.sp 0) j = x at *
          generalize dp (tb.sp 0) j = y at *
          clear hcs
          go_wp2
          go_roundw
          case rel => exact ⟨j + 1, by omega, by go_num, HNX.out.alloc hsz _⟩
          case measure => simp [intOf]; omega
        · go_wp2
          go_ret
          exact ⟨rfl, below_next HB6.out HNX.out⟩

theorem zback_any (A : Option Addr) (n c : Nat) (l : PL) (key : Int) (w : World) (h : PS w A n c l) (hn : n ≤ 9223372036854775807) (hT : Tb w) :
    Calls Tryd.prog 5 #[.slice A n c, I key] w fun e w' => e = .returned (.bool true) ∧ Below w.heap.size w w' := by
  by_cases hE : chkS l = 0
  · have hn2 : n ≤ 200 := by rw [← h.len]; exact (chkS_zero.1 hE).1
    obtain ⟨t, ht'⟩ := hp_has _ (zpl (kys l)) (Nat.le_refl _)
    by_cases hne : l = t.sp 0
    · by_cases hk : key < 0 ∨ 1000000 < key
      · exact zback_bad _ key w (Split_arg A n c l t key w h hE hn2 ht' hne hk hT) hT
      · exact zback_ok A n c l t key w h hE hn2 ht' hne (by omega) (by omega) hT
    · exact zback_bad _ key w (Split_unlike A n c l t key w h hE hn2 ht' hne hT) hT
  · exact zback_bad _ key w (Split_form A n c l key w h hn hE) hT

end Go.Proofs.YtjnkfpagaajfeaaDoor
