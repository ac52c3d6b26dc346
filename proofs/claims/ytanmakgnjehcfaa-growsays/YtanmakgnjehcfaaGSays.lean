/-
  GrowSays: Run, Of and Sort answer what the document says.
-/
import Derived.Test.YtanmakgnjehcfaaGRefG
import Derived.Test.YtanmakgnjehcfaaGRefS
import Derived.Test.YtanmakgnjehcfaaGRefL
import Derived.Test.YtanmakgnjehcfaaEqT
namespace Go.Proofs.Ytanmakgnjehcfaa
open Go.RowKit

/-- a tree's spots, as a slice -/
theorem rspots_ps (t : Tr) (q : Option Addr) (n : Nat) (w : World) (h : RT w q t) (hz : t.size = n) (hn : n ≤ 200) : Calls Try.prog 13 #[.pointer q, I 0] w fun e w' => ∃ A c, e = .returned (.slice A n c) ∧ PS w' A n c (t.sp 0) ∧ Below w.heap.size w w' := by
  refine (rspots_any t q 0 w h (Int.le_refl _) (by omega) (by omega)).mono ?_
  rintro e w' ⟨v, rfl, ho, hb⟩
  obtain ⟨A, c, e', _, hp⟩ := ownR_told ho (show (t.sp 0).length = n by rw [sp_length, hz])
  subst e'
  exact ⟨A, c, rfl, hp, hb⟩
theorem SortedKeys_is (A : Option Addr) (n c : Nat) (l : List Int) (w : World) (h : IS w A n c l) (hu : unl l = 0) :
    Calls Try.prog 15 #[.slice A n c] w fun e w' => ∃ A' c', e = .returned (.slice A' n c') ∧ IS w' A' n c' (qs l) ∧ Below w.heap.size w w' := by
  refine (SortedKeys_any A n c l w h hu).mono ?_
  rintro e w' ⟨v, rfl, ho, hb⟩
  obtain ⟨A', c', e', hi, _⟩ := OwnI.is_ ho
  have hl : (qs l).length = n := by rw [qs_length _ l (Nat.le_refl _), h.len]
  rw [hl] at e' hi
  exact ⟨A', c', by rw [e'], hi, hb⟩

set_option maxRecDepth 100000 in
set_option maxHeartbeats 8000000 in
theorem says_bad_large (A K : Option Addr) (n c m d : Nat) (ops : List OP) (l : List Int) (w : World) (h : OS w A n c ops) (hm : n ≤ 9223372036854775807) (hk : IS w K m d l) (hu : unl l ≠ 0) (hn : 300 < n) :
    Calls Try.prog 3 #[.slice A n c, .slice K m d] w fun e w' => e = .returned (.bool true) ∧ Below w.heap.size w w' := by
  have H := Lib.hid h
  have HK := Lib.hid hk
  have HU := Lib.hid hu
  have HOL := Lib.hid h.len
  have HG := Lib.hid (GRun_large A n c w hn hm)
  have hn' : 300 < (n : Int) := by omega
  obtain ⟨E, hE⟩ : ∃ E, unl l = E := ⟨_, rfl⟩
  have HE := Lib.hid hE
  have HE0 : Hid (E ≠ 0) := by show _ ≠ _; rw [← hE]; exact hu
  have hne : (E != 0) = true := gerr_ne HE0.out
  have hee : (E != E) = false := by simp
  clear hE
  clear h hk hu
  go_enter Try.func3, Try.ntmps3
  go_wp2_with fail
  refine HG.out.mono ?_
  rintro e w1 ⟨A1, n1, c1, A2, n2, c2, rfl, hp1, ha1, hb1⟩
  obtain rfl : n1 = 0 := hp1.len.symm
  obtain rfl : n2 = 0 := ha1.len.symm
  have HB1 := Lib.hid hb1
  have H1 := Lib.hid (H.out.below hb1)
  have HK1 := Lib.hid (HK.out.below hb1)
  have HP1 := Lib.hid hp1
  have HA1 := Lib.hid ha1
  clear hb1 hp1 ha1 HG H HK
  go_wp2_with fail
  refine (Of_bad K m d l w1 HK1.out E HE.out HE0.out).mono ?_
  rintro e w2 ⟨rfl, hb2⟩
  have HB2 := Lib.hid (below_next HB1.out hb2)
  have H2 := Lib.hid (H1.out.below hb2)
  have HK2 := Lib.hid (HK1.out.below hb2)
  have HP2 := Lib.hid (HP1.out.below hb2)
  have HA2 := Lib.hid (HA1.out.below hb2)
  clear hb2 HB1 H1 HK1 HP1 HA1
  go_wp2_with fail
  refine (Sort_bad K m d l w2 HK2.out E HE.out HE0.out).mono ?_
  rintro e w3 ⟨rfl, hb3⟩
  have HB3 := Lib.hid (below_next HB2.out hb3)
  have H3 := Lib.hid (H2.out.below hb3)
  have HK3 := Lib.hid (HK2.out.below hb3)
  have HP3 := Lib.hid (HP2.out.below hb3)
  have HA3 := Lib.hid (HA2.out.below hb3)
  clear hb3 HB2 H2 HK2 HP2 HA2
  go_wp2_with fail
  refine (UnlikeKeys_any K m d l w3 HK3.out).mono ?_
  rw [HE.out]
  rintro e w4 ⟨rfl, rfl⟩
  go_wp2
  go_ret
  exact ⟨rfl, HB3.out⟩

set_option maxRecDepth 100000 in
set_option maxHeartbeats 8000000 in
theorem says_bad_ok (A K : Option Addr) (n c m d : Nat) (ops : List OP) (l : List Int) (w : World) (h : OS w A n c ops) (hm : n ≤ 9223372036854775807) (hk : IS w K m d l) (hu : unl l ≠ 0) (hn3 : n ≤ 300) :
    Calls Try.prog 3 #[.slice A n c, .slice K m d] w fun e w' => e = .returned (.bool true) ∧ Below w.heap.size w w' := by
  have H := Lib.hid h
  have HK := Lib.hid hk
  have HU := Lib.hid hu
  have HOL := Lib.hid h.len
  have HG := Lib.hid (GRun_any A n c ops w h hn3)
  obtain ⟨N, hZ⟩ : ∃ N, (grT ops).size = N := ⟨_, rfl⟩
  have HZ := Lib.hid hZ
  have hN : N ≤ 200 := by rw [← hZ]; exact grT_size ops
  clear hZ
  obtain ⟨E, hE⟩ : ∃ E, unl l = E := ⟨_, rfl⟩
  have HE := Lib.hid hE
  have HE0 : Hid (E ≠ 0) := by show _ ≠ _; rw [← hE]; exact hu
  have hne : (E != 0) = true := gerr_ne HE0.out
  have hee : (E != E) = false := by simp
  clear hE
  clear h hk hu
  go_enter Try.func3, Try.ntmps3
  go_wp2_with fail
  refine HG.out.mono ?_
  rintro e w1 ⟨A1, n1, c1, A2, n2, c2, rfl, hp1, ha1, hb1⟩
  obtain rfl : n1 = N := by rw [← hp1.len, sp_length]; exact HZ.out
  have hn1 := hN
  obtain rfl : n2 = n := by rw [← ha1.len, runR_len]; exact HOL.out
  have HB1 := Lib.hid hb1
  have H1 := Lib.hid (H.out.below hb1)
  have HK1 := Lib.hid (HK.out.below hb1)
  have HP1 := Lib.hid hp1
  have HA1 := Lib.hid ha1
  clear hb1 hp1 ha1 HG H HK
  go_wp2_with fail
  refine (Of_bad K m d l w1 HK1.out E HE.out HE0.out).mono ?_
  rintro e w2 ⟨rfl, hb2⟩
  have HB2 := Lib.hid (below_next HB1.out hb2)
  have H2 := Lib.hid (H1.out.below hb2)
  have HK2 := Lib.hid (HK1.out.below hb2)
  have HP2 := Lib.hid (HP1.out.below hb2)
  have HA2 := Lib.hid (HA1.out.below hb2)
  clear hb2 HB1 H1 HK1 HP1 HA1
  go_wp2_with fail
  refine (Sort_bad K m d l w2 HK2.out E HE.out HE0.out).mono ?_
  rintro e w3 ⟨rfl, hb3⟩
  have HB3 := Lib.hid (below_next HB2.out hb3)
  have H3 := Lib.hid (H2.out.below hb3)
  have HK3 := Lib.hid (HK2.out.below hb3)
  have HP3 := Lib.hid (HP2.out.below hb3)
  have HA3 := Lib.hid (HA2.out.below hb3)
  clear hb3 HB2 H2 HK2 HP2 HA2
  go_wp2_with fail
  refine (UnlikeKeys_any K m d l w3 HK3.out).mono ?_
  rw [HE.out]
  rintro e w4 ⟨rfl, rfl⟩
  go_wp2_with fail
  refine (Answered_any A n2 c ops w3 H3.out hn3).mono ?_
  rintro e y6 ⟨A6, n6, c6, A7, n7, c7, rfl, _, has6, hb6⟩
  obtain rfl : n7 = n2 := by rw [← has6.len, runR_len]; exact HOL.out
  have HBy6 := Lib.hid (below_next HB3.out hb6)
  have Hy6 := Lib.hid (H3.out.below hb6)
  have HPy6 := Lib.hid (HP3.out.below hb6)
  have HAy6 := Lib.hid (HA3.out.below hb6)
  have HANy6 := Lib.hid has6
  clear hb6 has6 HB3 H3 HP3 HA3
  go_wp2_with fail
  refine (Grown_any A A7 n7 c c7 ops y6 Hy6.out HANy6.out hn3).mono ?_
  rintro e y7 ⟨q7, rfl, hr7, hb7⟩
  have HBy7 := Lib.hid (below_next HBy6.out hb7)
  have HPy7 := Lib.hid (HPy6.out.below hb7)
  have HAy7 := Lib.hid (HAy6.out.below hb7)
  have HANy7 := Lib.hid (HANy6.out.below hb7)
  have HRy7 := Lib.hid hr7
  clear hb7 hr7 HBy6 HPy6 HAy6 HANy6 Hy6
  go_wp2_with fail
  refine (rspots_ps (grT ops) q7 n1 y7 HRy7.out HZ.out hn1).mono ?_
  rintro e y8 ⟨A8, c8, rfl, hp8, hb8⟩
  have HBy8 := Lib.hid (below_next HBy7.out hb8)
  have HPy8 := Lib.hid (HPy7.out.below hb8)
  have HAy8 := Lib.hid (HAy7.out.below hb8)
  have HANy8 := Lib.hid (HANy7.out.below hb8)
  have HQy8 := Lib.hid hp8
  clear hb8 hp8 HBy7 HPy7 HAy7 HANy7
  go_wp2_with fail
  refine (sameSpots_t A1 A8 n1 c1 c8 _ y8 HPy8.out HQy8.out (by omega)).mono ?_
  rintro e y9 ⟨rfl, hb9⟩
  have HBy9 := Lib.hid (below_next HBy8.out hb9)
  have HAy9 := Lib.hid (HAy8.out.below hb9)
  have HANy9 := Lib.hid (HANy8.out.below hb9)
  clear hb9 HBy8 HPy8 HAy8 HANy8 HQy8
  go_wp2_with fail
  refine (eqAns_t A2 A7 _ c2 c7 _ y9 HAy9.out HANy9.out (by omega)).mono ?_
  rintro e wz ⟨rfl, hbz⟩
  have HBZ := Lib.hid (below_next HBy9.out hbz)
  clear hbz
  go_wp2
  go_ret
  exact ⟨rfl, HBZ.out⟩

set_option maxRecDepth 100000 in
set_option maxHeartbeats 8000000 in
theorem says_good_large (A K : Option Addr) (n c m d : Nat) (ops : List OP) (l : List Int) (w : World) (h : OS w A n c ops) (hm : n ≤ 9223372036854775807) (hk : IS w K m d l) (hu : unl l = 0) (hn : 300 < n) :
    Calls Try.prog 3 #[.slice A n c, .slice K m d] w fun e w' => e = .returned (.bool true) ∧ Below w.heap.size w w' := by
  have H := Lib.hid h
  have HK := Lib.hid hk
  have HU := Lib.hid hu
  have HOL := Lib.hid h.len
  have HG := Lib.hid (GRun_large A n c w hn hm)
  have hn' : 300 < (n : Int) := by omega
  obtain ⟨hl2, _, hnd⟩ := unl_zero.1 hu
  have hm2 : m ≤ 200 := by rw [← hk.len]; exact hl2
  have HKL := Lib.hid hk.len
  have HSZ : Hid ((gro .nil l).size = m) := by show _ = _; rw [size_gro l .nil hnd (by simp [Tr.ks]), hk.len]; simp [Tr.size]
  have HQL : Hid ((qs l).length = m) := by show _ = _; rw [qs_length _ l (Nat.le_refl _), hk.len]
  clear hl2 hnd
  clear h hk hu
  go_enter Try.func3, Try.ntmps3
  go_wp2_with fail
  refine HG.out.mono ?_
  rintro e w1 ⟨A1, n1, c1, A2, n2, c2, rfl, hp1, ha1, hb1⟩
  obtain rfl : n1 = 0 := hp1.len.symm
  obtain rfl : n2 = 0 := ha1.len.symm
  have HB1 := Lib.hid hb1
  have H1 := Lib.hid (H.out.below hb1)
  have HK1 := Lib.hid (HK.out.below hb1)
  have HP1 := Lib.hid hp1
  have HA1 := Lib.hid ha1
  clear hb1 hp1 ha1 HG H HK
  go_wp2_with fail
  refine (GOf_ok K m d l w1 HK1.out HU.out).mono ?_
  rintro e w2 ⟨A3, n3, c3, rfl, hp3, hb2⟩
  obtain rfl : n3 = m := by rw [← hp3.len, sp_length]; exact HSZ.out
  have HT2 := Lib.hid hp3
  clear hp3
  have HB2 := Lib.hid (below_next HB1.out hb2)
  have H2 := Lib.hid (H1.out.below hb2)
  have HK2 := Lib.hid (HK1.out.below hb2)
  have HP2 := Lib.hid (HP1.out.below hb2)
  have HA2 := Lib.hid (HA1.out.below hb2)
  clear hb2 HB1 H1 HK1 HP1 HA1
  go_wp2_with fail
  refine (Sort_ok K n3 d l w2 HK2.out HU.out).mono ?_
  rintro e w3 ⟨A4, n4, c4, rfl, hi4, hb3⟩
  obtain rfl : n4 = n3 := by rw [← hi4.len]; exact HQL.out
  have HT3 := Lib.hid (HT2.out.below hb3)
  have HI3 := Lib.hid hi4
  clear hi4 HT2
  have HB3 := Lib.hid (below_next HB2.out hb3)
  have H3 := Lib.hid (H2.out.below hb3)
  have HK3 := Lib.hid (HK2.out.below hb3)
  have HP3 := Lib.hid (HP2.out.below hb3)
  have HA3 := Lib.hid (HA2.out.below hb3)
  clear hb3 HB2 H2 HK2 HP2 HA2
  obtain ⟨S, hS⟩ : ∃ S, hel l = S := ⟨_, rfl⟩
  rw [hS]
  have HS := Lib.hid hS
  have hss : (S != S) = false := by simp
  clear hS
  go_wp2_with fail
  refine (UnlikeKeys_any K n4 d l w3 HK3.out).mono ?_
  rw [HU.out]
  rintro e w4 ⟨rfl, rfl⟩
  go_wp2
  go_loopg [14, 64] n4 (fun g p i wr => ∃ (k : Nat) (q : Option Addr), k ≤ n4 ∧ n4 - k ≤ g ∧ i = .int .i64 k ∧ p = .pointer q ∧ RT wr q (gro .nil (l.take k)) ∧ Below w3.heap.size w3 wr)
  case atStart => exact ⟨0, none, Nat.zero_le _, by omega, rfl, rfl, rfl, Below.refl _ _⟩
  case round =>
  obtain ⟨k, q, hk, hkm, rfl, rfl, hR, hnx⟩ := hrel
  have HNX := Lib.hid hnx
  have HR := Lib.hid hR
  clear hnx hR
  by_cases hlt : k < n4
  · obtain ⟨b, off, rfl, hb, hc⟩ := HK3.out.at_ (by omega)
    have hkl : k < l.length := by rw [HKL.out]; exact hlt
    have hck : wr.cell? ⟨b, off + k, none⟩ = some (I l[k]) := (HNX.out.cell (by exact hb)).trans (hc k hlt)
    have HGT := Lib.hid (gro_take .nil l k hkl)
    clear hc
    generalize l[k] = x at hck HGT
    generalize gro .nil (l.take k) = t at HR HGT
    go_wp2_with fail
    refine (Leaf_any x t q _ HR.out).mono ?_
    rintro e w5 ⟨q5, rfl, hr5, hb5⟩
    have HR5 := Lib.hid hr5
    have HB5 := Lib.hid (below_next HNX.out hb5)
    clear hr5 hb5
    go_wp2
    go_roundg (gk - 1)
    case measure => omega
    case rel => exact ⟨k + 1, q5, by omega, by omega, by go_num, rfl, by rw [HGT.out]; exact HR5.out, HB5.out⟩
  have htk : l.take k = l := List.take_of_length_le (by rw [HKL.out]; omega)
  rw [htk] at HR
  clear htk
  have hb4 := HNX.out
  have HT4 := Lib.hid (HT3.out.below hb4)
  have HI4 := Lib.hid (HI3.out.below hb4)
  clear HNX HT3 HI3
  have HB4 := Lib.hid (below_next HB3.out hb4)
  have H4 := Lib.hid (H3.out.below hb4)
  have HK4 := Lib.hid (HK3.out.below hb4)
  have HP4 := Lib.hid (HP3.out.below hb4)
  have HA4 := Lib.hid (HA3.out.below hb4)
  clear hb4 HB3 H3 HK3 HP3 HA3
  go_wp2_with fail
  refine (rspots_ps (gro .nil l) q n4 wr HR.out HSZ.out hm2).mono ?_
  rintro e w5 ⟨A5, c5, rfl, hp5, hb5⟩
  have HT5 := Lib.hid (HT4.out.below hb5)
  have HI5 := Lib.hid (HI4.out.below hb5)
  have HX5 := Lib.hid hp5
  clear hp5 HT4 HI4 HR
  have HB5 := Lib.hid (below_next HB4.out hb5)
  have H5 := Lib.hid (H4.out.below hb5)
  have HK5 := Lib.hid (HK4.out.below hb5)
  have HP5 := Lib.hid (HP4.out.below hb5)
  have HA5 := Lib.hid (HA4.out.below hb5)
  clear hb5 HB4 H4 HK4 HP4 HA4
  go_wp2_with fail
  refine (sameSpots_t A3 A5 n4 c3 c5 _ w5 HT5.out HX5.out (by omega)).mono ?_
  rintro e w6 ⟨rfl, hb6⟩
  have HI6 := Lib.hid (HI5.out.below hb6)
  clear HT5 HX5 HI5
  have HB6 := Lib.hid (below_next HB5.out hb6)
  have H6 := Lib.hid (H5.out.below hb6)
  have HK6 := Lib.hid (HK5.out.below hb6)
  have HP6 := Lib.hid (HP5.out.below hb6)
  have HA6 := Lib.hid (HA5.out.below hb6)
  clear hb6 HB5 H5 HK5 HP5 HA5
  go_wp2_with fail
  refine (SortedKeys_is K n4 d l w6 HK6.out HU.out).mono ?_
  rintro e w7 ⟨A7, c7, rfl, hi7, hb7⟩
  have HI7 := Lib.hid (HI6.out.below hb7)
  have HX7 := Lib.hid hi7
  clear hi7 HI6
  have HB7 := Lib.hid (below_next HB6.out hb7)
  have H7 := Lib.hid (H6.out.below hb7)
  have HK7 := Lib.hid (HK6.out.below hb7)
  have HP7 := Lib.hid (HP6.out.below hb7)
  have HA7 := Lib.hid (HA6.out.below hb7)
  clear hb7 HB6 H6 HK6 HP6 HA6
  go_wp2_with fail
  refine (sameInts_t A4 A7 n4 c4 c7 _ w7 HI7.out HX7.out (by omega)).mono ?_
  rintro e w8 ⟨rfl, hb8⟩
  clear HI7 HX7
  have HB8 := Lib.hid (below_next HB7.out hb8)
  have H8 := Lib.hid (H7.out.below hb8)
  have HK8 := Lib.hid (HK7.out.below hb8)
  have HP8 := Lib.hid (HP7.out.below hb8)
  have HA8 := Lib.hid (HA7.out.below hb8)
  clear hb8 HB7 H7 HK7 HP7 HA7
  go_wp2_with fail
  refine (HeldOften_any _ l (Nat.le_refl _) K n4 d w8 HK8.out (by omega)).mono ?_
  rw [HS.out]
  rintro e w9 ⟨rfl, hb9⟩
  have HB9 := Lib.hid (below_next HB8.out hb9)
  have H9 := Lib.hid (H8.out.below hb9)
  have HK9 := Lib.hid (HK8.out.below hb9)
  have HP9 := Lib.hid (HP8.out.below hb9)
  have HA9 := Lib.hid (HA8.out.below hb9)
  clear hb9 HB8 H8 HK8 HP8 HA8
  go_wp2
  go_ret
  exact ⟨rfl, HB9.out⟩

set_option maxRecDepth 100000 in
set_option maxHeartbeats 8000000 in
theorem says_good_ok (A K : Option Addr) (n c m d : Nat) (ops : List OP) (l : List Int) (w : World) (h : OS w A n c ops) (hm : n ≤ 9223372036854775807) (hk : IS w K m d l) (hu : unl l = 0) (hn3 : n ≤ 300) :
    Calls Try.prog 3 #[.slice A n c, .slice K m d] w fun e w' => e = .returned (.bool true) ∧ Below w.heap.size w w' := by
  have H := Lib.hid h
  have HK := Lib.hid hk
  have HU := Lib.hid hu
  have HOL := Lib.hid h.len
  have HG := Lib.hid (GRun_any A n c ops w h hn3)
  obtain ⟨N, hZ⟩ : ∃ N, (grT ops).size = N := ⟨_, rfl⟩
  have HZ := Lib.hid hZ
  have hN : N ≤ 200 := by rw [← hZ]; exact grT_size ops
  clear hZ
  obtain ⟨hl2, _, hnd⟩ := unl_zero.1 hu
  have hm2 : m ≤ 200 := by rw [← hk.len]; exact hl2
  have HKL := Lib.hid hk.len
  have HSZ : Hid ((gro .nil l).size = m) := by show _ = _; rw [size_gro l .nil hnd (by simp [Tr.ks]), hk.len]; simp [Tr.size]
  have HQL : Hid ((qs l).length = m) := by show _ = _; rw [qs_length _ l (Nat.le_refl _), hk.len]
  clear hl2 hnd
  clear h hk hu
  go_enter Try.func3, Try.ntmps3
  go_wp2_with fail
  refine HG.out.mono ?_
  rintro e w1 ⟨A1, n1, c1, A2, n2, c2, rfl, hp1, ha1, hb1⟩
  obtain rfl : n1 = N := by rw [← hp1.len, sp_length]; exact HZ.out
  have hn1 := hN
  obtain rfl : n2 = n := by rw [← ha1.len, runR_len]; exact HOL.out
  have HB1 := Lib.hid hb1
  have H1 := Lib.hid (H.out.below hb1)
  have HK1 := Lib.hid (HK.out.below hb1)
  have HP1 := Lib.hid hp1
  have HA1 := Lib.hid ha1
  clear hb1 hp1 ha1 HG H HK
  go_wp2_with fail
  refine (GOf_ok K m d l w1 HK1.out HU.out).mono ?_
  rintro e w2 ⟨A3, n3, c3, rfl, hp3, hb2⟩
  obtain rfl : n3 = m := by rw [← hp3.len, sp_length]; exact HSZ.out
  have HT2 := Lib.hid hp3
  clear hp3
  have HB2 := Lib.hid (below_next HB1.out hb2)
  have H2 := Lib.hid (H1.out.below hb2)
  have HK2 := Lib.hid (HK1.out.below hb2)
  have HP2 := Lib.hid (HP1.out.below hb2)
  have HA2 := Lib.hid (HA1.out.below hb2)
  clear hb2 HB1 H1 HK1 HP1 HA1
  go_wp2_with fail
  refine (Sort_ok K n3 d l w2 HK2.out HU.out).mono ?_
  rintro e w3 ⟨A4, n4, c4, rfl, hi4, hb3⟩
  obtain rfl : n4 = n3 := by rw [← hi4.len]; exact HQL.out
  have HT3 := Lib.hid (HT2.out.below hb3)
  have HI3 := Lib.hid hi4
  clear hi4 HT2
  have HB3 := Lib.hid (below_next HB2.out hb3)
  have H3 := Lib.hid (H2.out.below hb3)
  have HK3 := Lib.hid (HK2.out.below hb3)
  have HP3 := Lib.hid (HP2.out.below hb3)
  have HA3 := Lib.hid (HA2.out.below hb3)
  clear hb3 HB2 H2 HK2 HP2 HA2
  obtain ⟨S, hS⟩ : ∃ S, hel l = S := ⟨_, rfl⟩
  rw [hS]
  have HS := Lib.hid hS
  have hss : (S != S) = false := by simp
  clear hS
  go_wp2_with fail
  refine (UnlikeKeys_any K n4 d l w3 HK3.out).mono ?_
  rw [HU.out]
  rintro e w4 ⟨rfl, rfl⟩
  go_wp2
  go_loopg [14, 64] n4 (fun g p i wr => ∃ (k : Nat) (q : Option Addr), k ≤ n4 ∧ n4 - k ≤ g ∧ i = .int .i64 k ∧ p = .pointer q ∧ RT wr q (gro .nil (l.take k)) ∧ Below w3.heap.size w3 wr)
  case atStart => exact ⟨0, none, Nat.zero_le _, by omega, rfl, rfl, rfl, Below.refl _ _⟩
  case round =>
  obtain ⟨k, q, hk, hkm, rfl, rfl, hR, hnx⟩ := hrel
  have HNX := Lib.hid hnx
  have HR := Lib.hid hR
  clear hnx hR
  by_cases hlt : k < n4
  · obtain ⟨b, off, rfl, hb, hc⟩ := HK3.out.at_ (by omega)
    have hkl : k < l.length := by rw [HKL.out]; exact hlt
    have hck : wr.cell? ⟨b, off + k, none⟩ = some (I l[k]) := (HNX.out.cell (by exact hb)).trans (hc k hlt)
    have HGT := Lib.hid (gro_take .nil l k hkl)
    clear hc
    generalize l[k] = x at hck HGT
    generalize gro .nil (l.take k) = t at HR HGT
    go_wp2_with fail
    refine (Leaf_any x t q _ HR.out).mono ?_
    rintro e w5 ⟨q5, rfl, hr5, hb5⟩
    have HR5 := Lib.hid hr5
    have HB5 := Lib.hid (below_next HNX.out hb5)
    clear hr5 hb5
    go_wp2
    go_roundg (gk - 1)
    case measure => omega
    case rel => exact ⟨k + 1, q5, by omega, by omega, by go_num, rfl, by rw [HGT.out]; exact HR5.out, HB5.out⟩
  have htk : l.take k = l := List.take_of_length_le (by rw [HKL.out]; omega)
  rw [htk] at HR
  clear htk
  have hb4 := HNX.out
  have HT4 := Lib.hid (HT3.out.below hb4)
  have HI4 := Lib.hid (HI3.out.below hb4)
  clear HNX HT3 HI3
  have HB4 := Lib.hid (below_next HB3.out hb4)
  have H4 := Lib.hid (H3.out.below hb4)
  have HK4 := Lib.hid (HK3.out.below hb4)
  have HP4 := Lib.hid (HP3.out.below hb4)
  have HA4 := Lib.hid (HA3.out.below hb4)
  clear hb4 HB3 H3 HK3 HP3 HA3
  go_wp2_with fail
  refine (rspots_ps (gro .nil l) q n4 wr HR.out HSZ.out hm2).mono ?_
  rintro e w5 ⟨A5, c5, rfl, hp5, hb5⟩
  have HT5 := Lib.hid (HT4.out.below hb5)
  have HI5 := Lib.hid (HI4.out.below hb5)
  have HX5 := Lib.hid hp5
  clear hp5 HT4 HI4 HR
  have HB5 := Lib.hid (below_next HB4.out hb5)
  have H5 := Lib.hid (H4.out.below hb5)
  have HK5 := Lib.hid (HK4.out.below hb5)
  have HP5 := Lib.hid (HP4.out.below hb5)
  have HA5 := Lib.hid (HA4.out.below hb5)
  clear hb5 HB4 H4 HK4 HP4 HA4
  go_wp2_with fail
  refine (sameSpots_t A3 A5 n4 c3 c5 _ w5 HT5.out HX5.out (by omega)).mono ?_
  rintro e w6 ⟨rfl, hb6⟩
  have HI6 := Lib.hid (HI5.out.below hb6)
  clear HT5 HX5 HI5
  have HB6 := Lib.hid (below_next HB5.out hb6)
  have H6 := Lib.hid (H5.out.below hb6)
  have HK6 := Lib.hid (HK5.out.below hb6)
  have HP6 := Lib.hid (HP5.out.below hb6)
  have HA6 := Lib.hid (HA5.out.below hb6)
  clear hb6 HB5 H5 HK5 HP5 HA5
  go_wp2_with fail
  refine (SortedKeys_is K n4 d l w6 HK6.out HU.out).mono ?_
  rintro e w7 ⟨A7, c7, rfl, hi7, hb7⟩
  have HI7 := Lib.hid (HI6.out.below hb7)
  have HX7 := Lib.hid hi7
  clear hi7 HI6
  have HB7 := Lib.hid (below_next HB6.out hb7)
  have H7 := Lib.hid (H6.out.below hb7)
  have HK7 := Lib.hid (HK6.out.below hb7)
  have HP7 := Lib.hid (HP6.out.below hb7)
  have HA7 := Lib.hid (HA6.out.below hb7)
  clear hb7 HB6 H6 HK6 HP6 HA6
  go_wp2_with fail
  refine (sameInts_t A4 A7 n4 c4 c7 _ w7 HI7.out HX7.out (by omega)).mono ?_
  rintro e w8 ⟨rfl, hb8⟩
  clear HI7 HX7
  have HB8 := Lib.hid (below_next HB7.out hb8)
  have H8 := Lib.hid (H7.out.below hb8)
  have HK8 := Lib.hid (HK7.out.below hb8)
  have HP8 := Lib.hid (HP7.out.below hb8)
  have HA8 := Lib.hid (HA7.out.below hb8)
  clear hb8 HB7 H7 HK7 HP7 HA7
  go_wp2_with fail
  refine (HeldOften_any _ l (Nat.le_refl _) K n4 d w8 HK8.out (by omega)).mono ?_
  rw [HS.out]
  rintro e w9 ⟨rfl, hb9⟩
  have HB9 := Lib.hid (below_next HB8.out hb9)
  have H9 := Lib.hid (H8.out.below hb9)
  have HK9 := Lib.hid (HK8.out.below hb9)
  have HP9 := Lib.hid (HP8.out.below hb9)
  have HA9 := Lib.hid (HA8.out.below hb9)
  clear hb9 HB8 H8 HK8 HP8 HA8
  go_wp2_with fail
  refine (Answered_any A n2 c ops w9 H9.out hn3).mono ?_
  rintro e y6 ⟨A6, n6, c6, A7, n7, c7, rfl, _, has6, hb6⟩
  obtain rfl : n7 = n2 := by rw [← has6.len, runR_len]; exact HOL.out
  have HBy6 := Lib.hid (below_next HB9.out hb6)
  have Hy6 := Lib.hid (H9.out.below hb6)
  have HPy6 := Lib.hid (HP9.out.below hb6)
  have HAy6 := Lib.hid (HA9.out.below hb6)
  have HANy6 := Lib.hid has6
  clear hb6 has6 HB9 H9 HP9 HA9
  go_wp2_with fail
  refine (Grown_any A A7 n7 c c7 ops y6 Hy6.out HANy6.out hn3).mono ?_
  rintro e y7 ⟨q7, rfl, hr7, hb7⟩
  have HBy7 := Lib.hid (below_next HBy6.out hb7)
  have HPy7 := Lib.hid (HPy6.out.below hb7)
  have HAy7 := Lib.hid (HAy6.out.below hb7)
  have HANy7 := Lib.hid (HANy6.out.below hb7)
  have HRy7 := Lib.hid hr7
  clear hb7 hr7 HBy6 HPy6 HAy6 HANy6 Hy6
  go_wp2_with fail
  refine (rspots_ps (grT ops) q7 n1 y7 HRy7.out HZ.out hn1).mono ?_
  rintro e y8 ⟨A8, c8, rfl, hp8, hb8⟩
  have HBy8 := Lib.hid (below_next HBy7.out hb8)
  have HPy8 := Lib.hid (HPy7.out.below hb8)
  have HAy8 := Lib.hid (HAy7.out.below hb8)
  have HANy8 := Lib.hid (HANy7.out.below hb8)
  have HQy8 := Lib.hid hp8
  clear hb8 hp8 HBy7 HPy7 HAy7 HANy7
  go_wp2_with fail
  refine (sameSpots_t A1 A8 n1 c1 c8 _ y8 HPy8.out HQy8.out (by omega)).mono ?_
  rintro e y9 ⟨rfl, hb9⟩
  have HB9 := Lib.hid (below_next HBy8.out hb9)
  have HA9 := Lib.hid (HAy8.out.below hb9)
  have HAN9 := Lib.hid (HANy8.out.below hb9)
  clear hb9 HBy8 HPy8 HAy8 HANy8 HQy8
  go_wp2_with fail
  refine (eqAns_t A2 A7 _ c2 c7 _ y9 HA9.out HAN9.out (by omega)).mono ?_
  rintro e wz ⟨rfl, hbz⟩
  have HBZ := Lib.hid (below_next HB9.out hbz)
  clear hbz
  go_wp2
  go_ret
  exact ⟨rfl, HBZ.out⟩

theorem says_any (A : Option Addr) (n c : Nat) (ops : List OP) (K : Option Addr) (m d : Nat) (l : List Int) (w : World) (h : OS w A n c ops) (hm : n ≤ 9223372036854775807) (hk : IS w K m d l) (_ : m ≤ 9223372036854775807) :
    Calls Try.prog 3 #[.slice A n c, .slice K m d] w fun e w' => e = .returned (.bool true) ∧ Below w.heap.size w w' := by
  by_cases hu : unl l = 0
  · by_cases hn : 300 < n
    · exact says_good_large A K n c m d ops l w h hm hk hu hn
    · exact says_good_ok A K n c m d ops l w h hm hk hu (by omega)
  · by_cases hn : 300 < n
    · exact says_bad_large A K n c m d ops l w h hm hk hu hn
    · exact says_bad_ok A K n c m d ops l w h hm hk hu (by omega)

end Go.Proofs.Ytanmakgnjehcfaa
