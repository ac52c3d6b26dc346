/-
  The law ZipPuts.
-/
import Derived.Test.YtjnkfpagaajfeaaDoorSlRAll
import Derived.Test.YtjnkfpagaajfeaaDoorZLives
import Derived.Test.YtjnkfpagaajfeaaDoorContAll
import Derived.Test.YtjnkfpagaajfeaaDoorKRef2
namespace Go.Proofs.YtjnkfpagaajfeaaDoor
open Go.RowKit

theorem row_new (w : World) (L : List Value) (t : Nat) : ∀ j u, L[j]? = some u → (w.alloc (.cells L.toArray t)).cell? ((⟨w.heap.size, 0, none⟩ : Addr).add j) = some u := by
  intro j u hu
  rw [addn, Nat.zero_add]
  have := heap_alloc_new w (.cells L.toArray t)
  rw [cell_of_row _ _ _ _ _ _ this]
  simpa using hu
theorem six_one (a b c d e f : Int) : ∀ u ∈ [I a, I b, I c, I d, I e, I f], u.oneCell' = true := by
  intro u hu
  simp at hu
  rcases hu with rfl | rfl | rfl | rfl | rfl | rfl <;> rfl

set_option maxRecDepth 100000 in
set_option maxHeartbeats 2000000 in
theorem zputs_form (A : Option Addr) (n c : Nat) (ks : List Int) (key : Int) (w : World) (h : IS w A n c ks) (hn : n ≤ 9223372036854775807) (hE : chkK ks ≠ 0) (hT : Tb w) :
    Calls Tryd.prog 7 #[.slice A n c, I key] w fun e w' => e = .returned (.bool true) ∧ Below w.heap.size w w' := by
  obtain ⟨E, hE2⟩ : ∃ E, chkK ks = E := ⟨_, rfl⟩
  rw [hE2] at hE
  have hne := err_ne hE
  have HK : Hid (∀ w', Below w.heap.size w w' → Calls Tryd.prog 29 #[.slice A n c] w' fun e w'' => e = .returned (I E) ∧ w'' = w') := fun w' hb => by
    rw [← hE2]
    exact KeysRight_any A n c ks w' (h.below hb) hn
  have HT := Lib.hid hT
  clear h hE hE2 hT
  go_enter Tryd.func7, Tryd.ntmps7
  go_wp2_with fail
  refine (zipLives_any w HT.out).mono ?_
  rintro e w1 ⟨rfl, hb1⟩
  have HB1 := Lib.hid hb1
  have HT1 := Lib.hid (HT.out.next hb1)
  clear hb1
  go_wp2_with fail
  refine (HK.out w1 HB1.out).mono ?_
  rintro e w2 ⟨rfl, rfl⟩
  obtain ⟨wq, hwq⟩ : ∃ wq, wq = w2 := ⟨_, rfl⟩
  rw [← hwq] at HB1 HT1 ⊢
  clear hwq HK
  go_wp2_with fail
  refine (zipLives_any wq HT1.out).mono ?_
  rintro e w3 ⟨rfl, hb3⟩
  have HB3 := Lib.hid (below_next HB1.out hb3)
  clear hb3
  go_wp2
  go_ret
  exact ⟨rfl, HB3.out⟩

set_option maxRecDepth 100000 in
set_option maxHeartbeats 2000000 in
theorem zputs_has (A : Option Addr) (n c : Nat) (ks : List Int) (key : Int) (w : World) (h : IS w A n c ks) (hR : Rise ks) (hk : key ∈ ks) (hT : Tb w) :
    Calls Tryd.prog 7 #[.slice A n c, I key] w fun e w' => e = .returned (.bool true) ∧ Below w.heap.size w w' := by
  have hn : n ≤ 200 := by rw [← h.len]; exact hR.len
  have HK : Hid (∀ w', Below w.heap.size w w' → Calls Tryd.prog 29 #[.slice A n c] w' fun e w'' => e = .returned (I 0) ∧ w'' = w') := fun w' hb => by
    have := KeysRight_any A n c ks w' (h.below hb) (by omega)
    rwa [chkK_zero.2 hR] at this
  have HC : Hid (∀ w', Below w.heap.size w w' → Calls Tryd.prog 25 #[.slice A n c, I key] w' fun e w'' => e = .returned (.bool true) ∧ w'' = w') := fun w' hb => contains_hit A n c ks key w' (h.below hb) (by omega) hk
  have HT := Lib.hid hT
  clear h hR hk hT
  go_enter Tryd.func7, Tryd.ntmps7
  go_wp2_with fail
  refine (zipLives_any w HT.out).mono ?_
  rintro e w1 ⟨rfl, hb1⟩
  have HB1 := Lib.hid hb1
  have HT1 := Lib.hid (HT.out.next hb1)
  clear hb1
  go_wp2_with fail
  refine (HK.out w1 HB1.out).mono ?_
  rintro e w2 ⟨rfl, rfl⟩
  obtain ⟨wq, hwq⟩ : ∃ wq, wq = w2 := ⟨_, rfl⟩
  rw [← hwq] at HB1 HT1 ⊢
  clear hwq HK
  go_wp2_with fail
  refine (HC.out wq HB1.out).mono ?_
  rintro e w2 ⟨rfl, rfl⟩
  obtain ⟨wp, hwp⟩ : ∃ wp, wp = w2 := ⟨_, rfl⟩
  rw [← hwp] at HB1 HT1 ⊢
  clear hwp HC
  go_wp2_with fail
  refine (zipLives_any wp HT1.out).mono ?_
  rintro e w3 ⟨rfl, hb3⟩
  have HB3 := Lib.hid (below_next HB1.out hb3)
  clear hb3
  go_wp2
  go_ret
  exact ⟨rfl, HB3.out⟩

set_option maxRecDepth 100000 in
set_option maxHeartbeats 4000000 in
theorem zputs_ok (A : Option Addr) (n c : Nat) (ks : List Int) (key : Int) (w : World) (h : IS w A n c ks) (hR : Rise ks) (hk : key ∉ ks) (hT : Tb w) :
    Calls Tryd.prog 7 #[.slice A n c, I key] w fun e w' => e = .returned (.bool true) ∧ Below w.heap.size w w' := by
  have hn : n ≤ 200 := by rw [← h.len]; exact hR.len
  have hl := h.len
  obtain ⟨t, ht'⟩ := hp_has _ (zpl ks) (Nat.le_refl _)
  have HK : Hid (∀ w', Below w.heap.size w w' → Calls Tryd.prog 29 #[.slice A n c] w' fun e w'' => e = .returned (I 0) ∧ w'' = w') := fun w' hb => by
    have := KeysRight_any A n c ks w' (h.below hb) (by omega)
    rwa [chkK_zero.2 hR] at this
  have HC : Hid (∀ w', Below w.heap.size w w' → Calls Tryd.prog 25 #[.slice A n c, I key] w' fun e w'' => e = .returned (.bool false) ∧ w'' = w') := fun w' hb => contains_miss A n c ks key w' (h.below hb) (by omega) hk
  have HPA : Hid (∀ w', Below w.heap.size w w' → Calls Tryd.prog 23 #[.slice A n c] w' fun e w'' => ∃ v, e = .returned v ∧ OwnO w'' w'.heap.size v (putsOf ks) ∧ Below w'.heap.size w' w'') := fun w' hb => putAll_any A n c ks w' (h.below hb) (by omega)
  have HPL : Hid ((putsOf ks).length = n) := by show _ = _; simp [putsOf, hl]
  have HRUN1 : Hid (∀ w' A' c', Tb w' → OS w' A' n c' (putsOf ks) → Calls Tryd.prog 8 #[.slice A' n c'] w' (RetRunZ (t.sp 0) n (runR (putsOf ks)).2 0 w')) := fun w' A' c' hT' ho =>
    RunZ_any A' n c' (putsOf ks) t n w' ho (by omega) (by rw [runR_puts hR]; simpa using hl) (by omega) (by rw [runR_puts hR, kys_zero]; exact ht') hT'
  have HRUN2 : Hid (∀ w' A' c', Tb w' → OS w' A' (n + 2) c' (putsOf ks ++ [(1, key, 0), (3, key, 0)]) → Calls Tryd.prog 8 #[.slice A' (n + 2) c'] w' (RetRunZ (t.sp 0) n (runR (putsOf ks ++ [(1, key, 0), (3, key, 0)])).2 0 w')) := fun w' A' c' hT' ho =>
    RunZ_any A' (n + 2) c' (putsOf ks ++ [(1, key, 0), (3, key, 0)]) t n w' ho (by omega) (by rw [runR_putcut hR hk]; simpa using hl) (by omega) (by rw [runR_putcut hR hk, kys_zero]; exact ht') hT'
  have HAL : Hid ((runR (putsOf ks ++ [(1, key, 0), (3, key, 0)])).2.length = n + 2) := by show _ = _; rw [runR_len]; simp [putsOf, hl]
  have HT := Lib.hid hT
  obtain ⟨xs, hxs⟩ : ∃ xs, putsOf ks = xs := ⟨_, rfl⟩
  rw [hxs] at HPA HPL HRUN1 HRUN2 HAL
  obtain ⟨i0, hi, hz0, hz1, hz2⟩ := info_parts op_info
  have HI := Lib.hid hi
  have HZ0 := Lib.hid hz0
  have HZ1 := Lib.hid hz1
  have HZ2 := Lib.hid hz2
  clear hi hz0 hz1 hz2 h hR hk hT hl ht' hxs
  go_enter Tryd.func7, Tryd.ntmps7
  go_wp2_with fail
  refine (zipLives_any w HT.out).mono ?_
  rintro e w1 ⟨rfl, hb1⟩
  have HB1 := Lib.hid hb1
  have HT1 := Lib.hid (HT.out.next hb1)
  clear hb1
  go_wp2_with fail
  refine (HK.out w1 HB1.out).mono ?_
  rintro e w2 ⟨rfl, rfl⟩
  obtain ⟨wq, hwq⟩ : ∃ wq, wq = w2 := ⟨_, rfl⟩
  rw [← hwq] at HB1 HT1 ⊢
  clear hwq HK
  go_wp2_with fail
  refine (HC.out wq HB1.out).mono ?_
  rintro e w2 ⟨rfl, rfl⟩
  obtain ⟨wp, hwp⟩ : ∃ wp, wp = w2 := ⟨_, rfl⟩
  rw [← hwp] at HB1 HT1 ⊢
  clear hwp HC
  go_wp2_with fail
  refine (HPA.out wp HB1.out).mono ?_
  rintro e w3 ⟨v3, rfl, ho3, hb3⟩
  obtain ⟨A3, c3, rfl, hos3⟩ := ho3.os
  rw [HPL.out] at hos3 ⊢
  have HB3 := Lib.hid (below_next HB1.out hb3)
  have HT3 := Lib.hid (HT1.out.next hb3)
  have HR3 := Lib.hid (HRUN1.out w3 A3 c3 HT3.out hos3)
  clear ho3 hos3 hb3 HB1 HT1
  go_wp2_with fail
  refine HR3.out.mono ?_
  rintro e w4 ⟨A4, c4, A5, n5, c5, rfl, hps4, has4, hb4⟩
  have HB4 := Lib.hid (below_next HB3.out hb4)
  have HT4 := Lib.hid (HT3.out.next hb4)
  have HP4 := Lib.hid hps4
  clear hps4 has4 hb4 HR3 HB3 HT3
  go_wp2_with fail
  refine (HPA.out w4 HB4.out).mono ?_
  rintro e w5 ⟨v5, rfl, ho5, hb5⟩
  have HO5 := Lib.hid ho5
  have HX5 := Lib.hid hb5
  have hz5 := hb5.size
  have hxl : xs.length ≤ 200 := by rw [HPL.out]; exact hn
  clear ho5 hb5
  go_wp2_with (first
    | (at_builtin
       refine wpList_append_own_at _ rfl (.tmp 38) (.tmp 43) 22 rfl w4.heap.size 68 i0 _ 3 24 Tryd.underlying22 HI.out HZ0.out HZ1.out HZ2.out rfl (by omega) _ xs.length (flatO xs) rfl (own_below HO5.out ((Below.refl _ _).alloc (Nat.le_refl _) _)) ⟨w5.heap.size, 0, none⟩ 2 2 [I 1, I key, I 0, I 3, I key, I 0] rfl rfl (row_new w5 [I 1, I key, I 0, I 3, I key, I 0] _) (six_one 1 key 0 3 key 0) (by unfold maxLen; omega) (by omega) (by simp; omega) ?_
       intro v6 w6 hown6 hgrow6 _ hat6
       have HO6 : Hid (OwnO w6 w4.heap.size v6 (xs ++ [(1, key, 0), (3, key, 0)])) := by
         show OwnO _ _ _ _
         unfold OwnO
         rw [flatO_append, List.length_append]
         exact hown6
       have hbx : Below w4.heap.size w4 w6 := Below.grown (HX5.out.alloc hz5 _) hgrow6 (by simp; omega) (own_ge1 HO5.out))
    | fail)
  have HB6 := Lib.hid (below_next HB4.out hbx)
  have HT6 := Lib.hid (HT4.out.next hbx)
  have HP6 := Lib.hid (HP4.out.below hbx)
  obtain ⟨A6, c6, rfl, hos6⟩ := HO6.out.os
  have hl6 : (xs ++ [(1, key, 0), (3, key, 0)]).length = n + 2 := by simp [HPL.out]
  rw [hl6] at hos6 ⊢
  have HR6 := Lib.hid (HRUN2.out w6 A6 c6 HT6.out hos6)
  clear hown6 hgrow6 hat6 hbx hos6 hl6 HO6 HO5 HX5 hz5 HB4 HT4 HP4
  refine HR6.out.mono ?_
  rintro e w7 ⟨A7, c7, A8, n8, c8, rfl, hps7, has7, hb7⟩
  obtain rfl : n8 = n + 2 := by rw [← has7.len]; exact HAL.out
  have HB7 := Lib.hid (below_next HB6.out hb7)
  have HP7 := Lib.hid (HP6.out.below hb7)
  have HQ7 := Lib.hid hps7
  clear hps7 has7 hb7 HR6 HB6 HT6 HP6
  go_wp2_with fail
  refine (ok_any _ 2 2 [0, 0] _ (is_new w7 25 [0, 0]) (by omega) (by simp)).mono ?_
  rintro e w8 ⟨rfl, rfl⟩
  obtain ⟨w8, hw8⟩ : ∃ W, w7.alloc (Obj.cells (List.map I [0, 0]).toArray 25) = W := ⟨_, rfl⟩
  have hbx : Below w7.heap.size w7 w8 := by rw [← hw8]; exact (Below.refl _ _).alloc (Nat.le_refl _) _
  rw [hw8]
  have HB8 := Lib.hid (below_next HB7.out hbx)
  have HE := Lib.hid (eqSpot_t A4 A7 n c4 c7 (t.sp 0) w8 (HP7.out.below hbx) (HQ7.out.below hbx) (by omega))
  clear hbx hw8 HP7 HQ7 HB7
  have hw2 : IntKind.i64.wrap ((n : Int) + 2) = (n : Int) + 2 := IntWalk.i64_in _ (by omega)
  have hcast : ((n + 2 : Nat) : Int) = (n : Int) + 2 := by omega
  go_wp2_with fail
  refine HE.out.mono ?_
  rintro e w9 ⟨rfl, hb9⟩
  have HB9 := Lib.hid (below_next HB8.out hb9)
  clear hb9
  go_wp2
  go_ret
  exact ⟨rfl, HB9.out⟩

theorem zputs_any (A : Option Addr) (n c : Nat) (ks : List Int) (key : Int) (w : World) (h : IS w A n c ks) (hn : n ≤ 9223372036854775807) (hT : Tb w) :
    Calls Tryd.prog 7 #[.slice A n c, I key] w fun e w' => e = .returned (.bool true) ∧ Below w.heap.size w w' := by
  by_cases hE : chkK ks = 0
  · by_cases hk : key ∈ ks
    · exact zputs_has A n c ks key w h (chkK_zero.1 hE) hk hT
    · exact zputs_ok A n c ks key w h (chkK_zero.1 hE) hk hT
  · exact zputs_form A n c ks key w h hn hE hT

end Go.Proofs.YtjnkfpagaajfeaaDoor
