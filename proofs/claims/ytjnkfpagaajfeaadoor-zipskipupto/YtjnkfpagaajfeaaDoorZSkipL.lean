/-
  The law ZipSkip, where the key is not there.
-/
import Derived.Test.YtjnkfpagaajfeaaDoorZSkip
namespace Go.Proofs.YtjnkfpagaajfeaaDoor
open Go.RowKit

set_option maxRecDepth 100000 in
set_option maxHeartbeats 2000000 in
theorem zskip_has (A : Option Addr) (n c : Nat) (ks : List Int) (key : Int) (w : World) (h : IS w A n c ks) (hR : Rise ks) (hk : kyB key = true) (hm : key ∈ ks) (hT : Tb w) :
    Calls Tryd.prog 6 #[.slice A n c, I key] w fun e w' => e = .returned (.bool true) ∧ Below w.heap.size w w' := by
  have hn : n ≤ 200 := by rw [← h.len]; exact hR.len
  have hl := h.len
  obtain ⟨t, ht'⟩ := hp_has _ (zpl ks) (Nat.le_refl _)
  have HC := Lib.hid (Path_ok A n c ks key w h hR hk hT)
  have HPA : Hid (∀ w', Below w.heap.size w w' → Calls Tryd.prog 23 #[.slice A n c] w' fun e w'' => ∃ v, e = .returned v ∧ OwnO w'' w'.heap.size v (putsOf ks) ∧ Below w'.heap.size w' w'') := fun w' hb => putAll_any A n c ks w' (h.below hb) (by omega)
  have HPL : Hid ((putsOf ks).length = n) := by show _ = _; simp [putsOf, hl]
  have HRUN1 : Hid (∀ w' A' c', Tb w' → OS w' A' n c' (putsOf ks) → Calls Tryd.prog 8 #[.slice A' n c'] w' (RetRunZ (t.sp 0) n (runR (putsOf ks)).2 0 w')) := fun w' A' c' hT' ho =>
    RunZ_any A' n c' (putsOf ks) t n w' ho (by omega) (by rw [runR_puts hR]; simpa using hl) (by omega) (by rw [runR_puts hR, kys_zero]; exact ht') hT'
  have HCO : Hid (∀ w', Below w.heap.size w w' → Calls Tryd.prog 25 #[.slice A n c, I key] w' fun e w'' => e = .returned (.bool true) ∧ w'' = w') := fun w' hb => contains_hit A n c ks key w' (h.below hb) (by omega) hm
  have HT := Lib.hid hT
  clear h hR hk hT hm hl ht'
  go_enter Tryd.func6, Tryd.ntmps6
  go_wp2_with fail
  refine HC.out.mono ?_
  rintro e w1 ⟨A1, c1, rfl, _, hb1⟩
  have HB1 := Lib.hid hb1
  have HT1 := Lib.hid (HT.out.next hb1)
  clear hb1 HC
  go_wp2_with fail
  refine (HPA.out w1 HB1.out).mono ?_
  rintro e w2 ⟨v2, rfl, ho2, hb2⟩
  obtain ⟨A2, c2, rfl, hos2⟩ := ho2.os
  rw [HPL.out] at hos2 ⊢
  have HB2 := Lib.hid (below_next HB1.out hb2)
  have HT2 := Lib.hid (HT1.out.next hb2)
  have HR2 := Lib.hid (HRUN1.out w2 A2 c2 HT2.out hos2)
  clear ho2 hos2 hb2 HPA HB1 HT1
  go_wp2_with fail
  refine HR2.out.mono ?_
  rintro e w3 ⟨A3, c3, A4, n4, c4, rfl, _, _, hb3⟩
  have HB3 := Lib.hid (below_next HB2.out hb3)
  have HT3 := Lib.hid (HT2.out.next hb3)
  clear hb3 HR2 HB2 HT2
  go_wp2_with fail
  refine (zipLives_any w3 HT3.out).mono ?_
  rintro e w4 ⟨rfl, hb4⟩
  have HB4 := Lib.hid (below_next HB3.out hb4)
  have HT4 := Lib.hid (HT3.out.next hb4)
  clear hb4 HB3 HT3
  go_wp2_with fail
  refine (ok_any _ 2 2 [0, 0] _ (is_new w4 25 [0, 0]) (by omega) (by simp)).mono ?_
  rintro e w5 ⟨rfl, rfl⟩
  obtain ⟨w5, hw5⟩ : ∃ W, w4.alloc (Obj.cells (List.map I [0, 0]).toArray 25) = W := ⟨_, rfl⟩
  have hbx : Below w4.heap.size w4 w5 := by rw [← hw5]; exact (Below.refl _ _).alloc (Nat.le_refl _) _
  rw [hw5]
  have HB5 := Lib.hid (below_next HB4.out hbx)
  have HT5 := Lib.hid (HT4.out.next hbx)
  clear hbx hw5 HB4 HT4
  go_wp2_with fail
  refine (HCO.out w5 HB5.out).mono ?_
  rintro e w6 ⟨rfl, rfl⟩
  obtain ⟨wq, hwq⟩ : ∃ wq, wq = w6 := ⟨_, rfl⟩
  rw [← hwq] at HB5 HT5 ⊢
  clear hwq HCO
  go_wp2_with fail
  refine (zipLives_any wq HT5.out).mono ?_
  rintro e w7 ⟨rfl, hb7⟩
  have HB7 := Lib.hid (below_next HB5.out hb7)
  clear hb7
  go_wp2
  go_ret
  exact ⟨rfl, HB7.out⟩

/-- which neighbour a place is -/
inductive Nb (ks : List Int) (key : Int) (n p k : Nat) : Prop
  | far (h : k + 1 < p) (h1 : ks[k]?.getD 0 < key) (h2 : ks[k + 1]?.getD 0 < key)
  | leftEnd (h : k + 1 = p) (h1 : ks[k]?.getD 0 < key) (h2 : k + 1 = n)
  | left (h : k + 1 = p) (h1 : ks[k]?.getD 0 < key) (h2 : k + 1 < n) (h3 : key < ks[k + 1]?.getD 0)
  | rightFirst (h : k = p) (h1 : key < ks[k]?.getD 0) (h2 : k = 0)
  | right (h : k = p) (h1 : key < ks[k]?.getD 0) (h2 : 0 < k) (h3 : ks[k - 1]?.getD 0 < key)
  | past (h : p < k) (h1 : key < ks[k]?.getD 0) (h2 : key < ks[k - 1]?.getD 0)
theorem nb_of {ks : List Int} {key : Int} {n k : Nat} (hp : ks.Pairwise (· < ·)) (hno : key ∉ ks) (hl : ks.length = n) (hk : k < n) : Nb ks key n (plt ks key) k := by
  have hle := plt_le ks key
  have g : ∀ i (hi : i < n), ks[i]?.getD 0 = ks[i]'(by omega) := fun i hi => by rw [List.getElem?_eq_getElem (show i < ks.length by omega)]; rfl
  have lo : ∀ i, i < n → i < plt ks key → ks[i]?.getD 0 < key := fun i hi h => by rw [g i hi]; exact (plt_iff key ks hp i (by omega)).1 h
  have hi : ∀ i, i < n → ¬ i < plt ks key → key < ks[i]?.getD 0 := fun i hi h => by
    rw [g i hi]
    have h1 : ¬ ks[i]'(by omega) < key := fun h2 => h ((plt_iff key ks hp i (by omega)).2 h2)
    have h2 : ks[i]'(by omega) ≠ key := fun e => hno (by rw [← e]; exact List.getElem_mem _)
    omega
  rcases Nat.lt_trichotomy (k + 1) (plt ks key) with h | h | h
  · exact .far h (lo k hk (by omega)) (lo (k + 1) (by omega) h)
  · by_cases he : k + 1 = n
    · exact .leftEnd h (lo k hk (by omega)) he
    · exact .left h (lo k hk (by omega)) (by omega) (hi (k + 1) (by omega) (by omega))
  · by_cases he : k = plt ks key
    · by_cases h0 : k = 0
      · exact .rightFirst he (hi k hk (by omega)) h0
      · exact .right he (hi k hk (by omega)) (by omega) (lo (k - 1) (by omega) (by omega))
    · exact .past (by omega) (hi k hk (by omega)) (hi (k - 1) (by omega) (by omega))

set_option maxRecDepth 100000 in
set_option maxHeartbeats 8000000 in
theorem zskip_ok (A : Option Addr) (n c : Nat) (ks : List Int) (key : Int) (w : World) (h : IS w A n c ks) (hR : Rise ks) (hk : kyB key = true) (hm : key ∉ ks) (hT : Tb w) :
    Calls Tryd.prog 6 #[.slice A n c, I key] w fun e w' => e = .returned (.bool true) ∧ Below w.heap.size w w' := by
  have hn : n ≤ 200 := by rw [← h.len]; exact hR.len
  have hl := h.len
  obtain ⟨t, ht'⟩ := hp_has _ (zpl ks) (Nat.le_refl _)
  have HC := Lib.hid (Path_ok A n c ks key w h hR hk hT)
  have HPA : Hid (∀ w', Below w.heap.size w w' → Calls Tryd.prog 23 #[.slice A n c] w' fun e w'' => ∃ v, e = .returned v ∧ OwnO w'' w'.heap.size v (putsOf ks) ∧ Below w'.heap.size w' w'') := fun w' hb => putAll_any A n c ks w' (h.below hb) (by omega)
  have HPL : Hid ((putsOf ks).length = n) := by show _ = _; simp [putsOf, hl]
  have HRUN1 : Hid (∀ w' A' c', Tb w' → OS w' A' n c' (putsOf ks) → Calls Tryd.prog 8 #[.slice A' n c'] w' (RetRunZ (t.sp 0) n (runR (putsOf ks)).2 0 w')) := fun w' A' c' hT' ho =>
    RunZ_any A' n c' (putsOf ks) t n w' ho (by omega) (by rw [runR_puts hR]; simpa using hl) (by omega) (by rw [runR_puts hR, kys_zero]; exact ht') hT'
  have HCO : Hid (∀ w', Below w.heap.size w w' → Calls Tryd.prog 25 #[.slice A n c, I key] w' fun e w'' => e = .returned (.bool false) ∧ w'' = w') := fun w' hb => contains_miss A n c ks key w' (h.below hb) (by omega) hm
  have HT := Lib.hid hT
  have hts : t.size = n := by rw [← hp_len ht', zpl_length, hl]
  have HTR : Hid (IsTree (t.sp 0)) := istree_of (by rw [zks ht']; exact hR.pw) (by omega)
  obtain ⟨np, hnp⟩ : ∃ np, (stops ks key).length = np := ⟨_, rfl⟩
  have hnp2 : np ≤ 2400 := by rw [← hnp]; exact zstops_len hR key
  have HNP := Lib.hid hnp
  -- what the loops want
  obtain ⟨p, hpp⟩ : ∃ p, plt ks key = p := ⟨_, rfl⟩
  have hpn : p ≤ n := by rw [← hpp, ← hl]; exact plt_le ks key
  have HNB : Hid (∀ k, k < n → Nb ks key n p k) := fun k hk => by rw [← hpp]; exact nb_of hR.pw hm hl hk
  have HLT : Hid (∀ k, k < n → (k < p ↔ ks[k]?.getD 0 < key)) := fun k hk => by
    rw [← hpp, List.getElem?_eq_getElem (show k < ks.length by omega)]
    exact plt_iff key ks hR.pw k (by omega)
  have HKY : Hid (∀ k, k < n → ky (t.sp 0) k = ks[k]?.getD 0) := fun k hk => by
    rw [zks_at ht' k (by omega), List.getElem?_eq_getElem (show k < ks.length by omega)]
    rfl
  have HDP : Hid (∀ k, k < n → 0 ≤ dp (t.sp 0) k ∧ dp (t.sp 0) k < n) := fun k hk => by
    have h1 := sp_ge t 0 k (by omega)
    have h2 := dp_sp_lt t 0 k (by omega)
    omega
  have HPAR : Hid (∀ k, k < n → par (t.sp 0) k = -1 ∨ ∃ r : Nat, par (t.sp 0) k = r ∧ r < n ∧ (dp (t.sp 0) r).toNat + 1 ≤ (dp (t.sp 0) k).toNat) := fun k hk => by
    have := par_next ht' (i := k) (by omega)
    rwa [hts] at this
  have HFIN : Hid (∀ a : Nat, ∀ L, 0 < n → atv (t.sp 0) p n = a → Chn (t.sp 0) p (a : Int) L → L.map (fun i => ks[i]?.getD 0) = ((stops ks key).map Prod.snd).reverse) := fun a L h0 ha hL => by
    obtain ⟨a', e, h1, h2⟩ := at_final ht' (p := p) (by omega) (by omega)
    rw [hl] at e h1
    obtain rfl : a = a' := by omega
    refine zip_skip hR ht' (by omega) ?_ (by omega) h2 hL
    intro i hi
    rw [← hpp]
    exact plt_iff key ks hR.pw i hi
  have HAT : Hid (0 < n → ∃ a : Nat, atv (t.sp 0) p n = a ∧ a < n ∧ ∃ L, Chn (t.sp 0) p (a : Int) L) := fun h0 => by
    obtain ⟨a', e, h1, _⟩ := at_final ht' (p := p) (by omega) (by omega)
    rw [hl] at e h1
    obtain ⟨L, hL⟩ := chn_has ht' p _ a' (Nat.le_refl _) (by omega)
    exact ⟨a', e, h1, L, hL⟩
  have HNIL : Hid (n = 0 → (stops ks key).map Prod.snd = []) := fun h0 => by
    have hk0 : ks = [] := List.eq_nil_of_length_eq_zero (by omega)
    have : ∀ x, x ∉ (stops ks key).map Prod.snd := fun x hx => by
      have := (stops_iff hR key x).1 hx
      rw [hk0] at this
      exact absurd this.1 (by simp)
    cases hs : (stops ks key).map Prod.snd with
    | nil => rfl
    | cons a r => exact absurd (by rw [hs]; simp) (this a)
  have HSLEN : Hid ((t.sp 0).length = n) := by show _ = _; rw [sp_length, hts]
  clear h hR hk hT hm ht' hts hnp hpp hl
  go_enter Tryd.func6, Tryd.ntmps6
  go_wp2_with fail
  refine HC.out.mono ?_
  rintro e w1 ⟨A1, c1, rfl, hps1, hb1⟩
  rw [HNP.out] at hps1 ⊢
  have HB1 := Lib.hid hb1
  have HT1 := Lib.hid (HT.out.next hb1)
  have HST1 := Lib.hid hps1
  clear hb1 hps1 HC
  go_wp2_with fail
  refine (HPA.out w1 HB1.out).mono ?_
  rintro e w2 ⟨v2, rfl, ho2, hb2⟩
  obtain ⟨A2, c2, rfl, hos2⟩ := ho2.os
  rw [HPL.out] at hos2 ⊢
  have HB2 := Lib.hid (below_next HB1.out hb2)
  have HT2 := Lib.hid (HT1.out.next hb2)
  have HST2 := Lib.hid (HST1.out.below hb2)
  have HR2 := Lib.hid (HRUN1.out w2 A2 c2 HT2.out hos2)
  clear ho2 hos2 hb2 HPA HB1 HT1 HST1
  go_wp2_with fail
  refine HR2.out.mono ?_
  rintro e w3 ⟨A3, c3, A4, n4, c4, rfl, hps3, _, hb3⟩
  have HB3 := Lib.hid (below_next HB2.out hb3)
  have HT3 := Lib.hid (HT2.out.next hb3)
  have HST3 := Lib.hid (HST2.out.below hb3)
  have HS3 := Lib.hid hps3
  clear hb3 hps3 HR2 HB2 HT2 HST2
  go_wp2_with fail
  refine (zipLives_any w3 HT3.out).mono ?_
  rintro e w4 ⟨rfl, hb4⟩
  have HB4 := Lib.hid (below_next HB3.out hb4)
  have HST4 := Lib.hid (HST3.out.below hb4)
  have HS4 := Lib.hid (HS3.out.below hb4)
  clear hb4 HB3 HT3 HST3 HS3
  go_wp2_with fail
  refine (ok_any _ 2 2 [0, 0] _ (is_new w4 25 [0, 0]) (by omega) (by simp)).mono ?_
  rintro e w5 ⟨rfl, rfl⟩
  obtain ⟨w5, hw5⟩ : ∃ W, w4.alloc (Obj.cells (List.map I [0, 0]).toArray 25) = W := ⟨_, rfl⟩
  have hbx : Below w4.heap.size w4 w5 := by rw [← hw5]; exact (Below.refl _ _).alloc (Nat.le_refl _) _
  rw [hw5]
  have HB5 := Lib.hid (below_next HB4.out hbx)
  have HST5 := Lib.hid (HST4.out.below hbx)
  have HS5 := Lib.hid (HS4.out.below hbx)
  clear hbx hw5 HB4 HST4 HS4
  go_wp2_with fail
  refine (HCO.out w5 HB5.out).mono ?_
  rintro e w6 ⟨rfl, rfl⟩
  obtain ⟨wq, hwq⟩ : ∃ wq, wq = w6 := ⟨_, rfl⟩
  rw [← hwq] at HB5 HST5 HS5 ⊢
  clear hwq HCO
  go_wp2_with fail
  refine (Parents_ok A3 n c3 (t.sp 0) wq HS5.out HTR.out).mono ?_
  rintro e w7 ⟨A7, n7, c7, rfl, hi7, hb7, _⟩
  obtain rfl : n7 = n := by rw [← hi7.len, parL_length]; exact HSLEN.out
  have HB7 := Lib.hid (below_next HB5.out hb7)
  have HST7 := Lib.hid (HST5.out.below hb7)
  have HS7 := Lib.hid (HS5.out.below hb7)
  have HU7 := Lib.hid hi7
  clear hb7 hi7 HB5 HST5 HS5
  have hnn : ((n7 : Int) != (n7 : Int)) = false := by simp
  go_wp2
  go_loopg [12, 66] n7 (fun g tt i wr => ∃ k : Nat, k ≤ n7 ∧ n7 - k ≤ g ∧ i = .int .i64 k ∧ tt = .int .i64 (atv (t.sp 0) p k) ∧ Below w7.heap.size w7 wr)
  case atStart =>
    have ha0 : atv (t.sp 0) p 0 = -1 := by
      rcases Nat.eq_zero_or_pos p with h0 | h0
      · subst h0; rw [atv_eq]; rfl
      · exact atv_low h0
    exact ⟨0, Nat.zero_le _, by omega, rfl, by rw [ha0], Below.refl _ _⟩
  case round =>
    obtain ⟨k, hk, hkm, rfl, rfl, hnx⟩ := hrel
    have HNX := Lib.hid hnx
    have hsz := hnx.size
    clear hnx
    by_cases hlt : k < n7
    · obtain ⟨b, off, rfl, hb, hcs⟩ := (HS7.out.below HNX.out).dat (by omega)
      have hck : wr.cell? ⟨b, off + k * 2, none⟩ = some (I (ks[k]?.getD 0)) := by rw [← HKY.out k hlt]; exact (hcs k hlt).1
      have hcd : wr.cell? ⟨b, off + k * 2 + 1, none⟩ = some (I (dp (t.sp 0) k)) := (hcs k hlt).2
      have k1 : IntKind.i64.wrap ((k : Int) + 1) = (k : Int) + 1 := IntWalk.i64_in _ (by omega)
      rcases HNB.out k hlt with ⟨h, h1, h2⟩ | ⟨h, h1, h2⟩ | ⟨h, h1, h2, h3⟩ | ⟨h, h1, h2⟩ | ⟨h, h1, h2, h3⟩ | ⟨h, h1, h2⟩
      · -- far
          have HN : Hid (atv (t.sp 0) p (k + 1) = -1) := atv_low h
          rw [atv_low (show k < p by omega)]
          have hcn : wr.cell? ⟨b, off + (k + 1) * 2, none⟩ = some (I (ks[k + 1]?.getD 0)) := by rw [← HKY.out (k + 1) (by omega)]; exact (hcs (k + 1) (by omega)).1
          have q6 : k + 1 < n7 := by omega
          have q7 : (k : Int) + 1 < (n7 : Int) := by omega
          have q8 : (0 : Int) ≤ (k : Int) + 1 := by omega
          generalize ks[k + 1]?.getD 0 = x' at *
          generalize ks[k]?.getD 0 = x at *
          generalize dp (t.sp 0) k = y at *
          clear hcs
          have e1 : decide (x < key) = true := by simpa using h1
          have e2 : decide (key < x) = false := by simp; omega
          have e3 : ((k : Int) + 1 == (n7 : Int)) = false := by simp; omega
          have e4 : decide (key < x') = false := by simp; omega
          clear h h2
          go_wp2
          go_quiet (fail)
          go_wp2
          go_roundg (gk - 1)
          case measure => omega
          case rel => exact ⟨k + 1, by omega, by omega, by go_num, by rw [HN.out], below_drewN (HNX.out.alloc hsz _) _⟩
      · -- the left one, at the end
          have HN : Hid (atv (t.sp 0) p (k + 1) = (k : Int)) := by show _ = _; rw [h, atv_eq]; omega
          rw [atv_low (show k < p by omega)]
          generalize ks[k]?.getD 0 = x at *
          generalize dp (t.sp 0) k = y at *
          clear hcs
          have e1 : decide (x < key) = true := by simpa using h1
          have e2 : decide (key < x) = false := by simp; omega
          have e3 : ((k : Int) + 1 == (n7 : Int)) = true := by simp; omega
          clear h h2
          go_wp2
          go_quiet (fail)
          go_wp2
          go_roundg (gk - 1)
          case measure => omega
          case rel => exact ⟨k + 1, by omega, by omega, by go_num, by rw [HN.out], below_drewN (HNX.out.alloc hsz _) _⟩
      · -- the left one
          have HN : Hid (atv (t.sp 0) p (k + 1) = (k : Int)) := by show _ = _; rw [h, atv_eq]; omega
          rw [atv_low (show k < p by omega)]
          have hcn : wr.cell? ⟨b, off + (k + 1) * 2, none⟩ = some (I (ks[k + 1]?.getD 0)) := by rw [← HKY.out (k + 1) (by omega)]; exact (hcs (k + 1) (by omega)).1
          have q6 : k + 1 < n7 := by omega
          have q7 : (k : Int) + 1 < (n7 : Int) := by omega
          have q8 : (0 : Int) ≤ (k : Int) + 1 := by omega
          generalize ks[k + 1]?.getD 0 = x' at *
          generalize ks[k]?.getD 0 = x at *
          generalize dp (t.sp 0) k = y at *
          clear hcs
          have e1 : decide (x < key) = true := by simpa using h1
          have e2 : decide (key < x) = false := by simp; omega
          have e3 : ((k : Int) + 1 == (n7 : Int)) = false := by simp; omega
          have e4 : decide (key < x') = true := by simpa using h3
          clear h h2 h3
          go_wp2
          go_quiet (fail)
          go_wp2
          go_roundg (gk - 1)
          case measure => omega
          case rel => exact ⟨k + 1, by omega, by omega, by go_num, by rw [HN.out], below_drewN (HNX.out.alloc hsz _) _⟩
      · -- the right one, the first of all
          have hp0 : p = 0 := by omega
          have HN : Hid (atv (t.sp 0) p (k + 1) = (k : Int)) := by show _ = _; rw [hp0, atv_zero (by omega), h2]; rfl
          have hA0 : atv (t.sp 0) p k = -1 := by rw [h, atv_eq, hp0]; rfl
          rw [hA0]
          generalize ks[k]?.getD 0 = x at *
          generalize dp (t.sp 0) k = y at *
          clear hcs
          have e1 : decide (x < key) = false := by simp; omega
          have e2 : decide (key < x) = true := by simpa using h1
          have e3 : ((k : Int) == 0) = true := by simp; omega
          clear h h2 hp0 hA0
          go_wp2
          go_quiet (fail)
          go_wp2
          go_roundg (gk - 1)
          case measure => omega
          case rel => exact ⟨k + 1, by omega, by omega, by go_num, by rw [HN.out], below_drewN (HNX.out.alloc hsz _) _⟩
      · -- the right one
          have hA0 : atv (t.sp 0) p k = (k : Int) - 1 := by rw [h, atv_eq]
          have hA1 := atv_hi (S := t.sp 0) (show p < k + 1 by omega) (show 0 < p by omega)
          rw [← h] at hA1
          rw [hA0]
          have hcq : wr.cell? ⟨b, off + (k - 1) * 2 + 1, none⟩ = some (I (dp (t.sp 0) (k - 1))) := (hcs (k - 1) (by omega)).2
          by_cases hd : dp (t.sp 0) (k - 1) < dp (t.sp 0) k
          · rw [if_pos hd] at hA1
            have HN : Hid (atv (t.sp 0) p (k + 1) = (k : Int)) := by show _ = _; rw [← h]; exact hA1
            clear hA1 hA0
            generalize dp (t.sp 0) (k - 1) = y' at *
            have hcp : wr.cell? ⟨b, off + (k - 1) * 2, none⟩ = some (I (ks[k - 1]?.getD 0)) := by rw [← HKY.out (k - 1) (by omega)]; exact (hcs (k - 1) (by omega)).1
            generalize ks[k - 1]?.getD 0 = x' at *
            have q1 : IntKind.i64.wrap ((k : Int) - 1) = (k : Int) - 1 := IntWalk.i64_in _ (by omega)
            have q2 : (0 : Int) ≤ (k : Int) - 1 := by omega
            have q3 : ((k : Int) - 1).toNat = k - 1 := by omega
            have q4 : (k : Int) - 1 < (n7 : Int) := by omega
            have q5 : ((k : Int) == 0) = false := by simp; omega
            generalize ks[k]?.getD 0 = x at *
            generalize dp (t.sp 0) k = y at *
            clear hcs
            have e1 : decide (x < key) = false := by simp; omega
            have e2 : decide (key < x) = true := by simpa using h1
            have e4 : decide (x' < key) = true := by simpa using h3
            have e5 : decide (y' < y) = true := by simpa using hd
            have e6 : decide ((k : Int) - 1 < 0) = false := by simp; omega
            clear h h3
            go_wp2
            go_quiet (fail)
            go_wp2
            go_roundg (gk - 1)
            case measure => omega
            case rel => exact ⟨k + 1, by omega, by omega, by go_num, by rw [HN.out], below_drewN (HNX.out.alloc hsz _) _⟩
          · rw [if_neg hd] at hA1
            have HN : Hid (atv (t.sp 0) p (k + 1) = (k : Int) - 1) := by show _ = _; rw [← h]; exact hA1
            clear hA1 hA0
            generalize dp (t.sp 0) (k - 1) = y' at *
            have hcp : wr.cell? ⟨b, off + (k - 1) * 2, none⟩ = some (I (ks[k - 1]?.getD 0)) := by rw [← HKY.out (k - 1) (by omega)]; exact (hcs (k - 1) (by omega)).1
            generalize ks[k - 1]?.getD 0 = x' at *
            have q1 : IntKind.i64.wrap ((k : Int) - 1) = (k : Int) - 1 := IntWalk.i64_in _ (by omega)
            have q2 : (0 : Int) ≤ (k : Int) - 1 := by omega
            have q3 : ((k : Int) - 1).toNat = k - 1 := by omega
            have q4 : (k : Int) - 1 < (n7 : Int) := by omega
            have q5 : ((k : Int) == 0) = false := by simp; omega
            generalize ks[k]?.getD 0 = x at *
            generalize dp (t.sp 0) k = y at *
            clear hcs
            have e1 : decide (x < key) = false := by simp; omega
            have e2 : decide (key < x) = true := by simpa using h1
            have e4 : decide (x' < key) = true := by simpa using h3
            have e5 : decide (y' < y) = false := by simp; omega
            have e6 : decide ((k : Int) - 1 < 0) = false := by simp; omega
            clear h h3
            go_wp2
            go_quiet (fail)
            go_wp2
            go_roundg (gk - 1)
            case measure => omega
            case rel => exact ⟨k + 1, by omega, by omega, by go_num, by rw [HN.out], below_drewN (HNX.out.alloc hsz _) _⟩
      · -- past
          have HN : Hid (atv (t.sp 0) p (k + 1) = atv (t.sp 0) p k) := atv_past h
          generalize atv (t.sp 0) p k = av at *
          have hcp : wr.cell? ⟨b, off + (k - 1) * 2, none⟩ = some (I (ks[k - 1]?.getD 0)) := by rw [← HKY.out (k - 1) (by omega)]; exact (hcs (k - 1) (by omega)).1
          generalize ks[k - 1]?.getD 0 = x' at *
          have q1 : IntKind.i64.wrap ((k : Int) - 1) = (k : Int) - 1 := IntWalk.i64_in _ (by omega)
          have q2 : (0 : Int) ≤ (k : Int) - 1 := by omega
          have q3 : ((k : Int) - 1).toNat = k - 1 := by omega
          have q4 : (k : Int) - 1 < (n7 : Int) := by omega
          have q5 : ((k : Int) == 0) = false := by simp; omega
          generalize ks[k]?.getD 0 = x at *
          generalize dp (t.sp 0) k = y at *
          clear hcs
          have e1 : decide (x < key) = false := by simp; omega
          have e2 : decide (key < x) = true := by simpa using h1
          have e4 : decide (x' < key) = false := by simp; omega
          clear h h2
          go_wp2
          go_quiet (fail)
          go_wp2
          go_roundg (gk - 1)
          case measure => omega
          case rel => exact ⟨k + 1, by omega, by omega, by go_num, by rw [HN.out], below_drewN (HNX.out.alloc hsz _) _⟩
    · obtain rfl : n7 = k := by omega
      obtain ⟨wz, hwz⟩ : ∃ wz, wz = wr := ⟨_, rfl⟩
      rw [← hwz] at HNX ⊢
      clear hwz hsz
      obtain ⟨full, hfl⟩ : ∃ full, (stops ks key).reverse.map Prod.snd = full := ⟨_, rfl⟩
      have hfulln : full.length = np := by rw [← hfl]; simpa using HNP.out
      obtain ⟨j0, L0, hj0, hL0, hfull, hjb⟩ : ∃ (j0 : Int) (L0 : List Nat), atv (t.sp 0) p n7 = j0 ∧ Chn (t.sp 0) p j0 L0 ∧ L0.map (fun i => ks[i]?.getD 0) = full ∧ (j0 = -1 ∨ ∃ q : Nat, j0 = q ∧ q < n7) := by
        rcases Nat.eq_zero_or_pos n7 with h0 | h0
        · have hp0 : p = 0 := by omega
          refine ⟨-1, [], ?_, .top, ?_, .inl rfl⟩
          · rw [h0, hp0, atv_eq]; rfl
          · rw [← hfl, List.map_reverse, HNIL.out h0]; rfl
        · obtain ⟨aa, ha, hak, L, hL⟩ := HAT.out h0
          exact ⟨aa, L, ha, hL, by rw [HFIN.out aa L h0 ha hL, ← hfl, List.map_reverse], .inr ⟨aa, rfl, hak⟩⟩
      rw [hj0]
      have HSZ := Lib.hid (HS7.out.below HNX.out)
      have HUZ := Lib.hid (HU7.out.below HNX.out)
      have HSTZ := Lib.hid (HST7.out.below HNX.out)
      have HBZ := Lib.hid (below_next HB7.out HNX.out)
      have HFL := Lib.hid hfl
      have HL0 := Lib.hid hL0
      have HFULL := Lib.hid hfull
      have HJB := Lib.hid hjb
      obtain ⟨i0, hi, hz0, hz1, hz2⟩ := info_parts int_info
      have HI := Lib.hid hi
      have HZ0 := Lib.hid hz0
      have HZ1 := Lib.hid hz1
      have HZ2 := Lib.hid hz2
      clear hi hz0 hz1 hz2 hfl hL0 hfull hjb HNX hj0 HS7 HU7 HST7 HB7 HAT HFIN HNIL HNB
      go_wp2
      go_loopg [17, 18] (n7 + 1) (fun g v i wr => ∃ (j : Int) (dn : List Int) (L : List Nat), i = .int .i64 j ∧ Chn (t.sp 0) p j L ∧ dn ++ L.map (fun i => ks[i]?.getD 0) = full ∧ OwnI wr wz.heap.size v dn ∧ Below wz.heap.size wz wr ∧ (j = -1 ∨ ∃ q : Nat, j = q ∧ q < n7 ∧ (dp (t.sp 0) q).toNat + 1 ≤ g))
      case atStart =>
        refine ⟨j0, [], L0, rfl, HL0.out, HFULL.out, World.ownsRow_nil _ _ _ _, Below.refl _ _, ?_⟩
        rcases HJB.out with h1 | ⟨q, h1, h2⟩
        · exact .inl h1
        · refine .inr ⟨q, h1, h2, ?_⟩
          have := HDP.out q h2
          omega
      case round =>
        obtain ⟨j, dn, L, rfl, hL, hd, hown, hnx, hj⟩ := hrel
        have HNX := Lib.hid hnx
        have hsz := hnx.size
        have hdl : dn.length ≤ 2400 := by
          have := congrArg List.length hd
          simp only [List.length_append] at this
          omega
        rcases hj with rfl | ⟨q, rfl, hq, hqd⟩
        · have := chn_top hL
          subst this
          simp only [List.map_nil, List.append_nil] at hd
          subst hd
          obtain ⟨AL, cL, rfl, hisL, _⟩ := hown.is_
          rw [hfulln] at hisL ⊢
          have HLS := Lib.hid hisL
          have HRV := Lib.hid (RevStops_any A1 np c1 (stops ks key) wr (HSTZ.out.below hnx) (by omega))
          have HB8 := Lib.hid (below_next HBZ.out hnx)
          clear hL hown hnx hisL HNX
          go_wp2_with fail
          refine HRV.out.mono ?_
          rintro e w8 ⟨A8, c8, rfl, hps8, hb8⟩
          have HP8 := Lib.hid hps8
          have HP8L : Hid ((stops ks key).reverse.length = np) := by show _ = _; simpa using HNP.out
          have HLS8 := Lib.hid (HLS.out.below hb8)
          have HB9 := Lib.hid (below_next HB8.out hb8)
          clear hps8 hb8 HRV HB8 HLS
          go_wp2
          go_loopw [19, 155] (fun v i wr => ∃ k : Nat, k ≤ np ∧ i = .int .i64 k ∧ OwnI wr w8.heap.size v (((stops ks key).reverse.take k).map Prod.snd) ∧ Below w8.heap.size w8 wr) (fun _ i _ => np - (intOf i).toNat)
          case atStart => exact ⟨0, Nat.zero_le _, rfl, World.ownsRow_nil _ _ _ _, Below.refl _ _⟩
          case round =>
            obtain ⟨k, hk, rfl, hown, hnx⟩ := hrel
            by_cases hlt2 : k < np
            · have hkl : k < (stops ks key).reverse.length := by rw [HP8L.out]; exact hlt2
              obtain ⟨b, off, rfl, hbw, hcs⟩ := (HP8.out.below hnx).at_ (by omega)
              obtain ⟨x, hx⟩ : ∃ x, ((stops ks key).reverse[k]).1 = x := ⟨_, rfl⟩
              obtain ⟨y, hy⟩ : ∃ y, ((stops ks key).reverse[k]).2 = y := ⟨_, rfl⟩
              have hc0 : wr.cell? ⟨b, off + k * 2, none⟩ = some (I x) := by rw [← hx]; exact (hcs k hlt2).1
              have hc1 : wr.cell? ⟨b, off + k * 2 + 1, none⟩ = some (I y) := by rw [← hy]; exact (hcs k hlt2).2
              have HK : Hid (((stops ks key).reverse.take (k + 1)).map Prod.snd = ((stops ks key).reverse.take k).map Prod.snd ++ [y]) := by
                show _ = _
                rw [List.take_succ_eq_append_getElem hkl, List.map_append, ← hy]
                rfl
              obtain ⟨xs, hxs⟩ : ∃ xs, ((stops ks key).reverse.take k).map Prod.snd = xs := ⟨_, rfl⟩
              have hxl : xs.length ≤ 2400 := by rw [← hxs, List.length_map, List.length_take]; omega
              rw [hxs] at hown HK
              have HOWN := Lib.hid hown
              have HNX := Lib.hid hnx
              have hz := hnx.size
              clear hcs hx hy hown hnx hxs hkl
              go_wp2_with (first
                | (at_builtin
                   refine wpList_append_own_at _ rfl (.tmp 159) (.tmp 162) 35 rfl w8.heap.size 3 i0 _ 1 8 Tryd.underlying35 HI.out HZ0.out HZ1.out HZ2.out rfl (by omega) _ xs.length (xs.map I) rfl (own_below HOWN.out (((Below.refl _ _).alloc (Nat.le_refl _) _).alloc (by simp) _)) ⟨wr.heap.size + 1, 0, none⟩ 1 1 [I y] rfl rfl (by have := cell_one_new (wr.alloc (.cells #[I x, I y] 64)) (I y) 3; simpa using this) (one_I y) (by unfold maxLen; omega) (by omega) (by simp; omega) ?_
                   intro v2 w2 hown2 hgrow2 _ hat2)
                | fail)
              go_roundw
              case rel =>
                refine ⟨k + 1, by omega, by go_num, ?_, ?_⟩
                · rw [HK.out]
                  unfold OwnI
                  simpa using hown2
                · exact Below.grown ((HNX.out.alloc hz _).alloc (by simp; omega) _) hgrow2 (by simp; omega) (own_ge1 HOWN.out)
              case measure => simp [intOf]; omega
            · rw [List.take_of_length_le (by rw [HP8L.out]; omega), HFL.out] at hown
              obtain ⟨A9, c9, rfl, his9, _⟩ := hown.is_
              rw [hfulln] at his9 ⊢
              have HE := Lib.hid (eqInt_t AL A9 np cL c9 dn wr (HLS8.out.below hnx) his9 (by omega))
              have HBE := Lib.hid (below_next HB9.out hnx)
              clear hown hnx his9
              go_wp2_with fail
              refine HE.out.mono ?_
              rintro e we ⟨rfl, hbe⟩
              have HBF := Lib.hid (below_next HBE.out hbe)
              clear hbe
              go_wp2
              go_ret
              exact ⟨rfl, HBF.out⟩
        · obtain ⟨L', hL', hLL⟩ := chn_step hL
          obtain ⟨b, off, rfl, hb, hcs⟩ := (HSZ.out.below hnx).dat (by omega)
          obtain ⟨b7, o7, rfl, hb7, hcu⟩ := HUZ.out.cell_at hq
          have hb7' : b7 < wr.heap.size := Nat.lt_of_lt_of_le hb7 hsz
          obtain ⟨x, hx⟩ : ∃ x, ks[q]?.getD 0 = x := ⟨_, rfl⟩
          have hck : wr.cell? ⟨b, off + q * 2, none⟩ = some (I x) := by rw [← hx, ← HKY.out q hq]; exact (hcs q hq).1
          have hpq : (parL (t.sp 0))[q]'(by rw [parL_length, HSLEN.out]; exact hq) = par (t.sp 0) q := by simp [parL]
          rw [hpq] at hcu
          obtain ⟨pr, hpr⟩ : ∃ pr, par (t.sp 0) q = pr := ⟨_, rfl⟩
          rw [hpr] at hcu hL'
          have HCU : Hid (∀ w2, Below wz.heap.size wz w2 → w2.cell? ⟨b7, o7 + q, none⟩ = some (I pr)) := fun w2 h2 => (h2.cell (by exact hb7)).trans hcu
          have hcu2 := HCU.out wr hnx
          have HNEXT : Hid (pr = -1 ∨ ∃ r : Nat, pr = r ∧ r < n7 ∧ (dp (t.sp 0) r).toNat + 1 ≤ gk - 1) := by
            rcases HPAR.out q hq with h1 | ⟨r, h1, h2, h3⟩
            · exact .inl (by rw [← hpr]; exact h1)
            · exact .inr ⟨r, by rw [← hpr]; exact h1, h2, by omega⟩
          have hgk : 0 < gk := by omega
          have q0 : (0 : Int) ≤ (q : Int) := by omega
          have q1 : (q : Int) < (n7 : Int) := by omega
          have HL' := Lib.hid hL'
          have HOWN := Lib.hid hown
          by_cases hqp : q < p
          · rw [if_pos hqp] at hLL
            subst hLL
            have HD : Hid ((dn ++ [x]) ++ L'.map (fun i => ks[i]?.getD 0) = full) := by
              show _ = _
              rw [← hd, ← hx]
              simp
            have hxk : x < key := by rw [← hx]; exact (HLT.out q hq).1 hqp
            clear hL hL' hd hown hnx hcs hpq hpr hcu hx hqd
            go_wp2_with (first
              | (at_builtin
                 refine wpList_append_own_at _ rfl (.tmp 144) (.tmp 150) 35 rfl wz.heap.size 3 i0 _ 1 8 Tryd.underlying35 HI.out HZ0.out HZ1.out HZ2.out rfl (by omega) _ dn.length (dn.map I) rfl (own_below HOWN.out ((Below.refl _ _).alloc (Nat.le_refl _) _)) ⟨wr.heap.size, 0, none⟩ 1 1 [I x] rfl rfl (cell_one_new _ _ _) (one_I x) (by unfold maxLen; omega) (by omega) (by simp; omega) ?_
                 intro v2 w2 hown2 hgrow2 _ hat2
                 have hbx : Below wz.heap.size wz w2 := Below.grown (HNX.out.alloc hsz _) hgrow2 (by simp; omega) (own_ge1 HOWN.out)
                 have hcu3 := HCU.out w2 hbx
                 have HBX := Lib.hid hbx
                 have HO2 : Hid (OwnI w2 wz.heap.size v2 (dn ++ [x])) := by
                   show OwnI _ _ _ _
                   unfold OwnI
                   simpa using hown2
                 clear hown2 hgrow2 hat2 hbx)
              | fail)
            go_roundg (gk - 1)
            case measure => omega
            case rel => exact ⟨pr, dn ++ [x], L', rfl, HL'.out, HD.out, HO2.out, HBX.out, HNEXT.out⟩
          · rw [if_neg hqp] at hLL
            subst hLL
            have HD : Hid (dn ++ L.map (fun i => ks[i]?.getD 0) = full) := hd
            have hxk : ¬ x < key := by rw [← hx]; exact fun h => hqp ((HLT.out q hq).2 h)
            clear hL hL' hd hown hnx hcs hpq hpr hcu hx hqd
            go_wp2
            go_roundg (gk - 1)
            case measure => omega
            case rel => exact ⟨pr, dn, L, rfl, HL'.out, HD.out, HOWN.out, HNX.out, HNEXT.out⟩

theorem zskip_any (A : Option Addr) (n c : Nat) (ks : List Int) (key : Int) (w : World) (h : IS w A n c ks) (hn : n ≤ 2000000) (hT : Tb w) :
    Calls Tryd.prog 6 #[.slice A n c, I key] w fun e w' => e = .returned (.bool true) ∧ Below w.heap.size w w' := by
  by_cases hE : chkK ks = 0
  · have hR := chkK_zero.1 hE
    cases hk : kyB key with
    | false => exact zskip_bad A n c ks key 1 w h hn (by decide) hT (Lib.hid (Path_arg A n c ks key w h hR hk))
    | true =>
      by_cases hm : key ∈ ks
      · exact zskip_has A n c ks key w h hR hk hm hT
      · exact zskip_ok A n c ks key w h hR hk hm hT
  · exact zskip_bad A n c ks key (chkK ks) w h hn hE hT (Lib.hid (Path_bad A n c ks key w h (by omega) _ rfl hE))

end Go.Proofs.YtjnkfpagaajfeaaDoor
