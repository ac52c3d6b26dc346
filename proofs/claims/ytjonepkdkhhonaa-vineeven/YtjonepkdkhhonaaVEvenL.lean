/-
  The walk of the law VineEven.
-/
import Derived.Test.YtjonepkdkhhonaaVTurnsL
import Derived.Test.YtjonepkdkhhonaaOSum
import Derived.Test.YtjonepkdkhhonaaOKeys
import Derived.Test.YtjonepkdkhhonaaGRefK
namespace Go.Proofs.Ytjonepkdkhhonaa
open Go.RowKit

/-- how many levels so many keys have at the least -/
theorem evn_tall {j : Nat} {l : List Int} (h1 : 2 ^ j ≤ l.length + 1) (h2 : l.length + 1 < 2 ^ (j + 1)) : 2 ^ (evn j l).tall ≥ l.length + 1 ∧ ∀ x, x < (evn j l).tall → 2 ^ x < l.length + 1 := by
  have hb := evn_bal h1 h2
  have hs := evn_size j l
  obtain ⟨a, b⟩ := bal_low hb (by rw [hs]; omega)
  rw [hs] at a b
  have hst := size_tall (evn j l)
  rw [hs] at hst
  refine ⟨by omega, fun x hx => ?_⟩
  by_cases hc : 2 ^ j ≤ l.length
  · rw [a hc] at hx
    have : 2 ^ x ≤ 2 ^ j := Nat.pow_le_pow_right (by decide) (by omega)
    omega
  · rw [b (by omega)] at hx
    have : 2 ^ (x + 1) ≤ 2 ^ j := Nat.pow_le_pow_right (by decide) (by omega)
    rw [Nat.pow_succ] at this
    have := Nat.two_pow_pos x
    omega
theorem log_has (n : Nat) : ∃ j, 2 ^ j ≤ n + 1 ∧ n + 1 < 2 ^ (j + 1) :=
  ⟨Nat.log2 (n + 1), Nat.log2_self_le (by omega), Nat.lt_log2_self⟩

set_option maxRecDepth 100000 in
set_option maxHeartbeats 2000000 in
theorem veven_bad (A : Option Addr) (n c : Nat) (l : PL) (w : World) (h : PS w A n c l) (hn : n ≤ 9223372036854775807) (hc : chkS l ≠ 0) :
    Calls Try.prog 4 #[.slice A n c] w (YesV w) := by
  obtain ⟨E, hE0⟩ : ∃ E, chkS l = E := ⟨_, rfl⟩
  rw [hE0] at hc
  have HV := Lib.hid (EvenV_bad A n c l w h hn E hE0 hc)
  have hE : (E != 0) = true := by simpa using hc
  clear h hc hE0
  go_enter Try.func4, Try.ntmps4
  go_wp2_with fail
  refine HV.out.mono ?_
  rintro e w1 ⟨rfl, hb1⟩
  have HB1 := Lib.hid hb1
  clear hb1
  go_wp2_with fail
  refine (vineLives_any _).mono ?_
  rintro e w2 ⟨rfl, hb2⟩
  have HB2 := Lib.hid (below_on HB1.out hb2)
  clear hb2
  go_wp2_with fail
  refine (vineLives_any _).mono ?_
  rintro e w3 ⟨rfl, hb3⟩
  have HB3 := Lib.hid (below_on HB2.out hb3)
  clear hb3
  go_wp2
  go_ret
  exact ⟨rfl, HB3.out⟩

set_option maxRecDepth 100000 in
set_option maxHeartbeats 4000000 in
theorem veven_ok (A : Option Addr) (n c : Nat) (t : Tr) (w : World) (h : PS w A n c (t.sp 0)) (hT : IsTree (t.sp 0)) :
    Calls Try.prog 4 #[.slice A n c] w (YesV w) := by
  have hn : n ≤ 200 := by rw [← h.len]; exact hT.1
  have hsz : t.size = n := by rw [← sp_length t 0, h.len]
  have hkl : t.ks.length = n := by rw [ks_length, hsz]
  obtain ⟨j, h1, h2⟩ := log_has n
  have HV := Lib.hid (EvenV_ok A n c j t w h hT h1 h2)
  obtain ⟨ht1, ht2⟩ := evn_tall (j := j) (l := t.ks) (by rw [hkl]; exact h1) (by rw [hkl]; exact h2)
  rw [hkl] at ht1 ht2
  have htl := bal_tall (evn_bal (j := j) (l := t.ks) (by rw [hkl]; exact h1) (by rw [hkl]; exact h2))
  have hj : j ≤ 7 := by
    apply Classical.byContradiction
    intro hc
    have : 2 ^ 8 ≤ 2 ^ j := Nat.pow_le_pow_right (by decide) (by omega)
    omega
  have hup : (vks t).length + evUp j n ≤ 2 * n := by
    have a := vks_le t
    have b := evUp_le h1
    omega
  obtain ⟨s, hs⟩ : ∃ s, evn j t.ks = s := ⟨_, rfl⟩
  have hsk : s.ks = t.ks := by rw [← hs]; exact evn_ks j _
  have hsT : IsTree (s.sp 0) := istree_ks hT hsk
  have hsl : (s.sp 0).length = n := by rw [sp_length, ← ks_length, hsk, hkl]
  rw [hs] at HV ht1 ht2 htl
  obtain ⟨T, hTT⟩ : ∃ T, s.tall = T := ⟨_, rfl⟩
  rw [hTT] at ht1 ht2 htl
  obtain ⟨up, hupE⟩ : ∃ up, (vks t).length + evUp j n = up := ⟨_, rfl⟩
  rw [hupE] at HV hup
  have HKY : Hid (kys (s.sp 0) = kys (t.sp 0)) := by show _ = _; unfold kys; rw [sp_ks, sp_ks, hsk]
  have H := Lib.hid h
  have HST := Lib.hid hsT
  have HSL := Lib.hid hsl
  have HT1 := Lib.hid ht1
  have HT2 := Lib.hid ht2
  have HTT := Lib.hid hTT
  have HKN : Hid ((kys (t.sp 0)).length = n) := by show _ = _; rw [kys_len]; exact h.len
  have hT9 : T ≤ 9 := by omega
  clear h hT hsz hkl h1 h2 ht1 ht2 htl hj hs hsk hsT hsl hTT hupE
  go_enter Try.func4, Try.ntmps4
  go_wp2_with fail
  refine HV.out.mono ?_
  rintro e w1 ⟨A1, c1, rfl, hps1, hb1⟩
  rw [HSL.out] at hps1 ⊢
  have HB1 := Lib.hid hb1
  have HP1 := Lib.hid hps1
  clear hb1 hps1
  go_wp2_with fail
  refine (vineLives_any _).mono ?_
  rintro e w2 ⟨rfl, hb2⟩
  have HB2 := Lib.hid (below_on HB1.out hb2)
  have HP2 := Lib.hid (HP1.out.below hb2)
  clear hb2 HP1
  go_wp2_with fail
  refine (Sum2_ok A1 n c1 s w2 HP2.out HST.out).mono ?_
  rintro e w3 ⟨rfl, hb3⟩
  rw [HTT.out]
  have HB3 := Lib.hid (below_on HB2.out hb3)
  have HP3 := Lib.hid (HP2.out.below hb3)
  clear hb3 HP2
  generalize dsum (s.sp 0) = D
  go_wp2
  go_loopg [9] T (fun k v wr => ∃ x : Nat, v = .int .i64 ((x : Int) - 1) ∧ x ≤ T ∧ T - x ≤ k ∧ wr = w3)
  case atStart => exact ⟨0, rfl, Nat.zero_le _, by omega, rfl⟩
  case round =>
    obtain ⟨x, rfl, hx, hxk, rfl⟩ := hrel
    have e1 : IntKind.i64.wrap ((x : Int) - 1 + 1) = x := by rw [show (x : Int) - 1 + 1 = x by omega]; exact IntWalk.i64_in _ (by omega)
    obtain ⟨P, hP⟩ : ∃ P : Nat, 2 ^ x = P := ⟨_, rfl⟩
    have hP9 : P ≤ 512 := by
      rw [← hP]
      have h9 : 2 ^ x ≤ 2 ^ 9 := Nat.pow_le_pow_right (by decide) (by omega)
      exact h9
    have hP1 : 1 ≤ P := by rw [← hP]; exact Nat.two_pow_pos x
    have HPOW : Hid (wrap64 ((2 : Int) ^ x) = P) := by
      show _ = _
      rw [show (2 : Int) ^ x = (P : Int) by rw [← hP]; simp]
      exact IntWalk.wrap64_in _ (by clear hP; omega)
    have HP := Lib.hid hP
    clear hP
    have e3 : wrap64 ((P : Int) - 1) = (P : Int) - 1 := IntWalk.wrap64_in _ (by omega)
    by_cases hxT : x < T
    · have hlt := HT2.out x hxT
      rw [HP.out] at hlt
      have hq : (P : Int) - 1 < n := by omega
      clear hlt
      have e2 := HPOW.out
      go_wp2
      clear e2
      go_roundg (T - (x + 1))
      case measure => omega
      case rel => exact ⟨x + 1, by go_num, by omega, Nat.le_refl _, by first | rfl | trivial⟩
    · obtain rfl : x = T := by omega
      have hge := HT1.out
      rw [HP.out] at hge
      have hq : ¬ (P : Int) - 1 < n := by omega
      have hxx : ((x : Int) - 1 == (x : Int) - 1) = true := by simp
      clear hge
      have e2 := HPOW.out
      go_wp2_with fail
      refine (SpotKeys_any A1 n c1 (s.sp 0) wr HP3.out (by omega)).mono ?_
      rw [HKY.out]
      rintro e w5 ⟨A5, c5, rfl, his5, hb5⟩
      rw [HKN.out] at his5 ⊢
      have HI5 := Lib.hid his5
      have HB5 := Lib.hid (below_on HB3.out hb5)
      clear his5 hb5
      go_wp2_with fail
      refine (SpotKeys_any A n c (t.sp 0) w5 (H.out.below HB5.out) (by omega)).mono ?_
      rintro e w6 ⟨A6, c6, rfl, his6, hb6⟩
      rw [HKN.out] at his6 ⊢
      have HI6 := Lib.hid his6
      have HI56 := Lib.hid (HI5.out.below hb6)
      have HB6 := Lib.hid (below_on HB5.out hb6)
      clear his6 hb6
      go_wp2_with fail
      refine (sameInts_t A5 A6 n c5 c6 (kys (t.sp 0)) w6 HI56.out HI6.out (by omega)).mono ?_
      rintro e w7 ⟨rfl, hb7⟩
      have HB7 := Lib.hid (below_on HB6.out hb7)
      have e4 : IntKind.i64.wrap (2 * (n : Int)) = 2 * n := IntWalk.i64_in _ (by omega)
      have e5 : (up : Int) ≤ 2 * n := by omega
      clear hb7
      go_wp2
      go_ret
      exact ⟨rfl, HB7.out⟩

theorem veven_any (A : Option Addr) (n c : Nat) (l : PL) (w : World) (h : PS w A n c l) (hn : n ≤ 9223372036854775807) :
    Calls Try.prog 4 #[.slice A n c] w (YesV w) := by
  by_cases hc : chkS l = 0
  · have hT := chkS_zero.1 hc
    obtain ⟨t, ht⟩ := hT.2.2
    subst ht
    exact veven_ok A n c t w h hT
  · exact veven_bad A n c l w h hn hc

end Go.Proofs.Ytjonepkdkhhonaa
