/-
  The walk of the law BestSays, where the hits and the gaps may be asked.
-/
import Derived.Test.YtconegligedniaaBSaysL
namespace Go.Proofs.Ytconegligedniaa
open Go.RowKit Go.Maps

/-- once the map is made: all that was there stands, and the map says what is so -/
structure SKept (W : Nat → Nat → Int) (w4 wr : World) (nn : Nat) : Prop where
  b : Below w4.heap.size w4 wr
  k : KM W w4.heap.size nn wr
theorem SKept.step {W : Nat → Nat → Int} {w4 wr w' : World} {nn nn' : Nat} (h : SKept W w4 wr nn) (hk : KM W w4.heap.size nn' w') (hg : wr.grownBy w' (some w4.heap.size)) : SKept W w4 w' nn' :=
  ⟨h.b.grown hg h.b.size (fun k e => by cases e; exact Nat.le_refl _), hk⟩
theorem SKept.below {W : Nat → Nat → Int} {w4 wr w' : World} {nn : Nat} (h : SKept W w4 wr nn) (hb : Below wr.heap.size wr w') : SKept W w4 w' nn :=
  ⟨h.b.trans (hb.mono h.b.size), h.k.kept hb⟩
theorem SKept.mono {W : Nat → Nat → Int} {w4 wr : World} {nn nn' : Nat} (h : SKept W w4 wr nn) (hn : nn ≤ nn') : SKept W w4 wr nn' := ⟨h.b, h.k.mono hn⟩
theorem IS.low' {w w' : World} {n c : Nat} {A : Option Addr} {l : List Int} (h : IS w A n c l) (hb : Below w.heap.size w w') : IS w' A n c l := h.below hb
theorem PS.low' {w w' : World} {n c : Nat} {A : Option Addr} {l : PL} (h : PS w A n c l) (hb : Below w.heap.size w w') : PS w' A n c l := h.below hb
theorem is_far {w : World} {n c : Nat} {A : Option Addr} {l : List Int} (h : IS w A n c l) (h0 : 0 < n) : ∀ ad, A = some ad → ad.block ≠ w.heap.size := by
  intro ad e
  obtain ⟨b, off, e', hb, _⟩ := h.at_ h0
  rw [e'] at e
  cases e
  exact Nat.ne_of_lt hb

theorem sayR_start (l : PL) (S0 : Int) : SayR l S0 0 S0 := by
  by_cases h : S0 = 0
  · exact .inr ⟨h, .inl ⟨h, fun q hq => absurd hq (by omega)⟩⟩
  · exact .inl ⟨h, rfl⟩
theorem sayR_same {l : PL} {S0 : Int} {k : Nat} (h : SayR l S0 k 0) (hk : ky l k = k) : SayR l S0 (k + 1) 0 := by
  rcases h with ⟨h1, h2⟩ | ⟨h1, h2 | h2⟩
  · exact absurd h2.symm h1
  · refine .inr ⟨h1, .inl ⟨rfl, fun q hq => ?_⟩⟩
    rcases Nat.lt_or_ge q k with h3 | h3
    · exact h2.2 q h3
    · obtain rfl : q = k := by omega
      exact hk
  · exact absurd h2.1 (by omega)
theorem sayR_diff {l : PL} {S0 : Int} {k : Nat} (h : SayR l S0 k 0) (hk : ky l k ≠ k) : SayR l S0 (k + 1) 3 := by
  rcases h with ⟨h1, h2⟩ | ⟨h1, _⟩
  · exact absurd h2.symm h1
  · exact .inr ⟨h1, .inr ⟨rfl, k, by omega, hk⟩⟩
theorem sayR_more {l : PL} {S0 : Int} {k : Nat} {s : Int} (h : SayR l S0 k s) (hs : s ≠ 0) : SayR l S0 (k + 1) s := by
  rcases h with h1 | ⟨h1, h2 | ⟨h3, q, hq, hne⟩⟩
  · exact .inl h1
  · exact absurd h2.1 hs
  · exact .inr ⟨h1, .inr ⟨h3, q, by omega, hne⟩⟩

set_option maxRecDepth 100000 in
set_option maxHeartbeats 8000000 in
theorem bsays_ok (A1 A A' : Option Addr) (n1 c1 n c c' : Nat) (l : PL) (hits gaps : List Int) (w : World) (h1 : PS w A1 n1 c1 l) (h : IS w A n c hits) (h' : IS w A' (n + 1) c' gaps) (hn1 : n1 ≤ 9223372036854775807) (hI : InB hits gaps n) :
    Calls Try.prog 3 #[.slice A1 n1 c1, .slice A n c, .slice A' (n + 1) c'] w (YesB w) := by
  have hn := hI.n20
  obtain ⟨E, hE⟩ : ∃ E, costE l hits gaps = E := ⟨_, rfl⟩
  obtain ⟨x, HC, hx0⟩ : ∃ x, Hid (Calls Try.prog 8 #[.slice A1 n1 c1, .slice A n c, .slice A' (n + 1) c'] w (RetC x E w)) ∧ (E = 0 → ∃ t : Tr, l = t.sp 0 ∧ Rng t 0 n ∧ n1 = n ∧ x = t.ask hits gaps 0 0) ∧ (E ≠ 0 → x = 0) := by
    by_cases h0 : E = 0
    · obtain ⟨t, ht, hr, hT, _⟩ := costE_zero hI (by rw [hE]; exact h0)
      have hs := rng_size hr
      have hln : n1 = n := by rw [← h1.len, ht, sp_length]; omega
      subst hln
      refine ⟨t.ask hits gaps 0 0, ?_, fun _ => ⟨t, ht, hr, rfl, rfl⟩, fun hne => absurd h0 hne⟩
      rw [h0]
      exact Cost_ok A1 A A' c1 n1 c c' t hits gaps w (by rw [← ht]; exact h1) h h' hI hr
    · exact ⟨0, Cost_bad A1 A A' n1 c1 n c (n + 1) c' l hits gaps w h1 h h' hn1 (by omega) (by omega) E hE h0, fun e => absurd e h0, fun _ => rfl⟩
  have HX := Lib.hid hx0
  have HT := Lib.hid (fun W (a : IS W A n c hits) (b : IS W A' (n + 1) c' gaps) => TreeB_ok A A' n c c' hits gaps W a b hI)
  have HR := Lib.hid (fun W (a : IS W A n c hits) (b : IS W A' (n + 1) c' gaps) => Roots_ok A A' n c c' hits gaps W a b hI)
  have HBR := Lib.hid (fun W (a : IS W A n c hits) (b : IS W A' (n + 1) c' gaps) => bright_any A A' n c (n + 1) c' hits gaps W a b (by omega) (by omega))
  rw [chkB_in hI] at HBR
  have HLA : Hid (∀ (w4 : World) (i j nn : Nat) (wr : World), i ≤ j → j ≤ n → IS w4 A n c hits → IS w4 A' (n + 1) c' gaps → SKept (wij hits gaps) w4 wr nn → nn + T3p (j - i) ≤ 900000000000 → Calls Try.prog 12 #[.slice A n c, .slice A' (n + 1) c', I i, I j, .map (some w4.heap.size)] wr (RetLA (wij hits gaps) w4.heap.size nn i j wr)) := fun w4 i j nn wr a1 a2 a3 a4 a5 a6 =>
    least_any A A' n c c' w4.heap.size hits gaps hI (fun h0 => is_far a3 h0) (is_far a4 (by omega)) 20 i j nn wr (by omega) a1 a2 (a3.low' a5.b) (a4.low' a5.b) a5.k a6
  have HBT : Hid (∀ (w4 : World) (nn : Nat) (wr : World), IS w4 A n c hits → IS w4 A' (n + 1) c' gaps → SKept (wij hits gaps) w4 wr nn → nn + n * 3486784401 ≤ 900000000000 → Calls Try.prog 15 #[.slice A n c, .slice A' (n + 1) c', .int .i64 0, .int .i64 n, .map (some w4.heap.size)] wr (RetBB (wij hits gaps) w4.heap.size nn 20 0 n wr)) := fun w4 nn wr a3 a4 a5 a6 =>
    btree_any A A' n c c' w4.heap.size hits gaps hI (fun h0 => is_far a3 h0) (is_far a4 (by omega)) 20 0 n nn wr (by omega) (Nat.zero_le _) (Nat.le_refl _) (a3.low' a5.b) (a4.low' a5.b) a5.k (by omega)
  have H := Lib.hid h
  have H' := Lib.hid h'
  have H1 := Lib.hid h1
  have HI := Lib.hid hI
  have HE := Lib.hid hE
  have HLEN := Lib.hid h1.len
  have hS : ((bt (wij hits gaps) 20 0 n).sp 0).length = n := by
    rw [sp_length]
    have := rng_size (bt_rng (wij hits gaps) 20 0 n (by omega) (by omega))
    omega
  have hsz : (bt (wij hits gaps) 20 0 n).size = n := by
    rw [sp_length] at hS
    exact hS
  have HSZ := Lib.hid hsz
  have HS := Lib.hid hS
  have HSE := Lib.hid (fun S0 s (a : SayS l n1 n S0) (b : SayR l S0 n1 s) => say_end hI h1.len a b)
  rw [hE] at HSE
  have htop : topI (wij hits gaps) 0 n = topI (wij hits gaps) 0 n := rfl
  clear h h' h1 hI hE hx0 hS hsz htop
  have HASK : Hid (∀ (t : Tr) (q : Option Addr) (W : World), RT W q t → Rng t 0 n → IS W A n c hits → IS W A' (n + 1) c' gaps → Calls Try.prog 18 #[.pointer q, .slice A n c, .slice A' (n + 1) c', .int .i64 0, .int .i64 0] W fun e w' => e = .returned (I (t.ask hits gaps 0 0)) ∧ Below W.heap.size W w') := fun t q W a1 a2 a3 a4 => by
    refine (asked_any A A' n c c' hits gaps HI.out t q 0 n 0 W a1 a2 (Nat.le_refl _) a3 a4 (by have := rng_size a2; omega)).mono ?_
    rintro e w' ⟨he, m, rfl⟩
    exact ⟨he, below_drewN (Below.refl _ _) m⟩
  obtain ⟨W, hW⟩ : ∃ W, wij hits gaps = W := ⟨_, rfl⟩
  rw [hW] at HT HR HLA HBT HSZ HS
  clear hW
  have hmm := @run_makeMap Try.prog
  go_enter Try.func3, Try.ntmps3
  go_wp2_with fail
  refine HC.out.mono ?_
  rintro e w1 ⟨rfl, hb1⟩
  have HB1 := Lib.hid hb1
  clear hb1
  go_wp2_with fail
  refine (HT.out w1 (H.out.below HB1.out) (H'.out.below HB1.out)).mono ?_
  rintro e w2 ⟨A2, c2, rfl, hps2, hb2⟩
  have HB2 := Lib.hid (below_next HB1.out hb2)
  have HP2 := Lib.hid hps2
  clear hb2 hps2
  go_wp2_with fail
  refine (HR.out w2 (H.out.below HB2.out) (H'.out.below HB2.out)).mono ?_
  rintro e w3 ⟨A3, c3, rfl, hrq, hb3⟩
  have HB3 := Lib.hid (below_next HB2.out hb3)
  have HP3 := Lib.hid (HP2.out.below hb3)
  have HRQ3 := Lib.hid hrq
  clear hb3 hrq HP2
  go_wp2_with fail
  refine (HBR.out w3 (H.out.below HB3.out) (H'.out.below HB3.out)).mono ?_
  rintro e w4 ⟨rfl, hb4⟩
  have HB4 := Lib.hid (below_next HB3.out hb4)
  have HP4 := Lib.hid (HP3.out.below hb4)
  have HRQ4 := Lib.hid (HRQ3.out.below hb4)
  have HH4 := Lib.hid (H.out.below HB4.out)
  have HH4' := Lib.hid (H'.out.below HB4.out)
  clear hb4 HP3 HRQ3
  have hsk : SKept W w4 (w4.alloc (.map #[] 0)) 0 := ⟨(Below.refl _ _).alloc (Nat.le_refl _) _, _, World.ownsMap_made w4 Try.prog 63 r2, KI.none W⟩
  have HSK := Lib.hid hsk
  have ht3 : T3p (n - 0) ≤ 3486784401 := by
    have := T3p_le (show n - 0 ≤ 20 by omega)
    rw [T3p_20] at this
    exact this
  have HL0 := HLA.out w4 0 n 0 (w4.alloc (.map #[] 0)) (Nat.zero_le _) (Nat.le_refl _) HH4.out HH4'.out hsk (by omega)
  change Calls Try.prog 12 #[.slice A n c, .slice A' (n + 1) c', .int .i64 0, .int .i64 n, .map (some w4.heap.size)] _ _ at HL0
  have HL0 := Lib.hid HL0
  clear hsk ht3
  have h00 : ((0 : Int) != 0) = false := rfl
  go_wp2_with fail
  refine HL0.out.mono ?_
  rintro e w5 ⟨rfl, ⟨n5, hn5, hk5⟩, hg5⟩
  have HSK5 := Lib.hid (HSK.out.step hk5 hg5)
  have hn5' : n5 ≤ 3486784401 := by
    have := T3p_le (show n - 0 ≤ 20 by omega)
    rw [T3p_20] at this
    omega
  clear hk5 hg5 hn5
  go_wp2_with fail
  refine (HBT.out w4 n5 w5 HH4.out HH4'.out HSK5.out (by omega)).mono ?_
  rintro e w6 ⟨q6, rfl, hrt6, ⟨n6, hn6, hk6⟩, hg6⟩
  have HSK6 := Lib.hid (HSK5.out.step hk6 hg6)
  have hn6' : n6 ≤ 73222472421 := by omega
  have hsp := rspots_any (bt W 20 0 n) q6 0 w6 hrt6 (by omega) (by rw [HSZ.out]; omega) (by rw [HSZ.out]; omega)
  have HSP := Lib.hid hsp
  clear hk6 hg6 hn6 hrt6 hsp
  go_wp2_with fail
  refine HSP.out.mono ?_
  rintro e w7 ⟨v7, rfl, ho7, hb7⟩
  obtain ⟨A7, c7, rfl, hp7, _⟩ := ho7.ps
  have HSK7 := Lib.hid (HSK6.out.below hb7)
  rw [HS.out] at hp7 ⊢
  have HC7 := Lib.hid (sameB_any A2 A7 n c2 c7 _ w7 (HP4.out.low' HSK7.out.b) hp7 (by omega))
  clear ho7 hb7 hp7
  go_wp2_with fail
  refine HC7.out.mono ?_
  rintro e w8 ⟨rfl, hb8⟩
  have HSK8 := Lib.hid (HSK7.out.below hb8)
  clear hb8
  obtain ⟨X, hX⟩ : ∃ X, lc W 0 n = X := ⟨_, rfl⟩
  rw [hX]
  have hxx : (X != X) = false := by simp
  have hnn : ((n : Int) != (n : Int)) = false := by simp
  clear hX
  obtain ⟨T0, hT0⟩ : ∃ T0, topI W 0 n = T0 := ⟨_, rfl⟩
  rw [hT0]
  have HN0 : Hid (n6 + 30 * T3p (20 - 0) ≤ 177826004451) := by show _ ≤ _; rw [Nat.sub_zero, T3p_20]; omega
  have HSK8' : Hid (SKept W w4 w8 n6) := HSK8.out
  clear hT0 hn5' hn6' HC HT HR HBR HBT HL0 HSK HSK5 HSK6 HSK7 HSK8 HSP HC7 HP4 HB1 HB2 HB3 hmm
  generalize hn6e : n6 = nz at *
  clear hn6e
  go_wp2
  go_loopw [125] (fun i wr => ∃ (k nk : Nat), k ≤ n ∧ i = .int .i64 k ∧ Hid (nk + 30 * T3p (20 - k) ≤ 177826004451) ∧ Hid (SKept W w4 wr nk)) (fun i _ => n - (intOf i).toNat)
  case atStart => exact ⟨0, nz, Nat.zero_le _, rfl, HN0.out, HSK8'.out⟩
  case round =>
    obtain ⟨k, nk, hk, rfl, HNK, HKR⟩ := hrel
    by_cases hlt : k < n
    · obtain ⟨b3, hA3, hb3, hcs3⟩ := (HRQ4.out.below HKR.out.b).at_ (by omega)
      subst hA3
      obtain ⟨Ar, cr, hcr, _⟩ := hcs3 k hlt
      rw [rowB_length] at hcr
      obtain ⟨m, hm⟩ : ∃ m, n - k = m := ⟨_, rfl⟩
      rw [hm] at hcr
      have e1 : IntKind.i64.wrap ((n : Int) - (k : Int)) = (m : Int) := by rw [IntWalk.i64_in _ (by omega)]; omega
      have hmm2 : ((m : Int) != (n : Int) - (k : Int)) = false := by simp; omega
      have hmm3 : ((m : Int) != (m : Int)) = false := by simp
      have e2 : IntKind.i64.wrap ((k : Int) + 1) = (k : Int) + 1 := IntWalk.i64_in _ (by omega)
      obtain ⟨Q, hQ⟩ : ∃ Q, T3p (20 - k) = Q := ⟨_, rfl⟩
      have hQ3 : T3p (20 - k) = 3 * T3p (20 - (k + 1)) := by rw [show 20 - k = 20 - (k + 1) + 1 by omega, T3p]
      have HQ := Lib.hid hQ
      have HQ3 := Lib.hid hQ3
      have HM := Lib.hid hm
      have hkn : (k : Int) < (n : Int) := by omega
      clear hcs3 hm hQ hQ3
      go_wp2
      go_loopw [19] (fun i wr => ∃ (t nn : Nat), k < t ∧ t ≤ n + 1 ∧ i = .int .i64 t ∧ Hid (nn ≤ nk + (t - (k + 1)) * Q) ∧ Hid (SKept W w4 wr nn)) (fun i _ => n + 1 - (intOf i).toNat)
      case atStart => exact ⟨k + 1, nk, by omega, by omega, by go_num, by show _ ≤ _; rw [Nat.sub_self]; omega, HKR.out⟩
      case round =>
        obtain ⟨t, nn, ht1, ht2, rfl, HNN, HKT⟩ := hrel
        by_cases htn : t ≤ n
        · have hq20 : (t - (k + 1)) * Q ≤ 20 * Q := Nat.mul_le_mul_right _ (by omega)
          have htq : T3p (t - k) ≤ Q := by rw [← HQ.out]; exact T3p_le (by omega)
          have hnk := HNK.out
          rw [HQ.out] at hnk
          have HC := Lib.hid (HLA.out w4 k t nn wr (by omega) htn HH4.out HH4'.out HKT.out (by have := HNN.out; omega))
          have HNX : Hid (∀ n2 : Nat, n2 ≤ nn + T3p (t - k) → n2 ≤ nk + (t + 1 - (k + 1)) * Q) := fun n2 h2 => by
            have := HNN.out
            rw [show t + 1 - (k + 1) = t - (k + 1) + 1 by omega, Nat.succ_mul]
            omega
          have hti : topI W k t = (tp (lc W) k t : Int) := if_pos (by omega)
          have hat := rowB_at W ht1 htn
          obtain ⟨tt, htt⟩ : ∃ tt, tp (lc W) k t = tt := ⟨_, rfl⟩
          rw [htt] at hti hat
          have HTI := Lib.hid hti
          have HAT := Lib.hid hat
          clear hq20 htq hnk hti hat htt
          go_wp2_with fail
          refine HC.out.mono ?_
          rintro e w9 ⟨rfl, ⟨n9, hn9, hk9⟩, hg9⟩
          rw [HTI.out]
          have hsk9 := HKT.out.step hk9 hg9
          have HSK9 := Lib.hid hsk9
          have HN9 := Lib.hid (HNX.out n9 hn9)
          obtain ⟨b4, hA4, hb4, hcs4⟩ := (HRQ4.out.below hsk9.b).at_ (by omega)
          injection hA4 with hA4
          injection hA4 with hA5 _
          subst hA5
          obtain ⟨Ax, cx, hcx, hix⟩ := hcs4 k hlt
          rw [rowB_length, HM.out] at hcx
          rw [rowB_length, HM.out] at hix
          have hmk : t - k - 1 < m := by have := HM.out; omega
          obtain ⟨b5, off5, rfl, hb5, hcs5⟩ := hix.at_ (by omega)
          have hc5 := hcs5 (t - k - 1) hmk
          have hat := HAT.out
          rw [List.getElem?_eq_getElem (by rw [rowB_length, HM.out]; exact hmk)] at hat
          injection hat with hat
          rw [hat] at hc5
          have f1 : IntKind.i64.wrap ((t : Int) - (k : Int)) = (t : Int) - (k : Int) := IntWalk.i64_in _ (by omega)
          have f2 : IntKind.i64.wrap ((t : Int) - (k : Int) - 1) = ((t - k - 1 : Nat) : Int) := by rw [IntWalk.i64_in _ (by omega)]; omega
          obtain ⟨u, hu⟩ : ∃ u, t - k - 1 = u := ⟨_, rfl⟩
          rw [hu] at hc5 f2 hmk
          have f3 : (u : Int) < (m : Int) := by omega
          have f4 : ((tt : Int) != (tt : Int)) = false := by simp
          generalize lc W k t = z at *
          clear hcs4 hcs5 hat hu hk9 hg9 hsk9 hix hn9
          go_wp2
          go_roundw
          case rel => exact ⟨t + 1, n9, by omega, by omega, by go_num, HN9.out, HSK9.out⟩
          case measure => simp [intOf]; omega
        · obtain rfl : t = n + 1 := by omega
          have hz9 : ¬ ((n : Int) + 1 ≤ (n : Int)) := by omega
          have HNE : Hid (nn + 30 * T3p (20 - (k + 1)) ≤ 177826004451) := by
            show _ ≤ _
            have a1 := HNN.out
            have a2 := HNK.out
            have a3 := HQ3.out
            rw [HQ.out] at a2 a3
            have a4 : (n + 1 - (k + 1)) * Q ≤ 20 * Q := Nat.mul_le_mul_right _ (by omega)
            omega
          go_wp2
          go_roundw
          case rel => exact ⟨k + 1, nn, by omega, by go_num, HNE.out, HKT.out⟩
          case measure => first | (simp [intOf]; done) | (simp [intOf]; omega)
    · obtain rfl : k = n := by omega
      have HBW := Lib.hid (HKR.out.b)
      have HP1 := Lib.hid ((H1.out.below HB4.out).below HKR.out.b)
      have HIH := Lib.hid (HH4.out.below HKR.out.b)
      have HIG := Lib.hid (HH4'.out.below HKR.out.b)
      have HSR := Lib.hid (spotsR_any A1 n1 c1 l wr HP1.out hn1)
      have HBF := Lib.hid (below_next HB4.out HKR.out.b)
      clear HKR HNK HLA HRQ4 HH4 HH4' HBW
      go_wp2_with fail
      refine HSR.out.mono ?_
      rintro e w9 ⟨S, rfl, hb9, hs1, hs2, hs3, hs4⟩
      have HB9 := Lib.hid hb9
      have hsb : 0 ≤ S ∧ S ≤ 3 := by
        rcases Nat.lt_or_ge 200 n1 with h2 | h2
        · have := hs1 h2; omega
        · have := hs2 h2; omega
      clear hb9
      by_cases hS0 : S = 0
      · by_cases hN : n1 = k
        · have HSS : Hid (SayS l n1 k 0) := ⟨by omega, by omega, fun h2 => by omega, fun _ => .inl rfl, fun _ => ⟨hs3 hS0, hN⟩, fun _ _ _ => rfl⟩
          have hnb : ((n1 : Int) != (k : Int)) = false := by simp [hN]
          subst hS0
          clear hs1 hs2 hs3 hs4 hN
          go_wp2
          go_loopw [22, 181] (fun sv i wr => ∃ (p : Nat) (s : Int), p ≤ n1 ∧ i = .int .i64 p ∧ sv = .int .i64 s ∧ 0 ≤ s ∧ s ≤ 3 ∧ Hid (SayR l 0 p s) ∧ Below w9.heap.size w9 wr) (fun _ i _ => n1 - (intOf i).toNat)
          case atStart => exact ⟨0, 0, Nat.zero_le _, rfl, rfl, by omega, by omega, sayR_start l 0, Below.refl _ _⟩
          case round =>
            obtain ⟨p, s, hp, rfl, rfl, hs0, hs3, HSR2, hnx⟩ := hrel
            have hsz := hnx.size
            by_cases hlt2 : p < n1
            · obtain ⟨b, off, rfl, hb, hc⟩ := ((HP1.out.below HB9.out).below hnx).dat (by omega)
              have hc0 := (hc p hlt2).1
              have hc1 := (hc p hlt2).2
              obtain ⟨y, hy⟩ : ∃ y, ky l p = y := ⟨_, rfl⟩
              rw [hy] at hc0
              generalize dp l p = dd at *
              have HNX := Lib.hid hnx
              have hp1 : p + 1 ≤ n1 := hlt2
              clear hc hnx
              by_cases hsz0 : s = 0
              · by_cases hyk : y = (p : Int)
                · have HN : Hid (SayR l 0 (p + 1) 0) := by
                    rw [hsz0] at HSR2
                    exact sayR_same HSR2.out (by rw [hy]; exact hyk)
                  have hb0 : (y != (p : Int)) = false := by simp [hyk]
                  subst hsz0
                  clear hy hyk
                  go_wp2
                  go_roundw
                  case rel => exact ⟨p + 1, 0, hp1, by go_num, rfl, by omega, by omega, HN.out, HNX.out.alloc hsz _⟩
                  case measure => simp [intOf]; omega
                · have HN : Hid (SayR l 0 (p + 1) 3) := by
                    rw [hsz0] at HSR2
                    exact sayR_diff HSR2.out (by rw [hy]; exact hyk)
                  have hb0 : (y != (p : Int)) = true := by simpa using hyk
                  subst hsz0
                  clear hy hyk
                  go_wp2
                  go_roundw
                  case rel => exact ⟨p + 1, 3, hp1, by go_num, rfl, by omega, by omega, HN.out, HNX.out.alloc hsz _⟩
                  case measure => simp [intOf]; omega
              · have HN : Hid (SayR l 0 (p + 1) s) := sayR_more HSR2.out hsz0
                have hb0 : (s == 0) = false := by simpa using hsz0
                clear hy hsz0
                go_wp2
                go_roundw
                case rel => exact ⟨p + 1, s, hp1, by go_num, rfl, hs0, hs3, HN.out, HNX.out.alloc hsz _⟩
                case measure => simp [intOf]; omega
            · obtain rfl : p = n1 := by omega
              obtain rfl : s = E := HSE.out 0 s HSS.out HSR2.out
              have HNX := Lib.hid hnx
              clear hnx
              by_cases hs : s = 0
              · obtain ⟨t, ht, hr, hpn, hxt⟩ := HX.out.1 hs
                subst hs
                have h00' : ((0 : Int) != 0) = false := rfl
                have HTO := Lib.hid (treeOf_any p A1 p c1 l 0 wr ((HP1.out.below HB9.out).below HNX.out) (Nat.le_refl _) (by omega) (by omega) (by omega))
                have HTT := Lib.hid ht
                have HRR := Lib.hid hr
                have HXT := Lib.hid hxt
                have hxx2 : (x == x) = true := by simp
                clear ht hr hxt hpn
                go_wp2_with fail
                refine HTO.out.mono ?_
                rintro e w10 ⟨q, bb, rfl, h10, hf10, hb10⟩
                cases bb with
                | false => exact absurd HTT.out (hf10 rfl t)
                | true =>
                  obtain ⟨t', ht', hrt'⟩ := h10 rfl
                  have hr' : Rng t' 0 k := by
                    have hsz' : t'.size = t.size := by rw [← sp_length t' 0, ← ht', HTT.out, sp_length]
                    have hts := rng_size HRR.out
                    have := rng_of t' 0 0 (fun q hq => by
                      rw [← ht', HTT.out, rng_keys 0 HRR.out q (by omega)])
                    rw [Nat.zero_add, hsz', show t.size = k by omega] at this
                    exact this
                  have hxe : x = t'.ask hits gaps 0 0 := by rw [HXT.out]; exact ask_same HRR.out hr' (by rw [← HTT.out, ht'])
                  have hbw := (HNX.out.trans (hb10.mono HNX.out.size))
                  have HA := HASK.out t' q w10 hrt' hr' ((HIH.out.below HB9.out).below hbw) ((HIG.out.below HB9.out).below hbw)
                  rw [← hxe] at HA
                  have HA := Lib.hid HA
                  have HBX := Lib.hid (below_next HBF.out (HB9.out.trans (hbw.mono HB9.out.size)))
                  clear h10 hf10 hb10 ht' hrt' hr' hxe hbw
                  go_wp2_with fail
                  refine HA.out.mono ?_
                  rintro e w11 ⟨rfl, hb11⟩
                  have HBY := Lib.hid (below_next HBX.out hb11)
                  clear hb11
                  go_wp2
                  go_ret
                  exact ⟨rfl, HBY.out⟩
              · have hx0 : x = 0 := HX.out.2 hs
                have hsb2 : (s != 0) = true := by simpa using hs
                have hse : (s == s) = true := by simp
                have HBX := Lib.hid (below_next HBF.out (HB9.out.trans (HNX.out.mono HB9.out.size)))
                subst hx0
                clear hs
                go_wp2
                go_ret
                exact ⟨rfl, HBX.out⟩

        · have HSS : Hid (SayS l n1 k 3) := ⟨by omega, by omega, fun h2 => by have := hs1 h2; omega, fun _ => .inr rfl, fun h2 => by omega, fun _ _ h2 => absurd h2 hN⟩
          have hnb : ((n1 : Int) != (k : Int)) = true := by simp; omega
          subst hS0
          clear hs1 hs2 hs3 hs4 hN
          go_wp2
          go_loopw [22, 181] (fun sv i wr => ∃ (p : Nat) (s : Int), p ≤ n1 ∧ i = .int .i64 p ∧ sv = .int .i64 s ∧ 0 ≤ s ∧ s ≤ 3 ∧ Hid (SayR l 3 p s) ∧ Below w9.heap.size w9 wr) (fun _ i _ => n1 - (intOf i).toNat)
          case atStart => exact ⟨0, 3, Nat.zero_le _, rfl, rfl, by omega, by omega, sayR_start l 3, Below.refl _ _⟩
          case round =>
            obtain ⟨p, s, hp, rfl, rfl, hs0, hs3, HSR2, hnx⟩ := hrel
            have hsz := hnx.size
            by_cases hlt2 : p < n1
            · obtain ⟨b, off, rfl, hb, hc⟩ := ((HP1.out.below HB9.out).below hnx).dat (by omega)
              have hc0 := (hc p hlt2).1
              have hc1 := (hc p hlt2).2
              obtain ⟨y, hy⟩ : ∃ y, ky l p = y := ⟨_, rfl⟩
              rw [hy] at hc0
              generalize dp l p = dd at *
              have HNX := Lib.hid hnx
              have hp1 : p + 1 ≤ n1 := hlt2
              clear hc hnx
              by_cases hsz0 : s = 0
              · by_cases hyk : y = (p : Int)
                · have HN : Hid (SayR l 3 (p + 1) 0) := by
                    rw [hsz0] at HSR2
                    exact sayR_same HSR2.out (by rw [hy]; exact hyk)
                  have hb0 : (y != (p : Int)) = false := by simp [hyk]
                  subst hsz0
                  clear hy hyk
                  go_wp2
                  go_roundw
                  case rel => exact ⟨p + 1, 0, hp1, by go_num, rfl, by omega, by omega, HN.out, HNX.out.alloc hsz _⟩
                  case measure => simp [intOf]; omega
                · have HN : Hid (SayR l 3 (p + 1) 3) := by
                    rw [hsz0] at HSR2
                    exact sayR_diff HSR2.out (by rw [hy]; exact hyk)
                  have hb0 : (y != (p : Int)) = true := by simpa using hyk
                  subst hsz0
                  clear hy hyk
                  go_wp2
                  go_roundw
                  case rel => exact ⟨p + 1, 3, hp1, by go_num, rfl, by omega, by omega, HN.out, HNX.out.alloc hsz _⟩
                  case measure => simp [intOf]; omega
              · have HN : Hid (SayR l 3 (p + 1) s) := sayR_more HSR2.out hsz0
                have hb0 : (s == 0) = false := by simpa using hsz0
                clear hy hsz0
                go_wp2
                go_roundw
                case rel => exact ⟨p + 1, s, hp1, by go_num, rfl, hs0, hs3, HN.out, HNX.out.alloc hsz _⟩
                case measure => simp [intOf]; omega
            · obtain rfl : p = n1 := by omega
              obtain rfl : s = E := HSE.out 3 s HSS.out HSR2.out
              have HNX := Lib.hid hnx
              clear hnx
              by_cases hs : s = 0
              · obtain ⟨t, ht, hr, hpn, hxt⟩ := HX.out.1 hs
                subst hs
                have h00' : ((0 : Int) != 0) = false := rfl
                have HTO := Lib.hid (treeOf_any p A1 p c1 l 0 wr ((HP1.out.below HB9.out).below HNX.out) (Nat.le_refl _) (by omega) (by omega) (by omega))
                have HTT := Lib.hid ht
                have HRR := Lib.hid hr
                have HXT := Lib.hid hxt
                have hxx2 : (x == x) = true := by simp
                clear ht hr hxt hpn
                go_wp2_with fail
                refine HTO.out.mono ?_
                rintro e w10 ⟨q, bb, rfl, h10, hf10, hb10⟩
                cases bb with
                | false => exact absurd HTT.out (hf10 rfl t)
                | true =>
                  obtain ⟨t', ht', hrt'⟩ := h10 rfl
                  have hr' : Rng t' 0 k := by
                    have hsz' : t'.size = t.size := by rw [← sp_length t' 0, ← ht', HTT.out, sp_length]
                    have hts := rng_size HRR.out
                    have := rng_of t' 0 0 (fun q hq => by
                      rw [← ht', HTT.out, rng_keys 0 HRR.out q (by omega)])
                    rw [Nat.zero_add, hsz', show t.size = k by omega] at this
                    exact this
                  have hxe : x = t'.ask hits gaps 0 0 := by rw [HXT.out]; exact ask_same HRR.out hr' (by rw [← HTT.out, ht'])
                  have hbw := (HNX.out.trans (hb10.mono HNX.out.size))
                  have HA := HASK.out t' q w10 hrt' hr' ((HIH.out.below HB9.out).below hbw) ((HIG.out.below HB9.out).below hbw)
                  rw [← hxe] at HA
                  have HA := Lib.hid HA
                  have HBX := Lib.hid (below_next HBF.out (HB9.out.trans (hbw.mono HB9.out.size)))
                  clear h10 hf10 hb10 ht' hrt' hr' hxe hbw
                  go_wp2_with fail
                  refine HA.out.mono ?_
                  rintro e w11 ⟨rfl, hb11⟩
                  have HBY := Lib.hid (below_next HBX.out hb11)
                  clear hb11
                  go_wp2
                  go_ret
                  exact ⟨rfl, HBY.out⟩
              · have hx0 : x = 0 := HX.out.2 hs
                have hsb2 : (s != 0) = true := by simpa using hs
                have hse : (s == s) = true := by simp
                have HBX := Lib.hid (below_next HBF.out (HB9.out.trans (HNX.out.mono HB9.out.size)))
                subst hx0
                clear hs
                go_wp2
                go_ret
                exact ⟨rfl, HBX.out⟩

      · have HSS : Hid (SayS l n1 k S) := ⟨hsb.1, hsb.2, hs1, hs2, fun h2 => absurd h2 hS0, fun a b h2 => hs4 a b⟩
        have hsb1 : (S == 0) = false := by simpa using hS0
        clear hs1 hs2 hs3 hs4 hS0
        go_wp2
        go_loopw [22, 181] (fun sv i wr => ∃ (p : Nat) (s : Int), p ≤ n1 ∧ i = .int .i64 p ∧ sv = .int .i64 s ∧ 0 ≤ s ∧ s ≤ 3 ∧ Hid (SayR l S p s) ∧ Below w9.heap.size w9 wr) (fun _ i _ => n1 - (intOf i).toNat)
        case atStart => exact ⟨0, S, Nat.zero_le _, rfl, rfl, by omega, by omega, sayR_start l S, Below.refl _ _⟩
        case round =>
          obtain ⟨p, s, hp, rfl, rfl, hs0, hs3, HSR2, hnx⟩ := hrel
          have hsz := hnx.size
          by_cases hlt2 : p < n1
          · obtain ⟨b, off, rfl, hb, hc⟩ := ((HP1.out.below HB9.out).below hnx).dat (by omega)
            have hc0 := (hc p hlt2).1
            have hc1 := (hc p hlt2).2
            obtain ⟨y, hy⟩ : ∃ y, ky l p = y := ⟨_, rfl⟩
            rw [hy] at hc0
            generalize dp l p = dd at *
            have HNX := Lib.hid hnx
            have hp1 : p + 1 ≤ n1 := hlt2
            clear hc hnx
            by_cases hsz0 : s = 0
            · by_cases hyk : y = (p : Int)
              · have HN : Hid (SayR l S (p + 1) 0) := by
                  rw [hsz0] at HSR2
                  exact sayR_same HSR2.out (by rw [hy]; exact hyk)
                have hb0 : (y != (p : Int)) = false := by simp [hyk]
                subst hsz0
                clear hy hyk
                go_wp2
                go_roundw
                case rel => exact ⟨p + 1, 0, hp1, by go_num, rfl, by omega, by omega, HN.out, HNX.out.alloc hsz _⟩
                case measure => simp [intOf]; omega
              · have HN : Hid (SayR l S (p + 1) 3) := by
                  rw [hsz0] at HSR2
                  exact sayR_diff HSR2.out (by rw [hy]; exact hyk)
                have hb0 : (y != (p : Int)) = true := by simpa using hyk
                subst hsz0
                clear hy hyk
                go_wp2
                go_roundw
                case rel => exact ⟨p + 1, 3, hp1, by go_num, rfl, by omega, by omega, HN.out, HNX.out.alloc hsz _⟩
                case measure => simp [intOf]; omega
            · have HN : Hid (SayR l S (p + 1) s) := sayR_more HSR2.out hsz0
              have hb0 : (s == 0) = false := by simpa using hsz0
              clear hy hsz0
              go_wp2
              go_roundw
              case rel => exact ⟨p + 1, s, hp1, by go_num, rfl, hs0, hs3, HN.out, HNX.out.alloc hsz _⟩
              case measure => simp [intOf]; omega
          · obtain rfl : p = n1 := by omega
            obtain rfl : s = E := HSE.out S s HSS.out HSR2.out
            have HNX := Lib.hid hnx
            clear hnx
            by_cases hs : s = 0
            · obtain ⟨t, ht, hr, hpn, hxt⟩ := HX.out.1 hs
              subst hs
              have h00' : ((0 : Int) != 0) = false := rfl
              have HTO := Lib.hid (treeOf_any p A1 p c1 l 0 wr ((HP1.out.below HB9.out).below HNX.out) (Nat.le_refl _) (by omega) (by omega) (by omega))
              have HTT := Lib.hid ht
              have HRR := Lib.hid hr
              have HXT := Lib.hid hxt
              have hxx2 : (x == x) = true := by simp
              clear ht hr hxt hpn
              go_wp2_with fail
              refine HTO.out.mono ?_
              rintro e w10 ⟨q, bb, rfl, h10, hf10, hb10⟩
              cases bb with
              | false => exact absurd HTT.out (hf10 rfl t)
              | true =>
                obtain ⟨t', ht', hrt'⟩ := h10 rfl
                have hr' : Rng t' 0 k := by
                  have hsz' : t'.size = t.size := by rw [← sp_length t' 0, ← ht', HTT.out, sp_length]
                  have hts := rng_size HRR.out
                  have := rng_of t' 0 0 (fun q hq => by
                    rw [← ht', HTT.out, rng_keys 0 HRR.out q (by omega)])
                  rw [Nat.zero_add, hsz', show t.size = k by omega] at this
                  exact this
                have hxe : x = t'.ask hits gaps 0 0 := by rw [HXT.out]; exact ask_same HRR.out hr' (by rw [← HTT.out, ht'])
                have hbw := (HNX.out.trans (hb10.mono HNX.out.size))
                have HA := HASK.out t' q w10 hrt' hr' ((HIH.out.below HB9.out).below hbw) ((HIG.out.below HB9.out).below hbw)
                rw [← hxe] at HA
                have HA := Lib.hid HA
                have HBX := Lib.hid (below_next HBF.out (HB9.out.trans (hbw.mono HB9.out.size)))
                clear h10 hf10 hb10 ht' hrt' hr' hxe hbw
                go_wp2_with fail
                refine HA.out.mono ?_
                rintro e w11 ⟨rfl, hb11⟩
                have HBY := Lib.hid (below_next HBX.out hb11)
                clear hb11
                go_wp2
                go_ret
                exact ⟨rfl, HBY.out⟩
            · have hx0 : x = 0 := HX.out.2 hs
              have hsb2 : (s != 0) = true := by simpa using hs
              have hse : (s == s) = true := by simp
              have HBX := Lib.hid (below_next HBF.out (HB9.out.trans (HNX.out.mono HB9.out.size)))
              subst hx0
              clear hs
              go_wp2
              go_ret
              exact ⟨rfl, HBX.out⟩


theorem bsaysA_any (A1 : Option Addr) (n1 c1 : Nat) (l : PL) (A : Option Addr) (n c : Nat) (hits : List Int) (A' : Option Addr) (n' c' : Nat) (gaps : List Int) (w : World) (h1 : PS w A1 n1 c1 l) (hn1 : n1 ≤ 9223372036854775807) (h : IS w A n c hits) (hn : n ≤ 9223372036854775807) (h' : IS w A' n' c' gaps) (hn' : n' ≤ 9223372036854775807) :
    Calls Try.prog 3 #[.slice A1 n1 c1, .slice A n c, .slice A' n' c'] w (YesB w) := by
  by_cases hc : chkB hits gaps = 0
  · have hI := chkB_ok hc
    have e1 := h.len
    have e2 := h'.len
    have e3 := hI.g
    rw [e1] at hI e3
    obtain rfl : n' = n + 1 := by omega
    exact bsays_ok A1 A A' n1 c1 n c c' l hits gaps w h1 h h' hn1 hI
  · exact bsays_bad A1 A A' n1 c1 n c n' c' l hits gaps w h1 h h' hn1 hn hn' hc

end Go.Proofs.Ytconegligedniaa
