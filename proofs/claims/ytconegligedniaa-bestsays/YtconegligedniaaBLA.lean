/-
  hedgref.LeastAsked: the least cost of a part, parts that were asked are kept.
-/
import Derived.Test.YtconegligedniaaBKept
namespace Go.Proofs.Ytconegligedniaa
open Go.RowKit Go.Maps

/-- what LeastAsked answers -/
def topI (W : Nat → Nat → Int) (i j : Nat) : Int := if i < j then (tp (lc W) i j : Int) else -1
def RetLA (W : Nat → Nat → Int) (gm nn i j : Nat) (w : World) (e : Ending) (w' : World) : Prop :=
  e = .returned (.tuple #[I (lc W i j), I (topI W i j)]) ∧ (∃ nn', nn' ≤ nn + T3p (j - i) ∧ KM W gm nn' w') ∧ w.grownBy w' (some gm)
theorem KM.drewN {W : Nat → Nat → Int} {gm n : Nat} {w : World} (h : KM W gm n w) (q : Nat) : KM W gm n (w.drewN q) := h.kept (below_drewN (Below.refl _ _) q)

/-- the best of the tops ahead of k -/
def BSt (W : Nat → Nat → Int) (i j k : Nat) (x tI : Int) : Prop := (k = i ∧ x = -1 ∧ tI = -1) ∨ (i < k ∧ ∃ t : Nat, tI = t ∧ t = tpd (lc W) i j (k - (i + 1)) ∧ x = W i j + blw (lc W) i j t)
theorem BSt.start (W : Nat → Nat → Int) (i j : Nat) : BSt W i j i (-1) (-1) := .inl ⟨rfl, rfl, rfl⟩
theorem BSt.first (W : Nat → Nat → Int) (i j : Nat) : BSt W i j (i + 1) (lc W i i + lc W (i + 1) j + W i j) i := by
  refine .inr ⟨by omega, i, rfl, ?_, ?_⟩
  · rw [Nat.sub_self]; rfl
  · unfold blw; omega
theorem BSt.less {W : Nat → Nat → Int} {i j k : Nat} {x tI : Int} (h : BSt W i j k x tI) (hk : i < k) (hv : lc W i k + lc W (k + 1) j + W i j < x) : BSt W i j (k + 1) (lc W i k + lc W (k + 1) j + W i j) k := by
  rcases h with ⟨h1, _⟩ | ⟨_, t, _, ht, hx⟩
  · omega
  · refine .inr ⟨by omega, k, rfl, ?_, ?_⟩
    · rw [tpd_go (lc W) hk, ← ht, if_pos]
      rw [hx] at hv
      unfold blw at hv ⊢
      omega
    · unfold blw; omega
theorem BSt.not {W : Nat → Nat → Int} {i j k : Nat} {x tI : Int} (h : BSt W i j k x tI) (hk : i < k) (hv : ¬ lc W i k + lc W (k + 1) j + W i j < x) : BSt W i j (k + 1) x tI := by
  rcases h with ⟨h1, _⟩ | ⟨_, t, h2, ht, hx⟩
  · omega
  · refine .inr ⟨by omega, t, h2, ?_, hx⟩
    rw [tpd_go (lc W) hk, ← ht, if_neg]
    rw [hx] at hv
    unfold blw at hv ⊢
    omega
theorem BSt.end_ {W : Nat → Nat → Int} {i j : Nat} {x tI : Int} (h : BSt W i j j x tI) (hij : i < j) : x = lc W i j ∧ tI = (tp (lc W) i j : Int) := by
  rcases h with ⟨h1, _⟩ | ⟨_, t, h2, ht, hx⟩
  · omega
  · have e : t = tp (lc W) i j := ht
    subst e
    exact ⟨by rw [hx, lc_node W hij], h2⟩
theorem BSt.neg {W : Nat → Nat → Int} {i j k : Nat} {x tI : Int} (h : BSt W i j k x tI) (hk : i < k) (hj : j ≤ 20) (hkj : k ≤ j) (hw : ∀ i' j', i' ≤ j' → j' ≤ j → 0 ≤ W i' j' ∧ W i' j' ≤ 41000) : 0 ≤ x ∧ x ≤ 3000000 := by
  rcases h with ⟨h1, _⟩ | ⟨_, t, h2, ht, hx⟩
  · omega
  · have hb := tpd_bd (lc W) i j (k - (i + 1))
    rw [← ht] at hb
    have h1 := lc_bd W j hw 20 i t (by omega) (by omega)
    have h3 := lc_bd W j hw 20 (t + 1) j (by omega) (Nat.le_refl _)
    have h4 := hw i j (by omega) (Nat.le_refl _)
    rw [hx]
    unfold blw
    omega

set_option maxRecDepth 100000 in
set_option maxHeartbeats 8000000 in
theorem least_any (A A' : Option Addr) (n c c' gm : Nat) (hits gaps : List Int) (hI : InB hits gaps n) (hA : 0 < n → ∀ ad, A = some ad → ad.block ≠ gm) (hA' : ∀ ad, A' = some ad → ad.block ≠ gm) : ∀ (m i j nn : Nat) (w : World), j ≤ i + m → i ≤ j → j ≤ n → IS w A n c hits → IS w A' (n + 1) c' gaps → KM (wij hits gaps) gm nn w → nn + T3p (j - i) ≤ 900000000000 →
    Calls Try.prog 12 #[.slice A n c, .slice A' (n + 1) c', I i, I j, .map (some gm)] w (RetLA (wij hits gaps) gm nn i j w)
  | m, i, j, nn, w, hm, hij, hj, h, h', hk, hb => by
    by_cases hlt : i < j
    · obtain ⟨m, rfl⟩ : ∃ m', m = m' + 1 := ⟨m - 1, by omega⟩
      have hn := hI.n20
      have HL := Lib.hid hI.h
      have HL' := Lib.hid hI.g
      have HREC := Lib.hid (fun (i j nn : Nat) (w : World) => least_any A A' n c c' gm hits gaps hI hA hA' m i j nn w)
      have HW : Hid (∀ i j, i ≤ j → j ≤ n → 0 ≤ wij hits gaps i j ∧ wij hits gaps i j ≤ 41000) := fun i j _ h2 => wij_bd hI.hh hI.hg i j (by omega)
      have HB1 : Hid (∀ q (hq : q < hits.length), 0 ≤ hits[q] ∧ hits[q] ≤ 1000) := fun q hq => hI.hh _ (List.getElem_mem hq)
      have HB2 : Hid (∀ q (hq : q < gaps.length), 0 ≤ gaps[q] ∧ gaps[q] ≤ 1000) := fun q hq => hI.hg _ (List.getElem_mem hq)
      have HS : Hid (wij hits gaps i i = gaps[i]?.getD 0) := wij_same hits gaps i
      have HS2 : Hid (∀ i j, i ≤ j → wij hits gaps i (j + 1) = wij hits gaps i j + hits[j]?.getD 0 + gaps[j + 1]?.getD 0) := fun i j hij => wij_succ hits gaps hij
      have H := Lib.hid h
      have H' := Lib.hid h'
      have HA := Lib.hid hA
      have HA' := Lib.hid hA'
      have hlook := hk.look (i := i) (j := j) (by omega) (by omega)
      have HK := Lib.hid hk
      have HTI : Hid (topI (wij hits gaps) i j = (tp (lc (wij hits gaps)) i j : Int)) := if_pos hlt
      have hne : ((i : Int) == (j : Int)) = false := by simp; omega
      clear h h' hI hA hA' hk
      generalize wij hits gaps = W at *
      rcases hlook with ⟨_, _, hrun⟩ | hrun
      · obtain ⟨oB, HOB⟩ : ∃ oB, Hid (oB = Obj.cells #[I 0, I 0] 63) := ⟨_, Lib.hid rfl⟩
        have hg0 := HK.out.lt
        have hk1 : KM W gm nn (w.alloc oB) := HK.out.kept ((Below.refl _ _).alloc (Nat.le_refl _) _)
        have hi1 : IS (w.alloc oB) A n c hits := H.out.alloc oB
        have hi1' : IS (w.alloc oB) A' (n + 1) c' gaps := H'.out.alloc oB
        have hgr1 : w.grownBy (w.alloc oB) (some gm) := World.grownBy_alloc w oB _
        have HK1 := Lib.hid hk1
        have HI1 := Lib.hid hi1
        have HI1' := Lib.hid hi1'
        have HGR1 := Lib.hid hgr1
        have hil : i < gaps.length := by rw [HL'.out]; omega
        obtain ⟨b, off, rfl, hbb, hcs⟩ := H'.out.at_ (by omega)
        have hc0 := hcs i (by omega)
        obtain ⟨gi, hgi⟩ : ∃ gi, gaps[i] = gi := ⟨_, rfl⟩
        rw [hgi] at hc0
        have HGI : Hid (W i i = gi) := by show _ = _; rw [HS.out, List.getElem?_eq_getElem hil, Option.getD_some, hgi]
        have hii : (i : Int) < (n : Int) + 1 := by omega
        clear hk1 hi1 hi1' hgr1 hcs hgi
        go_enter Try.func12, Try.ntmps12
        go_wp2
        rw [← HOB.out]
        generalize w.alloc oB = w1 at *
        go_loopw [14, 15] (fun s r wr => ∃ (k q : Nat) (y : Int), i ≤ k ∧ k ≤ j ∧ r = .int .i64 k ∧ s = .int .i64 y ∧ Hid (W i k = y) ∧ wr = w1.drewN q) (fun _ r _ => j - (intOf r).toNat)
        case atStart => exact ⟨i, 0, gi, by omega, by omega, rfl, rfl, HGI.out, rfl⟩
        case round =>
          obtain ⟨k, q, y, h1, h2, rfl, rfl, HY, rfl⟩ := hrel
          have hyb := HW.out i k h1 (by omega)
          rw [HY.out] at hyb
          by_cases hkj : k < j
          · have hkl : k < hits.length := by rw [HL.out]; omega
            have hgl : k + 1 < gaps.length := by rw [HL'.out]; omega
            obtain ⟨b1, off1, hA1, hb1, hcs1⟩ := HI1'.out.at_ (by omega)
            injection hA1 with hA1
            injection hA1 with ha1 ha2
            subst ha1 ha2
            obtain ⟨b2, off2, rfl, hb2, hcs2⟩ := HI1.out.at_ (by omega)
            have hcg := hcs1 (k + 1) (by omega)
            have hch := hcs2 k (by omega)
            have bg := HB2.out (k + 1) hgl
            have bh := HB1.out k hkl
            have hs := HS2.out i k h1
            rw [HY.out, List.getElem?_eq_getElem hgl, List.getElem?_eq_getElem hkl, Option.getD_some, Option.getD_some] at hs
            generalize gaps[k + 1] = gt at *
            generalize hits[k] = ht1 at *
            have HSY : Hid (W i (k + 1) = y + (ht1 + gt)) := by show _ = _; rw [hs]; omega
            have e2 : IntKind.i64.wrap ((k : Int) + 1) = (k : Int) + 1 := IntWalk.i64_in _ (by omega)
            have e3 : 0 ≤ (k : Int) + 1 := by omega
            have e4 : ((k : Int) + 1).toNat = k + 1 := by omega
            have e5 : IntKind.i64.wrap (ht1 + gt) = ht1 + gt := IntWalk.i64_in _ (by omega)
            have e6 : IntKind.i64.wrap (y + (ht1 + gt)) = y + (ht1 + gt) := IntWalk.i64_in _ (by omega)
            have e7 : (k : Int) < (n : Int) := by omega
            have e8 : (k : Int) + 1 < (n : Int) + 1 := by omega
            clear hcs1 hcs2 hs
            go_wp2
            go_quiet (fail)
            go_wp2
            go_roundw
            case rel => exact ⟨k + 1, q + nq, _, by omega, by omega, by go_num, rfl, HSY.out, by first | rfl | rw [World.drewN_drewN]⟩
            case measure => simp [intOf]; omega
          · obtain rfl : k = j := by omega
            have hk2 : KM W gm nn (w1.drewN q) := HK1.out.drewN q
            have hgr2 : w.grownBy (w1.drewN q) (some gm) := grown_drewN HGR1.out q
            have HK2 := Lib.hid hk2
            have HGR2 := Lib.hid hgr2
            clear hk2 hgr2
            go_wp2
            generalize w1.drewN q = w2 at *
            obtain ⟨D, hD⟩ : ∃ D, T3p (k - i) = D := ⟨_, rfl⟩
            rw [hD] at hb
            have HD := Lib.hid hD
            go_loopw [16, 17, 18] (fun bv tv r wr => ∃ (p nk : Nat) (x tI : Int), i ≤ p ∧ p ≤ k ∧ r = .int .i64 p ∧ bv = .int .i64 x ∧ tv = .int .i64 tI ∧ Hid (BSt W i k p x tI) ∧ Hid (2 * nk + 1 + T3p (k - p) ≤ 2 * nn + T3p (p - i) + D) ∧ Hid (KM W gm nk wr) ∧ Hid (w.grownBy wr (some gm))) (fun _ _ r _ => k - (intOf r).toNat)
            case atStart => exact ⟨i, nn, -1, -1, by omega, by omega, rfl, rfl, rfl, BSt.start W i k, by show _ ≤ _; rw [hD, Nat.sub_self]; show 2 * nn + 1 + D ≤ 2 * nn + 1 + D; omega, HK2.out, HGR2.out⟩
            case round =>
              obtain ⟨p, nk, x, tI, h3, h4, rfl, rfl, rfl, HBS, HN, HKR, HGR⟩ := hrel
              by_cases hpk : p < k
              · obtain ⟨a3, ha3⟩ : ∃ a3, T3p (p - i) = a3 := ⟨_, rfl⟩
                obtain ⟨b3, hb3⟩ : ∃ b3, T3p (k - (p + 1)) = b3 := ⟨_, rfl⟩
                have e3 : T3p (k - p) = 3 * b3 := by rw [show k - p = k - (p + 1) + 1 by omega, T3p, hb3]
                have e4 : T3p (p + 1 - i) = 3 * a3 := by rw [show p + 1 - i = p - i + 1 by omega, T3p, ha3]
                have e5 : 3 * a3 ≤ D := by rw [← e4, ← HD.out]; exact T3p_le (by omega)
                have e6 := HN.out
                rw [e3, ha3] at e6
                have hp1 : 1 ≤ b3 := by rw [← hb3]; exact T3p_pos _
                have hi3 := (H.out.grownB HGR.out HA.out)
                have hi3' := (H'.out.grownB HGR.out fun _ => HA'.out)
                have HC1 := Lib.hid (HREC.out i p nk wr (by omega) h3 (by omega) hi3 hi3' HKR.out (by rw [ha3]; omega))
                have l1 := lc_bd W n HW.out 20 i p (by omega) (by omega)
                have l2 := lc_bd W n HW.out 20 (p + 1) k (by omega) (by omega)
                have ek : IntKind.i64.wrap ((p : Int) + 1) = (p : Int) + 1 := IntWalk.i64_in _ (by omega)
                have HNX : Hid (∀ m1 m2 : Nat, m1 ≤ nk + a3 → m2 ≤ m1 + b3 → 2 * m2 + 1 + T3p (k - (p + 1)) ≤ 2 * nn + T3p (p + 1 - i) + D) := fun m1 m2 h5 h6 => by rw [hb3, e4]; omega
                have HBD : Hid (∀ m1 : Nat, m1 ≤ nk + a3 → m1 + T3p (k - (p + 1)) ≤ 900000000000) := fun m1 h5 => by rw [hb3]; omega
                have HA3 := Lib.hid ha3
                have HB3 := Lib.hid hb3
                have HREC2 : Hid (∀ (nn : Nat) (w : World), IS w A n c hits → IS w (some ⟨b, off, none⟩) (n + 1) c' gaps → KM W gm nn w → nn + T3p (k - (p + 1)) ≤ 900000000000 → Calls Try.prog 12 #[.slice A n c, .slice (some ⟨b, off, none⟩) (n + 1) c', I ((p : Int) + 1), I k, .map (some gm)] w (RetLA W gm nn (p + 1) k w)) := fun nn w a1 a2 a3 a4 => HREC.out (p + 1) k nn w (by omega) (by omega) hj a1 a2 a3 a4
                obtain ⟨u1, hu1⟩ : ∃ u1, lc W i p = u1 := ⟨_, rfl⟩
                obtain ⟨u2, hu2⟩ : ∃ u2, lc W (p + 1) k = u2 := ⟨_, rfl⟩
                rw [hu1] at l1
                rw [hu2] at l2
                have l1 : 0 ≤ u1 ∧ u1 ≤ 820000 := by omega
                have l2 : 0 ≤ u2 ∧ u2 ≤ 820000 := by omega
                have HU1 := Lib.hid hu1
                have HU2 := Lib.hid hu2
                clear e3 e4 e5 e6 hp1 hi3 hi3' ha3 hb3 hu1 hu2
                go_wp2_with fail
                refine HC1.out.mono ?_
                rintro e w3 ⟨rfl, ⟨n1, hn1, hk3⟩, hg3⟩
                rw [HU1.out]
                rw [HA3.out] at hn1
                have HGR3 := Lib.hid (HGR.out.trans hg3)
                have hi4 := (H.out.grownB HGR3.out HA.out)
                have hi4' := (H'.out.grownB HGR3.out fun _ => HA'.out)
                have HC2 := Lib.hid (HREC2.out n1 w3 hi4 hi4' hk3 (HBD.out n1 hn1))
                clear hk3 hg3 hi4 hi4'
                go_wp2_with fail
                refine HC2.out.mono ?_
                rintro e w4 ⟨rfl, ⟨n2, hn2, hk4⟩, hg4⟩
                rw [HU2.out]
                rw [HB3.out] at hn2
                have HGR4 := Lib.hid (HGR3.out.trans hg4)
                have HK4 := Lib.hid hk4
                have HN4 : Hid (2 * n2 + 1 + T3p (k - (p + 1)) ≤ 2 * nn + T3p (p + 1 - i) + D) := HNX.out n1 n2 hn1 hn2
                have f1 : IntKind.i64.wrap (u1 + u2) = u1 + u2 := IntWalk.i64_in _ (by omega)
                have f2 : IntKind.i64.wrap (u1 + u2 + y) = u1 + u2 + y := IntWalk.i64_in _ (by omega)
                clear hk4 hg4 hn1 hn2 HC1 HC2 HREC2 HNX HBD HREC HB1 HB2 HS HS2 HI1 HI1' HK1 HGR1 HGI hc0 hbb HGR HKR HN HGR3 H H' HA HA' HK HTI hii hil HK2 HGR2 HOB hrun
                by_cases hpi : p = i
                · have HBN : Hid (BSt W i k (p + 1) (u1 + u2 + y) p) := by
                    show BSt _ _ _ _ _ _
                    rw [← HU1.out, ← HU2.out, ← HY.out, hpi]
                    exact BSt.first W i k
                  have hxn : x < 0 := by
                    rcases HBS.out with ⟨_, hx, _⟩ | ⟨hh, _⟩ <;> omega
                  clear hpi
                  go_wp2
                  go_roundw
                  case rel => exact ⟨p + 1, n2, u1 + u2 + y, p, by omega, by omega, by go_num, rfl, rfl, HBN.out, HN4.out, HK4.out, HGR4.out⟩
                  case measure => simp [intOf]; omega
                · have hxb := HBS.out.neg (by omega) (by omega) h4 (fun i' j' a1 a2 => HW.out i' j' a1 (by omega))
                  have hxn : ¬ (x < 0) := by omega
                  by_cases hv : u1 + u2 + y < x
                  · have HBN : Hid (BSt W i k (p + 1) (u1 + u2 + y) p) := by
                      show BSt _ _ _ _ _ _
                      rw [← HU1.out, ← HU2.out, ← HY.out]
                      exact HBS.out.less (by omega) (by rw [HU1.out, HU2.out, HY.out]; exact hv)
                    clear hpi
                    go_wp2
                    go_roundw
                    case rel => exact ⟨p + 1, n2, u1 + u2 + y, p, by omega, by omega, by go_num, rfl, rfl, HBN.out, HN4.out, HK4.out, HGR4.out⟩
                    case measure => simp [intOf]; omega
                  · have HBN : Hid (BSt W i k (p + 1) x tI) := HBS.out.not (by omega) (by rw [HU1.out, HU2.out, HY.out]; exact hv)
                    clear hpi
                    go_wp2
                    go_roundw
                    case rel => exact ⟨p + 1, n2, x, tI, by omega, by omega, by go_num, rfl, rfl, HBN.out, HN4.out, HK4.out, HGR4.out⟩
                    case measure => simp [intOf]; omega
              · obtain rfl : p = k := by omega
                obtain ⟨hx, ht⟩ := HBS.out.end_ hlt
                have e6 := HN.out
                rw [Nat.sub_self, HD.out] at e6
                have e7 : 2 * nk + 1 + 1 ≤ 2 * nn + D + D := e6
                obtain ⟨w5, hst, hkm5, hg5⟩ := HKR.out.store (i := i) (j := p) (by omega) (by omega) (by omega)
                rw [← hx, ← ht] at hst
                have HX := Lib.hid hx
                have HT := Lib.hid ht
                have HK5 := Lib.hid hkm5
                have HG5 := Lib.hid (HGR.out.trans hg5)
                have HNN : Hid (nk + 1 ≤ nn + T3p (p - i)) := by show _ ≤ _; rw [HD.out]; omega
                clear hx ht e6 e7 hkm5 hg5
                go_wp2
                go_ret2
                exact ⟨by rw [HTI.out, ← HX.out, ← HT.out]; rfl, ⟨nk + 1, HNN.out, HK5.out⟩, HG5.out⟩
      · generalize hlc : lc W i j = x at *
        generalize htp : tp (lc W) i j = t at *
        have HLC := Lib.hid hlc
        have HTP := Lib.hid htp
        have hg0 := HK.out.lt
        clear hlc htp
        go_enter Try.func12, Try.ntmps12
        go_wp2
        go_quiet (fail)
        go_wp2
        go_ret2
        exact ⟨by rw [HLC.out, HTI.out]; rfl, ⟨nn, by omega, HK.out.kept (below_drewN ((Below.refl _ _).alloc (Nat.le_refl _) _) _)⟩, grown_drewN (World.grownBy_alloc w _ _) _⟩
    · obtain rfl : i = j := by omega
      have e1 : lc (wij hits gaps) i i = 0 := lc_zero _ (by omega)
      have e2 : topI (wij hits gaps) i i = -1 := if_neg (by omega)
      have HK := Lib.hid hk
      have he : ((i : Int) == (i : Int)) = true := by simp
      have E1 := Lib.hid e1
      have E2 := Lib.hid e2
      clear h h' hk e1 e2
      go_enter Try.func12, Try.ntmps12
      go_wp2
      go_ret2
      exact ⟨by rw [E1.out, E2.out]; rfl, ⟨nn, by omega, HK.out⟩, World.grownBy.refl _ _⟩
  termination_by m => m

end Go.Proofs.Ytconegligedniaa
