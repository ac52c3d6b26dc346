/-
  slices' symMergeCmpFunc of pairs, by ranks: the part behind is one alone.
-/
import Derived.Test.YtcjhglejmmphbaaHSym1
namespace Go.Proofs.Ytcjhglejmmphbaa
open Go.RowKit

set_option maxRecDepth 100000 in
set_option maxHeartbeats 8000000 in
theorem symOneR_any (g c a m b N : Nat) (X A Y : PL) (y0 : Int × Int) (w : World) (h : SB w g 37 (X ++ A ++ y0 :: Y)) (hN : (X ++ A ++ y0 :: Y).length = N) (hc : N ≤ c) (hN2 : N ≤ 1000) (ha : a = X.length) (hm : m = a + A.length) (hb : b = m + 1) (hA : 2 ≤ A.length) (hO : Ord A) (hk : ∀ x ∈ A, x.1 < y0.1) :
    Calls Try.prog 42 #[.slice (some ⟨g, 0, none⟩) N c, I a, I m, I b, fcmp] w (RetOrd g X (A ++ [y0]) Y w) := by
  obtain ⟨L, hL⟩ : ∃ L, X ++ A ++ y0 :: Y = L := ⟨_, rfl⟩
  have hni : ∀ h h', a ≤ h → h ≤ h' → h' < m → dp L h' ≤ dp L h := by
    intro h h' h1 h2 h3
    rw [← hL]
    exact ni_cat ha hO h h' h1 h2 (by omega)
  have HEND : Hid (∀ s, s ≤ m - a → (∀ h, a ≤ h → h < a + s → dp L m ≤ dp L h) → (∀ h, a + s ≤ h → h < m → dp L h < dp L m) → ∃ M : PL, M.Perm (A ++ [y0]) ∧ Ord M ∧ mvD L m (m - a - s) = X ++ M ++ Y) := fun s hs h1 h2 => by
    have := one_right (Y := Y) ha hm hO hk (s := s) (by omega) (by rw [hL]; exact h1) (by rw [hL]; exact h2)
    refine ⟨_, this.1, this.2, ?_⟩
    rw [← hL, mvD_dec (by omega) (m - a - s) (by omega), show A.length - (m - a - s) = s by omega]
    simp
  have HLN : Hid (L.length = N) := by show _ = _; rw [← hL]; exact hN
  have hbN : b ≤ N := by rw [← hN]; simp; omega
  rw [hL] at h
  have H := Lib.hid h
  have HNI := Lib.hid hni
  have hb1 : m + 1 ≤ b := by omega
  have hb2 : b ≤ m + 1 := by omega
  have ham : a + 2 ≤ m := by omega
  have hma : ((m : Int) - (a : Int) == 1) = false := by simp; omega
  have hbm : ((b : Int) - (m : Int) == 1) = true := by simp; omega
  clear h hni hL hN ha hm hb hO hk hA
  go_enter Try.func42, Try.ntmps42
  go_wp2
  go_loopg [14, 15] 1000 (fun g2 x y wr => ∃ i j : Nat, a ≤ i ∧ i ≤ j ∧ j ≤ m ∧ j - i < g2 ∧ x = .int .i64 i ∧ y = .int .i64 j ∧ (∀ h, a ≤ h → h < i → dp L m ≤ dp L h) ∧ (∀ h, j ≤ h → h < m → dp L h < dp L m) ∧ SB wr g 37 L ∧ Below g w wr)
  case atStart => exact ⟨a, m, Nat.le_refl _, by omega, Nat.le_refl _, by omega, rfl, rfl, fun h h1 h2 => absurd h1 (by omega), fun h h1 h2 => absurd h1 (by omega), H.out, Below.refl _ _⟩
  case round =>
    obtain ⟨i, j, hi, hij, hj, hg2, rfl, rfl, hlo, hhi, hsb, hnx⟩ := hrel
    have HLO := Lib.hid hlo
    have HHI := Lib.hid hhi
    have HSB := Lib.hid hsb
    have HNX := Lib.hid hnx
    clear hlo hhi hsb hnx
    by_cases hlt : i < j
    · go_wp2
      obtain ⟨q, hq⟩ : ∃ q : Nat, ((i : Int) + (j : Int)) / 2 = q := ⟨(i + j) / 2, by omega⟩
      rw [hq]
      have hq1 : i ≤ q := by omega
      have hq2 : q < j := by omega
      clear hq
      have hqN : q < N := by omega
      have haN : m < N := by omega
      obtain ⟨cq0, cq1⟩ := HSB.out.cell q (by rw [HLN.out]; exact hqN)
      obtain ⟨ca0, ca1⟩ := HSB.out.cell m (by rw [HLN.out]; exact haN)
      have hgs := HSB.out.lt
      have HCL : Hid (∀ w2 : World, Below wr.heap.size wr w2 → w2.cell? ⟨g, m * 2, none⟩ = some (I (ky L m)) ∧ w2.cell? ⟨g, m * 2 + 1, none⟩ = some (I (dp L m)) ∧ w2.cell? ⟨g, q * 2, none⟩ = some (I (ky L q)) ∧ w2.cell? ⟨g, q * 2 + 1, none⟩ = some (I (dp L q))) := fun w2 hb => ⟨(hb.cell (by exact hgs)).trans ca0, (hb.cell (by exact hgs)).trans ca1, (hb.cell (by exact hgs)).trans cq0, (hb.cell (by exact hgs)).trans cq1⟩
      have hqi : (q : Int) < (N : Int) := by omega
      have hq0 : (0 : Int) ≤ (q : Int) := by omega
      have hai : (m : Int) < (N : Int) := by omega
      have ha0 : (0 : Int) ≤ (m : Int) := by omega
      by_cases hcmp : dp L q < dp L m
      · have HCM := Lib.hid hcmp
        have HHI2 : Hid (∀ h, q ≤ h → h < m → dp L h < dp L m) := fun h h1 h2 => by
          have := HNI.out q h (by omega) h1 h2
          omega
        clear hcmp
        generalize ky L q = k1 at *
        generalize ky L m = k2 at *
        obtain ⟨v1, hv1⟩ : ∃ v1, dp L q = v1 := ⟨_, rfl⟩
        obtain ⟨v2, hv2⟩ : ∃ v2, dp L m = v2 := ⟨_, rfl⟩
        rw [hv1] at cq1 HCL HCM
        rw [hv2] at ca1 HCL HCM
        clear hv1 hv2
        go_region_held3 (fun W => W.cell? ⟨g, m * 2, none⟩ = some (I k2) ∧ W.cell? ⟨g, m * 2 + 1, none⟩ = some (I v2) ∧ W.cell? ⟨g, q * 2, none⟩ = some (I k1) ∧ W.cell? ⟨g, q * 2 + 1, none⟩ = some (I v1))
          (first
            | exact ⟨d0, d1, d2, d3⟩
            | exact ⟨ca0, ca1, cq0, cq1⟩)
          (first
            | (go_at_call 19
               refine (hcmp_t (k2, v2) (k1, v1) _ HCM.out).mono ?_
               rintro e w2 ⟨rfl, hb2⟩
               have hb2' : Below wr.heap.size wr w2 := (Below.refl _ _).drew.trans hb2
               obtain ⟨d0, d1, d2, d3⟩ := HCL.out w2 hb2'
               have HB2 := Lib.hid hb2'
               clear hb2 hb2'))
        have HS2 := Lib.hid (HSB.out.up HB2.out)
        have HN2 := Lib.hid (HNX.out.trans (HB2.out.mono (Nat.le_of_lt hgs)))
        clear d0 d1 d2 d3 cq0 cq1 ca0 ca1 HCL
        go_wp2
        go_roundg (gk - 1)
        case measure => omega
        case rel => exact ⟨i, q, hi, by omega, by omega, by omega, rfl, rfl, HLO.out, HHI2.out, HS2.out, HN2.out⟩
      · have HCM : Hid (dp L m ≤ dp L q) := by show _ ≤ _; omega
        have HLO2 : Hid (∀ h, a ≤ h → h < q + 1 → dp L m ≤ dp L h) := fun h h1 h2 => by
          have := HNI.out h q h1 (by omega) (by omega)
          omega
        clear hcmp
        generalize ky L q = k1 at *
        generalize ky L m = k2 at *
        obtain ⟨v1, hv1⟩ : ∃ v1, dp L q = v1 := ⟨_, rfl⟩
        obtain ⟨v2, hv2⟩ : ∃ v2, dp L m = v2 := ⟨_, rfl⟩
        rw [hv1] at cq1 HCL HCM
        rw [hv2] at ca1 HCL HCM
        clear hv1 hv2
        go_region_held3 (fun W => W.cell? ⟨g, m * 2, none⟩ = some (I k2) ∧ W.cell? ⟨g, m * 2 + 1, none⟩ = some (I v2) ∧ W.cell? ⟨g, q * 2, none⟩ = some (I k1) ∧ W.cell? ⟨g, q * 2 + 1, none⟩ = some (I v1))
          (first
            | exact ⟨d0, d1, d2, d3⟩
            | exact ⟨ca0, ca1, cq0, cq1⟩)
          (first
            | (go_at_call 19
               refine (hcmp_f (k2, v2) (k1, v1) _ (by have := HCM.out; show ¬ v1 < v2; omega)).mono ?_
               rintro e w2 ⟨r, hr, rfl, hb2⟩
               have hb2' : Below wr.heap.size wr w2 := (Below.refl _ _).drew.trans hb2
               obtain ⟨d0, d1, d2, d3⟩ := HCL.out w2 hb2'
               have hrn : ¬ r < 0 := by omega
               have hrd : decide (r < 0) = false := by simpa using hrn
               have HB2 := Lib.hid hb2'
               clear hb2 hb2'))
        have HS2 := Lib.hid (HSB.out.up HB2.out)
        have HN2 := Lib.hid (HNX.out.trans (HB2.out.mono (Nat.le_of_lt hgs)))
        clear d0 d1 d2 d3 cq0 cq1 ca0 ca1 HCL
        go_wp2
        go_roundg (gk - 1)
        case measure => omega
        case rel => exact ⟨q + 1, j, by omega, by omega, hj, by omega, vint (by omega), rfl, HLO2.out, HHI.out, HS2.out, HN2.out⟩
    · obtain rfl : i = j := by omega
      have HE := Lib.hid (HEND.out (i - a) (by omega) (fun h h1 h2 => HLO.out h h1 (by omega)) (fun h h1 h2 => HHI.out h (by omega) h2))
      have hia : m - a - (i - a) = m - i := by omega
      rw [hia] at HE
      clear HLO HHI HEND hia
      go_wp2
      go_loopg [17] 1000 (fun g2 x wr' => ∃ d k : Nat, k = m - d ∧ d ≤ m - i ∧ m - i - d < g2 ∧ x = .int .i64 k ∧ SB wr' g 37 (mvD L m d) ∧ Below g w wr')
      case atStart => exact ⟨0, m, rfl, by omega, by omega, rfl, HSB.out, HNX.out⟩
      case round =>
        obtain ⟨d, x, hx, hd, hdg, rfl, hsb, hny⟩ := hrel
        have hlen := mvD_length L m d
        rw [HLN.out] at hlen
        have HNY := Lib.hid hny
        by_cases hdl : d < m - i
        · obtain ⟨y, hy⟩ : ∃ y, m - d - 1 = y := ⟨_, rfl⟩
          have HSW : Hid (SB (swW wr g x y (ky (mvD L m d) x, dp (mvD L m d) x) (ky (mvD L m d) y, dp (mvD L m d) y)) g 37 (mvD L m (d + 1))) := by
            show SB _ _ _ _
            rw [mvD, hy, ← hx]
            exact hsb.swap x y (by omega) (by omega)
          obtain ⟨cx0, cx1⟩ := hsb.cell x (by omega)
          obtain ⟨cy0, cy1⟩ := hsb.cell y (by omega)
          have fx0 := hsb.frozen (x * 2)
          have fx1 := hsb.frozen (x * 2 + 1)
          have fy0 := hsb.frozen (y * 2)
          have fy1 := hsb.frozen (y * 2 + 1)
          have iy : IntKind.i64.wrap ((x : Int) - 1) = (y : Int) := by have := IntWalk.i64_in ((x : Int) - 1) (by omega); rw [this]; omega
          have hxN : x < N := by omega
          have hyN : y < N := by omega
          have hxy : y < x := by omega
          have hxi : (x : Int) < (N : Int) := by omega
          have hyi : (y : Int) < (N : Int) := by omega
          have hx0 : (0 : Int) ≤ (x : Int) := by omega
          have hy0 : (0 : Int) ≤ (y : Int) := by omega
          have hgs := hsb.lt
          have hx1 : i < x := by omega
          have HY : Hid (y = m - (d + 1)) := by show _ = _; omega
          have HYX : Hid ((x : Int) - 1 = (y : Int)) := by show _ = _; omega
          clear hsb hlen hx hy hny
          generalize ky (mvD L m d) x = p1 at *
          generalize dp (mvD L m d) x = p2 at *
          generalize ky (mvD L m d) y = q1 at *
          generalize dp (mvD L m d) y = q2 at *
          go_wp2
          go_region
          have HS := Lib.hid (show SB (swW wr g x y (p1, p2) (q1, q2)).drew g 37 (mvD L m (d + 1)) from HSW.out)
          have HBW := Lib.hid (show Below g w (swW wr g x y (p1, p2) (q1, q2)).drew from (below_swW HNY.out (Nat.le_refl _)).drew)
          rw [← swW_eq]
          clear cx0 cx1 cy0 cy1 fx0 fx1 fy0 fy1 HSW
          generalize (swW wr g x y (p1, p2) (q1, q2)).drew = W at *
          go_wp2
          go_roundg (gk - 1)
          case measure => omega
          case rel => exact ⟨d + 1, y, HY.out, by omega, by omega, vint (by first | exact HYX.out | omega), HS.out, HBW.out⟩
        · obtain rfl : d = m - i := by omega
          have hx1 : ¬ i < x := by omega
          have HSF := Lib.hid hsb
          clear hsb hny hlen hx
          go_wp2
          go_end0
          obtain ⟨M, hM1, hM2, hM3⟩ := HE.out
          refine ⟨M, hM1, hM2, rfl, ?_, HNY.out⟩
          rw [← hM3]
          exact HSF.out

end Go.Proofs.Ytcjhglejmmphbaa
