/-
  slices' symMergeCmpFunc of pairs, by ranks: one part is one alone.
-/
import Derived.Test.YtcjhglejmmphbaaHIns
namespace Go.Proofs.Ytcjhglejmmphbaa
open Go.RowKit

theorem dp_cat {X A Y : PL} {h a : Nat} (ha : a = X.length) (h1 : a ≤ h) (h2 : h < a + A.length) : dp (X ++ A ++ Y) h = dp A (h - a) := by
  rw [dp_left (by simp; omega), dp_right (by omega), ha]
theorem ni_cat {X A Y : PL} {a : Nat} (ha : a = X.length) (hO : Ord A) : ∀ h h', a ≤ h → h ≤ h' → h' < a + A.length → dp (X ++ A ++ Y) h' ≤ dp (X ++ A ++ Y) h := by
  intro h h' h1 h2 h3
  rw [dp_cat ha h1 (by omega), dp_cat ha (by omega) h3]
  exact ord_ni hO (by omega) (by omega)
/-- one alone that has come to its place among those behind it -/
theorem one_left {X B Y : PL} {x0 : Int × Int} {a m s : Nat} (ha : a = X.length) (hm : m = a + 1) (hO : Ord B) (hk : ∀ y ∈ B, x0.1 < y.1) (hs : s ≤ B.length)
    (h1 : ∀ h, m ≤ h → h < m + s → dp (X ++ x0 :: B ++ Y) a < dp (X ++ x0 :: B ++ Y) h) (h2 : ∀ h, m + s ≤ h → h < m + B.length → dp (X ++ x0 :: B ++ Y) h ≤ dp (X ++ x0 :: B ++ Y) a) :
    (B.take s ++ x0 :: B.drop s).Perm (x0 :: B) ∧ Ord (B.take s ++ x0 :: B.drop s) := by
  have e0 : dp (X ++ x0 :: B ++ Y) a = x0.2 := by
    have e : X ++ x0 :: B ++ Y = X ++ x0 :: (B ++ Y) := by simp
    rw [e, ha]
    exact dp_mid X (B ++ Y) x0
  have eB : ∀ h, h < B.length → dp (X ++ x0 :: B ++ Y) (m + h) = dp B h := by
    intro h hh
    have e : X ++ x0 :: B ++ Y = (X ++ [x0]) ++ B ++ Y := by simp
    rw [e, dp_cat (a := m) (by simp; omega) (by omega) (by omega)]
    congr 1
    omega
  rw [e0] at h1 h2
  constructor
  · refine List.perm_middle.trans ?_
    rw [List.take_append_drop]
  · refine ord_mid (by rw [List.take_append_drop]; exact hO) ?_ ?_
    · intro p hp
      obtain ⟨i, hi, rfl⟩ := List.getElem_of_mem hp
      rw [List.length_take] at hi
      rw [List.getElem_take]
      have := h1 (m + i) (by omega) (by omega)
      rw [eB i (by omega), dp_in (by omega)] at this
      exact .inl this
    · intro q hq
      obtain ⟨i, hi, rfl⟩ := List.getElem_of_mem hq
      rw [List.length_drop] at hi
      rw [List.getElem_drop]
      have := h2 (m + (s + i)) (by omega) (by omega)
      rw [eB (s + i) (by omega), dp_in (by omega)] at this
      have hkk := hk (B[s + i]'(by omega)) (List.getElem_mem _)
      unfold Lx
      omega
theorem one_right {X A Y : PL} {y0 : Int × Int} {a m s : Nat} (ha : a = X.length) (hm : m = a + A.length) (hO : Ord A) (hk : ∀ x ∈ A, x.1 < y0.1) (hs : s ≤ A.length)
    (h1 : ∀ h, a ≤ h → h < a + s → dp (X ++ A ++ y0 :: Y) m ≤ dp (X ++ A ++ y0 :: Y) h) (h2 : ∀ h, a + s ≤ h → h < m → dp (X ++ A ++ y0 :: Y) h < dp (X ++ A ++ y0 :: Y) m) :
    (A.take s ++ y0 :: A.drop s).Perm (A ++ [y0]) ∧ Ord (A.take s ++ y0 :: A.drop s) := by
  have e0 : dp (X ++ A ++ y0 :: Y) m = y0.2 := by
    have := dp_mid (X ++ A) Y y0
    rwa [show (X ++ A).length = m by simp; omega] at this
  have eA : ∀ h, h < A.length → dp (X ++ A ++ y0 :: Y) (a + h) = dp A h := by
    intro h hh
    rw [dp_cat ha (by omega) (by omega)]
    congr 1
    omega
  rw [e0] at h1 h2
  constructor
  · refine List.perm_middle.trans ?_
    rw [List.take_append_drop]
    exact (List.perm_append_singleton _ _).symm
  · refine ord_mid (by rw [List.take_append_drop]; exact hO) ?_ ?_
    · intro p hp
      obtain ⟨i, hi, rfl⟩ := List.getElem_of_mem hp
      rw [List.length_take] at hi
      rw [List.getElem_take]
      have := h1 (a + i) (by omega) (by omega)
      rw [eA i (by omega), dp_in (by omega)] at this
      have hkk := hk (A[i]'(by omega)) (List.getElem_mem _)
      unfold Lx
      omega
    · intro q hq
      obtain ⟨i, hi, rfl⟩ := List.getElem_of_mem hq
      rw [List.length_drop] at hi
      rw [List.getElem_drop]
      have := h2 (a + (s + i)) (by omega) (by omega)
      rw [eA (s + i) (by omega), dp_in (by omega)] at this
      exact .inl this

set_option maxRecDepth 100000 in
set_option maxHeartbeats 8000000 in
theorem symOneL_any (g c a m b N : Nat) (X B Y : PL) (x0 : Int × Int) (w : World) (h : SB w g 37 (X ++ x0 :: B ++ Y)) (hN : (X ++ x0 :: B ++ Y).length = N) (hc : N ≤ c) (hN2 : N ≤ 1000) (ha : a = X.length) (hm : m = a + 1) (hb : b = m + B.length) (hO : Ord B) (hk : ∀ y ∈ B, x0.1 < y.1) :
    Calls Try.prog 42 #[.slice (some ⟨g, 0, none⟩) N c, I a, I m, I b, fcmp] w (RetOrd g X (x0 :: B) Y w) := by
  obtain ⟨L, hL⟩ : ∃ L, X ++ x0 :: B ++ Y = L := ⟨_, rfl⟩
  have hni : ∀ h h', m ≤ h → h ≤ h' → h' < b → dp L h' ≤ dp L h := by
    intro h h' h1 h2 h3
    have e : X ++ x0 :: B ++ Y = (X ++ [x0]) ++ B ++ Y := by simp
    rw [← hL, e]
    exact ni_cat (a := m) (by simp; omega) hO h h' h1 h2 (by omega)
  have HEND : Hid (∀ s, s ≤ b - m → (∀ h, m ≤ h → h < m + s → dp L a < dp L h) → (∀ h, m + s ≤ h → h < b → dp L h ≤ dp L a) → ∃ M : PL, M.Perm (x0 :: B) ∧ Ord M ∧ mvU L a s = X ++ M ++ Y) := fun s hs h1 h2 => by
    have := one_left (Y := Y) ha hm hO hk (s := s) (by omega) (by rw [hL]; exact h1) (by rw [hL]; intro h h3 h4; exact h2 h h3 (by omega))
    refine ⟨_, this.1, this.2, ?_⟩
    rw [← hL, mvU_dec ha s (by omega)]
    simp
  have HLN : Hid (L.length = N) := by show _ = _; rw [← hL]; exact hN
  have hbN : b ≤ N := by rw [← hN]; simp; omega
  rw [hL] at h
  have H := Lib.hid h
  have HNI := Lib.hid hni
  have hm1 : a + 1 ≤ m := by omega
  have hm2 : m ≤ a + 1 := by omega
  have hmb : m ≤ b := by omega
  have hma : ((m : Int) - (a : Int) == 1) = true := by simp; omega
  clear h hni hL hN ha hm hb hO hk
  go_enter Try.func42, Try.ntmps42
  go_wp2
  go_loopg [10, 11] 1000 (fun g2 x y wr => ∃ i j : Nat, m ≤ i ∧ i ≤ j ∧ j ≤ b ∧ j - i < g2 ∧ x = .int .i64 i ∧ y = .int .i64 j ∧ (∀ h, m ≤ h → h < i → dp L a < dp L h) ∧ (∀ h, j ≤ h → h < b → dp L h ≤ dp L a) ∧ SB wr g 37 L ∧ Below g w wr)
  case atStart => exact ⟨m, b, Nat.le_refl _, by omega, Nat.le_refl _, by omega, rfl, rfl, fun h h1 h2 => absurd h1 (by omega), fun h h1 h2 => absurd h1 (by omega), H.out, Below.refl _ _⟩
  case round =>
    obtain ⟨i, j, hi, hij, hj, hg2, rfl, rfl, hlo, hhi, hsb, hnx⟩ := hrel
    have HLO := Lib.hid hlo
    have HHI := Lib.hid hhi
    have HSB := Lib.hid hsb
    have HNX := Lib.hid hnx
    clear hlo hhi hsb hnx
    by_cases hlt : i < j
    · go_wp2
      obtain ⟨q, hq⟩ : ∃ q : Nat, ((i : Int) + (j : Int)) / 2 = q := ⟨(i + j) / 2, by omega⟩
      rw [hq]
      have hq1 : i ≤ q := by omega
      have hq2 : q < j := by omega
      clear hq
      have hqN : q < N := by omega
      have haN : a < N := by omega
      obtain ⟨cq0, cq1⟩ := HSB.out.cell q (by rw [HLN.out]; exact hqN)
      obtain ⟨ca0, ca1⟩ := HSB.out.cell a (by rw [HLN.out]; exact haN)
      have hgs := HSB.out.lt
      have HCL : Hid (∀ w2 : World, Below wr.heap.size wr w2 → w2.cell? ⟨g, q * 2, none⟩ = some (I (ky L q)) ∧ w2.cell? ⟨g, q * 2 + 1, none⟩ = some (I (dp L q)) ∧ w2.cell? ⟨g, a * 2, none⟩ = some (I (ky L a)) ∧ w2.cell? ⟨g, a * 2 + 1, none⟩ = some (I (dp L a))) := fun w2 hb => ⟨(hb.cell (by exact hgs)).trans cq0, (hb.cell (by exact hgs)).trans cq1, (hb.cell (by exact hgs)).trans ca0, (hb.cell (by exact hgs)).trans ca1⟩
      have hqi : (q : Int) < (N : Int) := by omega
      have hq0 : (0 : Int) ≤ (q : Int) := by omega
      have hai : (a : Int) < (N : Int) := by omega
      have ha0 : (0 : Int) ≤ (a : Int) := by omega
      by_cases hcmp : dp L a < dp L q
      · have HCM := Lib.hid hcmp
        have HLO2 : Hid (∀ h, m ≤ h → h < q + 1 → dp L a < dp L h) := fun h h1 h2 => by
          have := HNI.out h q h1 (by omega) (by omega)
          omega
        clear hcmp
        generalize ky L q = k1 at *
        generalize ky L a = k2 at *
        obtain ⟨v1, hv1⟩ : ∃ v1, dp L q = v1 := ⟨_, rfl⟩
        obtain ⟨v2, hv2⟩ : ∃ v2, dp L a = v2 := ⟨_, rfl⟩
        rw [hv1] at cq1 HCL HCM
        rw [hv2] at ca1 HCL HCM
        clear hv1 hv2
        go_region_held3 (fun W => W.cell? ⟨g, q * 2, none⟩ = some (I k1) ∧ W.cell? ⟨g, q * 2 + 1, none⟩ = some (I v1) ∧ W.cell? ⟨g, a * 2, none⟩ = some (I k2) ∧ W.cell? ⟨g, a * 2 + 1, none⟩ = some (I v2))
          (first
            | exact ⟨d0, d1, d2, d3⟩
            | exact ⟨cq0, cq1, ca0, ca1⟩)
          (first
            | (go_at_call 19
               refine (hcmp_t (k1, v1) (k2, v2) _ HCM.out).mono ?_
               rintro e w2 ⟨rfl, hb2⟩
               have hb2' : Below wr.heap.size wr w2 := (Below.refl _ _).drew.trans hb2
               obtain ⟨d0, d1, d2, d3⟩ := HCL.out w2 hb2'
               have HB2 := Lib.hid hb2'
               clear hb2 hb2'))
        have HS2 := Lib.hid (HSB.out.up HB2.out)
        have HN2 := Lib.hid (HNX.out.trans (HB2.out.mono (Nat.le_of_lt hgs)))
        clear d0 d1 d2 d3 cq0 cq1 ca0 ca1 HCL
        go_wp2
        go_roundg (gk - 1)
        case measure => omega
        case rel => exact ⟨q + 1, j, by omega, by omega, hj, by omega, vint (by omega), rfl, HLO2.out, HHI.out, HS2.out, HN2.out⟩
      · have HCM : Hid (dp L q ≤ dp L a) := by show _ ≤ _; omega
        have HHI2 : Hid (∀ h, q ≤ h → h < b → dp L h ≤ dp L a) := fun h h1 h2 => by
          have := HNI.out q h (by omega) h1 h2
          omega
        clear hcmp
        generalize ky L q = k1 at *
        generalize ky L a = k2 at *
        obtain ⟨v1, hv1⟩ : ∃ v1, dp L q = v1 := ⟨_, rfl⟩
        obtain ⟨v2, hv2⟩ : ∃ v2, dp L a = v2 := ⟨_, rfl⟩
        rw [hv1] at cq1 HCL HCM
        rw [hv2] at ca1 HCL HCM
        clear hv1 hv2
        go_region_held3 (fun W => W.cell? ⟨g, q * 2, none⟩ = some (I k1) ∧ W.cell? ⟨g, q * 2 + 1, none⟩ = some (I v1) ∧ W.cell? ⟨g, a * 2, none⟩ = some (I k2) ∧ W.cell? ⟨g, a * 2 + 1, none⟩ = some (I v2))
          (first
            | exact ⟨d0, d1, d2, d3⟩
            | exact ⟨cq0, cq1, ca0, ca1⟩)
          (first
            | (go_at_call 19
               refine (hcmp_f (k1, v1) (k2, v2) _ (by have := HCM.out; show ¬ v2 < v1; omega)).mono ?_
               rintro e w2 ⟨r, hr, rfl, hb2⟩
               have hb2' : Below wr.heap.size wr w2 := (Below.refl _ _).drew.trans hb2
               obtain ⟨d0, d1, d2, d3⟩ := HCL.out w2 hb2'
               have hrn : ¬ r < 0 := by omega
               have HB2 := Lib.hid hb2'
               clear hb2 hb2'))
        have HS2 := Lib.hid (HSB.out.up HB2.out)
        have HN2 := Lib.hid (HNX.out.trans (HB2.out.mono (Nat.le_of_lt hgs)))
        clear d0 d1 d2 d3 cq0 cq1 ca0 ca1 HCL
        go_wp2
        go_roundg (gk - 1)
        case measure => omega
        case rel => exact ⟨i, q, hi, by omega, by omega, by omega, rfl, rfl, HLO.out, HHI2.out, HS2.out, HN2.out⟩
    · obtain rfl : i = j := by omega
      have HE := Lib.hid (HEND.out (i - m) (by omega) (fun h h1 h2 => HLO.out h h1 (by omega)) (fun h h1 h2 => HHI.out h (by omega) h2))
      clear HLO HHI HEND
      go_wp2
      go_loopg [13] 1000 (fun g2 x wr' => ∃ d k : Nat, k = a + d ∧ d ≤ i - m ∧ i - m - d < g2 ∧ x = .int .i64 k ∧ SB wr' g 37 (mvU L a d) ∧ Below g w wr')
      case atStart => exact ⟨0, a, rfl, by omega, by omega, rfl, HSB.out, HNX.out⟩
      case round =>
        obtain ⟨d, x, hx, hd, hdg, rfl, hsb, hny⟩ := hrel
        have hlen := mvU_length L a d
        rw [HLN.out] at hlen
        have HNY := Lib.hid hny
        by_cases hdl : d < i - m
        · obtain ⟨y, hy⟩ : ∃ y, a + d + 1 = y := ⟨_, rfl⟩
          have HSW : Hid (SB (swW wr g x y (ky (mvU L a d) x, dp (mvU L a d) x) (ky (mvU L a d) y, dp (mvU L a d) y)) g 37 (mvU L a (d + 1))) := by
            show SB _ _ _ _
            rw [mvU, hy, ← hx]
            exact hsb.swap x y (by omega) (by omega)
          obtain ⟨cx0, cx1⟩ := hsb.cell x (by omega)
          obtain ⟨cy0, cy1⟩ := hsb.cell y (by omega)
          have fx0 := hsb.frozen (x * 2)
          have fx1 := hsb.frozen (x * 2 + 1)
          have fy0 := hsb.frozen (y * 2)
          have fy1 := hsb.frozen (y * 2 + 1)
          have iy : IntKind.i64.wrap ((x : Int) + 1) = (y : Int) := by have := IntWalk.i64_in ((x : Int) + 1) (by omega); rw [this]; omega
          have hxN : x < N := by omega
          have hyN : y < N := by omega
          have hxy : x < y := by omega
          have hxi : (x : Int) < (N : Int) := by omega
          have hyi : (y : Int) < (N : Int) := by omega
          have hx0 : (0 : Int) ≤ (x : Int) := by omega
          have hy0 : (0 : Int) ≤ (y : Int) := by omega
          have hgs := hsb.lt
          have hx1 : (x : Int) < (i : Int) - 1 := by omega
          have HY : Hid (y = a + (d + 1)) := by show _ = _; omega
          have HYX : Hid ((x : Int) + 1 = (y : Int)) := by show _ = _; omega
          clear hsb hlen hx hy hny
          generalize ky (mvU L a d) x = p1 at *
          generalize dp (mvU L a d) x = p2 at *
          generalize ky (mvU L a d) y = q1 at *
          generalize dp (mvU L a d) y = q2 at *
          go_wp2
          go_region
          have HS := Lib.hid (show SB (swW wr g x y (p1, p2) (q1, q2)).drew g 37 (mvU L a (d + 1)) from HSW.out)
          have HBW := Lib.hid (show Below g w (swW wr g x y (p1, p2) (q1, q2)).drew from (below_swW HNY.out (Nat.le_refl _)).drew)
          rw [← swW_eq]
          clear cx0 cx1 cy0 cy1 fx0 fx1 fy0 fy1 HSW
          generalize (swW wr g x y (p1, p2) (q1, q2)).drew = W at *
          go_wp2
          go_roundg (gk - 1)
          case measure => omega
          case rel => exact ⟨d + 1, y, HY.out, by omega, by omega, vint (by first | exact HYX.out | omega), HS.out, HBW.out⟩
        · obtain rfl : d = i - m := by omega
          have hx1 : ¬ (x : Int) < (i : Int) - 1 := by omega
          have HSF := Lib.hid hsb
          clear hsb hny hlen hx
          go_wp2
          go_end0
          obtain ⟨M, hM1, hM2, hM3⟩ := HE.out
          refine ⟨M, hM1, hM2, rfl, ?_, HNY.out⟩
          rw [← hM3]
          exact HSF.out

end Go.Proofs.Ytcjhglejmmphbaa
