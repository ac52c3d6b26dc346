/-
  slices' symMergeCmpFunc of pairs, by ranks.
-/
import Derived.Test.YtcjhglejmmphbaaHSym2
import Derived.Test.YtcjhglejmmphbaaHRot
import Derived.Deep.DeepCutAuto
namespace Go.Proofs.Ytcjhglejmmphbaa
open Go.RowKit

/-- where the two parts are cut -/
theorem sym_split {X A B Y : PL} {a m b mid n s0 r0 s : Nat} (ha : a = X.length) (hm : m = a + A.length) (hb : b = m + B.length) (hOA : Ord A) (hOB : Ord B) (hn : n = mid + m) (h1 : a + b ≤ 2 * mid + 1) (h2 : 2 * mid ≤ a + b)
    (hsr : (mid < m ∧ s0 + b = n ∧ r0 = mid) ∨ (m ≤ mid ∧ s0 = a ∧ r0 = m)) (hs0 : s0 ≤ s) (hs1 : s ≤ r0)
    (hlo : ∀ c, s0 ≤ c → c < s → dp (X ++ A ++ B ++ Y) (n - 1 - c) ≤ dp (X ++ A ++ B ++ Y) c) (hhi : ∀ c, s ≤ c → c < r0 → dp (X ++ A ++ B ++ Y) c < dp (X ++ A ++ B ++ Y) (n - 1 - c)) :
    (∀ x ∈ A.take (s - a), ∀ y ∈ B.drop (mid - s), y.2 ≤ x.2) ∧ (∀ x ∈ A.drop (s - a), ∀ y ∈ B.take (mid - s), x.2 < y.2) := by
  have eA : ∀ h, h < A.length → dp (X ++ A ++ B ++ Y) (a + h) = dp A h := by
    intro h hh
    rw [List.append_assoc (X ++ A), dp_cat ha (by omega) (by omega)]
    congr 1
    omega
  have eB : ∀ h, h < B.length → dp (X ++ A ++ B ++ Y) (m + h) = dp B h := by
    intro h hh
    rw [dp_cat (X := X ++ A) (a := m) (by simp; omega) (by omega) (by omega)]
    congr 1
    omega
  constructor
  · intro x hx y hy
    obtain ⟨i, hi, rfl⟩ := List.getElem_of_mem hx
    obtain ⟨j, hj, rfl⟩ := List.getElem_of_mem hy
    rw [List.length_take] at hi
    rw [List.length_drop] at hj
    rw [List.getElem_take, List.getElem_drop, ← dp_in, ← dp_in]
    have hc := hlo (s - 1) (by omega) (by omega)
    have e1 : n - 1 - (s - 1) = m + (mid - s) := by omega
    have e2 : s - 1 = a + (s - 1 - a) := by omega
    rw [e1, e2, eB _ (by omega), eA _ (by omega)] at hc
    have n1 := ord_ni hOA (i := i) (j := s - 1 - a) (by omega) (by omega)
    have n2 := ord_ni hOB (i := mid - s) (j := mid - s + j) (by omega) (by omega)
    omega
  · intro x hx y hy
    obtain ⟨i, hi, rfl⟩ := List.getElem_of_mem hx
    obtain ⟨j, hj, rfl⟩ := List.getElem_of_mem hy
    rw [List.length_drop] at hi
    rw [List.length_take] at hj
    rw [List.getElem_take, List.getElem_drop, ← dp_in, ← dp_in]
    have hc := hhi s (Nat.le_refl _) (by omega)
    have e1 : n - 1 - s = m + (mid - s - 1) := by omega
    have e3 : dp (X ++ A ++ B ++ Y) s = dp A (s - a) := by
      have := eA (s - a) (by omega)
      rwa [show a + (s - a) = s by omega] at this
    rw [e1, e3, eB _ (by omega)] at hc
    have n1 := ord_ni hOA (i := s - a) (j := s - a + i) (by omega) (by omega)
    have n2 := ord_ni hOB (i := j) (j := mid - s - 1) (by omega) (by omega)
    omega

/-- symMerge of parts of no more than f -/
def SymAt (f : Nat) : Prop := ∀ (g c a m b N : Nat) (X A B Y : PL) (w : World), A.length + B.length ≤ f → SB w g 37 (X ++ A ++ B ++ Y) → (X ++ A ++ B ++ Y).length = N → N ≤ c → N ≤ 1000 → a = X.length → m = a + A.length → b = m + B.length → 0 < A.length → 0 < B.length → Ord A → Ord B → (∀ x ∈ A, ∀ y ∈ B, x.1 < y.1) →
    Calls Try.prog 42 #[.slice (some ⟨g, 0, none⟩) N c, I a, I m, I b, fcmp] w (RetOrd g X (A ++ B) Y w)
theorem SymAt.i {f : Nat} (ih : SymAt f) (g c a m b N : Nat) (X A B Y L : PL) (w : World) (hf : A.length + B.length ≤ f) (h : SB w g 37 L) (hL : L = X ++ A ++ B ++ Y) (hN : L.length = N) (hc : N ≤ c) (hN2 : N ≤ 1000) (ha : a = X.length) (hm : m = a + A.length) (hb : b = m + B.length) (hA : 0 < A.length) (hB : 0 < B.length) (hOA : Ord A) (hOB : Ord B) (hk : ∀ x ∈ A, ∀ y ∈ B, x.1 < y.1) (ai mi bi : Int) (hai : ai = a) (hmi : mi = m) (hbi : bi = b) :
    Calls Try.prog 42 #[.slice (some ⟨g, 0, none⟩) N c, .int .i64 ai, .int .i64 mi, .int .i64 bi, fcmp] w (RetOrd g X (A ++ B) Y w) := by
  subst hai hmi hbi hL
  exact ih g c a m b N X A B Y w hf h hN hc hN2 ha hm hb hA hB hOA hOB hk

set_option maxRecDepth 100000 in
set_option maxHeartbeats 16000000 in
theorem symStep (f : Nat) (ih : SymAt f) (g c a m b N : Nat) (X A B Y : PL) (w : World) (hf : A.length + B.length ≤ f + 1) (h : SB w g 37 (X ++ A ++ B ++ Y)) (hN : (X ++ A ++ B ++ Y).length = N) (hc : N ≤ c) (hN2 : N ≤ 1000) (ha : a = X.length) (hm : m = a + A.length) (hb : b = m + B.length) (hA : 2 ≤ A.length) (hB : 2 ≤ B.length) (hOA : Ord A) (hOB : Ord B) (hk : ∀ x ∈ A, ∀ y ∈ B, x.1 < y.1) :
    Calls Try.prog 42 #[.slice (some ⟨g, 0, none⟩) N c, I a, I m, I b, fcmp] w (RetOrd g X (A ++ B) Y w) := by
  obtain ⟨L, hL⟩ : ∃ L, X ++ A ++ B ++ Y = L := ⟨_, rfl⟩
  obtain ⟨mid, hmid⟩ : ∃ mid : Nat, ((a : Int) + (b : Int)) / 2 = mid := ⟨(a + b) / 2, by omega⟩
  have hd1 : a + b ≤ 2 * mid + 1 := by omega
  have hd2 : 2 * mid ≤ a + b := by omega
  obtain ⟨n, hn⟩ : ∃ n : Nat, n = mid + m := ⟨_, rfl⟩
  have hni : (mid : Int) + (m : Int) = (n : Int) := by omega
  obtain ⟨p, hp⟩ : ∃ p : Nat, p + 1 = n := ⟨n - 1, by omega⟩
  have hpi : (n : Int) - 1 = (p : Int) := by omega
  have niA : ∀ h h', a ≤ h → h ≤ h' → h' < m → dp L h' ≤ dp L h := by
    intro h h' h1 h2 h3
    rw [← hL, List.append_assoc (X ++ A)]
    exact ni_cat ha hOA h h' h1 h2 (by omega)
  have niB : ∀ h h', m ≤ h → h ≤ h' → h' < b → dp L h' ≤ dp L h := by
    intro h h' h1 h2 h3
    rw [← hL]
    exact ni_cat (X := X ++ A) (a := m) (by simp; omega) hOB h h' h1 h2 (by omega)
  have HSPL : Hid (∀ s0 r0 s, ((mid < m ∧ s0 + b = n ∧ r0 = mid) ∨ (m ≤ mid ∧ s0 = a ∧ r0 = m)) → s0 ≤ s → s ≤ r0 → (∀ c, s0 ≤ c → c < s → dp L (n - 1 - c) ≤ dp L c) → (∀ c, s ≤ c → c < r0 → dp L c < dp L (n - 1 - c)) →
      (∀ x ∈ A.take (s - a), ∀ y ∈ B.drop (mid - s), y.2 ≤ x.2) ∧ (∀ x ∈ A.drop (s - a), ∀ y ∈ B.take (mid - s), x.2 < y.2)) := fun s0 r0 s h1 h2 h3 h4 h5 =>
    sym_split (Y := Y) ha hm hb hOA hOB hn hd1 hd2 h1 h2 h3 (by rw [hL]; exact h4) (by rw [hL]; exact h5)
  have HLN : Hid (L.length = N) := by show _ = _; rw [← hL]; exact hN
  have hbN : b ≤ N := by rw [← hN]; simp; omega
  have HL := Lib.hid hL
  have HIH := Lib.hid ih
  have HX := Lib.hid ha
  have HALEN : Hid (A.length = m - a) := by show _ = _; omega
  have HBLEN : Hid (B.length = b - m) := by show _ = _; omega
  have HOA := Lib.hid hOA
  have HOB := Lib.hid hOB
  have HK := Lib.hid hk
  have hfm : b - a ≤ f + 1 := by omega
  rw [hL] at h
  have H := Lib.hid h
  have HNA := Lib.hid niA
  have HNB := Lib.hid niB
  have ham : a + 2 ≤ m := by omega
  have hmb : m + 2 ≤ b := by omega
  have hn1 : n ≤ mid + m := by omega
  have hn2 : mid + m ≤ n := by omega
  have hp1 : p + 1 ≤ n := by omega
  have hp2 : n ≤ p + 1 := by omega
  have hma : ((m : Int) - (a : Int) == 1) = false := by simp; omega
  have hbm : ((b : Int) - (m : Int) == 1) = false := by simp; omega
  clear h niA niB hL hN ha hm hb hOA hOB hk hA hB hf ih hn hp
  go_enter Try.func42, Try.ntmps42
  go_upto_if 140 with fail
  go_cut [20, 21] (fun s20 s21 wx => wx = w ∧ ∃ s0 r0 : Nat, s20 = .int .i64 s0 ∧ s21 = .int .i64 r0 ∧ ((mid < m ∧ s0 + b = n ∧ r0 = mid) ∨ (m ≤ mid ∧ s0 = a ∧ r0 = m)))
  case first =>
    by_cases hmm : mid < m
    · have hmd : decide (mid < m) = true := by simpa using hmm
      go_wp2_with fail
      go_meet
      exact ⟨rfl, n - b, mid, vint (by omega), rfl, .inl ⟨hmm, by omega, rfl⟩⟩
    · have hmd : decide (mid < m) = false := by simpa using hmm
      go_wp2_with fail
      go_meet
      exact ⟨rfl, a, m, rfl, rfl, .inr ⟨by omega, rfl, rfl⟩⟩
  case rest =>
  obtain ⟨rfl, s0, r0, rfl, rfl, hsr⟩ := hcut
  obtain ⟨W0, rfl⟩ : ∃ x, x = wc := ⟨wc, rfl⟩
  have hs0a : a ≤ s0 := by omega
  have hsr0 : s0 ≤ r0 := by omega
  have hr0m : r0 ≤ m := by omega
  have hr0d : r0 ≤ mid := by omega
  have hs0b : n ≤ s0 + b := by omega
  have HSR := Lib.hid hsr
  clear hsr
  go_wp2
  go_loopg [20, 21] 1000 (fun g2 x y wr => ∃ i j : Nat, s0 ≤ i ∧ i ≤ j ∧ j ≤ r0 ∧ j - i < g2 ∧ x = .int .i64 i ∧ y = .int .i64 j ∧ (∀ c, s0 ≤ c → c < i → dp L (n - 1 - c) ≤ dp L c) ∧ (∀ c, j ≤ c → c < r0 → dp L c < dp L (n - 1 - c)) ∧ SB wr g 37 L ∧ Below g W0 wr)
  case atStart => exact ⟨s0, r0, Nat.le_refl _, by omega, Nat.le_refl _, by omega, rfl, rfl, fun h h1 h2 => absurd h1 (by omega), fun h h1 h2 => absurd h1 (by omega), H.out, Below.refl _ _⟩
  case round =>
  obtain ⟨i, j, hi, hij, hj, hg2, rfl, rfl, hlo, hhi, hsb, hnx⟩ := hrel
  have HLO := Lib.hid hlo
  have HHI := Lib.hid hhi
  have HSB := Lib.hid hsb
  have HNX := Lib.hid hnx
  clear hlo hhi hsb hnx
  by_cases hlt : i < j
  · go_wp2
    obtain ⟨q, hq⟩ : ∃ q : Nat, ((i : Int) + (j : Int)) / 2 = q := ⟨(i + j) / 2, by omega⟩
    rw [hq]
    have hq1 : i ≤ q := by omega
    have hq2 : q < j := by omega
    clear hq
    obtain ⟨z, hz⟩ : ∃ z, n - 1 - q = z := ⟨_, rfl⟩
    have hzi : IntKind.i64.wrap ((p : Int) - (q : Int)) = (z : Int) := by have := IntWalk.i64_in ((p : Int) - (q : Int)) (by omega); rw [this]; omega
    have hzm : m ≤ z := by omega
    have hzb : z < b := by omega
    have hqN : q < N := by omega
    have hzN : z < N := by omega
    obtain ⟨cq0, cq1⟩ := HSB.out.cell q (by rw [HLN.out]; exact hqN)
    obtain ⟨cz0, cz1⟩ := HSB.out.cell z (by rw [HLN.out]; exact hzN)
    have hgs := HSB.out.lt
    have HCL : Hid (∀ w2 : World, Below wr.heap.size wr w2 → w2.cell? ⟨g, z * 2, none⟩ = some (I (ky L z)) ∧ w2.cell? ⟨g, z * 2 + 1, none⟩ = some (I (dp L z)) ∧ w2.cell? ⟨g, q * 2, none⟩ = some (I (ky L q)) ∧ w2.cell? ⟨g, q * 2 + 1, none⟩ = some (I (dp L q))) := fun w2 hb => ⟨(hb.cell (by exact hgs)).trans cz0, (hb.cell (by exact hgs)).trans cz1, (hb.cell (by exact hgs)).trans cq0, (hb.cell (by exact hgs)).trans cq1⟩
    have hqi : (q : Int) < (N : Int) := by omega
    have hq0 : (0 : Int) ≤ (q : Int) := by omega
    have hzii : (z : Int) < (N : Int) := by omega
    have hz0 : (0 : Int) ≤ (z : Int) := by omega
    by_cases hcmp : dp L q < dp L z
    · have HCM := Lib.hid hcmp
      have HHI2 : Hid (∀ c, q ≤ c → c < r0 → dp L c < dp L (n - 1 - c)) := fun c h1 h2 => by
        have e1 := HNA.out q c (by omega) h1 (by omega)
        have e2 := HNB.out (n - 1 - c) z (by omega) (by omega) hzb
        omega
      clear hcmp hz
      generalize ky L q = k1 at *
      generalize ky L z = k2 at *
      obtain ⟨v1, hv1⟩ : ∃ v1, dp L q = v1 := ⟨_, rfl⟩
      obtain ⟨v2, hv2⟩ : ∃ v2, dp L z = v2 := ⟨_, rfl⟩
      rw [hv1] at cq1 HCL HCM
      rw [hv2] at cz1 HCL HCM
      clear hv1 hv2
      go_region_held3 (fun W => W.cell? ⟨g, z * 2, none⟩ = some (I k2) ∧ W.cell? ⟨g, z * 2 + 1, none⟩ = some (I v2) ∧ W.cell? ⟨g, q * 2, none⟩ = some (I k1) ∧ W.cell? ⟨g, q * 2 + 1, none⟩ = some (I v1))
        (first
          | exact ⟨d0, d1, d2, d3⟩
          | exact ⟨cz0, cz1, cq0, cq1⟩)
        (first
          | (go_at_call 19
             refine (hcmp_t (k2, v2) (k1, v1) _ HCM.out).mono ?_
             rintro e w2 ⟨rfl, hb2⟩
             have hb2' : Below wr.heap.size wr w2 := (Below.refl _ _).drew.trans hb2
             obtain ⟨d0, d1, d2, d3⟩ := HCL.out w2 hb2'
             have HB2 := Lib.hid hb2'
             clear hb2 hb2'))
      have HS2 := Lib.hid (HSB.out.up HB2.out)
      have HN2 := Lib.hid (HNX.out.trans (HB2.out.mono (Nat.le_of_lt hgs)))
      clear d0 d1 d2 d3 cq0 cq1 cz0 cz1 HCL
      go_wp2
      go_roundg (gk - 1)
      case measure => omega
      case rel => exact ⟨i, q, hi, by omega, by omega, by omega, rfl, rfl, HLO.out, HHI2.out, HS2.out, HN2.out⟩
    · have HCM : Hid (dp L z ≤ dp L q) := by show _ ≤ _; omega
      have HLO2 : Hid (∀ c, s0 ≤ c → c < q + 1 → dp L (n - 1 - c) ≤ dp L c) := fun c h1 h2 => by
        have e1 := HNA.out c q (by omega) (by omega) (by omega)
        have e2 := HNB.out z (n - 1 - c) hzm (by omega) (by omega)
        omega
      clear hcmp hz
      generalize ky L q = k1 at *
      generalize ky L z = k2 at *
      obtain ⟨v1, hv1⟩ : ∃ v1, dp L q = v1 := ⟨_, rfl⟩
      obtain ⟨v2, hv2⟩ : ∃ v2, dp L z = v2 := ⟨_, rfl⟩
      rw [hv1] at cq1 HCL HCM
      rw [hv2] at cz1 HCL HCM
      clear hv1 hv2
      go_region_held3 (fun W => W.cell? ⟨g, z * 2, none⟩ = some (I k2) ∧ W.cell? ⟨g, z * 2 + 1, none⟩ = some (I v2) ∧ W.cell? ⟨g, q * 2, none⟩ = some (I k1) ∧ W.cell? ⟨g, q * 2 + 1, none⟩ = some (I v1))
        (first
          | exact ⟨d0, d1, d2, d3⟩
          | exact ⟨cz0, cz1, cq0, cq1⟩)
        (first
          | (go_at_call 19
             refine (hcmp_f (k2, v2) (k1, v1) _ (by have := HCM.out; show ¬ v1 < v2; omega)).mono ?_
             rintro e w2 ⟨r, hr, rfl, hb2⟩
             have hb2' : Below wr.heap.size wr w2 := (Below.refl _ _).drew.trans hb2
             obtain ⟨d0, d1, d2, d3⟩ := HCL.out w2 hb2'
             have hrn : ¬ r < 0 := by omega
             have hrd : decide (r < 0) = false := by simpa using hrn
             have HB2 := Lib.hid hb2'
             clear hb2 hb2'))
      have HS2 := Lib.hid (HSB.out.up HB2.out)
      have HN2 := Lib.hid (HNX.out.trans (HB2.out.mono (Nat.le_of_lt hgs)))
      clear d0 d1 d2 d3 cq0 cq1 cz0 cz1 HCL
      go_wp2
      go_roundg (gk - 1)
      case measure => omega
      case rel => exact ⟨q + 1, j, by omega, by omega, hj, by omega, vint (by omega), rfl, HLO2.out, HHI.out, HS2.out, HN2.out⟩
  obtain rfl : i = j := by omega
  have hsp := HSPL.out s0 r0 i HSR.out hi hj HLO.out HHI.out
  obtain ⟨e, he⟩ : ∃ e : Nat, (n : Int) - (i : Int) = e := ⟨n - i, by omega⟩
  obtain ⟨A1, hA1⟩ : ∃ A1, A.take (i - a) = A1 := ⟨_, rfl⟩
  obtain ⟨A2, hA2⟩ : ∃ A2, A.drop (i - a) = A2 := ⟨_, rfl⟩
  obtain ⟨B1, hB1⟩ : ∃ B1, B.take (mid - i) = B1 := ⟨_, rfl⟩
  obtain ⟨B2, hB2⟩ : ∃ B2, B.drop (mid - i) = B2 := ⟨_, rfl⟩
  rw [hA1, hA2, hB1, hB2] at hsp
  have HSP := Lib.hid hsp
  have hAe : A1 ++ A2 = A := by rw [← hA1, ← hA2, List.take_append_drop]
  have hBe : B1 ++ B2 = B := by rw [← hB1, ← hB2, List.take_append_drop]
  have hl1 : A1.length = i - a := by rw [← hA1, List.length_take, HALEN.out]; omega
  have hl2 : A2.length = m - i := by rw [← hA2, List.length_drop, HALEN.out]; omega
  have hl3 : B1.length = mid - i := by rw [← hB1, List.length_take, HBLEN.out]; omega
  have hl4 : B2.length = b - e := by rw [← hB2, List.length_drop, HBLEN.out]; omega
  have he1 : e + i ≤ n := by omega
  have he2 : n ≤ e + i := by omega
  have HAE := Lib.hid hAe
  have HBE := Lib.hid hBe
  have H1 := Lib.hid hl1
  have H2 := Lib.hid hl2
  have H3 := Lib.hid hl3
  have H4 := Lib.hid hl4
  have HXA : Hid (X.length = a) := HX.out.symm
  have HFIN : Hid (∀ M1 M2 : PL, M1.Perm (A1 ++ B1) → Ord M1 → M2.Perm (A2 ++ B2) → Ord M2 → (M1 ++ M2).Perm (A ++ B) ∧ Ord (M1 ++ M2)) := fun M1 M2 p1 o1 p2 o2 => by
    have := ord_parts (A1 := A1) (A2 := A2) (B1 := B1) (B2 := B2) (by rw [HAE.out]; exact HOA.out) (by rw [HBE.out]; exact HOB.out) (by rw [HAE.out, HBE.out]; exact HK.out) HSP.out.1 HSP.out.2 p1 o1 p2 o2
    rw [HAE.out, HBE.out] at this
    exact ⟨this.2, this.1⟩
  have HLL : Hid (L = X ++ A1 ++ A2 ++ B1 ++ (B2 ++ Y)) := by show _ = _; rw [← HL.out, ← HAE.out, ← HBE.out]; simp
  have HO1 : Hid (Ord A1 ∧ Ord A2 ∧ Ord B1 ∧ Ord B2) := by
    have h1 := HOA.out
    have h2 := HOB.out
    rw [← HAE.out] at h1
    rw [← HBE.out] at h2
    exact ⟨(List.pairwise_append.1 h1).1, (List.pairwise_append.1 h1).2.1, (List.pairwise_append.1 h2).1, (List.pairwise_append.1 h2).2.1⟩
  have HK1 : Hid (∀ x ∈ A1, ∀ y ∈ B1, x.1 < y.1) := fun x hx y hy => HK.out x (by rw [← HAE.out]; exact List.mem_append.2 (.inl hx)) y (by rw [← HBE.out]; exact List.mem_append.2 (.inl hy))
  have HK2 : Hid (∀ x ∈ A2, ∀ y ∈ B2, x.1 < y.1) := fun x hx y hy => HK.out x (by rw [← HAE.out]; exact List.mem_append.2 (.inr hx)) y (by rw [← HBE.out]; exact List.mem_append.2 (.inr hy))
  clear hsp hA1 hA2 hB1 hB2 hAe hBe hl1 hl2 hl3 hl4 HLO HHI HSPL HSR HNA HNB
  rcases Nat.lt_or_ge i m with hc1 | hc1
  · rcases Nat.lt_or_ge m e with hc2 | hc2
    · have b1 : decide (i < m) = true := by simpa using hc1
      have b2 : decide (m < e) = true := by simpa using hc2
      have hs1 : SB wr g 37 (X ++ A1 ++ A2 ++ B1 ++ (B2 ++ Y)) := by rw [← HLL.out]; exact HSB.out
      have HS1 := Lib.hid hs1
      clear hs1
      go_wp2_with fail
      refine (rotate_i fcmp g c i m e N (X ++ A1) A2 B1 (B2 ++ Y) wr HS1.out (by rw [← HLL.out]; exact HLN.out) hc hN2 (by have := H1.out; have := HXA.out; simp; omega) (by have := H1.out; have := H2.out; have := HXA.out; simp; omega) (by have := H3.out; omega) (by have := H2.out; omega) (by have := H3.out; omega) _ _ _ (by omega) (by omega) (by omega)).mono ?_
      rintro e' w2 ⟨rfl, hs2, hb2⟩
      have HS2 := Lib.hid (show SB w2 g 37 (X ++ A1 ++ B1 ++ (A2 ++ B2 ++ Y)) by simpa using hs2)
      have HN2 := Lib.hid (HNX.out.trans hb2)
      clear hs2 hb2 HS1 HSB HNX
      have HGS := Lib.hid HS2.out.lt
      rcases Nat.lt_or_ge a i with hc3 | hc3
      · rcases Nat.lt_or_ge i mid with hc4 | hc4
        · have b3 : decide (a < i) = true := by simpa using hc3
          have b4 : decide (i < mid) = true := by simpa using hc4
          go_wp2_with fail
          refine (HIH.out.i g c a i mid N X A1 B1 (A2 ++ B2 ++ Y) _ w2 (by have := H1.out; have := H3.out; omega) HS2.out rfl (by have h5 := congrArg List.length HLL.out; rw [HLN.out] at h5; simp at h5 ⊢; omega) hc hN2 HX.out (by have := H1.out; omega) (by have := H3.out; omega) (by have := H1.out; omega) (by have := H3.out; omega) HO1.out.1 HO1.out.2.2.1 HK1.out _ _ _ (by omega) (by omega) (by omega)).mono ?_
          rintro e' w3 ⟨M1, p1, o1, rfl, hs3, hb3⟩
          have HP1 := Lib.hid p1
          have HM1 := Lib.hid o1
          have HS3 := Lib.hid hs3
          have HN3 := Lib.hid (HN2.out.trans hb3)
          clear p1 o1 hs3 hb3 HS2 HN2
          rcases Nat.lt_or_ge mid e with hc5 | hc5
          · rcases Nat.lt_or_ge e b with hc6 | hc6
            · have b5 : decide (mid < e) = true := by simpa using hc5
              have b6 : decide (e < b) = true := by simpa using hc6
              have HML : Hid (M1.length = mid - a) := by show _ = _; rw [HP1.out.length_eq, List.length_append, H1.out, H3.out]; omega
              go_wp2_with fail
              refine (HIH.out.i g c mid e b N (X ++ M1) A2 B2 Y _ w3 (by have := H2.out; have := H4.out; omega) HS3.out (by simp) (by have h5 := congrArg List.length HLL.out; have h6 := HML.out; have := H1.out; have := H3.out; rw [HLN.out] at h5; simp at h5 ⊢; omega) hc hN2 (by have := HML.out; have := HXA.out; simp; omega) (by have := H2.out; omega) (by have := H4.out; omega) (by have := H2.out; omega) (by have := H4.out; omega) HO1.out.2.1 HO1.out.2.2.2 HK2.out _ _ _ (by omega) (by omega) (by omega)).mono ?_
              rintro e' w4 ⟨M2, p2, o2, rfl, hs4, hb4⟩
              have HP2 := Lib.hid p2
              have HM2 := Lib.hid o2
              have HS4 := Lib.hid hs4
              have HN4 := Lib.hid (HN3.out.trans hb4)
              clear p2 o2 hs4 hb4 HS3 HN3
              go_wp2
              go_end0
              exact ⟨M1 ++ M2, (HFIN.out M1 M2 HP1.out HM1.out HP2.out HM2.out).1, (HFIN.out M1 M2 HP1.out HM1.out HP2.out HM2.out).2, rfl, by have := HS4.out; simpa using this, HN4.out⟩
            · have b5 : decide (mid < e) = true := by simpa using hc5
              have b6 : decide (e < b) = false := by simp; omega
              have hc6' : ¬ e < b := by omega
              have HM2 : Hid (Ord (A2 ++ B2)) := by
                have hz : A2 = [] ∨ B2 = [] := by
                  rcases Nat.lt_or_ge mid e with h3 | h3
                  · exact .inr (List.eq_nil_of_length_eq_zero (by have := H4.out; omega))
                  · exact .inl (List.eq_nil_of_length_eq_zero (by have := H2.out; omega))
                rcases hz with hz | hz
                · rw [hz, List.nil_append]; exact HO1.out.2.2.2
                · rw [hz, List.append_nil]; exact HO1.out.2.1
              go_wp2
              go_end0
              exact ⟨M1 ++ (A2 ++ B2), (HFIN.out M1 _ HP1.out HM1.out (List.Perm.refl _) HM2.out).1, (HFIN.out M1 _ HP1.out HM1.out (List.Perm.refl _) HM2.out).2, rfl, by have := HS3.out; simpa using this, HN3.out⟩
          · have b5 : decide (mid < e) = false := by simp; omega
            have hc5' : ¬ mid < e := by omega
            have HM2 : Hid (Ord (A2 ++ B2)) := by
              have hz : A2 = [] ∨ B2 = [] := by
                rcases Nat.lt_or_ge mid e with h3 | h3
                · exact .inr (List.eq_nil_of_length_eq_zero (by have := H4.out; omega))
                · exact .inl (List.eq_nil_of_length_eq_zero (by have := H2.out; omega))
              rcases hz with hz | hz
              · rw [hz, List.nil_append]; exact HO1.out.2.2.2
              · rw [hz, List.append_nil]; exact HO1.out.2.1
            go_wp2
            go_end0
            exact ⟨M1 ++ (A2 ++ B2), (HFIN.out M1 _ HP1.out HM1.out (List.Perm.refl _) HM2.out).1, (HFIN.out M1 _ HP1.out HM1.out (List.Perm.refl _) HM2.out).2, rfl, by have := HS3.out; simpa using this, HN3.out⟩
        · have b3 : decide (a < i) = true := by simpa using hc3
          have b4 : decide (i < mid) = false := by simp; omega
          have hc4' : ¬ i < mid := by omega
          obtain ⟨M1, hM1⟩ : ∃ M1, M1 = A1 ++ B1 := ⟨_, rfl⟩
          have HP1 : Hid (M1.Perm (A1 ++ B1)) := by rw [hM1]; exact List.Perm.refl _
          have HM1 : Hid (Ord M1) := by
            have hz : A1 = [] ∨ B1 = [] := by
              rcases Nat.lt_or_ge a i with h3 | h3
              · exact .inr (List.eq_nil_of_length_eq_zero (by have := H3.out; omega))
              · exact .inl (List.eq_nil_of_length_eq_zero (by have := H1.out; omega))
            rw [hM1]
            rcases hz with hz | hz
            · rw [hz, List.nil_append]; exact HO1.out.2.2.1
            · rw [hz, List.append_nil]; exact HO1.out.1
          have HS3 : Hid (SB w2 g 37 (X ++ M1 ++ (A2 ++ B2 ++ Y))) := by
            have := HS2.out
            show SB _ _ _ _
            rw [hM1]
            simpa using this
          have HN3 := Lib.hid HN2.out
          clear hM1 HS2 HN2
          rcases Nat.lt_or_ge mid e with hc5 | hc5
          · rcases Nat.lt_or_ge e b with hc6 | hc6
            · have b5 : decide (mid < e) = true := by simpa using hc5
              have b6 : decide (e < b) = true := by simpa using hc6
              have HML : Hid (M1.length = mid - a) := by show _ = _; rw [HP1.out.length_eq, List.length_append, H1.out, H3.out]; omega
              go_wp2_with fail
              refine (HIH.out.i g c mid e b N (X ++ M1) A2 B2 Y _ w2 (by have := H2.out; have := H4.out; omega) HS3.out (by simp) (by have h5 := congrArg List.length HLL.out; have h6 := HML.out; have := H1.out; have := H3.out; rw [HLN.out] at h5; simp at h5 ⊢; omega) hc hN2 (by have := HML.out; have := HXA.out; simp; omega) (by have := H2.out; omega) (by have := H4.out; omega) (by have := H2.out; omega) (by have := H4.out; omega) HO1.out.2.1 HO1.out.2.2.2 HK2.out _ _ _ (by omega) (by omega) (by omega)).mono ?_
              rintro e' w4 ⟨M2, p2, o2, rfl, hs4, hb4⟩
              have HP2 := Lib.hid p2
              have HM2 := Lib.hid o2
              have HS4 := Lib.hid hs4
              have HN4 := Lib.hid (HN3.out.trans hb4)
              clear p2 o2 hs4 hb4 HS3 HN3
              go_wp2
              go_end0
              exact ⟨M1 ++ M2, (HFIN.out M1 M2 HP1.out HM1.out HP2.out HM2.out).1, (HFIN.out M1 M2 HP1.out HM1.out HP2.out HM2.out).2, rfl, by have := HS4.out; simpa using this, HN4.out⟩
            · have b5 : decide (mid < e) = true := by simpa using hc5
              have b6 : decide (e < b) = false := by simp; omega
              have hc6' : ¬ e < b := by omega
              have HM2 : Hid (Ord (A2 ++ B2)) := by
                have hz : A2 = [] ∨ B2 = [] := by
                  rcases Nat.lt_or_ge mid e with h3 | h3
                  · exact .inr (List.eq_nil_of_length_eq_zero (by have := H4.out; omega))
                  · exact .inl (List.eq_nil_of_length_eq_zero (by have := H2.out; omega))
                rcases hz with hz | hz
                · rw [hz, List.nil_append]; exact HO1.out.2.2.2
                · rw [hz, List.append_nil]; exact HO1.out.2.1
              go_wp2
              go_end0
              exact ⟨M1 ++ (A2 ++ B2), (HFIN.out M1 _ HP1.out HM1.out (List.Perm.refl _) HM2.out).1, (HFIN.out M1 _ HP1.out HM1.out (List.Perm.refl _) HM2.out).2, rfl, by have := HS3.out; simpa using this, HN3.out⟩
          · have b5 : decide (mid < e) = false := by simp; omega
            have hc5' : ¬ mid < e := by omega
            have HM2 : Hid (Ord (A2 ++ B2)) := by
              have hz : A2 = [] ∨ B2 = [] := by
                rcases Nat.lt_or_ge mid e with h3 | h3
                · exact .inr (List.eq_nil_of_length_eq_zero (by have := H4.out; omega))
                · exact .inl (List.eq_nil_of_length_eq_zero (by have := H2.out; omega))
              rcases hz with hz | hz
              · rw [hz, List.nil_append]; exact HO1.out.2.2.2
              · rw [hz, List.append_nil]; exact HO1.out.2.1
            go_wp2
            go_end0
            exact ⟨M1 ++ (A2 ++ B2), (HFIN.out M1 _ HP1.out HM1.out (List.Perm.refl _) HM2.out).1, (HFIN.out M1 _ HP1.out HM1.out (List.Perm.refl _) HM2.out).2, rfl, by have := HS3.out; simpa using this, HN3.out⟩
      · have b3 : decide (a < i) = false := by simp; omega
        have hc3' : ¬ a < i := by omega
        obtain ⟨M1, hM1⟩ : ∃ M1, M1 = A1 ++ B1 := ⟨_, rfl⟩
        have HP1 : Hid (M1.Perm (A1 ++ B1)) := by rw [hM1]; exact List.Perm.refl _
        have HM1 : Hid (Ord M1) := by
          have hz : A1 = [] ∨ B1 = [] := by
            rcases Nat.lt_or_ge a i with h3 | h3
            · exact .inr (List.eq_nil_of_length_eq_zero (by have := H3.out; omega))
            · exact .inl (List.eq_nil_of_length_eq_zero (by have := H1.out; omega))
          rw [hM1]
          rcases hz with hz | hz
          · rw [hz, List.nil_append]; exact HO1.out.2.2.1
          · rw [hz, List.append_nil]; exact HO1.out.1
        have HS3 : Hid (SB w2 g 37 (X ++ M1 ++ (A2 ++ B2 ++ Y))) := by
          have := HS2.out
          show SB _ _ _ _
          rw [hM1]
          simpa using this
        have HN3 := Lib.hid HN2.out
        clear hM1 HS2 HN2
        rcases Nat.lt_or_ge mid e with hc5 | hc5
        · rcases Nat.lt_or_ge e b with hc6 | hc6
          · have b5 : decide (mid < e) = true := by simpa using hc5
            have b6 : decide (e < b) = true := by simpa using hc6
            have HML : Hid (M1.length = mid - a) := by show _ = _; rw [HP1.out.length_eq, List.length_append, H1.out, H3.out]; omega
            go_wp2_with fail
            refine (HIH.out.i g c mid e b N (X ++ M1) A2 B2 Y _ w2 (by have := H2.out; have := H4.out; omega) HS3.out (by simp) (by have h5 := congrArg List.length HLL.out; have h6 := HML.out; have := H1.out; have := H3.out; rw [HLN.out] at h5; simp at h5 ⊢; omega) hc hN2 (by have := HML.out; have := HXA.out; simp; omega) (by have := H2.out; omega) (by have := H4.out; omega) (by have := H2.out; omega) (by have := H4.out; omega) HO1.out.2.1 HO1.out.2.2.2 HK2.out _ _ _ (by omega) (by omega) (by omega)).mono ?_
            rintro e' w4 ⟨M2, p2, o2, rfl, hs4, hb4⟩
            have HP2 := Lib.hid p2
            have HM2 := Lib.hid o2
            have HS4 := Lib.hid hs4
            have HN4 := Lib.hid (HN3.out.trans hb4)
            clear p2 o2 hs4 hb4 HS3 HN3
            go_wp2
            go_end0
            exact ⟨M1 ++ M2, (HFIN.out M1 M2 HP1.out HM1.out HP2.out HM2.out).1, (HFIN.out M1 M2 HP1.out HM1.out HP2.out HM2.out).2, rfl, by have := HS4.out; simpa using this, HN4.out⟩
          · have b5 : decide (mid < e) = true := by simpa using hc5
            have b6 : decide (e < b) = false := by simp; omega
            have hc6' : ¬ e < b := by omega
            have HM2 : Hid (Ord (A2 ++ B2)) := by
              have hz : A2 = [] ∨ B2 = [] := by
                rcases Nat.lt_or_ge mid e with h3 | h3
                · exact .inr (List.eq_nil_of_length_eq_zero (by have := H4.out; omega))
                · exact .inl (List.eq_nil_of_length_eq_zero (by have := H2.out; omega))
              rcases hz with hz | hz
              · rw [hz, List.nil_append]; exact HO1.out.2.2.2
              · rw [hz, List.append_nil]; exact HO1.out.2.1
            go_wp2
            go_end0
            exact ⟨M1 ++ (A2 ++ B2), (HFIN.out M1 _ HP1.out HM1.out (List.Perm.refl _) HM2.out).1, (HFIN.out M1 _ HP1.out HM1.out (List.Perm.refl _) HM2.out).2, rfl, by have := HS3.out; simpa using this, HN3.out⟩
        · have b5 : decide (mid < e) = false := by simp; omega
          have hc5' : ¬ mid < e := by omega
          have HM2 : Hid (Ord (A2 ++ B2)) := by
            have hz : A2 = [] ∨ B2 = [] := by
              rcases Nat.lt_or_ge mid e with h3 | h3
              · exact .inr (List.eq_nil_of_length_eq_zero (by have := H4.out; omega))
              · exact .inl (List.eq_nil_of_length_eq_zero (by have := H2.out; omega))
            rcases hz with hz | hz
            · rw [hz, List.nil_append]; exact HO1.out.2.2.2
            · rw [hz, List.append_nil]; exact HO1.out.2.1
          go_wp2
          go_end0
          exact ⟨M1 ++ (A2 ++ B2), (HFIN.out M1 _ HP1.out HM1.out (List.Perm.refl _) HM2.out).1, (HFIN.out M1 _ HP1.out HM1.out (List.Perm.refl _) HM2.out).2, rfl, by have := HS3.out; simpa using this, HN3.out⟩
    · have b1 : decide (i < m) = true := by simpa using hc1
      have b2 : decide (m < e) = false := by simp; omega
      have hc2' : ¬ m < e := by omega
      have hs1 : SB wr g 37 (X ++ A1 ++ B1 ++ (A2 ++ B2 ++ Y)) := by
        have h0 := HSB.out
        rw [HLL.out] at h0
        have hz : A2 = [] ∨ B1 = [] := by
          rcases Nat.lt_or_ge i m with h3 | h3
          · exact .inr (List.eq_nil_of_length_eq_zero (by have := H3.out; omega))
          · exact .inl (List.eq_nil_of_length_eq_zero (by have := H2.out; omega))
        rcases hz with hz | hz
        · rw [hz] at h0 ⊢
          simpa using h0
        · rw [hz] at h0 ⊢
          simpa using h0
      have HS2 := Lib.hid hs1
      have HN2 := Lib.hid HNX.out
      clear hs1 HSB HNX
      have HGS := Lib.hid HS2.out.lt
      rcases Nat.lt_or_ge a i with hc3 | hc3
      · rcases Nat.lt_or_ge i mid with hc4 | hc4
        · have b3 : decide (a < i) = true := by simpa using hc3
          have b4 : decide (i < mid) = true := by simpa using hc4
          go_wp2_with fail
          refine (HIH.out.i g c a i mid N X A1 B1 (A2 ++ B2 ++ Y) _ wr (by have := H1.out; have := H3.out; omega) HS2.out rfl (by have h5 := congrArg List.length HLL.out; rw [HLN.out] at h5; simp at h5 ⊢; omega) hc hN2 HX.out (by have := H1.out; omega) (by have := H3.out; omega) (by have := H1.out; omega) (by have := H3.out; omega) HO1.out.1 HO1.out.2.2.1 HK1.out _ _ _ (by omega) (by omega) (by omega)).mono ?_
          rintro e' w3 ⟨M1, p1, o1, rfl, hs3, hb3⟩
          have HP1 := Lib.hid p1
          have HM1 := Lib.hid o1
          have HS3 := Lib.hid hs3
          have HN3 := Lib.hid (HN2.out.trans hb3)
          clear p1 o1 hs3 hb3 HS2 HN2
          rcases Nat.lt_or_ge mid e with hc5 | hc5
          · rcases Nat.lt_or_ge e b with hc6 | hc6
            · have b5 : decide (mid < e) = true := by simpa using hc5
              have b6 : decide (e < b) = true := by simpa using hc6
              have HML : Hid (M1.length = mid - a) := by show _ = _; rw [HP1.out.length_eq, List.length_append, H1.out, H3.out]; omega
              go_wp2_with fail
              refine (HIH.out.i g c mid e b N (X ++ M1) A2 B2 Y _ w3 (by have := H2.out; have := H4.out; omega) HS3.out (by simp) (by have h5 := congrArg List.length HLL.out; have h6 := HML.out; have := H1.out; have := H3.out; rw [HLN.out] at h5; simp at h5 ⊢; omega) hc hN2 (by have := HML.out; have := HXA.out; simp; omega) (by have := H2.out; omega) (by have := H4.out; omega) (by have := H2.out; omega) (by have := H4.out; omega) HO1.out.2.1 HO1.out.2.2.2 HK2.out _ _ _ (by omega) (by omega) (by omega)).mono ?_
              rintro e' w4 ⟨M2, p2, o2, rfl, hs4, hb4⟩
              have HP2 := Lib.hid p2
              have HM2 := Lib.hid o2
              have HS4 := Lib.hid hs4
              have HN4 := Lib.hid (HN3.out.trans hb4)
              clear p2 o2 hs4 hb4 HS3 HN3
              go_wp2
              go_end0
              exact ⟨M1 ++ M2, (HFIN.out M1 M2 HP1.out HM1.out HP2.out HM2.out).1, (HFIN.out M1 M2 HP1.out HM1.out HP2.out HM2.out).2, rfl, by have := HS4.out; simpa using this, HN4.out⟩
            · have b5 : decide (mid < e) = true := by simpa using hc5
              have b6 : decide (e < b) = false := by simp; omega
              have hc6' : ¬ e < b := by omega
              have HM2 : Hid (Ord (A2 ++ B2)) := by
                have hz : A2 = [] ∨ B2 = [] := by
                  rcases Nat.lt_or_ge mid e with h3 | h3
                  · exact .inr (List.eq_nil_of_length_eq_zero (by have := H4.out; omega))
                  · exact .inl (List.eq_nil_of_length_eq_zero (by have := H2.out; omega))
                rcases hz with hz | hz
                · rw [hz, List.nil_append]; exact HO1.out.2.2.2
                · rw [hz, List.append_nil]; exact HO1.out.2.1
              go_wp2
              go_end0
              exact ⟨M1 ++ (A2 ++ B2), (HFIN.out M1 _ HP1.out HM1.out (List.Perm.refl _) HM2.out).1, (HFIN.out M1 _ HP1.out HM1.out (List.Perm.refl _) HM2.out).2, rfl, by have := HS3.out; simpa using this, HN3.out⟩
          · have b5 : decide (mid < e) = false := by simp; omega
            have hc5' : ¬ mid < e := by omega
            have HM2 : Hid (Ord (A2 ++ B2)) := by
              have hz : A2 = [] ∨ B2 = [] := by
                rcases Nat.lt_or_ge mid e with h3 | h3
                · exact .inr (List.eq_nil_of_length_eq_zero (by have := H4.out; omega))
                · exact .inl (List.eq_nil_of_length_eq_zero (by have := H2.out; omega))
              rcases hz with hz | hz
              · rw [hz, List.nil_append]; exact HO1.out.2.2.2
              · rw [hz, List.append_nil]; exact HO1.out.2.1
            go_wp2
            go_end0
            exact ⟨M1 ++ (A2 ++ B2), (HFIN.out M1 _ HP1.out HM1.out (List.Perm.refl _) HM2.out).1, (HFIN.out M1 _ HP1.out HM1.out (List.Perm.refl _) HM2.out).2, rfl, by have := HS3.out; simpa using this, HN3.out⟩
        · have b3 : decide (a < i) = true := by simpa using hc3
          have b4 : decide (i < mid) = false := by simp; omega
          have hc4' : ¬ i < mid := by omega
          obtain ⟨M1, hM1⟩ : ∃ M1, M1 = A1 ++ B1 := ⟨_, rfl⟩
          have HP1 : Hid (M1.Perm (A1 ++ B1)) := by rw [hM1]; exact List.Perm.refl _
          have HM1 : Hid (Ord M1) := by
            have hz : A1 = [] ∨ B1 = [] := by
              rcases Nat.lt_or_ge a i with h3 | h3
              · exact .inr (List.eq_nil_of_length_eq_zero (by have := H3.out; omega))
              · exact .inl (List.eq_nil_of_length_eq_zero (by have := H1.out; omega))
            rw [hM1]
            rcases hz with hz | hz
            · rw [hz, List.nil_append]; exact HO1.out.2.2.1
            · rw [hz, List.append_nil]; exact HO1.out.1
          have HS3 : Hid (SB wr g 37 (X ++ M1 ++ (A2 ++ B2 ++ Y))) := by
            have := HS2.out
            show SB _ _ _ _
            rw [hM1]
            simpa using this
          have HN3 := Lib.hid HN2.out
          clear hM1 HS2 HN2
          rcases Nat.lt_or_ge mid e with hc5 | hc5
          · rcases Nat.lt_or_ge e b with hc6 | hc6
            · have b5 : decide (mid < e) = true := by simpa using hc5
              have b6 : decide (e < b) = true := by simpa using hc6
              have HML : Hid (M1.length = mid - a) := by show _ = _; rw [HP1.out.length_eq, List.length_append, H1.out, H3.out]; omega
              go_wp2_with fail
              refine (HIH.out.i g c mid e b N (X ++ M1) A2 B2 Y _ wr (by have := H2.out; have := H4.out; omega) HS3.out (by simp) (by have h5 := congrArg List.length HLL.out; have h6 := HML.out; have := H1.out; have := H3.out; rw [HLN.out] at h5; simp at h5 ⊢; omega) hc hN2 (by have := HML.out; have := HXA.out; simp; omega) (by have := H2.out; omega) (by have := H4.out; omega) (by have := H2.out; omega) (by have := H4.out; omega) HO1.out.2.1 HO1.out.2.2.2 HK2.out _ _ _ (by omega) (by omega) (by omega)).mono ?_
              rintro e' w4 ⟨M2, p2, o2, rfl, hs4, hb4⟩
              have HP2 := Lib.hid p2
              have HM2 := Lib.hid o2
              have HS4 := Lib.hid hs4
              have HN4 := Lib.hid (HN3.out.trans hb4)
              clear p2 o2 hs4 hb4 HS3 HN3
              go_wp2
              go_end0
              exact ⟨M1 ++ M2, (HFIN.out M1 M2 HP1.out HM1.out HP2.out HM2.out).1, (HFIN.out M1 M2 HP1.out HM1.out HP2.out HM2.out).2, rfl, by have := HS4.out; simpa using this, HN4.out⟩
            · have b5 : decide (mid < e) = true := by simpa using hc5
              have b6 : decide (e < b) = false := by simp; omega
              have hc6' : ¬ e < b := by omega
              have HM2 : Hid (Ord (A2 ++ B2)) := by
                have hz : A2 = [] ∨ B2 = [] := by
                  rcases Nat.lt_or_ge mid e with h3 | h3
                  · exact .inr (List.eq_nil_of_length_eq_zero (by have := H4.out; omega))
                  · exact .inl (List.eq_nil_of_length_eq_zero (by have := H2.out; omega))
                rcases hz with hz | hz
                · rw [hz, List.nil_append]; exact HO1.out.2.2.2
                · rw [hz, List.append_nil]; exact HO1.out.2.1
              go_wp2
              go_end0
              exact ⟨M1 ++ (A2 ++ B2), (HFIN.out M1 _ HP1.out HM1.out (List.Perm.refl _) HM2.out).1, (HFIN.out M1 _ HP1.out HM1.out (List.Perm.refl _) HM2.out).2, rfl, by have := HS3.out; simpa using this, HN3.out⟩
          · have b5 : decide (mid < e) = false := by simp; omega
            have hc5' : ¬ mid < e := by omega
            have HM2 : Hid (Ord (A2 ++ B2)) := by
              have hz : A2 = [] ∨ B2 = [] := by
                rcases Nat.lt_or_ge mid e with h3 | h3
                · exact .inr (List.eq_nil_of_length_eq_zero (by have := H4.out; omega))
                · exact .inl (List.eq_nil_of_length_eq_zero (by have := H2.out; omega))
              rcases hz with hz | hz
              · rw [hz, List.nil_append]; exact HO1.out.2.2.2
              · rw [hz, List.append_nil]; exact HO1.out.2.1
            go_wp2
            go_end0
            exact ⟨M1 ++ (A2 ++ B2), (HFIN.out M1 _ HP1.out HM1.out (List.Perm.refl _) HM2.out).1, (HFIN.out M1 _ HP1.out HM1.out (List.Perm.refl _) HM2.out).2, rfl, by have := HS3.out; simpa using this, HN3.out⟩
      · have b3 : decide (a < i) = false := by simp; omega
        have hc3' : ¬ a < i := by omega
        obtain ⟨M1, hM1⟩ : ∃ M1, M1 = A1 ++ B1 := ⟨_, rfl⟩
        have HP1 : Hid (M1.Perm (A1 ++ B1)) := by rw [hM1]; exact List.Perm.refl _
        have HM1 : Hid (Ord M1) := by
          have hz : A1 = [] ∨ B1 = [] := by
            rcases Nat.lt_or_ge a i with h3 | h3
            · exact .inr (List.eq_nil_of_length_eq_zero (by have := H3.out; omega))
            · exact .inl (List.eq_nil_of_length_eq_zero (by have := H1.out; omega))
          rw [hM1]
          rcases hz with hz | hz
          · rw [hz, List.nil_append]; exact HO1.out.2.2.1
          · rw [hz, List.append_nil]; exact HO1.out.1
        have HS3 : Hid (SB wr g 37 (X ++ M1 ++ (A2 ++ B2 ++ Y))) := by
          have := HS2.out
          show SB _ _ _ _
          rw [hM1]
          simpa using this
        have HN3 := Lib.hid HN2.out
        clear hM1 HS2 HN2
        rcases Nat.lt_or_ge mid e with hc5 | hc5
        · rcases Nat.lt_or_ge e b with hc6 | hc6
          · have b5 : decide (mid < e) = true := by simpa using hc5
            have b6 : decide (e < b) = true := by simpa using hc6
            have HML : Hid (M1.length = mid - a) := by show _ = _; rw [HP1.out.length_eq, List.length_append, H1.out, H3.out]; omega
            go_wp2_with fail
            refine (HIH.out.i g c mid e b N (X ++ M1) A2 B2 Y _ wr (by have := H2.out; have := H4.out; omega) HS3.out (by simp) (by have h5 := congrArg List.length HLL.out; have h6 := HML.out; have := H1.out; have := H3.out; rw [HLN.out] at h5; simp at h5 ⊢; omega) hc hN2 (by have := HML.out; have := HXA.out; simp; omega) (by have := H2.out; omega) (by have := H4.out; omega) (by have := H2.out; omega) (by have := H4.out; omega) HO1.out.2.1 HO1.out.2.2.2 HK2.out _ _ _ (by omega) (by omega) (by omega)).mono ?_
            rintro e' w4 ⟨M2, p2, o2, rfl, hs4, hb4⟩
            have HP2 := Lib.hid p2
            have HM2 := Lib.hid o2
            have HS4 := Lib.hid hs4
            have HN4 := Lib.hid (HN3.out.trans hb4)
            clear p2 o2 hs4 hb4 HS3 HN3
            go_wp2
            go_end0
            exact ⟨M1 ++ M2, (HFIN.out M1 M2 HP1.out HM1.out HP2.out HM2.out).1, (HFIN.out M1 M2 HP1.out HM1.out HP2.out HM2.out).2, rfl, by have := HS4.out; simpa using this, HN4.out⟩
          · have b5 : decide (mid < e) = true := by simpa using hc5
            have b6 : decide (e < b) = false := by simp; omega
            have hc6' : ¬ e < b := by omega
            have HM2 : Hid (Ord (A2 ++ B2)) := by
              have hz : A2 = [] ∨ B2 = [] := by
                rcases Nat.lt_or_ge mid e with h3 | h3
                · exact .inr (List.eq_nil_of_length_eq_zero (by have := H4.out; omega))
                · exact .inl (List.eq_nil_of_length_eq_zero (by have := H2.out; omega))
              rcases hz with hz | hz
              · rw [hz, List.nil_append]; exact HO1.out.2.2.2
              · rw [hz, List.append_nil]; exact HO1.out.2.1
            go_wp2
            go_end0
            exact ⟨M1 ++ (A2 ++ B2), (HFIN.out M1 _ HP1.out HM1.out (List.Perm.refl _) HM2.out).1, (HFIN.out M1 _ HP1.out HM1.out (List.Perm.refl _) HM2.out).2, rfl, by have := HS3.out; simpa using this, HN3.out⟩
        · have b5 : decide (mid < e) = false := by simp; omega
          have hc5' : ¬ mid < e := by omega
          have HM2 : Hid (Ord (A2 ++ B2)) := by
            have hz : A2 = [] ∨ B2 = [] := by
              rcases Nat.lt_or_ge mid e with h3 | h3
              · exact .inr (List.eq_nil_of_length_eq_zero (by have := H4.out; omega))
              · exact .inl (List.eq_nil_of_length_eq_zero (by have := H2.out; omega))
            rcases hz with hz | hz
            · rw [hz, List.nil_append]; exact HO1.out.2.2.2
            · rw [hz, List.append_nil]; exact HO1.out.2.1
          go_wp2
          go_end0
          exact ⟨M1 ++ (A2 ++ B2), (HFIN.out M1 _ HP1.out HM1.out (List.Perm.refl _) HM2.out).1, (HFIN.out M1 _ HP1.out HM1.out (List.Perm.refl _) HM2.out).2, rfl, by have := HS3.out; simpa using this, HN3.out⟩
  · have b1 : decide (i < m) = false := by simp; omega
    have hc1' : ¬ i < m := by omega
    have hs1 : SB wr g 37 (X ++ A1 ++ B1 ++ (A2 ++ B2 ++ Y)) := by
      have h0 := HSB.out
      rw [HLL.out] at h0
      have hz : A2 = [] ∨ B1 = [] := by
        rcases Nat.lt_or_ge i m with h3 | h3
        · exact .inr (List.eq_nil_of_length_eq_zero (by have := H3.out; omega))
        · exact .inl (List.eq_nil_of_length_eq_zero (by have := H2.out; omega))
      rcases hz with hz | hz
      · rw [hz] at h0 ⊢
        simpa using h0
      · rw [hz] at h0 ⊢
        simpa using h0
    have HS2 := Lib.hid hs1
    have HN2 := Lib.hid HNX.out
    clear hs1 HSB HNX
    have HGS := Lib.hid HS2.out.lt
    rcases Nat.lt_or_ge a i with hc3 | hc3
    · rcases Nat.lt_or_ge i mid with hc4 | hc4
      · have b3 : decide (a < i) = true := by simpa using hc3
        have b4 : decide (i < mid) = true := by simpa using hc4
        go_wp2_with fail
        refine (HIH.out.i g c a i mid N X A1 B1 (A2 ++ B2 ++ Y) _ wr (by have := H1.out; have := H3.out; omega) HS2.out rfl (by have h5 := congrArg List.length HLL.out; rw [HLN.out] at h5; simp at h5 ⊢; omega) hc hN2 HX.out (by have := H1.out; omega) (by have := H3.out; omega) (by have := H1.out; omega) (by have := H3.out; omega) HO1.out.1 HO1.out.2.2.1 HK1.out _ _ _ (by omega) (by omega) (by omega)).mono ?_
        rintro e' w3 ⟨M1, p1, o1, rfl, hs3, hb3⟩
        have HP1 := Lib.hid p1
        have HM1 := Lib.hid o1
        have HS3 := Lib.hid hs3
        have HN3 := Lib.hid (HN2.out.trans hb3)
        clear p1 o1 hs3 hb3 HS2 HN2
        rcases Nat.lt_or_ge mid e with hc5 | hc5
        · rcases Nat.lt_or_ge e b with hc6 | hc6
          · have b5 : decide (mid < e) = true := by simpa using hc5
            have b6 : decide (e < b) = true := by simpa using hc6
            have HML : Hid (M1.length = mid - a) := by show _ = _; rw [HP1.out.length_eq, List.length_append, H1.out, H3.out]; omega
            go_wp2_with fail
            refine (HIH.out.i g c mid e b N (X ++ M1) A2 B2 Y _ w3 (by have := H2.out; have := H4.out; omega) HS3.out (by simp) (by have h5 := congrArg List.length HLL.out; have h6 := HML.out; have := H1.out; have := H3.out; rw [HLN.out] at h5; simp at h5 ⊢; omega) hc hN2 (by have := HML.out; have := HXA.out; simp; omega) (by have := H2.out; omega) (by have := H4.out; omega) (by have := H2.out; omega) (by have := H4.out; omega) HO1.out.2.1 HO1.out.2.2.2 HK2.out _ _ _ (by omega) (by omega) (by omega)).mono ?_
            rintro e' w4 ⟨M2, p2, o2, rfl, hs4, hb4⟩
            have HP2 := Lib.hid p2
            have HM2 := Lib.hid o2
            have HS4 := Lib.hid hs4
            have HN4 := Lib.hid (HN3.out.trans hb4)
            clear p2 o2 hs4 hb4 HS3 HN3
            go_wp2
            go_end0
            exact ⟨M1 ++ M2, (HFIN.out M1 M2 HP1.out HM1.out HP2.out HM2.out).1, (HFIN.out M1 M2 HP1.out HM1.out HP2.out HM2.out).2, rfl, by have := HS4.out; simpa using this, HN4.out⟩
          · have b5 : decide (mid < e) = true := by simpa using hc5
            have b6 : decide (e < b) = false := by simp; omega
            have hc6' : ¬ e < b := by omega
            have HM2 : Hid (Ord (A2 ++ B2)) := by
              have hz : A2 = [] ∨ B2 = [] := by
                rcases Nat.lt_or_ge mid e with h3 | h3
                · exact .inr (List.eq_nil_of_length_eq_zero (by have := H4.out; omega))
                · exact .inl (List.eq_nil_of_length_eq_zero (by have := H2.out; omega))
              rcases hz with hz | hz
              · rw [hz, List.nil_append]; exact HO1.out.2.2.2
              · rw [hz, List.append_nil]; exact HO1.out.2.1
            go_wp2
            go_end0
            exact ⟨M1 ++ (A2 ++ B2), (HFIN.out M1 _ HP1.out HM1.out (List.Perm.refl _) HM2.out).1, (HFIN.out M1 _ HP1.out HM1.out (List.Perm.refl _) HM2.out).2, rfl, by have := HS3.out; simpa using this, HN3.out⟩
        · have b5 : decide (mid < e) = false := by simp; omega
          have hc5' : ¬ mid < e := by omega
          have HM2 : Hid (Ord (A2 ++ B2)) := by
            have hz : A2 = [] ∨ B2 = [] := by
              rcases Nat.lt_or_ge mid e with h3 | h3
              · exact .inr (List.eq_nil_of_length_eq_zero (by have := H4.out; omega))
              · exact .inl (List.eq_nil_of_length_eq_zero (by have := H2.out; omega))
            rcases hz with hz | hz
            · rw [hz, List.nil_append]; exact HO1.out.2.2.2
            · rw [hz, List.append_nil]; exact HO1.out.2.1
          go_wp2
          go_end0
          exact ⟨M1 ++ (A2 ++ B2), (HFIN.out M1 _ HP1.out HM1.out (List.Perm.refl _) HM2.out).1, (HFIN.out M1 _ HP1.out HM1.out (List.Perm.refl _) HM2.out).2, rfl, by have := HS3.out; simpa using this, HN3.out⟩
      · have b3 : decide (a < i) = true := by simpa using hc3
        have b4 : decide (i < mid) = false := by simp; omega
        have hc4' : ¬ i < mid := by omega
        obtain ⟨M1, hM1⟩ : ∃ M1, M1 = A1 ++ B1 := ⟨_, rfl⟩
        have HP1 : Hid (M1.Perm (A1 ++ B1)) := by rw [hM1]; exact List.Perm.refl _
        have HM1 : Hid (Ord M1) := by
          have hz : A1 = [] ∨ B1 = [] := by
            rcases Nat.lt_or_ge a i with h3 | h3
            · exact .inr (List.eq_nil_of_length_eq_zero (by have := H3.out; omega))
            · exact .inl (List.eq_nil_of_length_eq_zero (by have := H1.out; omega))
          rw [hM1]
          rcases hz with hz | hz
          · rw [hz, List.nil_append]; exact HO1.out.2.2.1
          · rw [hz, List.append_nil]; exact HO1.out.1
        have HS3 : Hid (SB wr g 37 (X ++ M1 ++ (A2 ++ B2 ++ Y))) := by
          have := HS2.out
          show SB _ _ _ _
          rw [hM1]
          simpa using this
        have HN3 := Lib.hid HN2.out
        clear hM1 HS2 HN2
        rcases Nat.lt_or_ge mid e with hc5 | hc5
        · rcases Nat.lt_or_ge e b with hc6 | hc6
          · have b5 : decide (mid < e) = true := by simpa using hc5
            have b6 : decide (e < b) = true := by simpa using hc6
            have HML : Hid (M1.length = mid - a) := by show _ = _; rw [HP1.out.length_eq, List.length_append, H1.out, H3.out]; omega
            go_wp2_with fail
            refine (HIH.out.i g c mid e b N (X ++ M1) A2 B2 Y _ wr (by have := H2.out; have := H4.out; omega) HS3.out (by simp) (by have h5 := congrArg List.length HLL.out; have h6 := HML.out; have := H1.out; have := H3.out; rw [HLN.out] at h5; simp at h5 ⊢; omega) hc hN2 (by have := HML.out; have := HXA.out; simp; omega) (by have := H2.out; omega) (by have := H4.out; omega) (by have := H2.out; omega) (by have := H4.out; omega) HO1.out.2.1 HO1.out.2.2.2 HK2.out _ _ _ (by omega) (by omega) (by omega)).mono ?_
            rintro e' w4 ⟨M2, p2, o2, rfl, hs4, hb4⟩
            have HP2 := Lib.hid p2
            have HM2 := Lib.hid o2
            have HS4 := Lib.hid hs4
            have HN4 := Lib.hid (HN3.out.trans hb4)
            clear p2 o2 hs4 hb4 HS3 HN3
            go_wp2
            go_end0
            exact ⟨M1 ++ M2, (HFIN.out M1 M2 HP1.out HM1.out HP2.out HM2.out).1, (HFIN.out M1 M2 HP1.out HM1.out HP2.out HM2.out).2, rfl, by have := HS4.out; simpa using this, HN4.out⟩
          · have b5 : decide (mid < e) = true := by simpa using hc5
            have b6 : decide (e < b) = false := by simp; omega
            have hc6' : ¬ e < b := by omega
            have HM2 : Hid (Ord (A2 ++ B2)) := by
              have hz : A2 = [] ∨ B2 = [] := by
                rcases Nat.lt_or_ge mid e with h3 | h3
                · exact .inr (List.eq_nil_of_length_eq_zero (by have := H4.out; omega))
                · exact .inl (List.eq_nil_of_length_eq_zero (by have := H2.out; omega))
              rcases hz with hz | hz
              · rw [hz, List.nil_append]; exact HO1.out.2.2.2
              · rw [hz, List.append_nil]; exact HO1.out.2.1
            go_wp2
            go_end0
            exact ⟨M1 ++ (A2 ++ B2), (HFIN.out M1 _ HP1.out HM1.out (List.Perm.refl _) HM2.out).1, (HFIN.out M1 _ HP1.out HM1.out (List.Perm.refl _) HM2.out).2, rfl, by have := HS3.out; simpa using this, HN3.out⟩
        · have b5 : decide (mid < e) = false := by simp; omega
          have hc5' : ¬ mid < e := by omega
          have HM2 : Hid (Ord (A2 ++ B2)) := by
            have hz : A2 = [] ∨ B2 = [] := by
              rcases Nat.lt_or_ge mid e with h3 | h3
              · exact .inr (List.eq_nil_of_length_eq_zero (by have := H4.out; omega))
              · exact .inl (List.eq_nil_of_length_eq_zero (by have := H2.out; omega))
            rcases hz with hz | hz
            · rw [hz, List.nil_append]; exact HO1.out.2.2.2
            · rw [hz, List.append_nil]; exact HO1.out.2.1
          go_wp2
          go_end0
          exact ⟨M1 ++ (A2 ++ B2), (HFIN.out M1 _ HP1.out HM1.out (List.Perm.refl _) HM2.out).1, (HFIN.out M1 _ HP1.out HM1.out (List.Perm.refl _) HM2.out).2, rfl, by have := HS3.out; simpa using this, HN3.out⟩
    · have b3 : decide (a < i) = false := by simp; omega
      have hc3' : ¬ a < i := by omega
      obtain ⟨M1, hM1⟩ : ∃ M1, M1 = A1 ++ B1 := ⟨_, rfl⟩
      have HP1 : Hid (M1.Perm (A1 ++ B1)) := by rw [hM1]; exact List.Perm.refl _
      have HM1 : Hid (Ord M1) := by
        have hz : A1 = [] ∨ B1 = [] := by
          rcases Nat.lt_or_ge a i with h3 | h3
          · exact .inr (List.eq_nil_of_length_eq_zero (by have := H3.out; omega))
          · exact .inl (List.eq_nil_of_length_eq_zero (by have := H1.out; omega))
        rw [hM1]
        rcases hz with hz | hz
        · rw [hz, List.nil_append]; exact HO1.out.2.2.1
        · rw [hz, List.append_nil]; exact HO1.out.1
      have HS3 : Hid (SB wr g 37 (X ++ M1 ++ (A2 ++ B2 ++ Y))) := by
        have := HS2.out
        show SB _ _ _ _
        rw [hM1]
        simpa using this
      have HN3 := Lib.hid HN2.out
      clear hM1 HS2 HN2
      rcases Nat.lt_or_ge mid e with hc5 | hc5
      · rcases Nat.lt_or_ge e b with hc6 | hc6
        · have b5 : decide (mid < e) = true := by simpa using hc5
          have b6 : decide (e < b) = true := by simpa using hc6
          have HML : Hid (M1.length = mid - a) := by show _ = _; rw [HP1.out.length_eq, List.length_append, H1.out, H3.out]; omega
          go_wp2_with fail
          refine (HIH.out.i g c mid e b N (X ++ M1) A2 B2 Y _ wr (by have := H2.out; have := H4.out; omega) HS3.out (by simp) (by have h5 := congrArg List.length HLL.out; have h6 := HML.out; have := H1.out; have := H3.out; rw [HLN.out] at h5; simp at h5 ⊢; omega) hc hN2 (by have := HML.out; have := HXA.out; simp; omega) (by have := H2.out; omega) (by have := H4.out; omega) (by have := H2.out; omega) (by have := H4.out; omega) HO1.out.2.1 HO1.out.2.2.2 HK2.out _ _ _ (by omega) (by omega) (by omega)).mono ?_
          rintro e' w4 ⟨M2, p2, o2, rfl, hs4, hb4⟩
          have HP2 := Lib.hid p2
          have HM2 := Lib.hid o2
          have HS4 := Lib.hid hs4
          have HN4 := Lib.hid (HN3.out.trans hb4)
          clear p2 o2 hs4 hb4 HS3 HN3
          go_wp2
          go_end0
          exact ⟨M1 ++ M2, (HFIN.out M1 M2 HP1.out HM1.out HP2.out HM2.out).1, (HFIN.out M1 M2 HP1.out HM1.out HP2.out HM2.out).2, rfl, by have := HS4.out; simpa using this, HN4.out⟩
        · have b5 : decide (mid < e) = true := by simpa using hc5
          have b6 : decide (e < b) = false := by simp; omega
          have hc6' : ¬ e < b := by omega
          have HM2 : Hid (Ord (A2 ++ B2)) := by
            have hz : A2 = [] ∨ B2 = [] := by
              rcases Nat.lt_or_ge mid e with h3 | h3
              · exact .inr (List.eq_nil_of_length_eq_zero (by have := H4.out; omega))
              · exact .inl (List.eq_nil_of_length_eq_zero (by have := H2.out; omega))
            rcases hz with hz | hz
            · rw [hz, List.nil_append]; exact HO1.out.2.2.2
            · rw [hz, List.append_nil]; exact HO1.out.2.1
          go_wp2
          go_end0
          exact ⟨M1 ++ (A2 ++ B2), (HFIN.out M1 _ HP1.out HM1.out (List.Perm.refl _) HM2.out).1, (HFIN.out M1 _ HP1.out HM1.out (List.Perm.refl _) HM2.out).2, rfl, by have := HS3.out; simpa using this, HN3.out⟩
      · have b5 : decide (mid < e) = false := by simp; omega
        have hc5' : ¬ mid < e := by omega
        have HM2 : Hid (Ord (A2 ++ B2)) := by
          have hz : A2 = [] ∨ B2 = [] := by
            rcases Nat.lt_or_ge mid e with h3 | h3
            · exact .inr (List.eq_nil_of_length_eq_zero (by have := H4.out; omega))
            · exact .inl (List.eq_nil_of_length_eq_zero (by have := H2.out; omega))
          rcases hz with hz | hz
          · rw [hz, List.nil_append]; exact HO1.out.2.2.2
          · rw [hz, List.append_nil]; exact HO1.out.2.1
        go_wp2
        go_end0
        exact ⟨M1 ++ (A2 ++ B2), (HFIN.out M1 _ HP1.out HM1.out (List.Perm.refl _) HM2.out).1, (HFIN.out M1 _ HP1.out HM1.out (List.Perm.refl _) HM2.out).2, rfl, by have := HS3.out; simpa using this, HN3.out⟩

theorem symMerge_any : ∀ f, SymAt f := by
  intro f
  induction f with
  | zero => intro g c a m b N X A B Y w hf h hN hc hN2 ha hm hb hA; omega
  | succ f ih =>
    intro g c a m b N X A B Y w hf h hN hc hN2 ha hm hb hA hB hOA hOB hk
    by_cases hA1 : A.length = 1
    · obtain ⟨x0, rfl⟩ := List.length_eq_one_iff.1 hA1
      have e : X ++ [x0] ++ B ++ Y = X ++ x0 :: B ++ Y := by simp
      rw [e] at h hN
      exact symOneL_any g c a m b N X B Y x0 w h hN hc hN2 ha (by simpa using hm) hb hOB (fun y hy => hk x0 (by simp) y hy)
    · by_cases hB1 : B.length = 1
      · obtain ⟨y0, rfl⟩ := List.length_eq_one_iff.1 hB1
        have e : X ++ A ++ [y0] ++ Y = X ++ A ++ y0 :: Y := by simp
        rw [e] at h hN
        exact symOneR_any g c a m b N X A Y y0 w h hN hc hN2 ha hm (by simpa using hb) (by omega) hOA (fun x hx => hk x hx y0 (by simp))
      · exact symStep f ih g c a m b N X A B Y w hf h hN hc hN2 ha hm hb (by omega) (by omega) hOA hOB hk

end Go.Proofs.Ytcjhglejmmphbaa
