/-
  slices.SortStableFunc of pairs, by ranks.
-/
import Derived.Test.YtcjhglejmmphbaaHStabP
import Derived.Test.YtcjhglejmmphbaaHSym3
namespace Go.Proofs.Ytcjhglejmmphbaa
open Go.RowKit

/-- a range sorted -/
theorem insRange (g c x y N : Nat) (L : PL) (w : World) (h : SB w g 37 L) (hN : L.length = N) (hc : N ≤ c) (hN2 : N ≤ 1000) (hxy : x ≤ y) (hy : y ≤ N) (hr : HKeys (seg L x y)) (xi yi : Int) (hxi : xi = x) (hyi : yi = y) :
    Calls Try.prog 41 #[.slice (some ⟨g, 0, none⟩) N c, .int .i64 xi, .int .i64 yi, fcmp] w fun e w' => ∃ M : PL, M.Perm (seg L x y) ∧ Ord M ∧ e = .returned (.tuple #[]) ∧ SB w' g 37 (put L M x y) ∧ Below g w w' := by
  subst hxi hyi
  have hcut := seg_cut L hxy
  have hl : (L.take x).length = x := by simp; omega
  refine (insSort_any g c x y N (L.take x) (seg L x y) (L.drop y) w (by rw [← hcut]; exact h) (by rw [← hcut]; exact hN) hc hN2 hl.symm (by rw [hl, seg_length hxy (by omega)]; omega) hr).mono ?_
  rintro e w' ⟨M, h1, h2, h3, h4, h5⟩
  exact ⟨M, h1, h2, h3, h4, h5⟩
/-- two runs put together -/
theorem symRange (g c x m y N : Nat) (L : PL) (w : World) (h : SB w g 37 L) (hN : L.length = N) (hc : N ≤ c) (hN2 : N ≤ 1000) (hxm : x < m) (hmy : m < y) (hy : y ≤ N) (o1 : Ord (seg L x m)) (o2 : Ord (seg L m y)) (hk : ∀ p ∈ seg L x m, ∀ q ∈ seg L m y, p.1 < q.1) (xi mi yi : Int) (hxi : xi = x) (hmi : mi = m) (hyi : yi = y) :
    Calls Try.prog 42 #[.slice (some ⟨g, 0, none⟩) N c, .int .i64 xi, .int .i64 mi, .int .i64 yi, fcmp] w fun e w' => ∃ M : PL, M.Perm (seg L x y) ∧ Ord M ∧ e = .returned (.tuple #[]) ∧ SB w' g 37 (put L M x y) ∧ Below g w w' := by
  have hcut : L = L.take x ++ seg L x m ++ seg L m y ++ L.drop y := by
    conv => lhs; rw [seg_cut L (show x ≤ y by omega), seg_join L (show x ≤ m by omega) (show m ≤ y by omega)]
    simp
  have hl : (L.take x).length = x := by simp; omega
  have e1 := seg_length (L := L) (show x ≤ m by omega) (by omega)
  have e2 := seg_length (L := L) (show m ≤ y by omega) (by omega)
  refine ((symMerge_any _).i g c x m y N (L.take x) (seg L x m) (seg L m y) (L.drop y) L w (Nat.le_refl _) h hcut hN hc hN2 hl.symm (by omega) (by omega) (by omega) (by omega) o1 o2 hk xi mi yi hxi hmi hyi).mono ?_
  rintro e w' ⟨M, h1, h2, h3, h4, h5⟩
  exact ⟨M, by rw [seg_join L (show x ≤ m by omega) (show m ≤ y by omega)]; exact h1, h2, h3, h4, h5⟩

set_option maxRecDepth 100000 in
set_option maxHeartbeats 8000000 in
theorem stable_any (g c N : Nat) (L0 : PL) (w : World) (h : SB w g 37 L0) (hN : L0.length = N) (hc : N ≤ c) (hN2 : N ≤ 1000) (hr : HKeys L0) :
    Calls Try.prog 32 #[.slice (some ⟨g, 0, none⟩) N c, I N, fcmp] w fun e w' => ∃ M : PL, M.Perm L0 ∧ Ord M ∧ e = .returned (.tuple #[]) ∧ SB w' g 37 M ∧ Below g w w' := by
  have H := Lib.hid h
  have HN := Lib.hid hN
  have HR := Lib.hid hr
  clear h hN hr
  go_enter Try.func32, Try.ntmps32
  go_wp2
  go_loopg [7, 8] 2000 (fun g2 s7 s8 wr => ∃ (x y : Nat) (L : PL), y = x + 20 ∧ x ≤ N ∧ N - x < g2 ∧ s7 = .int .i64 x ∧ s8 = .int .i64 y ∧ GP L0 L 20 x ∧ L.length = N ∧ L.drop x = L0.drop x ∧ SB wr g 37 L ∧ Below g w wr)
  case atStart => exact ⟨0, 20, L0, rfl, by omega, by omega, rfl, rfl, .zero, HN.out, rfl, H.out, Below.refl _ _⟩
  case round =>
  obtain ⟨x, y, L, hy, hx, hg2, rfl, rfl, hgp, hlen, hdr, hsb, hnx⟩ := hrel
  have HGP := Lib.hid hgp
  have HLEN := Lib.hid hlen
  have HDR := Lib.hid hdr
  have HSB := Lib.hid hsb
  have HNX := Lib.hid hnx
  have hy1 : x + 20 ≤ y := by omega
  have hy2 : y ≤ x + 20 := by omega
  have HY := Lib.hid hy
  clear hgp hlen hdr hsb hnx hy
  by_cases hyN : y ≤ N
  · go_wp2_with fail
    refine (insRange g c x y N L wr HSB.out HLEN.out hc hN2 (by omega) hyN (by rw [seg_drop HDR.out]; exact seg_keys HR.out) _ _ rfl rfl).mono ?_
    rintro e w2 ⟨M, hM, hO, rfl, hs2, hb2⟩
    have hML := perm_length (by omega) (by rw [HLEN.out]; exact hyN) hM
    have HG2 : Hid (GP L0 (put L M x y) 20 y) := by
      have hy := HY.out
      subst hy
      exact HGP.out.put (by rw [HLEN.out]; exact hyN) hM (by rw [seg_drop HDR.out]) hO
    have HL2 : Hid ((put L M x y).length = N) := by show _ = _; rw [put_length (by omega) (by rw [HLEN.out]; exact hyN) hML, HLEN.out]
    have HD2 : Hid ((put L M x y).drop y = L0.drop y) := by show _ = _; rw [put_drop (by omega) (by rw [HLEN.out]; exact hyN) hML, drop_more HDR.out (by omega)]
    have HS2 := Lib.hid hs2
    have HN2 := Lib.hid (HNX.out.trans hb2)
    clear hM hO hs2 hb2 hML
    go_wp2
    go_roundg (gk - 1)
    case measure => omega
    case rel => exact ⟨y, y + 20, _, rfl, by omega, by omega, rfl, vint (by omega), HG2.out, HL2.out, HD2.out, HS2.out, HN2.out⟩
  go_wp2_with fail
  refine (insRange g c x N N L wr HSB.out HLEN.out hc hN2 hx (Nat.le_refl _) (by rw [seg_drop HDR.out]; exact seg_keys HR.out) _ _ rfl rfl).mono ?_
  rintro e w2 ⟨M, hM, hO, rfl, hs2, hb2⟩
  have HF2 : Hid (GF L0 (put L M x N) N 20 0) := HGP.out.last (by omega) HLEN.out hx (by omega) hM (by rw [seg_drop HDR.out]) hO
  have HL2 : Hid ((put L M x N).length = N) := by show _ = _; rw [put_length hx (by rw [HLEN.out]; exact Nat.le_refl _) (perm_length hx (by rw [HLEN.out]; exact Nat.le_refl _) hM), HLEN.out]
  have HS2 := Lib.hid hs2
  have HN2 := Lib.hid (HNX.out.trans hb2)
  obtain ⟨L1, hL1⟩ : ∃ L1, put L M x N = L1 := ⟨_, rfl⟩
  rw [hL1] at HF2 HL2 HS2
  clear hM hO hs2 hb2 hL1 HGP HLEN HDR HSB HNX HY hyN hy1 hy2
  go_wp2
  go_loopg [6] 2000 (fun g2 s6 wr => ∃ (bs : Nat) (L : PL), 20 ≤ bs ∧ bs ≤ 2000 ∧ N - bs < g2 ∧ s6 = .int .i64 bs ∧ GF L0 L N bs 0 ∧ L.length = N ∧ SB wr g 37 L ∧ Below g w wr)
  case atStart => exact ⟨20, L1, Nat.le_refl _, by omega, by omega, rfl, HF2.out, HL2.out, HS2.out, HN2.out⟩
  case round =>
  obtain ⟨bs, L, hb1, hb2, hg3, rfl, hgf, hlen, hsb, hnx⟩ := hrel
  have HGF := Lib.hid hgf
  have HLEN := Lib.hid hlen
  have HSB := Lib.hid hsb
  have HNX := Lib.hid hnx
  clear hgf hlen hsb hnx HF2 HL2 HS2 HN2
  by_cases hbN : bs < N
  · go_wp2
    go_loopg [7, 8] 2000 (fun g2 s7 s8 wr => ∃ (x y : Nat) (L : PL), y = x + (bs + bs) ∧ x ≤ N ∧ N - x < g2 ∧ s7 = .int .i64 x ∧ s8 = .int .i64 y ∧ GP L0 L (bs + bs) x ∧ GF L0 L N bs x ∧ L.length = N ∧ SB wr g 37 L ∧ Below g w wr)
    case atStart => exact ⟨0, bs + bs, L, by omega, by omega, by omega, rfl, vint (by omega), .zero, HGF.out, HLEN.out, HSB.out, HNX.out⟩
    case round =>
    obtain ⟨x, y, L, hy, hx, hg4, rfl, rfl, hgp, hgf, hlen, hsb, hnx⟩ := hrel
    have hy1 : x + bs + bs ≤ y := by omega
    have hy2 : y ≤ x + bs + bs := by omega
    have HY := Lib.hid hy
    have HGP := Lib.hid hgp
    have HGF2 := Lib.hid hgf
    have HLEN2 := Lib.hid hlen
    have HSB2 := Lib.hid hsb
    have HNX2 := Lib.hid hnx
    clear hgp hgf hlen hsb hnx hy HGF HLEN HSB HNX
    by_cases hyN : y ≤ N
    · have htw := HGF2.out.two (by omega) (show x + bs < N by omega)
      obtain ⟨m, hm⟩ : ∃ m, x + bs = m := ⟨_, rfl⟩
      rw [hm, show m + bs = y by omega, Nat.min_eq_left hyN] at htw
      have HTW := Lib.hid htw
      have hm1 : x + bs ≤ m := by omega
      have hm2 : m ≤ x + bs := by omega
      clear htw hm
      go_wp2_with fail
      refine (symRange g c x m y N L wr HSB2.out HLEN2.out hc hN2 (by omega) (by omega) hyN HTW.out.1.2 HTW.out.2.1.2 (good_keys HR.out HTW.out.1 HTW.out.2.1) _ _ _ rfl (by omega) rfl).mono ?_
      rintro e w2 ⟨M, hM, hO, rfl, hs2, hb2⟩
      have hML := perm_length (by omega) (by rw [HLEN2.out]; exact hyN) hM
      have HG2 : Hid (GP L0 (put L M x y) (bs + bs) y) := by
        have hy := HY.out
        have hgj := good_join (by omega) (by omega) HTW.out.1 HTW.out.2.1
        subst hy
        exact HGP.out.put (by rw [HLEN2.out]; exact hyN) hM hgj hO
      have HF2 : Hid (GF L0 (put L M x y) N bs y) := HTW.out.2.2.putF (by omega) (by rw [HLEN2.out]; exact hyN) hML (Nat.le_refl _)
      have HL2 : Hid ((put L M x y).length = N) := by show _ = _; rw [put_length (by omega) (by rw [HLEN2.out]; exact hyN) hML, HLEN2.out]
      have HS2 := Lib.hid hs2
      have HN2 := Lib.hid (HNX2.out.trans hb2)
      clear hM hO hs2 hb2 hML
      go_wp2
      go_roundg (gk - 1)
      case measure => omega
      case rel => exact ⟨y, y + (bs + bs), _, rfl, by omega, by omega, rfl, vint (by omega), HG2.out, HF2.out, HL2.out, HS2.out, HN2.out⟩
    · by_cases hmN : x + bs < N
      · have htw := HGF2.out.two (by omega) hmN
        obtain ⟨m, hm⟩ : ∃ m, x + bs = m := ⟨_, rfl⟩
        rw [hm, Nat.min_eq_right (show N ≤ m + bs by omega)] at htw
        have HTW := Lib.hid htw
        have hm1 : x + bs ≤ m := by omega
        have hm2 : m ≤ x + bs := by omega
        have hmi : (x : Int) + (bs : Int) = (m : Int) := by omega
        have hmN2 : m < N := by omega
        clear htw hm hmN
        go_wp2_with fail
        refine (symRange g c x m N N L wr HSB2.out HLEN2.out hc hN2 (by omega) (by omega) (Nat.le_refl _) HTW.out.1.2 HTW.out.2.1.2 (good_keys HR.out HTW.out.1 HTW.out.2.1) _ _ _ rfl (by omega) rfl).mono ?_
        rintro e w2 ⟨M, hM, hO, rfl, hs2, hb2⟩
        have HF2 : Hid (GF L0 (put L M x N) N (bs + bs) 0) := HGP.out.last (by omega) HLEN2.out hx (by omega) hM (good_join (by omega) (by omega) HTW.out.1 HTW.out.2.1) hO
        have HL2 : Hid ((put L M x N).length = N) := by show _ = _; rw [put_length hx (by rw [HLEN2.out]; exact Nat.le_refl _) (perm_length hx (by rw [HLEN2.out]; exact Nat.le_refl _) hM), HLEN2.out]
        have HS2 := Lib.hid hs2
        have HN2 := Lib.hid (HNX2.out.trans hb2)
        clear hM hO hs2 hb2
        go_wp2
        go_roundg (N - (bs + bs) + 1)
        case measure => omega
        case rel => exact ⟨bs + bs, _, by omega, by omega, by omega, vint (by omega), HF2.out, HL2.out, HS2.out, HN2.out⟩
      · have HF2 : Hid (GF L0 L N (bs + bs) 0) := HGP.out.alone (by omega) HGF2.out hx (by omega)
        obtain ⟨m, hm⟩ : ∃ m, x + bs = m := ⟨_, rfl⟩
        have hmi : (x : Int) + (bs : Int) = (m : Int) := by omega
        have hmN2 : ¬ m < N := by omega
        clear hm hmN
        go_wp2
        go_roundg (N - (bs + bs) + 1)
        case measure => omega
        case rel => exact ⟨bs + bs, L, by omega, by omega, by omega, vint (by omega), HF2.out, HLEN2.out, HSB2.out, HNX2.out⟩
  · go_wp2
    go_end0
    have := HGF.out.whole HLEN.out HN.out (by omega)
    exact ⟨L, this.1, this.2, rfl, HSB.out, HNX.out⟩

theorem sortStable_any (g c N : Nat) (L0 : PL) (w : World) (h : SB w g 37 L0) (hN : L0.length = N) (hc : N ≤ c) (hN2 : N ≤ 1000) (hr : HKeys L0) :
    Calls Try.prog 18 #[.slice (some ⟨g, 0, none⟩) N c, fcmp] w fun e w' => ∃ M : PL, M.Perm L0 ∧ Ord M ∧ e = .returned (.tuple #[]) ∧ SB w' g 37 M ∧ Below g w w' := by
  have HS := Lib.hid (stable_any g c N L0 w h hN hc hN2 hr)
  clear h hN hr
  go_enter Try.func18, Try.ntmps18
  go_wp2_with fail
  refine HS.out.mono ?_
  rintro e w2 ⟨M, h1, h2, rfl, h3, h4⟩
  have HP := Lib.hid h1
  have HO := Lib.hid h2
  have HS3 := Lib.hid h3
  have HB := Lib.hid h4
  clear h1 h2 h3 h4
  go_wp2
  go_end0
  exact ⟨M, HP.out, HO.out, rfl, HS3.out, HB.out⟩

end Go.Proofs.Ytcjhglejmmphbaa
