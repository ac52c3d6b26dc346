/-
  slices' rotateCmpFunc of pairs.
-/
import Derived.Test.YtcjhglejmmphbaaHSwap
import Derived.Test.YtcjhglejmmphbaaHRotP
namespace Go.Proofs.Ytcjhglejmmphbaa
open Go.RowKit

set_option maxRecDepth 100000 in
set_option maxHeartbeats 8000000 in
theorem rotate_any (fv : Value) (g c a m b N : Nat) (X A B Y : PL) (w : World) (h : SB w g 37 (X ++ A ++ B ++ Y)) (hN : (X ++ A ++ B ++ Y).length = N) (hc : N ≤ c) (hN2 : N ≤ 1000) (ha : a = X.length) (hm : m = X.length + A.length) (hb : b = m + B.length) (hA : 0 < A.length) (hB : 0 < B.length) :
    Calls Try.prog 45 #[.slice (some ⟨g, 0, none⟩) N c, I a, I m, I b, fv] w (RetSB g (X ++ B ++ A ++ Y) w) := by
  obtain ⟨T, hT⟩ : ∃ T, X ++ B ++ A ++ Y = T := ⟨_, rfl⟩
  have hTL : T.length = N := by rw [← hT, ← hN]; simp; omega
  have hR : Rot T m A.length B.length (X ++ A ++ B ++ Y) := ⟨⟨X, A, B, Y, rfl, hT.symm, rfl, rfl, by omega⟩⟩
  rw [hT]
  have H := Lib.hid h
  have HR := Lib.hid hR
  have HTL := Lib.hid hTL
  have hm1 : a ≤ m := by omega
  have hb1 : m ≤ b := by omega
  have hbN : b ≤ N := by rw [← hN]; simp; omega
  have hi0 : m - a = A.length := by omega
  have hj0 : b - m = B.length := by omega
  rw [← hi0, ← hj0] at HR
  rw [← hi0] at hA
  rw [← hj0] at hB
  obtain ⟨L, hL⟩ : ∃ L, X ++ A ++ B ++ Y = L := ⟨_, rfl⟩
  rw [hL] at H HR
  clear h hR hT hTL ha hm hb hN hi0 hj0 hL
  go_enter Try.func45, Try.ntmps45
  go_wp2
  go_loopg [10, 11] 1000 (fun g2 x y wr => ∃ (i j : Nat) (L : PL), 0 < i ∧ 0 < j ∧ i + j ≤ g2 ∧ x = .int .i64 i ∧ y = .int .i64 j ∧ Rot T m i j L ∧ SB wr g 37 L ∧ Below g w wr)
  case atStart => exact ⟨m - a, b - m, L, by omega, by omega, by omega, vint (by omega), vint (by omega), HR.out, H.out, Below.refl _ _⟩
  case round =>
    obtain ⟨i, j, L1, hi, hj, hij, rfl, rfl, hrot, hsb, hnx⟩ := hrel
    obtain ⟨l1, l2, l3⟩ := hrot.len
    rw [HTL.out] at l1 l3
    have HROT := Lib.hid hrot
    have HSB := Lib.hid hsb
    have HNX := Lib.hid hnx
    have HL1 := Lib.hid l1
    clear hrot hsb hnx l1 HR H
    rcases Nat.lt_trichotomy i j with hlt | hlt | hlt
    · have hne : ((i : Int) != (j : Int)) = true := by simp; omega
      go_wp2_with fail
      refine (swapR_i fv g c (m - i) (m + j - i) i N L1 wr HSB.out HL1.out hc hN2 (by omega) (by omega) (by omega) _ _ _ (by omega) (by omega) (by omega)).mono ?_
      rintro e w2 ⟨rfl, hs2, hb2⟩
      have HS2 := Lib.hid hs2
      have HB2 := Lib.hid (HNX.out.trans hb2)
      clear hs2 hb2
      go_wp2
      go_roundg (gk - i)
      case measure => omega
      case rel => exact ⟨i, j - i, _, by omega, by omega, by omega, rfl, vint (by omega), HROT.out.less hlt, HS2.out, HB2.out⟩
    · subst hlt
      have hne : ((i : Int) != (i : Int)) = false := by simp
      go_wp2_with fail
      refine (swapR_i fv g c (m - i) m i N L1 wr HSB.out HL1.out hc hN2 (by omega) (by omega) (by omega) _ _ _ (by omega) (by omega) (by omega)).mono ?_
      rintro e w2 ⟨rfl, hs2, hb2⟩
      rw [HROT.out.last] at hs2
      have HS2 := Lib.hid hs2
      have HB2 := Lib.hid (HNX.out.trans hb2)
      clear hs2 hb2
      go_wp2
      go_end0
      exact ⟨rfl, HS2.out, HB2.out⟩
    · have hne : ((i : Int) != (j : Int)) = true := by simp; omega
      go_wp2_with fail
      refine (swapR_i fv g c (m - i) m j N L1 wr HSB.out HL1.out hc hN2 (by omega) (by omega) (by omega) _ _ _ (by omega) (by omega) (by omega)).mono ?_
      rintro e w2 ⟨rfl, hs2, hb2⟩
      have HS2 := Lib.hid hs2
      have HB2 := Lib.hid (HNX.out.trans hb2)
      clear hs2 hb2
      go_wp2
      go_roundg (gk - j)
      case measure => omega
      case rel => exact ⟨i - j, j, _, by omega, by omega, by omega, vint (by omega), rfl, HROT.out.more hlt, HS2.out, HB2.out⟩
theorem rotate_i (fv : Value) (g c a m b N : Nat) (X A B Y : PL) (w : World) (h : SB w g 37 (X ++ A ++ B ++ Y)) (hN : (X ++ A ++ B ++ Y).length = N) (hc : N ≤ c) (hN2 : N ≤ 1000) (ha : a = X.length) (hm : m = X.length + A.length) (hb : b = m + B.length) (hA : 0 < A.length) (hB : 0 < B.length) (ai mi bi : Int) (hai : ai = a) (hmi : mi = m) (hbi : bi = b) :
    Calls Try.prog 45 #[.slice (some ⟨g, 0, none⟩) N c, .int .i64 ai, .int .i64 mi, .int .i64 bi, fv] w (RetSB g (X ++ B ++ A ++ Y) w) := by
  subst hai hmi hbi
  exact rotate_any fv g c a m b N X A B Y w h hN hc hN2 ha hm hb hA hB

end Go.Proofs.Ytcjhglejmmphbaa
