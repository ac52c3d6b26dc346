/-
  slices' swapRangeCmpFunc, rotateCmpFunc of pairs; the comparison by ranks.
-/
import Derived.Test.YtcjhglejmmphbaaHSortP
import Derived.Test.YtcjhglejmmphbaaSRow
import Derived.Test.YtcjhglejmmphbaaChecked
import Derived.Deep.LoopGhost
import Derived.BigRegion
import Derived.BigQuiet
import Derived.Deep.QuietTactic
import Derived.Deep.RegionHeld3
namespace Go.Proofs.Ytcjhglejmmphbaa
open Go.RowKit

theorem SB.set2 {w : World} {g t : Nat} {L : PL} (h : SB w g t L) (i : Nat) (p : Int × Int) (hi : i < L.length) : SB ((w.setCell ⟨g, i * 2, none⟩ (I p.1)).setCell ⟨g, i * 2 + 1, none⟩ (I p.2)) g t (L.set i p) := by
  obtain ⟨cur, h0, htk⟩ := h
  have h1 := setCell_eq_setRow w g (i * 2) _ t (0, 0) (I p.1) h0
  have h2 := setRow_heap w g _ (cur.setIfInBounds (i * 2) (I p.1)) t (0, 0) h0
  rw [h1]
  have h3 := setCell_eq_setRow (w.setRow g (cur.setIfInBounds (i * 2) (I p.1))) g (i * 2 + 1) _ t (0, 0) (I p.2) h2
  rw [h3]
  have h4 := setRow_heap (w.setRow g (cur.setIfInBounds (i * 2) (I p.1))) g _ ((cur.setIfInBounds (i * 2) (I p.1)).setIfInBounds (i * 2 + 1) (I p.2)) t (0, 0) h2
  refine ⟨_, h4, ?_⟩
  rw [← flat_set2 L i p.1 p.2 hi, ← htk, List.length_set]
  simp [List.take_set]
/-- the world with two pairs exchanged -/
def swW (w : World) (g x y : Nat) (p q : Int × Int) : World := (((w.setCell ⟨g, x * 2, none⟩ (I q.1)).setCell ⟨g, x * 2 + 1, none⟩ (I q.2)).setCell ⟨g, y * 2, none⟩ (I p.1)).setCell ⟨g, y * 2 + 1, none⟩ (I p.2)
theorem swW_eq {w : World} {g x y : Nat} {p1 p2 q1 q2 : Int} : swW w g x y (p1, p2) (q1, q2) = (((w.setCell ⟨g, x * 2, none⟩ (I q1)).setCell ⟨g, x * 2 + 1, none⟩ (I q2)).setCell ⟨g, y * 2, none⟩ (I p1)).setCell ⟨g, y * 2 + 1, none⟩ (I p2) := rfl
theorem SB.swap {w : World} {g t : Nat} {L : PL} (h : SB w g t L) (x y : Nat) (hx : x < L.length) (hy : y < L.length) : SB (swW w g x y (pr L x) (pr L y)) g t (sw L x y) :=
  (h.set2 x (pr L y) hx).set2 y (pr L x) (by rw [List.length_set]; exact hy)
theorem below_swW {B : Nat} {w w' : World} {g x y : Nat} {p q : Int × Int} (h : Below B w w') (hB : B ≤ g) : Below B w (swW w' g x y p q) := (((h.setCell hB _).setCell hB _).setCell hB _).setCell hB _
theorem SB.drew {w : World} {g t : Nat} {L : PL} (h : SB w g t L) : SB w.drew g t L := h
theorem SB.up {w w' : World} {g t : Nat} {L : PL} (h : SB w g t L) (hb : Below w.heap.size w w') : SB w' g t L := h.below hb h.lt

/-- how two are held against each other -/
abbrev fcmp : Value := .func (.func 19) #[] #[]
abbrev pv (p : Int × Int) : Value := .agg #[I p.1, I p.2]
theorem hcmp_t (p q : Int × Int) (w : World) (h : q.2 < p.2) : Calls Try.prog 19 #[pv p, pv q] w fun e w' => e = .returned (I (-1)) ∧ Below w.heap.size w w' := by
  go_enter Try.func19, Try.ntmps19
  go_wp2
  go_ret
  exact ⟨rfl, ((Below.refl _ _).alloc (Nat.le_refl _) _).alloc (by simp) _⟩
theorem hcmp_f (p q : Int × Int) (w : World) (h : ¬ q.2 < p.2) : Calls Try.prog 19 #[pv p, pv q] w fun e w' => ∃ r : Int, 0 ≤ r ∧ e = .returned (I r) ∧ Below w.heap.size w w' := by
  by_cases h2 : p.2 < q.2
  · go_enter Try.func19, Try.ntmps19
    go_wp2
    go_ret
    exact ⟨1, by omega, rfl, ((Below.refl _ _).alloc (Nat.le_refl _) _).alloc (by simp) _⟩
  · go_enter Try.func19, Try.ntmps19
    go_wp2
    go_ret
    exact ⟨0, by omega, rfl, ((Below.refl _ _).alloc (Nat.le_refl _) _).alloc (by simp) _⟩

/-- the row is L, nothing ahead of it has turned -/
def RetSB (g : Nat) (L : PL) (w : World) (e : Ending) (w' : World) : Prop := e = .returned (.tuple #[]) ∧ SB w' g 37 L ∧ Below g w w'
theorem vint {a b : Int} (h : a = b) : Value.int .i64 a = .int .i64 b := by rw [h]

set_option maxRecDepth 100000 in
set_option maxHeartbeats 8000000 in
theorem swapR_any (fv : Value) (g c a b n N : Nat) (L : PL) (w : World) (h : SB w g 37 L) (hN : L.length = N) (hc : N ≤ c) (hN2 : N ≤ 1000) (ha : a + n ≤ N) (hb : b + n ≤ N) (hab : a < b) :
    Calls Try.prog 47 #[.slice (some ⟨g, 0, none⟩) N c, I a, I b, I n, fv] w (RetSB g (sr L a b n) w) := by
  have H := Lib.hid h
  have HN := Lib.hid hN
  clear h hN
  go_enter Try.func47, Try.ntmps47
  go_wp2
  go_loopg [10] n (fun m i wr => ∃ k : Nat, k ≤ n ∧ n - k ≤ m ∧ i = .int .i64 k ∧ SB wr g 37 (sr L a b k) ∧ Below g w wr)
  case atStart => exact ⟨0, Nat.zero_le _, by omega, rfl, H.out, Below.refl _ _⟩
  case round =>
    obtain ⟨k, hk, hkm, rfl, hsb, hnx⟩ := hrel
    have HNX := Lib.hid hnx
    clear hnx
    by_cases hlt : k < n
    · have hl := sr_length L a b k
      rw [HN.out] at hl
      obtain ⟨x, hx⟩ : ∃ x, a + k = x := ⟨_, rfl⟩
      obtain ⟨y, hy⟩ : ∃ y, b + k = y := ⟨_, rfl⟩
      have HSW : Hid (SB (swW wr g x y (ky (sr L a b k) x, dp (sr L a b k) x) (ky (sr L a b k) y, dp (sr L a b k) y)) g 37 (sr L a b (k + 1))) := by
        show SB _ _ _ _
        rw [sr, hx, hy]
        exact hsb.swap x y (by omega) (by omega)
      obtain ⟨cx0, cx1⟩ := hsb.cell x (by omega)
      obtain ⟨cy0, cy1⟩ := hsb.cell y (by omega)
      have fx0 := hsb.frozen (x * 2)
      have fx1 := hsb.frozen (x * 2 + 1)
      have fy0 := hsb.frozen (y * 2)
      have fy1 := hsb.frozen (y * 2 + 1)
      have ix : IntKind.i64.wrap ((a : Int) + (k : Int)) = (x : Int) := by rw [← hx]; have := IntWalk.i64_in ((a : Int) + (k : Int)) (by omega); rw [this]; omega
      have iy : IntKind.i64.wrap ((b : Int) + (k : Int)) = (y : Int) := by rw [← hy]; have := IntWalk.i64_in ((b : Int) + (k : Int)) (by omega); rw [this]; omega
      have hxN : x < N := by omega
      have hyN : y < N := by omega
      have hxy : x < y := by omega
      have hxi : (x : Int) < (N : Int) := by omega
      have hyi : (y : Int) < (N : Int) := by omega
      have hx0 : (0 : Int) ≤ (x : Int) := by omega
      have hy0 : (0 : Int) ≤ (y : Int) := by omega
      have hg := hsb.lt
      clear hsb hl hx hy
      generalize ky (sr L a b k) x = p1 at *
      generalize dp (sr L a b k) x = p2 at *
      generalize ky (sr L a b k) y = q1 at *
      generalize dp (sr L a b k) y = q2 at *
      go_wp2
      go_region
      have HS := Lib.hid (show SB (swW wr g x y (p1, p2) (q1, q2)).drew g 37 (sr L a b (k + 1)) from HSW.out)
      have HBW := Lib.hid (show Below g w (swW wr g x y (p1, p2) (q1, q2)).drew from (below_swW HNX.out (Nat.le_refl _)).drew)
      rw [← swW_eq]
      clear cx0 cx1 cy0 cy1 fx0 fx1 fy0 fy1 ix iy HSW
      generalize (swW wr g x y (p1, p2) (q1, q2)).drew = W at *
      go_wp2
      go_roundg (gk - 1)
      case measure => omega
      case rel => exact ⟨k + 1, by omega, by omega, by go_num, HS.out, HBW.out⟩
    · go_wp2
      go_end0
      obtain rfl : k = n := by omega
      exact ⟨rfl, hsb, HNX.out⟩
theorem swapR_i (fv : Value) (g c a b n N : Nat) (L : PL) (w : World) (h : SB w g 37 L) (hN : L.length = N) (hc : N ≤ c) (hN2 : N ≤ 1000) (ha : a + n ≤ N) (hb : b + n ≤ N) (hab : a < b) (ai bi ni : Int) (hai : ai = a) (hbi : bi = b) (hni : ni = n) :
    Calls Try.prog 47 #[.slice (some ⟨g, 0, none⟩) N c, .int .i64 ai, .int .i64 bi, .int .i64 ni, fv] w (RetSB g (sr L a b n) w) := by
  subst hai hbi hni
  exact swapR_any fv g c a b n N L w h hN hc hN2 ha hb hab

end Go.Proofs.Ytcjhglejmmphbaa
