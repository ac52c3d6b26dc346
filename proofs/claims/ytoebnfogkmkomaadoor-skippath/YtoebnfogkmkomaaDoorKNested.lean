/-
  The law SkipNested.
-/
import Derived.Test.YtoebnfogkmkomaaDoorKLives
namespace Go.Proofs.YtoebnfogkmkomaaDoor
open Go.RowKit

theorem IS.cell_at {w : World} {A : Option Addr} {n c : Nat} {l : List Int} (h : IS w A n c l) {k : Nat} (hk : k < n) : ∃ b off, A = some ⟨b, off, none⟩ ∧ b < w.heap.size ∧ w.cell? ⟨b, off + k, none⟩ = some (I (l[k]'(by rw [h.len]; exact hk))) := by
  obtain ⟨b, off, e, hb, hc⟩ := h.at_ (by omega)
  exact ⟨b, off, e, hb, hc k hk⟩
theorem gk_step (x t : List Int) (j : Nat) (hj : j < t.length) : gk x 0 (t.take (j + 1)) = if x[gk x 0 (t.take j)]? = some t[j] then gk x 0 (t.take j) + 1 else gk x 0 (t.take j) := by
  rw [List.take_succ_eq_append_getElem hj, gk_snoc]
theorem row_sub (l : List Int) (i : Nat) : (rowL l i).Sublist (rowL l (i - 1)) := by
  rcases Nat.eq_zero_or_pos i with h | h
  · subst h; exact List.Sublist.refl _
  · have := rowL_sub l (i - 1)
    rwa [show i - 1 + 1 = i by omega] at this

set_option maxRecDepth 100000 in
set_option maxHeartbeats 2000000 in
theorem Nested_bad (A : Option Addr) (n c : Nat) (l : List Int) (w : World) (h : IS w A n c l) (hn : n ≤ 9223372036854775807) (hT : Tb w) (E : Int) (hE : chkK l = E) (hE0 : E ≠ 0) :
    Calls Tryd.prog 7 #[.slice A n c] w fun e w' => e = .returned (.bool true) ∧ Below w.heap.size w w' := by
  have HC := Lib.hid (Rows_bad A n c l w h hn E hE hE0)
  have HT := Lib.hid hT
  have hne := err_ne hE0
  clear h hE hT
  go_enter Tryd.func7, Tryd.ntmps7
  go_wp2_with fail
  refine HC.out.mono ?_
  rintro e w1 ⟨rfl, hb1⟩
  have HB1 := Lib.hid hb1
  have HL := Lib.hid (skipLives_any w1 (HT.out.next hb1))
  clear hb1
  go_wp2_with fail
  refine HL.out.mono ?_
  rintro e w2 ⟨rfl, hb2, ht2⟩
  have HB2 := Lib.hid (kon HB1.out hb2)
  have HL2 := Lib.hid (skipLives_any w2 ht2)
  clear hb2 ht2
  go_wp2_with fail
  refine HL2.out.mono ?_
  rintro e w3 ⟨rfl, hb3, ht3⟩
  have HB3 := Lib.hid (kon HB2.out hb3)
  clear hb3 ht3
  go_wp2
  go_ret
  exact ⟨rfl, HB3.out⟩

set_option maxRecDepth 100000 in
set_option maxHeartbeats 2000000 in
theorem Nested_good (A : Option Addr) (n c : Nat) (l : List Int) (w : World) (h : IS w A n c l) (hR : Rise l) (hT : Tb w) :
    Calls Tryd.prog 7 #[.slice A n c] w fun e w' => e = .returned (.bool true) ∧ Below w.heap.size w w' := by
  have hn : n ≤ 200 := by rw [← h.len]; exact hR.len
  have HC := Lib.hid (Rows_ok A n c l w h hR hT)
  have HT := Lib.hid hT
  have H := Lib.hid h
  have HLEN := Lib.hid h.len
  clear h hT
  go_enter Tryd.func7, Tryd.ntmps7
  go_wp2_with fail
  refine HC.out.mono ?_
  rintro e w1 ⟨A1, m1, c1, rfl, hri, hb1⟩
  have HB1 := Lib.hid hb1
  have HRI := Lib.hid hri
  have HL := Lib.hid (skipLives_any w1 (HT.out.next hb1))
  have hm12 := hri.le
  have HM : Hid (m1 = hiR l) := by show m1 = hiR l; rw [← hri.len, rowsL_len]
  clear hb1 hri
  go_wp2_with fail
  refine HL.out.mono ?_
  rintro e w2 ⟨rfl, hb2, ht2⟩
  have HB2 := Lib.hid (kon HB1.out hb2)
  have HRI2 := Lib.hid (HRI.out.below hb2)
  have HI2 := Lib.hid (H.out.below HB2.out)
  clear hb2 ht2 HRI HL HC
  go_wp2
  go_loop [5, 31] (fun z i => ∃ (k : Nat) (A' : Option Addr) (n' c' : Nat), k ≤ m1 ∧ i = .int .i64 k ∧ z = .slice A' n' c' ∧ IS w2 A' n' c' (rowL l (k - 1))) (fun _ i => m1 - (intOf i).toNat)
  case atStart => exact ⟨0, A, n, c, Nat.zero_le _, rfl, rfl, by rw [rowL_zero]; exact HI2.out⟩
  case round =>
    obtain ⟨i, A', n', c', hi, rfl, rfl, his⟩ := hrel
    by_cases hlt : i < m1
    · obtain ⟨b, off, rfl, hbl, hcs⟩ := HRI2.out.at_ (by omega)
      obtain ⟨Ax, nx, cx, hcell, hisx⟩ := hcs i hlt
      rw [rowsL_at l i (by have := HM.out; omega), Option.getD_some] at hisx
      obtain ⟨x, hx⟩ : ∃ x, rowL l i = x := ⟨_, rfl⟩
      obtain ⟨t, ht⟩ : ∃ t, rowL l (i - 1) = t := ⟨_, rfl⟩
      have hsub := row_sub l i
      rw [hx, ht] at hsub
      rw [hx] at hisx
      rw [ht] at his
      have hnx : nx ≤ 200 := by rw [← hisx.len, ← hx]; have := rowL_len l i; have := hR.len; omega
      have hn' : n' ≤ 200 := by rw [← his.len, ← ht]; have := rowL_len l (i - 1); have := hR.len; omega
      have hpos : 0 < nx := by
        rcases Nat.eq_zero_or_pos nx with h0 | h0
        · have h1 := hiR_some l i (by have := HM.out; omega)
          rw [hx] at h1
          exact absurd (List.eq_nil_of_length_eq_zero (hisx.len.trans h0)) h1
        · exact h0
      have HX0 : Hid (i = 0 → nx = n) := fun h0 => by
        subst h0
        rw [rowL_zero] at hx
        rw [← hisx.len, ← hx]
        exact HLEN.out
      have HXR : Hid (rowL l (i + 1 - 1) = x) := hx
      have HIX := Lib.hid hisx
      have HIT := Lib.hid his
      have HGK : Hid (gk x 0 t = nx) := by show _ = _; rw [gk_sub x t 0 (Nat.zero_le _) (by simpa using hsub)]; exact hisx.len
      have HGL : Hid (∀ j, gk x 0 (t.take j) ≤ nx) := fun j => by rw [← hisx.len]; exact gk_le x _ 0 (Nat.zero_le _)
      have HLX := Lib.hid hisx.len
      have HLT := Lib.hid his.len
      clear hcs hisx his hx ht hsub
      go_wp2
      go_loop [8, 38] (fun z j => ∃ k : Nat, k ≤ n' ∧ j = .int .i64 k ∧ z = .int .i64 (gk x 0 (t.take k))) (fun _ j => n' - (intOf j).toNat)
      case atStart => exact ⟨0, Nat.zero_le _, rfl, rfl⟩
      case round =>
        obtain ⟨j, hj, rfl, rfl⟩ := hrel
        obtain ⟨g, hg⟩ : ∃ g, gk x 0 (t.take j) = g := ⟨_, rfl⟩
        have hgl : g ≤ nx := by rw [← hg]; exact HGL.out j
        rw [hg]
        by_cases hjn : j < n'
        · have hjt : j < t.length := by rw [HLT.out]; exact hjn
          obtain ⟨b', off', rfl, hbl', hc0⟩ := HIT.out.cell_at hjn
          obtain ⟨y, hy⟩ : ∃ y, t[j] = y := ⟨_, rfl⟩
          rw [hy] at hc0
          have hst := gk_step x t j hjt
          rw [hg, hy] at hst
          by_cases hgn : g < nx
          · have hgx : g < x.length := by rw [HLX.out]; exact hgn
            obtain ⟨bx, offx, rfl, hblx, hc1⟩ := HIX.out.cell_at hgn
            obtain ⟨u, hu⟩ : ∃ u, x[g] = u := ⟨_, rfl⟩
            rw [hu] at hc1
            rw [List.getElem?_eq_getElem hgx, hu] at hst
            have HG := Lib.hid hg
            by_cases he : u = y
            · subst he
              rw [if_pos rfl] at hst
              have HST := Lib.hid hst
              clear hst hg hy hu
              go_wp2
              go_round
              case rel => exact ⟨j + 1, by omega, by go_num, by rw [HST.out]; go_num⟩
              case measure => simp [intOf]; omega
            · rw [if_neg (by simpa using he)] at hst
              have HST := Lib.hid hst
              have hbe : (u == y) = false := by simpa using he
              clear hst hg hy hu
              go_wp2
              go_round
              case rel => exact ⟨j + 1, by omega, by go_num, by rw [HST.out]⟩
              case measure => simp [intOf]; omega
          · have hnone : x[g]? = none := List.getElem?_eq_none (by rw [HLX.out]; omega)
            rw [hnone, if_neg (by simp)] at hst
            have HST := Lib.hid hst
            have hgn' : g = nx := by omega
            clear hst hg hy hnone
            go_wp2
            go_round
            case rel => exact ⟨j + 1, by omega, by go_num, by rw [HST.out]⟩
            case measure => simp [intOf]; omega
        · have hgx : g = nx := by
            rw [← hg, List.take_of_length_le (by rw [HLT.out]; omega)]
            exact HGK.out
          clear hg
          subst hgx
          by_cases h0 : i = 0
          · obtain rfl : g = n := HX0.out h0
            subst h0
            go_wp2
            go_round
            case rel => exact ⟨1, _, _, _, by omega, rfl, rfl, by rw [← HXR.out] at HIX; exact HIX.out⟩
            case measure => simp [intOf]; omega
          · have h0' : ((i : Int) == 0) = false := by simp; omega
            go_wp2
            go_round
            case rel => exact ⟨i + 1, _, _, _, by omega, by go_num, rfl, by rw [HXR.out]; exact HIX.out⟩
            case measure => simp [intOf]; omega
    · have hml : (0 < m1 ↔ 0 < n) := by
        have := HM.out
        have h1 := hiR_pos l
        have h2 := HLEN.out
        constructor
        · intro h
          rcases Nat.eq_zero_or_pos n with h0 | h0
          · exact absurd (List.eq_nil_of_length_eq_zero (h2.trans h0)) (h1.1 (by omega))
          · exact h0
        · intro h
          have := h1.2 (by intro e; rw [e] at h2; simp at h2; omega)
          omega
      by_cases h0 : 0 < n
      · have hm0 : 0 < m1 := hml.2 h0
        go_wp2
        go_ret
        exact ⟨by simp; try omega, HB2.out⟩
      · obtain rfl : n = 0 := by omega
        obtain rfl : m1 = 0 := by
          rcases Nat.eq_zero_or_pos m1 with h | h
          · exact h
          · exact absurd (hml.1 h) (by omega)
        go_wp2
        go_ret
        exact ⟨by simp; try omega, HB2.out⟩

theorem Nested_any (A : Option Addr) (n c : Nat) (l : List Int) (w : World) (h : IS w A n c l) (hn : n ≤ 9223372036854775807) (hT : Tb w) :
    Calls Tryd.prog 7 #[.slice A n c] w fun e w' => e = .returned (.bool true) ∧ Below w.heap.size w w' := by
  by_cases h0 : chkK l = 0
  · exact Nested_good A n c l w h (chkK_zero.1 h0) hT
  · exact Nested_bad A n c l w h hn hT _ rfl h0
end Go.Proofs.YtoebnfogkmkomaaDoor
