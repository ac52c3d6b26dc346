/-
  HeapSays: Check, Of, Join and Least answer what the document says.
-/
import Derived.Test.YtcjhglejmmphbaaHJoin
import Derived.Test.YtcjhglejmmphbaaHLeast
import Derived.Test.YtcjhglejmmphbaaHRef
import Derived.Test.YtcjhglejmmphbaaGRefS
import Derived.Test.YtcjhglejmmphbaaGRefK
namespace Go.Proofs.Ytcjhglejmmphbaa
open Go.RowKit

/-- is one of the first i of a, or the next one beside the first j of b, no less? -/
def hBad (a b : PL) (i j : Nat) : Bool := (a.take i).any (fun x => b.any fun y => decide (y.1 ≤ x.1)) || (b.take j).any (fun y => decide (y.1 ≤ ky a i))
theorem hBad_in (a b : PL) (i j : Nat) (hj : j < b.length) : hBad a b i (j + 1) = (hBad a b i j || decide (ky b j ≤ ky a i)) := by
  unfold hBad
  rw [List.take_succ_eq_append_getElem hj, List.any_append, ky_in hj]
  simp [Bool.or_assoc]
theorem hBad_out (a b : PL) (i : Nat) (hi : i < a.length) : hBad a b (i + 1) 0 = hBad a b i b.length := by
  unfold hBad
  rw [List.take_succ_eq_append_getElem hi, List.any_append, List.take_length, ky_in hi]
  simp
theorem hBad_all (a b : PL) : hBad a b a.length 0 = !decide (Bhd a b) := by
  unfold hBad
  rw [List.take_length]
  simp only [List.take_zero, List.any_nil, Bool.or_false]
  by_cases h : Bhd a b
  · rw [decide_eq_true h]
    simp only [Bool.not_true, List.any_eq_false, List.any_eq_true, decide_eq_true_eq, not_exists, not_and]
    intro x hx y hy
    have := h x hx y hy
    omega
  · rw [decide_eq_false h]
    simp only [Bool.not_false, List.any_eq_true, decide_eq_true_eq]
    unfold Bhd at h
    apply Classical.byContradiction
    intro hc
    refine h fun x hx y hy => ?_
    apply Classical.byContradiction
    intro hlt
    exact hc ⟨x, hx, y, hy, by omega⟩
/-- what is said of it -/
def hSay (z : Bool) : Int := if z then 3 else 0
theorem HJoin_all (A A' : Option Addr) (n c m c' : Nat) (a b : PL) (t : Tr) (w : World) (h : PS w A n c a) (h' : PS w A' m c' b) (hn : n ≤ 9223372036854775807) (hm : m ≤ 9223372036854775807) (ht : Hp t (a ++ b)) (E : Int) (hE : joinE a b = E) :
    Calls Try.prog 9 #[.slice A n c, .slice A' m c'] w fun e w' => ∃ A2 n2 c2, e = .returned (.tuple #[.slice A2 n2 c2, I E]) ∧ PS w' A2 n2 c2 (if E = 0 then t.sp 0 else []) ∧ Below w.heap.size w w' := by
  by_cases h0 : E = 0
  · subst h0
    refine (HJoin_ok A A' n c m c' a b t w h h' hE ht).mono ?_
    rintro e w' ⟨A2, c2, rfl, hp, hb⟩
    exact ⟨A2, _, c2, rfl, by rw [if_pos rfl]; exact hp, hb⟩
  · refine (HJoin_bad A A' n c m c' a b w h h' hn hm E hE h0).mono ?_
    rintro e w' ⟨rfl, hb⟩
    exact ⟨none, 0, 0, rfl, by rw [if_neg h0]; exact ⟨rfl, Rd.none_⟩, hb⟩
theorem hspots_ps (t : Tr) (q : Option Addr) (n : Nat) (w : World) (h : RT w q t) (hz : t.size = n) (hn : n ≤ 200) : Calls Try.prog 14 #[.pointer q, I 0] w fun e w' => ∃ A c, e = .returned (.slice A n c) ∧ PS w' A n c (t.sp 0) ∧ Below w.heap.size w w' := by
  refine (rspots_any t q 0 w h (Int.le_refl _) (by omega) (by omega)).mono ?_
  rintro e w' ⟨v, rfl, ho, hb⟩
  obtain ⟨A, c, e', _, hp⟩ := ownR_told ho (show (t.sp 0).length = n by rw [sp_length, hz])
  subst e'
  exact ⟨A, c, rfl, hp, hb⟩
theorem MapRight_is (A : Option Addr) (n c : Nat) (l : PL) (w : World) (h : PS w A n c l) (hn : n ≤ 9223372036854775807) (E : Int) (hE : chk l = E) :
    Calls Try.prog 12 #[.slice A n c] w fun e w' => e = .returned (I E) ∧ Below w.heap.size w w' := by
  subst hE
  exact MapRight_any A n c l w h hn

set_option maxRecDepth 100000 in
set_option maxHeartbeats 8000000 in
theorem hsays_LA (A A' K : Option Addr) (n c m c' d dc : Nat) (a b : PL) (l : List Int) (w : World) (h : PS w A n c a) (h' : PS w A' m c' b) (hk : IS w K d dc l) (hn : n ≤ 9223372036854775807) (hm : m ≤ 9223372036854775807) (hd : d ≤ 9223372036854775807) (hl : 200 < d) (E : Int) (hE : chk a = E) (hE0 : E ≠ 0) :
    Calls Try.prog 3 #[.slice A n c, .slice A' m c', .slice K d dc] w fun e w' => e = .returned (.bool true) ∧ Below w.heap.size w w' := by
  have HA0 := Lib.hid h
  have HB0 := Lib.hid h'
  have HI0 := Lib.hid hk
  have HLL := Lib.hid hk.len
  have HE := Lib.hid hE
  have hne := herr_ne hE0
  have hee : (E != E) = false := by simp
  have hee2 : (E == E) = true := by simp
  have hez : (E == 0) = false := by simpa using hE0
  have HE0 := Lib.hid hE0
  have HJE : Hid (joinE a b = E) := by show _ = _; unfold joinE; rw [if_pos (by rw [hE]; exact hE0), hE]
  clear h h' hk hE hE0
  have hl' : 200 < (d : Int) := by omega
  go_enter Try.func3, Try.ntmps3
  go_wp2_with fail
  refine (HOf_bad A n c a w HA0.out hn E HE.out HE0.out).mono ?_
  rintro e w1 ⟨rfl, hb1⟩
  have HA1 := Lib.hid (HA0.out.below hb1)
  have HB1 := Lib.hid (HB0.out.below hb1)
  have HI1 := Lib.hid (HI0.out.below hb1)
  have HW1 := Lib.hid hb1
  clear HA0 HB0 HI0 hb1
  go_wp2_with fail
  refine (HJoin_bad A A' n c m c' a b w1 HA1.out HB1.out hn hm E HJE.out HE0.out).mono ?_
  rintro e w2 ⟨rfl, hb2⟩
  have HA2 := Lib.hid (HA1.out.below hb2)
  have HB2 := Lib.hid (HB1.out.below hb2)
  have HI2 := Lib.hid (HI1.out.below hb2)
  have HW2 := Lib.hid (below_next HW1.out hb2)
  clear HA1 HB1 HI1 HW1 hb2
  go_wp2_with fail
  refine (Least_large K d dc w2 hl).mono ?_
  rintro e w3 ⟨rfl, rfl⟩
  go_wp2_with fail
  refine (HCheck_is A n c a w2 HA2.out hn E HE.out).mono ?_
  rintro e w3 ⟨rfl, hb⟩
  have HA3 := Lib.hid (HA2.out.below hb)
  have HB3 := Lib.hid (HB2.out.below hb)
  have HI3 := Lib.hid (HI2.out.below hb)
  have HW3 := Lib.hid (below_next HW2.out hb)
  clear HA2 HB2 HI2 HW2 hb
  go_wp2_with fail
  refine (MapRight_is A n c a w3 HA3.out hn E HE.out).mono ?_
  rintro e w4 ⟨rfl, hb⟩
  have HA4 := Lib.hid (HA3.out.below hb)
  have HB4 := Lib.hid (HB3.out.below hb)
  have HI4 := Lib.hid (HI3.out.below hb)
  have HW4 := Lib.hid (below_next HW3.out hb)
  clear HA3 HB3 HI3 HW3 hb
  go_wp2_with fail
  refine (MapRight_is A n c a w4 HA4.out hn E HE.out).mono ?_
  rintro e w5 ⟨rfl, hb⟩
  have HA5 := Lib.hid (HA4.out.below hb)
  have HB5 := Lib.hid (HB4.out.below hb)
  have HI5 := Lib.hid (HI4.out.below hb)
  have HW5 := Lib.hid (below_next HW4.out hb)
  clear HA4 HB4 HI4 HW4 hb
  go_wp2
  go_ret
  exact ⟨rfl, HW5.out⟩

set_option maxRecDepth 100000 in
set_option maxHeartbeats 8000000 in
theorem hsays_LB (A A' K : Option Addr) (n c m c' d dc : Nat) (a b : PL) (l : List Int) (w : World) (h : PS w A n c a) (h' : PS w A' m c' b) (hk : IS w K d dc l) (hn : n ≤ 9223372036854775807) (hm : m ≤ 9223372036854775807) (hd : d ≤ 9223372036854775807) (hl : 200 < d) (E : Int) (hA0 : chk a = 0) (hE : chk b = E) (hE0 : E ≠ 0) :
    Calls Try.prog 3 #[.slice A n c, .slice A' m c', .slice K d dc] w fun e w' => e = .returned (.bool true) ∧ Below w.heap.size w w' := by
  have HA0 := Lib.hid h
  have HB0 := Lib.hid h'
  have HI0 := Lib.hid hk
  have HLL := Lib.hid hk.len
  have HE := Lib.hid hE
  have hne := herr_ne hE0
  have hee : (E != E) = false := by simp
  have hee2 : (E == E) = true := by simp
  have hez : (E == 0) = false := by simpa using hE0
  have HE0 := Lib.hid hE0
  have HJE : Hid (joinE a b = E) := by show _ = _; unfold joinE; rw [if_neg (by simpa using hA0), if_pos (by rw [hE]; exact hE0), hE]
  obtain ⟨t, ht⟩ := hp_has a.length a (Nat.le_refl _)
  have HT := Lib.hid ht
  have HC1 := Lib.hid hA0
  have hn2 : n ≤ 200 := by rw [← h.len]; exact (chk_right.1 hA0).1
  have HTZ : Hid (t.size = n) := by show _ = _; rw [← hp_len ht, h.len]
  clear ht
  clear h h' hk hA0 hE hE0
  have hl' : 200 < (d : Int) := by omega
  go_enter Try.func3, Try.ntmps3
  go_wp2_with fail
  refine (HOf_ok A n c a t w HA0.out HC1.out HT.out).mono ?_
  rintro e w1 ⟨A1, c1, rfl, hp1, hb1⟩
  have HA1 := Lib.hid (HA0.out.below hb1)
  have HB1 := Lib.hid (HB0.out.below hb1)
  have HI1 := Lib.hid (HI0.out.below hb1)
  have HW1 := Lib.hid hb1
  have HS1 := Lib.hid hp1
  clear HA0 HB0 HI0 hp1 hb1
  go_wp2_with fail
  refine (HJoin_bad A A' n c m c' a b w1 HA1.out HB1.out hn hm E HJE.out HE0.out).mono ?_
  rintro e w2 ⟨rfl, hb2⟩
  have HA2 := Lib.hid (HA1.out.below hb2)
  have HB2 := Lib.hid (HB1.out.below hb2)
  have HI2 := Lib.hid (HI1.out.below hb2)
  have HS2 := Lib.hid (HS1.out.below hb2)
  have HW2 := Lib.hid (below_next HW1.out hb2)
  clear HA1 HB1 HI1 HS1 HW1 hb2
  go_wp2_with fail
  refine (Least_large K d dc w2 hl).mono ?_
  rintro e w3 ⟨rfl, rfl⟩
  go_wp2_with fail
  refine (HCheck_is A n c a w2 HA2.out hn 0 HC1.out).mono ?_
  rintro e w3 ⟨rfl, hb⟩
  have HA3 := Lib.hid (HA2.out.below hb)
  have HB3 := Lib.hid (HB2.out.below hb)
  have HI3 := Lib.hid (HI2.out.below hb)
  have HS3 := Lib.hid (HS2.out.below hb)
  have HW3 := Lib.hid (below_next HW2.out hb)
  clear HA2 HB2 HI2 HS2 HW2 hb
  go_wp2_with fail
  refine (MapRight_is A n c a w3 HA3.out hn 0 HC1.out).mono ?_
  rintro e w4 ⟨rfl, hb⟩
  have HA4 := Lib.hid (HA3.out.below hb)
  have HB4 := Lib.hid (HB3.out.below hb)
  have HI4 := Lib.hid (HI3.out.below hb)
  have HS4 := Lib.hid (HS3.out.below hb)
  have HW4 := Lib.hid (below_next HW3.out hb)
  clear HA3 HB3 HI3 HS3 HW3 hb
  go_wp2_with fail
  refine (MapRight_is A n c a w4 HA4.out hn 0 HC1.out).mono ?_
  rintro e w5 ⟨rfl, hb⟩
  have HA5 := Lib.hid (HA4.out.below hb)
  have HB5 := Lib.hid (HB4.out.below hb)
  have HI5 := Lib.hid (HI4.out.below hb)
  have HS5 := Lib.hid (HS4.out.below hb)
  have HW5 := Lib.hid (below_next HW4.out hb)
  clear HA4 HB4 HI4 HS4 HW4 hb
  go_wp2_with fail
  refine (HeapTree_any t A n c a w5 HT.out HA5.out (by omega)).mono ?_
  rintro e w6 ⟨q1, rfl, hr1, hb⟩
  have HA6 := Lib.hid (HA5.out.below hb)
  have HB6 := Lib.hid (HB5.out.below hb)
  have HI6 := Lib.hid (HI5.out.below hb)
  have HS6 := Lib.hid (HS5.out.below hb)
  have HW6 := Lib.hid (below_next HW5.out hb)
  have HR6 := Lib.hid hr1
  clear HA5 HB5 HI5 HS5 HW5 hr1 hb
  go_wp2_with fail
  refine (hspots_ps t q1 n w6 HR6.out HTZ.out hn2).mono ?_
  rintro e w7 ⟨A9, c9, rfl, hp9, hb⟩
  clear HR6
  have HA7 := Lib.hid (HA6.out.below hb)
  have HB7 := Lib.hid (HB6.out.below hb)
  have HI7 := Lib.hid (HI6.out.below hb)
  have HS7 := Lib.hid (HS6.out.below hb)
  have HW7 := Lib.hid (below_next HW6.out hb)
  have HX7 := Lib.hid hp9
  clear HA6 HB6 HI6 HS6 HW6 hp9 hb
  go_wp2_with fail
  refine (sameSpots_t A1 A9 n c1 c9 _ w7 HS7.out HX7.out (by omega)).mono ?_
  rintro e w8 ⟨rfl, hb⟩
  clear HS7
  clear HX7
  have HA8 := Lib.hid (HA7.out.below hb)
  have HB8 := Lib.hid (HB7.out.below hb)
  have HI8 := Lib.hid (HI7.out.below hb)
  have HW8 := Lib.hid (below_next HW7.out hb)
  clear HA7 HB7 HI7 HW7 hb
  go_wp2_with fail
  refine (MapRight_is A' m c' b w8 HB8.out hm E HE.out).mono ?_
  rintro e w9 ⟨rfl, hb⟩
  have HA9 := Lib.hid (HA8.out.below hb)
  have HB9 := Lib.hid (HB8.out.below hb)
  have HI9 := Lib.hid (HI8.out.below hb)
  have HW9 := Lib.hid (below_next HW8.out hb)
  clear HA8 HB8 HI8 HW8 hb
  go_wp2
  go_ret
  exact ⟨rfl, HW9.out⟩

set_option maxRecDepth 100000 in
set_option maxHeartbeats 8000000 in
theorem hsays_LC (A A' K : Option Addr) (n c m c' d dc : Nat) (a b : PL) (l : List Int) (w : World) (h : PS w A n c a) (h' : PS w A' m c' b) (hk : IS w K d dc l) (hn : n ≤ 9223372036854775807) (hm : m ≤ 9223372036854775807) (hd : d ≤ 9223372036854775807) (hl : 200 < d) (hA0 : chk a = 0) (hB0 : chk b = 0) :
    Calls Try.prog 3 #[.slice A n c, .slice A' m c', .slice K d dc] w fun e w' => e = .returned (.bool true) ∧ Below w.heap.size w w' := by
  have HA0 := Lib.hid h
  have HB0 := Lib.hid h'
  have HI0 := Lib.hid hk
  have HLL := Lib.hid hk.len
  obtain ⟨t, ht⟩ := hp_has a.length a (Nat.le_refl _)
  have HT := Lib.hid ht
  have HC1 := Lib.hid hA0
  have hn2 : n ≤ 200 := by rw [← h.len]; exact (chk_right.1 hA0).1
  have HTZ : Hid (t.size = n) := by show _ = _; rw [← hp_len ht, h.len]
  clear ht
  obtain ⟨u, hu⟩ := hp_has (a ++ b).length (a ++ b) (Nat.le_refl _)
  have HU := Lib.hid hu
  have HC2 := Lib.hid hB0
  have hm2 : m ≤ 200 := by rw [← h'.len]; exact (chk_right.1 hB0).1
  have HUZ : Hid (u.size = n + m) := by show _ = _; rw [← hp_len hu, List.length_append, h.len, h'.len]
  have HLA := Lib.hid h.len
  have HLB := Lib.hid h'.len
  clear hu
  obtain ⟨F, hF⟩ : ∃ F, joinE a b = F := ⟨_, rfl⟩
  have HJE := Lib.hid hF
  clear hF
  clear h h' hk hA0 hB0
  have hl' : 200 < (d : Int) := by omega
  go_enter Try.func3, Try.ntmps3
  go_wp2_with fail
  refine (HOf_ok A n c a t w HA0.out HC1.out HT.out).mono ?_
  rintro e w1 ⟨A1, c1, rfl, hp1, hb1⟩
  have HA1 := Lib.hid (HA0.out.below hb1)
  have HB1 := Lib.hid (HB0.out.below hb1)
  have HI1 := Lib.hid (HI0.out.below hb1)
  have HW1 := Lib.hid hb1
  have HS1 := Lib.hid hp1
  clear HA0 HB0 HI0 hp1 hb1
  go_wp2_with fail
  refine (HJoin_all A A' n c m c' a b u w1 HA1.out HB1.out hn hm HU.out F HJE.out).mono ?_
  rintro e w2 ⟨A2, n2, c2, rfl, hp2, hb2⟩
  have HA2 := Lib.hid (HA1.out.below hb2)
  have HB2 := Lib.hid (HB1.out.below hb2)
  have HI2 := Lib.hid (HI1.out.below hb2)
  have HS2 := Lib.hid (HS1.out.below hb2)
  have HW2 := Lib.hid (below_next HW1.out hb2)
  have HJ2 := Lib.hid hp2
  clear HA1 HB1 HI1 HS1 HW1 hp2 hb2
  go_wp2_with fail
  refine (Least_large K d dc w2 hl).mono ?_
  rintro e w3 ⟨rfl, rfl⟩
  go_wp2_with fail
  refine (HCheck_is A n c a w2 HA2.out hn 0 HC1.out).mono ?_
  rintro e w3 ⟨rfl, hb⟩
  have HA3 := Lib.hid (HA2.out.below hb)
  have HB3 := Lib.hid (HB2.out.below hb)
  have HI3 := Lib.hid (HI2.out.below hb)
  have HS3 := Lib.hid (HS2.out.below hb)
  have HJ3 := Lib.hid (HJ2.out.below hb)
  have HW3 := Lib.hid (below_next HW2.out hb)
  clear HA2 HB2 HI2 HS2 HJ2 HW2 hb
  go_wp2_with fail
  refine (MapRight_is A n c a w3 HA3.out hn 0 HC1.out).mono ?_
  rintro e w4 ⟨rfl, hb⟩
  have HA4 := Lib.hid (HA3.out.below hb)
  have HB4 := Lib.hid (HB3.out.below hb)
  have HI4 := Lib.hid (HI3.out.below hb)
  have HS4 := Lib.hid (HS3.out.below hb)
  have HJ4 := Lib.hid (HJ3.out.below hb)
  have HW4 := Lib.hid (below_next HW3.out hb)
  clear HA3 HB3 HI3 HS3 HJ3 HW3 hb
  go_wp2_with fail
  refine (MapRight_is A n c a w4 HA4.out hn 0 HC1.out).mono ?_
  rintro e w5 ⟨rfl, hb⟩
  have HA5 := Lib.hid (HA4.out.below hb)
  have HB5 := Lib.hid (HB4.out.below hb)
  have HI5 := Lib.hid (HI4.out.below hb)
  have HS5 := Lib.hid (HS4.out.below hb)
  have HJ5 := Lib.hid (HJ4.out.below hb)
  have HW5 := Lib.hid (below_next HW4.out hb)
  clear HA4 HB4 HI4 HS4 HJ4 HW4 hb
  go_wp2_with fail
  refine (HeapTree_any t A n c a w5 HT.out HA5.out (by omega)).mono ?_
  rintro e w6 ⟨q1, rfl, hr1, hb⟩
  have HA6 := Lib.hid (HA5.out.below hb)
  have HB6 := Lib.hid (HB5.out.below hb)
  have HI6 := Lib.hid (HI5.out.below hb)
  have HS6 := Lib.hid (HS5.out.below hb)
  have HJ6 := Lib.hid (HJ5.out.below hb)
  have HW6 := Lib.hid (below_next HW5.out hb)
  have HR6 := Lib.hid hr1
  clear HA5 HB5 HI5 HS5 HJ5 HW5 hr1 hb
  go_wp2_with fail
  refine (hspots_ps t q1 n w6 HR6.out HTZ.out hn2).mono ?_
  rintro e w7 ⟨A9, c9, rfl, hp9, hb⟩
  clear HR6
  have HA7 := Lib.hid (HA6.out.below hb)
  have HB7 := Lib.hid (HB6.out.below hb)
  have HI7 := Lib.hid (HI6.out.below hb)
  have HS7 := Lib.hid (HS6.out.below hb)
  have HJ7 := Lib.hid (HJ6.out.below hb)
  have HW7 := Lib.hid (below_next HW6.out hb)
  have HX7 := Lib.hid hp9
  clear HA6 HB6 HI6 HS6 HJ6 HW6 hp9 hb
  go_wp2_with fail
  refine (sameSpots_t A1 A9 n c1 c9 _ w7 HS7.out HX7.out (by omega)).mono ?_
  rintro e w8 ⟨rfl, hb⟩
  clear HS7
  clear HX7
  have HA8 := Lib.hid (HA7.out.below hb)
  have HB8 := Lib.hid (HB7.out.below hb)
  have HI8 := Lib.hid (HI7.out.below hb)
  have HJ8 := Lib.hid (HJ7.out.below hb)
  have HW8 := Lib.hid (below_next HW7.out hb)
  clear HA7 HB7 HI7 HJ7 HW7 hb
  go_wp2_with fail
  refine (MapRight_is A' m c' b w8 HB8.out hm 0 HC2.out).mono ?_
  rintro e w9 ⟨rfl, hb⟩
  have HA9 := Lib.hid (HA8.out.below hb)
  have HB9 := Lib.hid (HB8.out.below hb)
  have HI9 := Lib.hid (HI8.out.below hb)
  have HJ9 := Lib.hid (HJ8.out.below hb)
  have HW9 := Lib.hid (below_next HW8.out hb)
  clear HA8 HB8 HI8 HJ8 HW8 hb
  go_wp2
  go_loopg [18, 127] n (fun g t i wr => ∃ k : Nat, k ≤ n ∧ n - k ≤ g ∧ i = .int .i64 k ∧ t = .int .i64 (hSay (hBad a b k 0)) ∧ Below w9.heap.size w9 wr)
  case atStart => exact ⟨0, Nat.zero_le _, by omega, rfl, by simp [hBad, hSay], Below.refl _ _⟩
  case round =>
  obtain ⟨V, rfl⟩ : ∃ V, V = wr := ⟨wr, rfl⟩
  obtain ⟨k, hk, hkm, rfl, rfl, hnx⟩ := hrel
  have HNX := Lib.hid hnx
  have hsz := hnx.size
  clear hnx
  by_cases hlt : k < n
  · obtain ⟨b0, o0, rfl, hb0, hc0⟩ := HA9.out.dat (by omega)
    have hcx : V.cell? ⟨b0, o0 + k * 2, none⟩ = some (I (ky a k)) := (HNX.out.cell (by exact hb0)).trans (hc0 k hlt).1
    have hcy : V.cell? ⟨b0, o0 + k * 2 + 1, none⟩ = some (I (dp a k)) := (HNX.out.cell (by exact hb0)).trans (hc0 k hlt).2
    have HOUT := Lib.hid (hBad_out a b k (by rw [HLA.out]; exact hlt))
    have HIN := Lib.hid (hBad_in a b k)
    clear hc0
    generalize ky a k = x at *
    generalize dp a k = x2 at *
    have HBQ := Lib.hid (HB9.out.below HNX.out)
    have HNQ : Hid (Below w9.heap.size w9 (V.alloc (.cells #[I x, I x2] 37))) := HNX.out.alloc hsz _
    have hcl : (V.alloc (.cells #[I x, I x2] 37)).cell? ⟨V.heap.size, 0, none⟩ = some (I x) := by simp
    go_wp2
    go_loopg [18, 133] m (fun g t i wr' => ∃ j : Nat, j ≤ m ∧ m - j ≤ g ∧ i = .int .i64 j ∧ t = .int .i64 (hSay (hBad a b k j)) ∧ Below (V.alloc (.cells #[I x, I x2] 37)).heap.size (V.alloc (.cells #[I x, I x2] 37)) wr')
    case atStart => exact ⟨0, Nat.zero_le _, by omega, rfl, rfl, Below.refl _ _⟩
    case round =>
      obtain ⟨j, hj, hjm, rfl, rfl, hny⟩ := hrel
      have HNY := Lib.hid hny
      have hszy := hny.size
      clear hny
      by_cases hjk : j < m
      · obtain ⟨b1, o1, rfl, hb1, hc1⟩ := (HBQ.out.alloc (.cells #[I x, I x2] 37)).dat (by omega)
        have hcj : wr.cell? ⟨b1, o1 + j * 2, none⟩ = some (I (ky b j)) := (HNY.out.cell (by exact hb1)).trans (hc1 j hjk).1
        have hcj2 : wr.cell? ⟨b1, o1 + j * 2 + 1, none⟩ = some (I (dp b j)) := (HNY.out.cell (by exact hb1)).trans (hc1 j hjk).2
        have hcl2 : wr.cell? ⟨V.heap.size, 0, none⟩ = some (I x) := (HNY.out.cell (by simp)).trans hcl
        have HST := Lib.hid (HIN.out j (by rw [HLB.out]; exact hjk))
        have hwq : V.heap.size < wr.heap.size := by simp at hszy; omega
        clear hc1
        generalize ky b j = y at *
        generalize dp b j = y2 at *
        by_cases hyx : y ≤ x
        · have HP : Hid (hSay (hBad a b k (j + 1)) = 3) := by show _ = _; rw [HST.out, decide_eq_true hyx]; simp [hSay]
          generalize hSay (hBad a b k j) = sy at *
          go_wp2
          go_roundg (gk - 1)
          case measure => omega
          case rel => exact ⟨j + 1, by omega, by omega, by go_num, by rw [HP.out], HNY.out.alloc hszy _⟩
        · have HP : Hid (hSay (hBad a b k (j + 1)) = hSay (hBad a b k j)) := by show _ = _; rw [HST.out, decide_eq_false hyx, Bool.or_false]
          generalize hSay (hBad a b k j) = sy at *
          go_wp2
          go_roundg (gk - 1)
          case measure => omega
          case rel => exact ⟨j + 1, by omega, by omega, by go_num, by rw [HP.out], HNY.out.alloc hszy _⟩
      · obtain rfl : j = m := by omega
        have HP : Hid (hSay (hBad a b (k + 1) 0) = hSay (hBad a b k j)) := by show _ = _; rw [HOUT.out, HLB.out]
        have HN2 : Hid (Below w9.heap.size w9 wr) := HNQ.out.trans (HNY.out.mono HNQ.out.size)
        generalize hSay (hBad a b k j) = sy at *
        go_wp2
        go_roundg (n - (k + 1))
        case measure => omega
        case rel => exact ⟨k + 1, by omega, by omega, by go_num, by rw [HP.out], HN2.out⟩
  obtain rfl : k = n := by omega
  have HBD : Hid (hBad a b k 0 = !decide (Bhd a b)) := by show _ = _; rw [← HLA.out]; exact hBad_all a b
  have hb := HNX.out
  clear HNX
  have HA10 := Lib.hid (HA9.out.below hb)
  have HB10 := Lib.hid (HB9.out.below hb)
  have HI10 := Lib.hid (HI9.out.below hb)
  have HJ10 := Lib.hid (HJ9.out.below hb)
  have HW10 := Lib.hid (below_next HW9.out hb)
  clear HA9 HB9 HI9 HJ9 HW9 hb hsz
  by_cases hbd : Bhd a b
  · have hsy : hSay (hBad a b k 0) = 0 := by rw [HBD.out, decide_eq_true hbd]; rfl
    rw [hsy]
    clear hsy
    by_cases h200 : 200 < k + m
    · obtain rfl : F = 2 := by
        rw [← HJE.out]; unfold joinE
        rw [if_neg (by simpa using HC1.out), if_neg (by simpa using HC2.out), if_pos hbd, HLA.out, HLB.out, if_pos h200]
      obtain rfl : n2 = 0 := by rw [← HJ10.out.len, if_neg (by omega)]; rfl
      have h200' : 200 < (k : Int) + (m : Int) := by omega
      clear hbd
      go_wp2
      go_ret
      exact ⟨rfl, HW10.out⟩
    · obtain rfl : F = 0 := by
        rw [← HJE.out]; unfold joinE
        rw [if_neg (by simpa using HC1.out), if_neg (by simpa using HC2.out), if_pos hbd, HLA.out, HLB.out, if_neg h200]
      have hj : PS V A2 n2 c2 (u.sp 0) := by have := HJ10.out; rwa [if_pos rfl] at this
      obtain rfl : n2 = k + m := by rw [← hj.len, sp_length, HUZ.out]
      have HJ := Lib.hid hj
      have h200' : ¬ 200 < (k : Int) + (m : Int) := by omega
      clear hbd hj HJ10
      go_wp2_with (first
        | (at_builtin
           refine wpList_app2 rfl (.tmp 165) (.tmp 166) 22 rfl 37 Try.underlying22 hpair_info V.heap.size (.slice (some ⟨V.heap.size, 0, none⟩) 0 0) [] a A k c rfl rfl (own2_empty (heap_alloc_new V _) (Nat.le_refl _)) (HA10.out.alloc _).src (by simp; omega) (by simp) ?_
           intro v4 w4 hown4 hgrow4 _
           have hb4 : Below V.heap.size V w4 := (((Below.refl _ _).alloc (Nat.le_refl _) _)).grown hgrow4 (by simp) (by simp [Value.ownBlock])
           have HB4 := Lib.hid hb4
           have HO4 : Hid (OwnR w4 V.heap.size 37 v4 ([] ++ a)) := hown4
           have hs4 := hb4.size
           clear hown4 hgrow4 hb4)
        | (at_builtin
           refine wpList_app2 rfl (.tmp 167) (.tmp 168) 22 rfl 37 Try.underlying22 hpair_info V.heap.size v4 ([] ++ a) b A' m c' rfl rfl HO4.out (HB10.out.below HB4.out).src (by rw [List.nil_append, HLA.out]; omega) hs4 ?_
           intro v5 w5 hown5 hgrow5 _
           have hb5 : Below V.heap.size V w5 := HB4.out.grown hgrow5 hs4 (OwnR.ge HO4.out)
           obtain ⟨A5, c5, e5, hp5, _⟩ := OwnR.ps (show OwnR w5 V.heap.size 37 v5 ([] ++ a ++ b) from hown5)
           have hl5 : ([] ++ a ++ b).length = k + m := by rw [List.nil_append, List.length_append, HLA.out, HLB.out]
           rw [hl5] at e5 hp5
           subst e5
           have HP5 : Hid (PS w5 A5 (k + m) c5 (a ++ b)) := by have := hp5; rwa [List.nil_append] at this
           have HB5 := Lib.hid (below_next HW10.out hb5)
           have HJ5 := Lib.hid (HJ.out.below hb5)
           clear hown5 hgrow5 hb5 hp5 hl5)
        | fail)
      refine (HeapTree_any u A5 (k + m) c5 (a ++ b) w5 HU.out HP5.out (by omega)).mono ?_
      rintro e w6 ⟨q6, rfl, hr6, hb6⟩
      have HR6 := Lib.hid hr6
      have HB6 := Lib.hid (below_next HB5.out hb6)
      have HJ6 := Lib.hid (HJ5.out.below hb6)
      clear hr6 hb6 HB5 HJ5
      go_wp2_with fail
      refine (hspots_ps u q6 (k + m) w6 HR6.out HUZ.out (by omega)).mono ?_
      rintro e w7 ⟨A7, c7, rfl, hp7, hb7⟩
      have HX7 := Lib.hid hp7
      have HB7 := Lib.hid (below_next HB6.out hb7)
      have HJ7 := Lib.hid (HJ6.out.below hb7)
      clear hp7 hb7 HB6 HJ6
      go_wp2_with fail
      refine (sameSpots_t A2 A7 (k + m) c2 c7 _ w7 HJ7.out HX7.out (by omega)).mono ?_
      rintro e w8 ⟨rfl, hb8⟩
      have HB8 := Lib.hid (below_next HB7.out hb8)
      clear hb8
      go_wp2
      go_ret
      exact ⟨rfl, HB8.out⟩
  · have hsy : hSay (hBad a b k 0) = 3 := by rw [HBD.out, decide_eq_false hbd]; rfl
    rw [hsy]
    clear hsy
    obtain rfl : F = 3 := by
      rw [← HJE.out]; unfold joinE
      rw [if_neg (by simpa using HC1.out), if_neg (by simpa using HC2.out), if_neg hbd]
    obtain rfl : n2 = 0 := by rw [← HJ10.out.len, if_neg (by omega)]; rfl
    clear hbd
    go_wp2
    go_ret
    exact ⟨rfl, HW10.out⟩

set_option maxRecDepth 100000 in
set_option maxHeartbeats 8000000 in
theorem hsays_SA (A A' K : Option Addr) (n c m c' d dc : Nat) (a b : PL) (l : List Int) (w : World) (h : PS w A n c a) (h' : PS w A' m c' b) (hk : IS w K d dc l) (hn : n ≤ 9223372036854775807) (hm : m ≤ 9223372036854775807) (hd : d ≤ 9223372036854775807) (hl : d ≤ 200) (E : Int) (hE : chk a = E) (hE0 : E ≠ 0) :
    Calls Try.prog 3 #[.slice A n c, .slice A' m c', .slice K d dc] w fun e w' => e = .returned (.bool true) ∧ Below w.heap.size w w' := by
  have HA0 := Lib.hid h
  have HB0 := Lib.hid h'
  have HI0 := Lib.hid hk
  have HLL := Lib.hid hk.len
  have HE := Lib.hid hE
  have hne := herr_ne hE0
  have hee : (E != E) = false := by simp
  have hee2 : (E == E) = true := by simp
  have hez : (E == 0) = false := by simpa using hE0
  have HE0 := Lib.hid hE0
  have HJE : Hid (joinE a b = E) := by show _ = _; unfold joinE; rw [if_pos (by rw [hE]; exact hE0), hE]
  clear h h' hk hE hE0
  go_enter Try.func3, Try.ntmps3
  go_wp2_with fail
  refine (HOf_bad A n c a w HA0.out hn E HE.out HE0.out).mono ?_
  rintro e w1 ⟨rfl, hb1⟩
  have HA1 := Lib.hid (HA0.out.below hb1)
  have HB1 := Lib.hid (HB0.out.below hb1)
  have HI1 := Lib.hid (HI0.out.below hb1)
  have HW1 := Lib.hid hb1
  clear HA0 HB0 HI0 hb1
  go_wp2_with fail
  refine (HJoin_bad A A' n c m c' a b w1 HA1.out HB1.out hn hm E HJE.out HE0.out).mono ?_
  rintro e w2 ⟨rfl, hb2⟩
  have HA2 := Lib.hid (HA1.out.below hb2)
  have HB2 := Lib.hid (HB1.out.below hb2)
  have HI2 := Lib.hid (HI1.out.below hb2)
  have HW2 := Lib.hid (below_next HW1.out hb2)
  clear HA1 HB1 HI1 HW1 hb2
  go_wp2_with fail
  refine (Least_ok K d dc l w2 HI2.out hl).mono ?_
  rintro e w3 ⟨A3, rfl, hi3, hb3⟩
  have HA3 := Lib.hid (HA2.out.below hb3)
  have HB3 := Lib.hid (HB2.out.below hb3)
  have HI3 := Lib.hid (HI2.out.below hb3)
  have HW3 := Lib.hid (below_next HW2.out hb3)
  have HN3 := Lib.hid hi3
  clear HA2 HB2 HI2 HW2 hi3 hb3
  go_wp2_with fail
  refine (HCheck_is A n c a w3 HA3.out hn E HE.out).mono ?_
  rintro e w4 ⟨rfl, hb⟩
  have HA4 := Lib.hid (HA3.out.below hb)
  have HB4 := Lib.hid (HB3.out.below hb)
  have HI4 := Lib.hid (HI3.out.below hb)
  have HN4 := Lib.hid (HN3.out.below hb)
  have HW4 := Lib.hid (below_next HW3.out hb)
  clear HA3 HB3 HI3 HN3 HW3 hb
  go_wp2_with fail
  refine (MapRight_is A n c a w4 HA4.out hn E HE.out).mono ?_
  rintro e w5 ⟨rfl, hb⟩
  have HA5 := Lib.hid (HA4.out.below hb)
  have HB5 := Lib.hid (HB4.out.below hb)
  have HI5 := Lib.hid (HI4.out.below hb)
  have HN5 := Lib.hid (HN4.out.below hb)
  have HW5 := Lib.hid (below_next HW4.out hb)
  clear HA4 HB4 HI4 HN4 HW4 hb
  go_wp2
  go_loopg [65] d (fun g i wr => ∃ k : Nat, k ≤ d ∧ d - k ≤ g ∧ i = .int .i64 k ∧ Below w5.heap.size w5 wr)
  case atStart => exact ⟨0, Nat.zero_le _, by omega, rfl, Below.refl _ _⟩
  case round =>
  obtain ⟨V, rfl⟩ : ∃ V, V = wr := ⟨wr, rfl⟩
  obtain ⟨k, hk, hkm, rfl, hnx⟩ := hrel
  have HNX := Lib.hid hnx
  clear hnx
  by_cases hlt : k < d
  · obtain ⟨b0, o0, rfl, hb0, hc0⟩ := HI5.out.dat (by omega)
    obtain ⟨b1, o1, rfl, hb1, hc1⟩ := HN5.out.dat (by omega)
    have HC0 : Hid (∀ i, i < d → V.cell? ⟨b0, o0 + i, none⟩ = some (I (l[i]?.getD 0))) := fun i hi => (HNX.out.cell (by exact hb0)).trans (hc0 i hi)
    have hcn : V.cell? ⟨b1, o1 + k, none⟩ = some (I (near l k)) := by
      have := (HNX.out.cell (by exact hb1)).trans (hc1 k hlt)
      rwa [nearL_at l k (by rw [HLL.out]; exact hlt)] at this
    clear hc0 hc1
    have HNR : Hid (near l k = lst l (l[k]?.getD 0) k) := rfl
    have hck := HC0.out k hlt
    have HSZ := Lib.hid (HNX.out.size)
    generalize l[k]?.getD 0 = x at *
    generalize near l k = z at *
    have hzz : (z != z) = false := by simp
    go_wp2
    go_loopg [15, 71] k (fun g t i wr' => ∃ j : Nat, j ≤ k ∧ k - j ≤ g ∧ i = .int .i64 j ∧ t = .int .i64 (lst l x j) ∧ Below V.heap.size V wr')
    case atStart => exact ⟨0, Nat.zero_le _, by omega, rfl, rfl, Below.refl _ _⟩
    case round =>
      obtain ⟨j, hj, hjm, rfl, rfl, hny⟩ := hrel
      have HNY := Lib.hid hny
      have HNX2 : Hid (Below w5.heap.size w5 wr) := HNX.out.trans (hny.mono HNX.out.size)
      clear hny
      have HS2 : Hid (lst l x (j + 1) = if l[j]?.getD 0 < x then (j : Int) else lst l x j) := rfl
      by_cases hjk : j < k
      · have hcj : wr.cell? ⟨b0, o0 + j, none⟩ = some (I (l[j]?.getD 0)) := (HNY.out.cell (by have := HSZ.out; show b0 < _; omega)).trans (HC0.out j (by omega))
        have hck2 : wr.cell? ⟨b0, o0 + k, none⟩ = some (I x) := (HNY.out.cell (by have := HSZ.out; show b0 < _; omega)).trans hck
        have hjd : j < d := by omega
        generalize l[j]?.getD 0 = y at *
        generalize lst l x j = p at *
        by_cases hyx : y < x
        · have HP : Hid (lst l x (j + 1) = j) := by show _ = _; rw [HS2.out, if_pos hyx]
          go_wp2
          go_quiet (fail)
          go_wp2
          go_roundg (gk - 1)
          case measure => omega
          case rel => exact ⟨j + 1, by omega, by omega, by go_num, by rw [HP.out], below_drewN HNY.out _⟩
        · have HP : Hid (lst l x (j + 1) = p) := by show _ = _; rw [HS2.out, if_neg hyx]
          go_wp2
          go_quiet (fail)
          go_wp2
          go_roundg (gk - 1)
          case measure => omega
          case rel => exact ⟨j + 1, by omega, by omega, by go_num, by rw [HP.out], below_drewN HNY.out _⟩
      · obtain rfl : j = k := by omega
        have hpz : lst l x j = z := HNR.out.symm
        rw [hpz]
        clear hpz
        go_wp2
        go_roundg (d - (j + 1))
        case measure => omega
        case rel => exact ⟨j + 1, by omega, by omega, by go_num, HNX2.out⟩
  have hb := HNX.out
  clear HNX
  have HA6 := Lib.hid (HA5.out.below hb)
  have HB6 := Lib.hid (HB5.out.below hb)
  have HI6 := Lib.hid (HI5.out.below hb)
  have HN6 := Lib.hid (HN5.out.below hb)
  have HW6 := Lib.hid (below_next HW5.out hb)
  clear HA5 HB5 HI5 HN5 HW5 hb
  go_wp2_with fail
  refine (MapRight_is A n c a V HA6.out hn E HE.out).mono ?_
  rintro e w7 ⟨rfl, hb⟩
  have HA7 := Lib.hid (HA6.out.below hb)
  have HB7 := Lib.hid (HB6.out.below hb)
  have HI7 := Lib.hid (HI6.out.below hb)
  have HN7 := Lib.hid (HN6.out.below hb)
  have HW7 := Lib.hid (below_next HW6.out hb)
  clear HA6 HB6 HI6 HN6 HW6 hb
  go_wp2
  go_ret
  exact ⟨rfl, HW7.out⟩

set_option maxRecDepth 100000 in
set_option maxHeartbeats 8000000 in
theorem hsays_SB (A A' K : Option Addr) (n c m c' d dc : Nat) (a b : PL) (l : List Int) (w : World) (h : PS w A n c a) (h' : PS w A' m c' b) (hk : IS w K d dc l) (hn : n ≤ 9223372036854775807) (hm : m ≤ 9223372036854775807) (hd : d ≤ 9223372036854775807) (hl : d ≤ 200) (E : Int) (hA0 : chk a = 0) (hE : chk b = E) (hE0 : E ≠ 0) :
    Calls Try.prog 3 #[.slice A n c, .slice A' m c', .slice K d dc] w fun e w' => e = .returned (.bool true) ∧ Below w.heap.size w w' := by
  have HA0 := Lib.hid h
  have HB0 := Lib.hid h'
  have HI0 := Lib.hid hk
  have HLL := Lib.hid hk.len
  have HE := Lib.hid hE
  have hne := herr_ne hE0
  have hee : (E != E) = false := by simp
  have hee2 : (E == E) = true := by simp
  have hez : (E == 0) = false := by simpa using hE0
  have HE0 := Lib.hid hE0
  have HJE : Hid (joinE a b = E) := by show _ = _; unfold joinE; rw [if_neg (by simpa using hA0), if_pos (by rw [hE]; exact hE0), hE]
  obtain ⟨t, ht⟩ := hp_has a.length a (Nat.le_refl _)
  have HT := Lib.hid ht
  have HC1 := Lib.hid hA0
  have hn2 : n ≤ 200 := by rw [← h.len]; exact (chk_right.1 hA0).1
  have HTZ : Hid (t.size = n) := by show _ = _; rw [← hp_len ht, h.len]
  clear ht
  clear h h' hk hA0 hE hE0
  go_enter Try.func3, Try.ntmps3
  go_wp2_with fail
  refine (HOf_ok A n c a t w HA0.out HC1.out HT.out).mono ?_
  rintro e w1 ⟨A1, c1, rfl, hp1, hb1⟩
  have HA1 := Lib.hid (HA0.out.below hb1)
  have HB1 := Lib.hid (HB0.out.below hb1)
  have HI1 := Lib.hid (HI0.out.below hb1)
  have HW1 := Lib.hid hb1
  have HS1 := Lib.hid hp1
  clear HA0 HB0 HI0 hp1 hb1
  go_wp2_with fail
  refine (HJoin_bad A A' n c m c' a b w1 HA1.out HB1.out hn hm E HJE.out HE0.out).mono ?_
  rintro e w2 ⟨rfl, hb2⟩
  have HA2 := Lib.hid (HA1.out.below hb2)
  have HB2 := Lib.hid (HB1.out.below hb2)
  have HI2 := Lib.hid (HI1.out.below hb2)
  have HS2 := Lib.hid (HS1.out.below hb2)
  have HW2 := Lib.hid (below_next HW1.out hb2)
  clear HA1 HB1 HI1 HS1 HW1 hb2
  go_wp2_with fail
  refine (Least_ok K d dc l w2 HI2.out hl).mono ?_
  rintro e w3 ⟨A3, rfl, hi3, hb3⟩
  have HA3 := Lib.hid (HA2.out.below hb3)
  have HB3 := Lib.hid (HB2.out.below hb3)
  have HI3 := Lib.hid (HI2.out.below hb3)
  have HS3 := Lib.hid (HS2.out.below hb3)
  have HW3 := Lib.hid (below_next HW2.out hb3)
  have HN3 := Lib.hid hi3
  clear HA2 HB2 HI2 HS2 HW2 hi3 hb3
  go_wp2_with fail
  refine (HCheck_is A n c a w3 HA3.out hn 0 HC1.out).mono ?_
  rintro e w4 ⟨rfl, hb⟩
  have HA4 := Lib.hid (HA3.out.below hb)
  have HB4 := Lib.hid (HB3.out.below hb)
  have HI4 := Lib.hid (HI3.out.below hb)
  have HS4 := Lib.hid (HS3.out.below hb)
  have HN4 := Lib.hid (HN3.out.below hb)
  have HW4 := Lib.hid (below_next HW3.out hb)
  clear HA3 HB3 HI3 HS3 HN3 HW3 hb
  go_wp2_with fail
  refine (MapRight_is A n c a w4 HA4.out hn 0 HC1.out).mono ?_
  rintro e w5 ⟨rfl, hb⟩
  have HA5 := Lib.hid (HA4.out.below hb)
  have HB5 := Lib.hid (HB4.out.below hb)
  have HI5 := Lib.hid (HI4.out.below hb)
  have HS5 := Lib.hid (HS4.out.below hb)
  have HN5 := Lib.hid (HN4.out.below hb)
  have HW5 := Lib.hid (below_next HW4.out hb)
  clear HA4 HB4 HI4 HS4 HN4 HW4 hb
  go_wp2
  go_loopg [65] d (fun g i wr => ∃ k : Nat, k ≤ d ∧ d - k ≤ g ∧ i = .int .i64 k ∧ Below w5.heap.size w5 wr)
  case atStart => exact ⟨0, Nat.zero_le _, by omega, rfl, Below.refl _ _⟩
  case round =>
  obtain ⟨V, rfl⟩ : ∃ V, V = wr := ⟨wr, rfl⟩
  obtain ⟨k, hk, hkm, rfl, hnx⟩ := hrel
  have HNX := Lib.hid hnx
  clear hnx
  by_cases hlt : k < d
  · obtain ⟨b0, o0, rfl, hb0, hc0⟩ := HI5.out.dat (by omega)
    obtain ⟨b1, o1, rfl, hb1, hc1⟩ := HN5.out.dat (by omega)
    have HC0 : Hid (∀ i, i < d → V.cell? ⟨b0, o0 + i, none⟩ = some (I (l[i]?.getD 0))) := fun i hi => (HNX.out.cell (by exact hb0)).trans (hc0 i hi)
    have hcn : V.cell? ⟨b1, o1 + k, none⟩ = some (I (near l k)) := by
      have := (HNX.out.cell (by exact hb1)).trans (hc1 k hlt)
      rwa [nearL_at l k (by rw [HLL.out]; exact hlt)] at this
    clear hc0 hc1
    have HNR : Hid (near l k = lst l (l[k]?.getD 0) k) := rfl
    have hck := HC0.out k hlt
    have HSZ := Lib.hid (HNX.out.size)
    generalize l[k]?.getD 0 = x at *
    generalize near l k = z at *
    have hzz : (z != z) = false := by simp
    go_wp2
    go_loopg [15, 71] k (fun g t i wr' => ∃ j : Nat, j ≤ k ∧ k - j ≤ g ∧ i = .int .i64 j ∧ t = .int .i64 (lst l x j) ∧ Below V.heap.size V wr')
    case atStart => exact ⟨0, Nat.zero_le _, by omega, rfl, rfl, Below.refl _ _⟩
    case round =>
      obtain ⟨j, hj, hjm, rfl, rfl, hny⟩ := hrel
      have HNY := Lib.hid hny
      have HNX2 : Hid (Below w5.heap.size w5 wr) := HNX.out.trans (hny.mono HNX.out.size)
      clear hny
      have HS2 : Hid (lst l x (j + 1) = if l[j]?.getD 0 < x then (j : Int) else lst l x j) := rfl
      by_cases hjk : j < k
      · have hcj : wr.cell? ⟨b0, o0 + j, none⟩ = some (I (l[j]?.getD 0)) := (HNY.out.cell (by have := HSZ.out; show b0 < _; omega)).trans (HC0.out j (by omega))
        have hck2 : wr.cell? ⟨b0, o0 + k, none⟩ = some (I x) := (HNY.out.cell (by have := HSZ.out; show b0 < _; omega)).trans hck
        have hjd : j < d := by omega
        generalize l[j]?.getD 0 = y at *
        generalize lst l x j = p at *
        by_cases hyx : y < x
        · have HP : Hid (lst l x (j + 1) = j) := by show _ = _; rw [HS2.out, if_pos hyx]
          go_wp2
          go_quiet (fail)
          go_wp2
          go_roundg (gk - 1)
          case measure => omega
          case rel => exact ⟨j + 1, by omega, by omega, by go_num, by rw [HP.out], below_drewN HNY.out _⟩
        · have HP : Hid (lst l x (j + 1) = p) := by show _ = _; rw [HS2.out, if_neg hyx]
          go_wp2
          go_quiet (fail)
          go_wp2
          go_roundg (gk - 1)
          case measure => omega
          case rel => exact ⟨j + 1, by omega, by omega, by go_num, by rw [HP.out], below_drewN HNY.out _⟩
      · obtain rfl : j = k := by omega
        have hpz : lst l x j = z := HNR.out.symm
        rw [hpz]
        clear hpz
        go_wp2
        go_roundg (d - (j + 1))
        case measure => omega
        case rel => exact ⟨j + 1, by omega, by omega, by go_num, HNX2.out⟩
  have hb := HNX.out
  clear HNX
  have HA6 := Lib.hid (HA5.out.below hb)
  have HB6 := Lib.hid (HB5.out.below hb)
  have HI6 := Lib.hid (HI5.out.below hb)
  have HS6 := Lib.hid (HS5.out.below hb)
  have HN6 := Lib.hid (HN5.out.below hb)
  have HW6 := Lib.hid (below_next HW5.out hb)
  clear HA5 HB5 HI5 HS5 HN5 HW5 hb
  go_wp2_with fail
  refine (MapRight_is A n c a V HA6.out hn 0 HC1.out).mono ?_
  rintro e w7 ⟨rfl, hb⟩
  have HA7 := Lib.hid (HA6.out.below hb)
  have HB7 := Lib.hid (HB6.out.below hb)
  have HI7 := Lib.hid (HI6.out.below hb)
  have HS7 := Lib.hid (HS6.out.below hb)
  have HN7 := Lib.hid (HN6.out.below hb)
  have HW7 := Lib.hid (below_next HW6.out hb)
  clear HA6 HB6 HI6 HS6 HN6 HW6 hb
  go_wp2_with fail
  refine (HeapTree_any t A n c a w7 HT.out HA7.out (by omega)).mono ?_
  rintro e w8 ⟨q1, rfl, hr1, hb⟩
  have HA8 := Lib.hid (HA7.out.below hb)
  have HB8 := Lib.hid (HB7.out.below hb)
  have HI8 := Lib.hid (HI7.out.below hb)
  have HS8 := Lib.hid (HS7.out.below hb)
  have HN8 := Lib.hid (HN7.out.below hb)
  have HW8 := Lib.hid (below_next HW7.out hb)
  have HR8 := Lib.hid hr1
  clear HA7 HB7 HI7 HS7 HN7 HW7 hr1 hb
  go_wp2_with fail
  refine (hspots_ps t q1 n w8 HR8.out HTZ.out hn2).mono ?_
  rintro e w9 ⟨A9, c9, rfl, hp9, hb⟩
  clear HR8
  have HA9 := Lib.hid (HA8.out.below hb)
  have HB9 := Lib.hid (HB8.out.below hb)
  have HI9 := Lib.hid (HI8.out.below hb)
  have HS9 := Lib.hid (HS8.out.below hb)
  have HN9 := Lib.hid (HN8.out.below hb)
  have HW9 := Lib.hid (below_next HW8.out hb)
  have HX9 := Lib.hid hp9
  clear HA8 HB8 HI8 HS8 HN8 HW8 hp9 hb
  go_wp2_with fail
  refine (sameSpots_t A1 A9 n c1 c9 _ w9 HS9.out HX9.out (by omega)).mono ?_
  rintro e w10 ⟨rfl, hb⟩
  clear HS9
  clear HX9
  have HA10 := Lib.hid (HA9.out.below hb)
  have HB10 := Lib.hid (HB9.out.below hb)
  have HI10 := Lib.hid (HI9.out.below hb)
  have HN10 := Lib.hid (HN9.out.below hb)
  have HW10 := Lib.hid (below_next HW9.out hb)
  clear HA9 HB9 HI9 HN9 HW9 hb
  go_wp2_with fail
  refine (MapRight_is A' m c' b w10 HB10.out hm E HE.out).mono ?_
  rintro e w11 ⟨rfl, hb⟩
  have HA11 := Lib.hid (HA10.out.below hb)
  have HB11 := Lib.hid (HB10.out.below hb)
  have HI11 := Lib.hid (HI10.out.below hb)
  have HN11 := Lib.hid (HN10.out.below hb)
  have HW11 := Lib.hid (below_next HW10.out hb)
  clear HA10 HB10 HI10 HN10 HW10 hb
  go_wp2
  go_ret
  exact ⟨rfl, HW11.out⟩

set_option maxRecDepth 100000 in
set_option maxHeartbeats 8000000 in
theorem hsays_SC (A A' K : Option Addr) (n c m c' d dc : Nat) (a b : PL) (l : List Int) (w : World) (h : PS w A n c a) (h' : PS w A' m c' b) (hk : IS w K d dc l) (hn : n ≤ 9223372036854775807) (hm : m ≤ 9223372036854775807) (hd : d ≤ 9223372036854775807) (hl : d ≤ 200) (hA0 : chk a = 0) (hB0 : chk b = 0) :
    Calls Try.prog 3 #[.slice A n c, .slice A' m c', .slice K d dc] w fun e w' => e = .returned (.bool true) ∧ Below w.heap.size w w' := by
  have HA0 := Lib.hid h
  have HB0 := Lib.hid h'
  have HI0 := Lib.hid hk
  have HLL := Lib.hid hk.len
  obtain ⟨t, ht⟩ := hp_has a.length a (Nat.le_refl _)
  have HT := Lib.hid ht
  have HC1 := Lib.hid hA0
  have hn2 : n ≤ 200 := by rw [← h.len]; exact (chk_right.1 hA0).1
  have HTZ : Hid (t.size = n) := by show _ = _; rw [← hp_len ht, h.len]
  clear ht
  obtain ⟨u, hu⟩ := hp_has (a ++ b).length (a ++ b) (Nat.le_refl _)
  have HU := Lib.hid hu
  have HC2 := Lib.hid hB0
  have hm2 : m ≤ 200 := by rw [← h'.len]; exact (chk_right.1 hB0).1
  have HUZ : Hid (u.size = n + m) := by show _ = _; rw [← hp_len hu, List.length_append, h.len, h'.len]
  have HLA := Lib.hid h.len
  have HLB := Lib.hid h'.len
  clear hu
  obtain ⟨F, hF⟩ : ∃ F, joinE a b = F := ⟨_, rfl⟩
  have HJE := Lib.hid hF
  clear hF
  clear h h' hk hA0 hB0
  go_enter Try.func3, Try.ntmps3
  go_wp2_with fail
  refine (HOf_ok A n c a t w HA0.out HC1.out HT.out).mono ?_
  rintro e w1 ⟨A1, c1, rfl, hp1, hb1⟩
  have HA1 := Lib.hid (HA0.out.below hb1)
  have HB1 := Lib.hid (HB0.out.below hb1)
  have HI1 := Lib.hid (HI0.out.below hb1)
  have HW1 := Lib.hid hb1
  have HS1 := Lib.hid hp1
  clear HA0 HB0 HI0 hp1 hb1
  go_wp2_with fail
  refine (HJoin_all A A' n c m c' a b u w1 HA1.out HB1.out hn hm HU.out F HJE.out).mono ?_
  rintro e w2 ⟨A2, n2, c2, rfl, hp2, hb2⟩
  have HA2 := Lib.hid (HA1.out.below hb2)
  have HB2 := Lib.hid (HB1.out.below hb2)
  have HI2 := Lib.hid (HI1.out.below hb2)
  have HS2 := Lib.hid (HS1.out.below hb2)
  have HW2 := Lib.hid (below_next HW1.out hb2)
  have HJ2 := Lib.hid hp2
  clear HA1 HB1 HI1 HS1 HW1 hp2 hb2
  go_wp2_with fail
  refine (Least_ok K d dc l w2 HI2.out hl).mono ?_
  rintro e w3 ⟨A3, rfl, hi3, hb3⟩
  have HA3 := Lib.hid (HA2.out.below hb3)
  have HB3 := Lib.hid (HB2.out.below hb3)
  have HI3 := Lib.hid (HI2.out.below hb3)
  have HS3 := Lib.hid (HS2.out.below hb3)
  have HJ3 := Lib.hid (HJ2.out.below hb3)
  have HW3 := Lib.hid (below_next HW2.out hb3)
  have HN3 := Lib.hid hi3
  clear HA2 HB2 HI2 HS2 HJ2 HW2 hi3 hb3
  go_wp2_with fail
  refine (HCheck_is A n c a w3 HA3.out hn 0 HC1.out).mono ?_
  rintro e w4 ⟨rfl, hb⟩
  have HA4 := Lib.hid (HA3.out.below hb)
  have HB4 := Lib.hid (HB3.out.below hb)
  have HI4 := Lib.hid (HI3.out.below hb)
  have HS4 := Lib.hid (HS3.out.below hb)
  have HJ4 := Lib.hid (HJ3.out.below hb)
  have HN4 := Lib.hid (HN3.out.below hb)
  have HW4 := Lib.hid (below_next HW3.out hb)
  clear HA3 HB3 HI3 HS3 HJ3 HN3 HW3 hb
  go_wp2_with fail
  refine (MapRight_is A n c a w4 HA4.out hn 0 HC1.out).mono ?_
  rintro e w5 ⟨rfl, hb⟩
  have HA5 := Lib.hid (HA4.out.below hb)
  have HB5 := Lib.hid (HB4.out.below hb)
  have HI5 := Lib.hid (HI4.out.below hb)
  have HS5 := Lib.hid (HS4.out.below hb)
  have HJ5 := Lib.hid (HJ4.out.below hb)
  have HN5 := Lib.hid (HN4.out.below hb)
  have HW5 := Lib.hid (below_next HW4.out hb)
  clear HA4 HB4 HI4 HS4 HJ4 HN4 HW4 hb
  go_wp2
  go_loopg [65] d (fun g i wr => ∃ k : Nat, k ≤ d ∧ d - k ≤ g ∧ i = .int .i64 k ∧ Below w5.heap.size w5 wr)
  case atStart => exact ⟨0, Nat.zero_le _, by omega, rfl, Below.refl _ _⟩
  case round =>
  obtain ⟨V, rfl⟩ : ∃ V, V = wr := ⟨wr, rfl⟩
  obtain ⟨k, hk, hkm, rfl, hnx⟩ := hrel
  have HNX := Lib.hid hnx
  clear hnx
  by_cases hlt : k < d
  · obtain ⟨b0, o0, rfl, hb0, hc0⟩ := HI5.out.dat (by omega)
    obtain ⟨b1, o1, rfl, hb1, hc1⟩ := HN5.out.dat (by omega)
    have HC0 : Hid (∀ i, i < d → V.cell? ⟨b0, o0 + i, none⟩ = some (I (l[i]?.getD 0))) := fun i hi => (HNX.out.cell (by exact hb0)).trans (hc0 i hi)
    have hcn : V.cell? ⟨b1, o1 + k, none⟩ = some (I (near l k)) := by
      have := (HNX.out.cell (by exact hb1)).trans (hc1 k hlt)
      rwa [nearL_at l k (by rw [HLL.out]; exact hlt)] at this
    clear hc0 hc1
    have HNR : Hid (near l k = lst l (l[k]?.getD 0) k) := rfl
    have hck := HC0.out k hlt
    have HSZ := Lib.hid (HNX.out.size)
    generalize l[k]?.getD 0 = x at *
    generalize near l k = z at *
    have hzz : (z != z) = false := by simp
    go_wp2
    go_loopg [15, 71] k (fun g t i wr' => ∃ j : Nat, j ≤ k ∧ k - j ≤ g ∧ i = .int .i64 j ∧ t = .int .i64 (lst l x j) ∧ Below V.heap.size V wr')
    case atStart => exact ⟨0, Nat.zero_le _, by omega, rfl, rfl, Below.refl _ _⟩
    case round =>
      obtain ⟨j, hj, hjm, rfl, rfl, hny⟩ := hrel
      have HNY := Lib.hid hny
      have HNX2 : Hid (Below w5.heap.size w5 wr) := HNX.out.trans (hny.mono HNX.out.size)
      clear hny
      have HS2 : Hid (lst l x (j + 1) = if l[j]?.getD 0 < x then (j : Int) else lst l x j) := rfl
      by_cases hjk : j < k
      · have hcj : wr.cell? ⟨b0, o0 + j, none⟩ = some (I (l[j]?.getD 0)) := (HNY.out.cell (by have := HSZ.out; show b0 < _; omega)).trans (HC0.out j (by omega))
        have hck2 : wr.cell? ⟨b0, o0 + k, none⟩ = some (I x) := (HNY.out.cell (by have := HSZ.out; show b0 < _; omega)).trans hck
        have hjd : j < d := by omega
        generalize l[j]?.getD 0 = y at *
        generalize lst l x j = p at *
        by_cases hyx : y < x
        · have HP : Hid (lst l x (j + 1) = j) := by show _ = _; rw [HS2.out, if_pos hyx]
          go_wp2
          go_quiet (fail)
          go_wp2
          go_roundg (gk - 1)
          case measure => omega
          case rel => exact ⟨j + 1, by omega, by omega, by go_num, by rw [HP.out], below_drewN HNY.out _⟩
        · have HP : Hid (lst l x (j + 1) = p) := by show _ = _; rw [HS2.out, if_neg hyx]
          go_wp2
          go_quiet (fail)
          go_wp2
          go_roundg (gk - 1)
          case measure => omega
          case rel => exact ⟨j + 1, by omega, by omega, by go_num, by rw [HP.out], below_drewN HNY.out _⟩
      · obtain rfl : j = k := by omega
        have hpz : lst l x j = z := HNR.out.symm
        rw [hpz]
        clear hpz
        go_wp2
        go_roundg (d - (j + 1))
        case measure => omega
        case rel => exact ⟨j + 1, by omega, by omega, by go_num, HNX2.out⟩
  have hb := HNX.out
  clear HNX
  have HA6 := Lib.hid (HA5.out.below hb)
  have HB6 := Lib.hid (HB5.out.below hb)
  have HI6 := Lib.hid (HI5.out.below hb)
  have HS6 := Lib.hid (HS5.out.below hb)
  have HJ6 := Lib.hid (HJ5.out.below hb)
  have HN6 := Lib.hid (HN5.out.below hb)
  have HW6 := Lib.hid (below_next HW5.out hb)
  clear HA5 HB5 HI5 HS5 HJ5 HN5 HW5 hb
  go_wp2_with fail
  refine (MapRight_is A n c a V HA6.out hn 0 HC1.out).mono ?_
  rintro e w7 ⟨rfl, hb⟩
  have HA7 := Lib.hid (HA6.out.below hb)
  have HB7 := Lib.hid (HB6.out.below hb)
  have HI7 := Lib.hid (HI6.out.below hb)
  have HS7 := Lib.hid (HS6.out.below hb)
  have HJ7 := Lib.hid (HJ6.out.below hb)
  have HN7 := Lib.hid (HN6.out.below hb)
  have HW7 := Lib.hid (below_next HW6.out hb)
  clear HA6 HB6 HI6 HS6 HJ6 HN6 HW6 hb
  go_wp2_with fail
  refine (HeapTree_any t A n c a w7 HT.out HA7.out (by omega)).mono ?_
  rintro e w8 ⟨q1, rfl, hr1, hb⟩
  have HA8 := Lib.hid (HA7.out.below hb)
  have HB8 := Lib.hid (HB7.out.below hb)
  have HI8 := Lib.hid (HI7.out.below hb)
  have HS8 := Lib.hid (HS7.out.below hb)
  have HJ8 := Lib.hid (HJ7.out.below hb)
  have HN8 := Lib.hid (HN7.out.below hb)
  have HW8 := Lib.hid (below_next HW7.out hb)
  have HR8 := Lib.hid hr1
  clear HA7 HB7 HI7 HS7 HJ7 HN7 HW7 hr1 hb
  go_wp2_with fail
  refine (hspots_ps t q1 n w8 HR8.out HTZ.out hn2).mono ?_
  rintro e w9 ⟨A9, c9, rfl, hp9, hb⟩
  clear HR8
  have HA9 := Lib.hid (HA8.out.below hb)
  have HB9 := Lib.hid (HB8.out.below hb)
  have HI9 := Lib.hid (HI8.out.below hb)
  have HS9 := Lib.hid (HS8.out.below hb)
  have HJ9 := Lib.hid (HJ8.out.below hb)
  have HN9 := Lib.hid (HN8.out.below hb)
  have HW9 := Lib.hid (below_next HW8.out hb)
  have HX9 := Lib.hid hp9
  clear HA8 HB8 HI8 HS8 HJ8 HN8 HW8 hp9 hb
  go_wp2_with fail
  refine (sameSpots_t A1 A9 n c1 c9 _ w9 HS9.out HX9.out (by omega)).mono ?_
  rintro e w10 ⟨rfl, hb⟩
  clear HS9
  clear HX9
  have HA10 := Lib.hid (HA9.out.below hb)
  have HB10 := Lib.hid (HB9.out.below hb)
  have HI10 := Lib.hid (HI9.out.below hb)
  have HJ10 := Lib.hid (HJ9.out.below hb)
  have HN10 := Lib.hid (HN9.out.below hb)
  have HW10 := Lib.hid (below_next HW9.out hb)
  clear HA9 HB9 HI9 HJ9 HN9 HW9 hb
  go_wp2_with fail
  refine (MapRight_is A' m c' b w10 HB10.out hm 0 HC2.out).mono ?_
  rintro e w11 ⟨rfl, hb⟩
  have HA11 := Lib.hid (HA10.out.below hb)
  have HB11 := Lib.hid (HB10.out.below hb)
  have HI11 := Lib.hid (HI10.out.below hb)
  have HJ11 := Lib.hid (HJ10.out.below hb)
  have HN11 := Lib.hid (HN10.out.below hb)
  have HW11 := Lib.hid (below_next HW10.out hb)
  clear HA10 HB10 HI10 HJ10 HN10 HW10 hb
  go_wp2
  go_loopg [18, 127] n (fun g t i wr => ∃ k : Nat, k ≤ n ∧ n - k ≤ g ∧ i = .int .i64 k ∧ t = .int .i64 (hSay (hBad a b k 0)) ∧ Below w11.heap.size w11 wr)
  case atStart => exact ⟨0, Nat.zero_le _, by omega, rfl, by simp [hBad, hSay], Below.refl _ _⟩
  case round =>
  obtain ⟨V, rfl⟩ : ∃ V, V = wr := ⟨wr, rfl⟩
  obtain ⟨k, hk, hkm, rfl, rfl, hnx⟩ := hrel
  have HNX := Lib.hid hnx
  have hsz := hnx.size
  clear hnx
  by_cases hlt : k < n
  · obtain ⟨b0, o0, rfl, hb0, hc0⟩ := HA11.out.dat (by omega)
    have hcx : V.cell? ⟨b0, o0 + k * 2, none⟩ = some (I (ky a k)) := (HNX.out.cell (by exact hb0)).trans (hc0 k hlt).1
    have hcy : V.cell? ⟨b0, o0 + k * 2 + 1, none⟩ = some (I (dp a k)) := (HNX.out.cell (by exact hb0)).trans (hc0 k hlt).2
    have HOUT := Lib.hid (hBad_out a b k (by rw [HLA.out]; exact hlt))
    have HIN := Lib.hid (hBad_in a b k)
    clear hc0
    generalize ky a k = x at *
    generalize dp a k = x2 at *
    have HBQ := Lib.hid (HB11.out.below HNX.out)
    have HNQ : Hid (Below w11.heap.size w11 (V.alloc (.cells #[I x, I x2] 37))) := HNX.out.alloc hsz _
    have hcl : (V.alloc (.cells #[I x, I x2] 37)).cell? ⟨V.heap.size, 0, none⟩ = some (I x) := by simp
    go_wp2
    go_loopg [18, 133] m (fun g t i wr' => ∃ j : Nat, j ≤ m ∧ m - j ≤ g ∧ i = .int .i64 j ∧ t = .int .i64 (hSay (hBad a b k j)) ∧ Below (V.alloc (.cells #[I x, I x2] 37)).heap.size (V.alloc (.cells #[I x, I x2] 37)) wr')
    case atStart => exact ⟨0, Nat.zero_le _, by omega, rfl, rfl, Below.refl _ _⟩
    case round =>
      obtain ⟨j, hj, hjm, rfl, rfl, hny⟩ := hrel
      have HNY := Lib.hid hny
      have hszy := hny.size
      clear hny
      by_cases hjk : j < m
      · obtain ⟨b1, o1, rfl, hb1, hc1⟩ := (HBQ.out.alloc (.cells #[I x, I x2] 37)).dat (by omega)
        have hcj : wr.cell? ⟨b1, o1 + j * 2, none⟩ = some (I (ky b j)) := (HNY.out.cell (by exact hb1)).trans (hc1 j hjk).1
        have hcj2 : wr.cell? ⟨b1, o1 + j * 2 + 1, none⟩ = some (I (dp b j)) := (HNY.out.cell (by exact hb1)).trans (hc1 j hjk).2
        have hcl2 : wr.cell? ⟨V.heap.size, 0, none⟩ = some (I x) := (HNY.out.cell (by simp)).trans hcl
        have HST := Lib.hid (HIN.out j (by rw [HLB.out]; exact hjk))
        have hwq : V.heap.size < wr.heap.size := by simp at hszy; omega
        clear hc1
        generalize ky b j = y at *
        generalize dp b j = y2 at *
        by_cases hyx : y ≤ x
        · have HP : Hid (hSay (hBad a b k (j + 1)) = 3) := by show _ = _; rw [HST.out, decide_eq_true hyx]; simp [hSay]
          generalize hSay (hBad a b k j) = sy at *
          go_wp2
          go_roundg (gk - 1)
          case measure => omega
          case rel => exact ⟨j + 1, by omega, by omega, by go_num, by rw [HP.out], HNY.out.alloc hszy _⟩
        · have HP : Hid (hSay (hBad a b k (j + 1)) = hSay (hBad a b k j)) := by show _ = _; rw [HST.out, decide_eq_false hyx, Bool.or_false]
          generalize hSay (hBad a b k j) = sy at *
          go_wp2
          go_roundg (gk - 1)
          case measure => omega
          case rel => exact ⟨j + 1, by omega, by omega, by go_num, by rw [HP.out], HNY.out.alloc hszy _⟩
      · obtain rfl : j = m := by omega
        have HP : Hid (hSay (hBad a b (k + 1) 0) = hSay (hBad a b k j)) := by show _ = _; rw [HOUT.out, HLB.out]
        have HN2 : Hid (Below w11.heap.size w11 wr) := HNQ.out.trans (HNY.out.mono HNQ.out.size)
        generalize hSay (hBad a b k j) = sy at *
        go_wp2
        go_roundg (n - (k + 1))
        case measure => omega
        case rel => exact ⟨k + 1, by omega, by omega, by go_num, by rw [HP.out], HN2.out⟩
  obtain rfl : k = n := by omega
  have HBD : Hid (hBad a b k 0 = !decide (Bhd a b)) := by show _ = _; rw [← HLA.out]; exact hBad_all a b
  have hb := HNX.out
  clear HNX
  have HA12 := Lib.hid (HA11.out.below hb)
  have HB12 := Lib.hid (HB11.out.below hb)
  have HI12 := Lib.hid (HI11.out.below hb)
  have HJ12 := Lib.hid (HJ11.out.below hb)
  have HN12 := Lib.hid (HN11.out.below hb)
  have HW12 := Lib.hid (below_next HW11.out hb)
  clear HA11 HB11 HI11 HJ11 HN11 HW11 hb hsz
  by_cases hbd : Bhd a b
  · have hsy : hSay (hBad a b k 0) = 0 := by rw [HBD.out, decide_eq_true hbd]; rfl
    rw [hsy]
    clear hsy
    by_cases h200 : 200 < k + m
    · obtain rfl : F = 2 := by
        rw [← HJE.out]; unfold joinE
        rw [if_neg (by simpa using HC1.out), if_neg (by simpa using HC2.out), if_pos hbd, HLA.out, HLB.out, if_pos h200]
      obtain rfl : n2 = 0 := by rw [← HJ12.out.len, if_neg (by omega)]; rfl
      have h200' : 200 < (k : Int) + (m : Int) := by omega
      clear hbd
      go_wp2
      go_ret
      exact ⟨rfl, HW12.out⟩
    · obtain rfl : F = 0 := by
        rw [← HJE.out]; unfold joinE
        rw [if_neg (by simpa using HC1.out), if_neg (by simpa using HC2.out), if_pos hbd, HLA.out, HLB.out, if_neg h200]
      have hj : PS V A2 n2 c2 (u.sp 0) := by have := HJ12.out; rwa [if_pos rfl] at this
      obtain rfl : n2 = k + m := by rw [← hj.len, sp_length, HUZ.out]
      have HJ := Lib.hid hj
      have h200' : ¬ 200 < (k : Int) + (m : Int) := by omega
      clear hbd hj HJ12
      go_wp2_with (first
        | (at_builtin
           refine wpList_app2 rfl (.tmp 165) (.tmp 166) 22 rfl 37 Try.underlying22 hpair_info V.heap.size (.slice (some ⟨V.heap.size, 0, none⟩) 0 0) [] a A k c rfl rfl (own2_empty (heap_alloc_new V _) (Nat.le_refl _)) (HA12.out.alloc _).src (by simp; omega) (by simp) ?_
           intro v4 w4 hown4 hgrow4 _
           have hb4 : Below V.heap.size V w4 := (((Below.refl _ _).alloc (Nat.le_refl _) _)).grown hgrow4 (by simp) (by simp [Value.ownBlock])
           have HB4 := Lib.hid hb4
           have HO4 : Hid (OwnR w4 V.heap.size 37 v4 ([] ++ a)) := hown4
           have hs4 := hb4.size
           clear hown4 hgrow4 hb4)
        | (at_builtin
           refine wpList_app2 rfl (.tmp 167) (.tmp 168) 22 rfl 37 Try.underlying22 hpair_info V.heap.size v4 ([] ++ a) b A' m c' rfl rfl HO4.out (HB12.out.below HB4.out).src (by rw [List.nil_append, HLA.out]; omega) hs4 ?_
           intro v5 w5 hown5 hgrow5 _
           have hb5 : Below V.heap.size V w5 := HB4.out.grown hgrow5 hs4 (OwnR.ge HO4.out)
           obtain ⟨A5, c5, e5, hp5, _⟩ := OwnR.ps (show OwnR w5 V.heap.size 37 v5 ([] ++ a ++ b) from hown5)
           have hl5 : ([] ++ a ++ b).length = k + m := by rw [List.nil_append, List.length_append, HLA.out, HLB.out]
           rw [hl5] at e5 hp5
           subst e5
           have HP5 : Hid (PS w5 A5 (k + m) c5 (a ++ b)) := by have := hp5; rwa [List.nil_append] at this
           have HB5 := Lib.hid (below_next HW12.out hb5)
           have HJ5 := Lib.hid (HJ.out.below hb5)
           clear hown5 hgrow5 hb5 hp5 hl5)
        | fail)
      refine (HeapTree_any u A5 (k + m) c5 (a ++ b) w5 HU.out HP5.out (by omega)).mono ?_
      rintro e w6 ⟨q6, rfl, hr6, hb6⟩
      have HR6 := Lib.hid hr6
      have HB6 := Lib.hid (below_next HB5.out hb6)
      have HJ6 := Lib.hid (HJ5.out.below hb6)
      clear hr6 hb6 HB5 HJ5
      go_wp2_with fail
      refine (hspots_ps u q6 (k + m) w6 HR6.out HUZ.out (by omega)).mono ?_
      rintro e w7 ⟨A7, c7, rfl, hp7, hb7⟩
      have HX7 := Lib.hid hp7
      have HB7 := Lib.hid (below_next HB6.out hb7)
      have HJ7 := Lib.hid (HJ6.out.below hb7)
      clear hp7 hb7 HB6 HJ6
      go_wp2_with fail
      refine (sameSpots_t A2 A7 (k + m) c2 c7 _ w7 HJ7.out HX7.out (by omega)).mono ?_
      rintro e w8 ⟨rfl, hb8⟩
      have HB8 := Lib.hid (below_next HB7.out hb8)
      clear hb8
      go_wp2
      go_ret
      exact ⟨rfl, HB8.out⟩
  · have hsy : hSay (hBad a b k 0) = 3 := by rw [HBD.out, decide_eq_false hbd]; rfl
    rw [hsy]
    clear hsy
    obtain rfl : F = 3 := by
      rw [← HJE.out]; unfold joinE
      rw [if_neg (by simpa using HC1.out), if_neg (by simpa using HC2.out), if_neg hbd]
    obtain rfl : n2 = 0 := by rw [← HJ12.out.len, if_neg (by omega)]; rfl
    clear hbd
    go_wp2
    go_ret
    exact ⟨rfl, HW12.out⟩

theorem hsays_any (A : Option Addr) (n c : Nat) (a : PL) (A' : Option Addr) (m c' : Nat) (b : PL) (K : Option Addr) (d dc : Nat) (l : List Int) (w : World) (h : PS w A n c a) (hn : n ≤ 9223372036854775807) (h' : PS w A' m c' b) (hm : m ≤ 9223372036854775807) (hk : IS w K d dc l) (hd : d ≤ 9223372036854775807) :
    Calls Try.prog 3 #[.slice A n c, .slice A' m c', .slice K d dc] w fun e w' => e = .returned (.bool true) ∧ Below w.heap.size w w' := by
  by_cases hl : 200 < d
  · by_cases h1 : chk a = 0
    · by_cases h2 : chk b = 0
      · exact hsays_LC A A' K n c m c' d dc a b l w h h' hk hn hm hd hl h1 h2
      · exact hsays_LB A A' K n c m c' d dc a b l w h h' hk hn hm hd hl _ h1 rfl h2
    · exact hsays_LA A A' K n c m c' d dc a b l w h h' hk hn hm hd hl _ rfl h1
  · by_cases h1 : chk a = 0
    · by_cases h2 : chk b = 0
      · exact hsays_SC A A' K n c m c' d dc a b l w h h' hk hn hm hd (by omega) h1 h2
      · exact hsays_SB A A' K n c m c' d dc a b l w h h' hk hn hm hd (by omega) _ h1 rfl h2
    · exact hsays_SA A A' K n c m c' d dc a b l w h h' hk hn hm hd (by omega) _ rfl h1

end Go.Proofs.Ytcjhglejmmphbaa
