/-
  package heap: Join.
-/
import Derived.Test.YtcjhglejmmphbaaHOf
namespace Go.Proofs.Ytcjhglejmmphbaa
open Go.RowKit

/-- two slices, in a new row -/
theorem hpair_rs (w : World) (t : Nat) (s1 s2 : Sl) (h1 : s1.ok w) (h2 : s2.ok w) : RS (w.alloc (.cells #[s1.val, s2.val] t)) (some ⟨w.heap.size, 0, none⟩) 2 2 [s1, s2] := by
  refine ⟨rfl, ⟨Nat.le_refl _, fun _ => ⟨w.heap.size, 0, rfl, by simp, fun i hi j hj => ?_⟩⟩, ?_⟩
  · obtain rfl : j = 0 := by omega
    rw [cell_of_row _ _ _ _ _ _ (heap_alloc_new w _)]
    rcases (show i = 0 ∨ i = 1 by omega) with rfl | rfl
    · rfl
    · rfl
  · intro s hs
    simp only [List.mem_cons, List.not_mem_nil, or_false] at hs
    rcases hs with rfl | rfl
    · exact PS.alloc h1 _
    · exact PS.alloc h2 _

set_option maxRecDepth 100000 in
set_option maxHeartbeats 2000000 in
theorem hcat_any (A A' : Option Addr) (n c m c' : Nat) (a b : PL) (w : World) (h : PS w A n c a) (h' : PS w A' m c' b) (hn : n ≤ 400) (hm : m ≤ 400) :
    Calls Try.prog 27 #[.slice (some ⟨w.heap.size, 0, none⟩) 2 2] (w.alloc (.cells #[.slice A n c, .slice A' m c'] 22)) fun e w' => ∃ A2 c2, e = .returned (.slice A2 (n + m) c2) ∧ PS w' A2 (n + m) c2 (a ++ b) ∧ Below w.heap.size w w' := by
  have hrs := hpair_rs w 22 ⟨A, n, c, a⟩ ⟨A', m, c', b⟩ h h'
  have hs : sumN [⟨A, n, c, a⟩, ⟨A', m, c', b⟩] = n + m := by simp [sumN]
  refine (ConcatP_any _ 2 2 [⟨A, n, c, a⟩, ⟨A', m, c', b⟩] _ hrs (by omega) (by rw [hs]; omega)).mono ?_
  rintro e w1 ⟨v, rfl, ho, hb⟩
  obtain ⟨A2, c2, rfl, hps, _⟩ := OwnR.ps ho
  have hc : catL [⟨A, n, c, a⟩, ⟨A', m, c', b⟩] = a ++ b := by simp [catL]
  have hl : (a ++ b).length = n + m := by rw [List.length_append, h.len, h'.len]
  rw [hc, hl] at hps
  rw [hc, hl]
  exact ⟨A2, c2, rfl, hps, ((Below.refl _ _).alloc (Nat.le_refl _) _).trans (hb.mono (by simp))⟩

set_option maxRecDepth 100000 in
set_option maxHeartbeats 4000000 in
theorem HJoin_bad (A A' : Option Addr) (n c m c' : Nat) (a b : PL) (w : World) (h : PS w A n c a) (h' : PS w A' m c' b) (hn : n ≤ 9223372036854775807) (hm : m ≤ 9223372036854775807) (E : Int) (hE : joinE a b = E) (hE0 : E ≠ 0) :
    Calls Try.prog 9 #[.slice A n c, .slice A' m c'] w fun e w' => e = .returned (.tuple #[.slice none 0 0, I E]) ∧ Below w.heap.size w w' := by
  have hne := herr_ne hE0
  by_cases h1 : chk a = 0
  · by_cases h2 : chk b = 0
    · have hn2 : n ≤ 200 := by rw [← h.len]; exact (chk_right.1 h1).1
      have hm2 : m ≤ 200 := by rw [← h'.len]; exact (chk_right.1 h2).1
      have HK := Lib.hid (HCheck_is A n c a w h hn 0 h1)
      have H := Lib.hid h
      have H' := Lib.hid h'
      have HC1 := Lib.hid h1
      have HC2 := Lib.hid h2
      by_cases h3 : Bhd a b
      · have hE2 : E = 2 ∧ 200 < n + m := by
          unfold joinE at hE
          rw [if_neg (by simpa using h1), if_neg (by simpa using h2), if_pos h3, h.len, h'.len] at hE
          split at hE
          · rename_i h4
            exact ⟨hE.symm, h4⟩
          · exact absurd hE.symm hE0
        obtain ⟨rfl, h200⟩ := hE2
        have HIB : Hid (isB a b = true) := by show _ = _; rw [isB_is (chk_right.1 h1).2.2 (chk_right.1 h2).2.2]; simpa using h3
        have HCH : Hid (chk (a ++ b) = 2) := by show _ = _; rw [chk_both h1 h2 h3, if_pos (by rw [h.len, h'.len]; exact h200)]
        clear h h' h1 h2 h3 hE
        go_enter Try.func9, Try.ntmps9
        go_wp2_with fail
        refine HK.out.mono ?_
        rintro e w1 ⟨rfl, hb1⟩
        have H1 := Lib.hid (H.out.below hb1)
        have H1' := Lib.hid (H'.out.below hb1)
        have HB1 := Lib.hid hb1
        clear hb1 HK H H'
        go_wp2_with fail
        refine (HCheck_is A' m c' b w1 H1'.out hm 0 HC2.out).mono ?_
        rintro e w2 ⟨rfl, hb2⟩
        have H2 := Lib.hid (H1.out.below hb2)
        have H2' := Lib.hid (H1'.out.below hb2)
        have HB2 := Lib.hid (below_next HB1.out hb2)
        clear hb2 HB1 H1 H1'
        go_wp2_with fail
        refine (isBehind_any A A' n c m c' a b w2 H2.out H2'.out (by omega) (by omega) true HIB.out).mono ?_
        rintro e w3 ⟨rfl, hb3⟩
        have H3 := Lib.hid (H2.out.below hb3)
        have H3' := Lib.hid (H2'.out.below hb3)
        have HB3 := Lib.hid (below_next HB2.out hb3)
        clear hb3 HB2 H2 H2'
        go_wp2_with fail
        refine (hcat_any A A' n c m c' a b w3 H3.out H3'.out (by omega) (by omega)).mono ?_
        rintro e w4 ⟨A4, c4, rfl, hp4, hb4⟩
        have HP4 := Lib.hid hp4
        have HB4 := Lib.hid (below_next HB3.out hb4)
        clear hb4 hp4 HB3 H3 H3'
        go_wp2_with fail
        refine (HOf_bad A4 (n + m) c4 (a ++ b) w4 HP4.out (by omega) 2 HCH.out (by omega)).mono ?_
        rintro e w5 ⟨rfl, hb5⟩
        have HB5 := Lib.hid (below_next HB4.out hb5)
        clear hb5
        go_wp2
        go_ret2
        exact ⟨rfl, HB5.out⟩
      · have hE3 : E = 3 := by
          unfold joinE at hE
          rw [if_neg (by simpa using h1), if_neg (by simpa using h2), if_neg h3] at hE
          exact hE.symm
        subst hE3
        have HIB : Hid (isB a b = false) := by show _ = _; rw [isB_is (chk_right.1 h1).2.2 (chk_right.1 h2).2.2]; simpa using h3
        clear h h' h1 h2 h3 hE
        go_enter Try.func9, Try.ntmps9
        go_wp2_with fail
        refine HK.out.mono ?_
        rintro e w1 ⟨rfl, hb1⟩
        have H1 := Lib.hid (H.out.below hb1)
        have H1' := Lib.hid (H'.out.below hb1)
        have HB1 := Lib.hid hb1
        clear hb1 HK H H'
        go_wp2_with fail
        refine (HCheck_is A' m c' b w1 H1'.out hm 0 HC2.out).mono ?_
        rintro e w2 ⟨rfl, hb2⟩
        have H2 := Lib.hid (H1.out.below hb2)
        have H2' := Lib.hid (H1'.out.below hb2)
        have HB2 := Lib.hid (below_next HB1.out hb2)
        clear hb2 HB1 H1 H1'
        go_wp2_with fail
        refine (isBehind_any A A' n c m c' a b w2 H2.out H2'.out (by omega) (by omega) false HIB.out).mono ?_
        rintro e w3 ⟨rfl, hb3⟩
        have HB3 := Lib.hid (below_next HB2.out hb3)
        clear hb3 HB2 H2 H2'
        go_wp2
        go_ret2
        exact ⟨rfl, HB3.out⟩
    · have hE2 : chk b = E := by
        unfold joinE at hE
        rw [if_neg (by simpa using h1), if_pos h2] at hE
        exact hE
      have HK := Lib.hid (HCheck_is A n c a w h hn 0 h1)
      have H' := Lib.hid h'
      have HC2 := Lib.hid hE2
      clear h h' h1 h2 hE hE2
      go_enter Try.func9, Try.ntmps9
      go_wp2_with fail
      refine HK.out.mono ?_
      rintro e w1 ⟨rfl, hb1⟩
      have H1' := Lib.hid (H'.out.below hb1)
      have HB1 := Lib.hid hb1
      clear hb1 HK H'
      go_wp2_with fail
      refine (HCheck_is A' m c' b w1 H1'.out hm E HC2.out).mono ?_
      rintro e w2 ⟨rfl, hb2⟩
      have HB2 := Lib.hid (below_next HB1.out hb2)
      clear hb2 HB1 H1'
      go_wp2
      go_ret2
      exact ⟨rfl, HB2.out⟩
  · have hE2 : chk a = E := by
      unfold joinE at hE
      rw [if_pos h1] at hE
      exact hE
    have HK := Lib.hid (HCheck_is A n c a w h hn E hE2)
    clear h h' h1 hE hE2
    go_enter Try.func9, Try.ntmps9
    go_wp2_with fail
    refine HK.out.mono ?_
    rintro e w1 ⟨rfl, hb1⟩
    have HB1 := Lib.hid hb1
    clear hb1 HK
    go_wp2
    go_ret2
    exact ⟨rfl, HB1.out⟩

set_option maxRecDepth 100000 in
set_option maxHeartbeats 4000000 in
theorem HJoin_ok (A A' : Option Addr) (n c m c' : Nat) (a b : PL) (t : Tr) (w : World) (h : PS w A n c a) (h' : PS w A' m c' b) (hE : joinE a b = 0) (ht : Hp t (a ++ b)) :
    Calls Try.prog 9 #[.slice A n c, .slice A' m c'] w (RetH (t.sp 0) (n + m) w) := by
  obtain ⟨h1, h2, h3, h4⟩ := joinE_zero hE
  rw [h.len, h'.len] at h4
  have hn : n ≤ 200 := by omega
  have hm : m ≤ 200 := by omega
  have HK := Lib.hid (HCheck_is A n c a w h (by omega) 0 h1)
  have H := Lib.hid h
  have H' := Lib.hid h'
  have HC2 := Lib.hid h2
  have HT := Lib.hid ht
  have HIB : Hid (isB a b = true) := by show _ = _; rw [isB_is (chk_right.1 h1).2.2 (chk_right.1 h2).2.2]; simpa using h3
  have HCH : Hid (chk (a ++ b) = 0) := by show _ = _; rw [chk_both h1 h2 h3, if_neg (by rw [h.len, h'.len]; omega)]
  clear h h' h1 h2 h3 hE ht
  go_enter Try.func9, Try.ntmps9
  go_wp2_with fail
  refine HK.out.mono ?_
  rintro e w1 ⟨rfl, hb1⟩
  have H1 := Lib.hid (H.out.below hb1)
  have H1' := Lib.hid (H'.out.below hb1)
  have HB1 := Lib.hid hb1
  clear hb1 HK H H'
  go_wp2_with fail
  refine (HCheck_is A' m c' b w1 H1'.out (by omega) 0 HC2.out).mono ?_
  rintro e w2 ⟨rfl, hb2⟩
  have H2 := Lib.hid (H1.out.below hb2)
  have H2' := Lib.hid (H1'.out.below hb2)
  have HB2 := Lib.hid (below_next HB1.out hb2)
  clear hb2 HB1 H1 H1'
  go_wp2_with fail
  refine (isBehind_any A A' n c m c' a b w2 H2.out H2'.out (by omega) (by omega) true HIB.out).mono ?_
  rintro e w3 ⟨rfl, hb3⟩
  have H3 := Lib.hid (H2.out.below hb3)
  have H3' := Lib.hid (H2'.out.below hb3)
  have HB3 := Lib.hid (below_next HB2.out hb3)
  clear hb3 HB2 H2 H2'
  go_wp2_with fail
  refine (hcat_any A A' n c m c' a b w3 H3.out H3'.out (by omega) (by omega)).mono ?_
  rintro e w4 ⟨A4, c4, rfl, hp4, hb4⟩
  have HP4 := Lib.hid hp4
  have HB4 := Lib.hid (below_next HB3.out hb4)
  clear hb4 hp4 HB3 H3 H3'
  go_wp2_with fail
  refine (HOf_ok A4 (n + m) c4 (a ++ b) t w4 HP4.out HCH.out HT.out).mono ?_
  rintro e w5 ⟨A5, c5, rfl, hp5, hb5⟩
  have HP5 := Lib.hid hp5
  have HB5 := Lib.hid (below_next HB4.out hb5)
  clear hb5 hp5
  go_wp2
  go_ret2
  exact ⟨A5, c5, rfl, HP5.out, HB5.out⟩

end Go.Proofs.Ytcjhglejmmphbaa
