/-
  The walk of the law VineOne.
-/
import Derived.Test.YtjonepkdkhhonaaVEvenL
namespace Go.Proofs.Ytjonepkdkhhonaa
open Go.RowKit

theorem eqSpot_same (A A' : Option Addr) (n c c' : Nat) (l : PL) (w : World) (h : PS w A n c l) (h' : PS w A' n c' l) (hn : n ≤ 1000000) :
    Calls Try.prog 15 #[.slice A n c, .slice A' n c'] w fun e w' => e = .returned (.bool true) ∧ Below w.heap.size w w' := by
  refine (eqSpot_any A A' n n c c' l l w h h' hn hn).mono ?_
  rintro e w' ⟨rfl, hb⟩
  exact ⟨by simp, hb⟩
/-- whatever Even is told of, it answers, and leaves all as it was -/
def RetAny (w : World) (e : Ending) (w' : World) : Prop := ∃ (A : Option Addr) (n c : Nat) (u E : Int), e = .returned (.tuple #[.slice A n c, I u, I E]) ∧ Below w.heap.size w w'
theorem EvenV_any (A : Option Addr) (n c : Nat) (l : PL) (w : World) (h : PS w A n c l) (hn : n ≤ 9223372036854775807) : Calls Try.prog 10 #[.slice A n c] w (RetAny w) := by
  by_cases hc : chkS l = 0
  · have hT := chkS_zero.1 hc
    obtain ⟨t, ht⟩ := hT.2.2
    subst ht
    obtain ⟨j, h1, h2⟩ := log_has n
    refine (EvenV_ok A n c j t w h hT h1 h2).mono ?_
    rintro e w' ⟨A1, c1, rfl, -, hb⟩
    exact ⟨A1, _, c1, _, 0, rfl, hb⟩
  · refine (EvenV_bad A n c l w h hn _ rfl hc).mono ?_
    rintro e w' ⟨rfl, hb⟩
    exact ⟨none, 0, 0, 0, _, rfl, hb⟩

set_option maxRecDepth 100000 in
set_option maxHeartbeats 2000000 in
theorem vone_no (A : Option Addr) (n c : Nat) (l : PL) (key E : Int) (w : World) (h : PS w A n c l) (hn : n ≤ 9223372036854775807) (hE : E ≠ 0)
    (hT : Calls Try.prog 9 #[.slice A n c, I key] w fun e w' => e = .returned (.tuple #[.slice none 0 0, I E]) ∧ Below w.heap.size w w') :
    Calls Try.prog 5 #[.slice A n c, I key] w (YesV w) := by
  have HT := Lib.hid hT
  have H := Lib.hid h
  have hq : (E != 0) = true := by simpa using hE
  clear h hT hE
  go_enter Try.func5, Try.ntmps5
  go_wp2_with fail
  refine HT.out.mono ?_
  rintro e w1 ⟨rfl, hb1⟩
  have HB1 := Lib.hid hb1
  clear hb1
  go_wp2_with fail
  refine (EvenV_any A n c l w1 (H.out.below HB1.out) hn).mono ?_
  rintro e w2 ⟨A2, n2, c2, u2, E2, rfl, hb2⟩
  have HB2 := Lib.hid (below_on HB1.out hb2)
  clear hb2
  go_wp2_with fail
  refine (EvenV_any none 0 0 [] w2 ⟨rfl, Rd.none_⟩ (by omega)).mono ?_
  rintro e w3 ⟨A3, n3, c3, u3, E3, rfl, hb3⟩
  have HB3 := Lib.hid (below_on HB2.out hb3)
  clear hb3
  go_wp2_with fail
  refine (vineLives_any _).mono ?_
  rintro e w4 ⟨rfl, hb4⟩
  have HB4 := Lib.hid (below_on HB3.out hb4)
  clear hb4
  go_wp2
  go_ret
  exact ⟨rfl, HB4.out⟩

set_option maxRecDepth 100000 in
set_option maxHeartbeats 2000000 in
theorem vone_ok (A : Option Addr) (n c i : Nat) (t : Tr) (key : Int) (w : World) (h : PS w A n c (t.sp 0)) (hT : IsTree (t.sp 0)) (hx : ixK (t.sp 0) key = i) (hi : i < n) (hd : dp (t.sp 0) i ≠ 0) :
    Calls Try.prog 5 #[.slice A n c, I key] w (YesV w) := by
  have hn : n ≤ 200 := by rw [← h.len]; exact hT.1
  have hsz : t.size = n := by rw [← sp_length t 0, h.len]
  have hkl : t.ks.length = n := by rw [ks_length, hsz]
  obtain ⟨j, h1, h2⟩ := log_has n
  have HTU := Lib.hid (Turn_ok A n c i (t.sp 0) key w h hT hx hi hd)
  obtain ⟨_, _, htd⟩ := turned_of hT (by rw [h.len]; exact hi) hd
  obtain ⟨s, hs⟩ := htd.tree.2.2
  have hsT := htd.tree
  have hlen := htd.len
  have hkeys := htd.keys
  rw [hs] at HTU hsT hlen hkeys
  have hsl : (s.sp 0).length = n := hlen.trans h.len
  have hks : s.ks = t.ks := by
    rw [← sp_ks s 0, ← sp_ks t 0]
    apply List.ext_getElem?
    intro x
    have := hkeys x
    rw [List.getElem?_map, List.getElem?_map]
    rcases Nat.lt_or_ge x n with hxn | hxn
    · have a : x < (s.sp 0).length := by omega
      have b : x < (t.sp 0).length := by rw [h.len]; exact hxn
      rw [ky_in a, ky_in b] at this
      rw [List.getElem?_eq_getElem a, List.getElem?_eq_getElem b]
      simp [this]
    · rw [List.getElem?_eq_none (by omega), List.getElem?_eq_none (by rw [h.len]; exact hxn)]
  have HEL : Hid (((evn j t.ks).sp 0).length = n) := by show _ = _; rw [sp_length, evn_size, hkl]
  have H := Lib.hid h
  have HT := Lib.hid hT
  have HST := Lib.hid hsT
  have HKS := Lib.hid hks
  have H1 := Lib.hid h1
  have H2 := Lib.hid h2
  have HSL := Lib.hid hsl
  clear h hT hx hi hd hsz hkl h1 h2 htd hs hsT hlen hkeys hsl hks
  go_enter Try.func5, Try.ntmps5
  go_wp2_with fail
  refine HTU.out.mono ?_
  rintro e w1 ⟨A1, n1, c1, rfl, hps1, hb1, -⟩
  obtain rfl : n1 = n := by rw [← hps1.len, HSL.out]
  have HB1 := Lib.hid hb1
  have HP1 := Lib.hid hps1
  clear hb1 hps1
  go_wp2_with fail
  refine (EvenV_ok A n1 c j t w1 (H.out.below HB1.out) HT.out H1.out H2.out).mono ?_
  rintro e w2 ⟨A2, c2, rfl, hps2, hb2⟩
  rw [HEL.out] at hps2 ⊢
  generalize (vks t).length + evUp j n1 = u2
  have HB2 := Lib.hid (below_on HB1.out hb2)
  have HP2 := Lib.hid hps2
  have HP12 := Lib.hid (HP1.out.below hb2)
  clear hb2 hps2 HP1
  go_wp2_with fail
  refine (EvenV_ok A1 n1 c1 j s w2 HP12.out HST.out H1.out H2.out).mono ?_
  rw [HKS.out]
  rintro e w3 ⟨A3, c3, rfl, hps3, hb3⟩
  rw [HEL.out] at hps3 ⊢
  generalize (vks s).length + evUp j n1 = u3
  have HB3 := Lib.hid (below_on HB2.out hb3)
  have HP3 := Lib.hid hps3
  have HP23 := Lib.hid (HP2.out.below hb3)
  clear hb3 hps3 HP2 HP12
  go_wp2_with fail
  refine (vineLives_any _).mono ?_
  rintro e w4 ⟨rfl, hb4⟩
  have HB4 := Lib.hid (below_on HB3.out hb4)
  have HP34 := Lib.hid (HP3.out.below hb4)
  have HP24 := Lib.hid (HP23.out.below hb4)
  clear hb4 HP3 HP23
  go_wp2_with fail
  refine (ok_any _ 2 2 [0, 0] _ (is_new w4 24 [0, 0]) (by omega) (by simp)).mono ?_
  rintro e w5 ⟨rfl, rfl⟩
  go_wp2_with fail
  refine (eqSpot_same A2 A3 n1 c2 c3 _ _ (HP24.out.alloc _) (HP34.out.alloc _) (by omega)).mono ?_
  rintro e w6 ⟨rfl, hb6⟩
  have HB6 := Lib.hid (below_on HB4.out (below_box hb6))
  clear hb6
  go_wp2
  go_ret
  exact ⟨rfl, HB6.out⟩

theorem vone_any (A : Option Addr) (n c : Nat) (l : PL) (key : Int) (w : World) (h : PS w A n c l) (hn : n ≤ 9223372036854775807) :
    Calls Try.prog 5 #[.slice A n c, I key] w (YesV w) := by
  by_cases hc : chkS l = 0
  · have hT := chkS_zero.1 hc
    rcases ixK_cases l key with ⟨h1, _⟩ | ⟨i, h1, h2, h3⟩
    · exact vone_no A n c l key 4 w h hn (by decide) (Turn_none A n c l key w h hT h1)
    · rw [h.len] at h2
      by_cases hd : dp l i = 0
      · exact vone_no A n c l key 4 w h hn (by decide) (Turn_root A n c i l key w h hT h1 h2 hd)
      · obtain ⟨t, ht⟩ := hT.2.2
        subst ht
        exact vone_ok A n c i t key w h hT h1 h2 hd
  · exact vone_no A n c l key _ w h hn hc (Turn_bad A n c l key w h hn _ rfl hc)

end Go.Proofs.Ytjonepkdkhhonaa
