/-
  HeapJoins: joined, those of the first part that stand above one another stand so still.
-/
import Derived.Test.YtcjhglejmmphbaaHLaw
import Derived.Test.YtcjhglejmmphbaaHJoin
namespace Go.Proofs.Ytcjhglejmmphbaa
open Go.RowKit

theorem HOf_some (A : Option Addr) (n c : Nat) (l : PL) (w : World) (h : PS w A n c l) (hn : n ≤ 9223372036854775807) :
    Calls Try.prog 8 #[.slice A n c] w fun e w' => ∃ A2 n2 c2, e = .returned (.tuple #[.slice A2 n2 c2, I (chk l)]) ∧ Below w.heap.size w w' := by
  by_cases h0 : chk l = 0
  · obtain ⟨t, ht⟩ := hp_has l.length l (Nat.le_refl _)
    refine (HOf_ok A n c l t w h h0 ht).mono ?_
    rintro e w' ⟨A2, c2, rfl, hp, hb⟩
    exact ⟨A2, _, c2, by rw [h0], hb⟩
  · refine (HOf_bad A n c l w h hn _ rfl h0).mono ?_
    rintro e w' ⟨rfl, hb⟩
    exact ⟨none, 0, 0, rfl, hb⟩

/-- who stands above in the tree of a stands above in the tree of both -/
theorem join_anc {t : Tr} {a b : PL} (h : Hp t a) {k : Nat} (hk : k < a.length) : par (t.sp 0) k = -1 ∨ ∃ p : Nat, par (t.sp 0) k = p ∧ p < a.length ∧ Anc (a ++ b) p k := by
  have hs := hp_len h
  rcases par_hp h (show k < t.size by omega) with ⟨e, _⟩ | ⟨p, e, hp⟩
  · exact .inl e
  · have := hp.lt
    exact .inr ⟨p, e, by omega, (anc_left (by omega) (by omega)).2 hp.anc⟩
/-- one step up -/
theorem join_step {u : Tr} {l : PL} (h : Hp u l) {p q : Nat} (hp : p < l.length) (hq : q < l.length) (hne : q ≠ p) (ha : Anc l p q) : ∃ r : Nat, par (u.sp 0) q = r ∧ r < l.length ∧ Anc l p r ∧ dp (u.sp 0) r < dp (u.sp 0) q := by
  have hs := hp_len h
  rcases par_hp h (show q < u.size by omega) with ⟨_, hno⟩ | ⟨r, e, hr⟩
  · exact absurd (hno p (by omega) ha).symm hne
  · exact ⟨r, e, by have := hr.lt; omega, hr.all p (by omega) (fun e => hne e.symm) ha, hr.deep 0⟩
theorem join_up {u : Tr} {l : PL} (h : Hp u l) {q : Nat} (hq : q < l.length) : par (u.sp 0) q = -1 ∨ ∃ r : Nat, par (u.sp 0) q = r ∧ r < l.length ∧ dp (u.sp 0) r < dp (u.sp 0) q := by
  have hs := hp_len h
  rcases par_hp h (show q < u.size by omega) with ⟨e, _⟩ | ⟨r, e, hr⟩
  · exact .inl e
  · exact .inr ⟨r, e, by have := hr.lt; omega, hr.deep 0⟩

set_option maxRecDepth 100000 in
set_option maxHeartbeats 8000000 in
theorem hjoins_ok (A A' : Option Addr) (n c m c' : Nat) (a b : PL) (w : World) (h : PS w A n c a) (h' : PS w A' m c' b) (hE : joinE a b = 0) :
    Calls Try.prog 6 #[.slice A n c, .slice A' m c'] w fun e w' => e = .returned (.bool true) ∧ Below w.heap.size w w' := by
  obtain ⟨h1, h2, h3, h4⟩ := joinE_zero hE
  obtain ⟨t, ht⟩ := hp_has a.length a (Nat.le_refl _)
  obtain ⟨u, hu⟩ := hp_has (a ++ b).length (a ++ b) (Nat.le_refl _)
  have hcb : chk (a ++ b) = 0 := by rw [chk_both h1 h2 h3, if_neg (by omega)]
  have HJ := Lib.hid (HJoin_ok A A' n c m c' a b u w h h' hE hu)
  obtain ⟨N, hN⟩ : ∃ N, n + m = N := ⟨_, rfl⟩
  rw [hN] at HJ
  have hN1 : N ≤ 200 := by rw [h.len, h'.len] at h4; omega
  have hnN : n ≤ N := by omega
  have hab : (a ++ b).length = N := by rw [List.length_append, h.len, h'.len]; exact hN
  have HCA := Lib.hid h1
  have HT := Lib.hid ht
  have HTT := Lib.hid (hp_tree ht h1)
  have HUT := Lib.hid (hp_tree hu hcb)
  have HTL : Hid ((t.sp 0).length = n) := by show _ = _; rw [sp_length, ← hp_len ht, h.len]
  have HUL : Hid ((u.sp 0).length = N) := by show _ = _; rw [sp_length, ← hp_len hu, hab]
  have HAN : Hid (∀ k, k < n → par (t.sp 0) k = -1 ∨ ∃ p : Nat, par (t.sp 0) k = p ∧ p < n ∧ Anc (a ++ b) p k) := fun k hk => by
    have := join_anc (b := b) ht (k := k) (by rw [h.len]; exact hk)
    rwa [h.len] at this
  have HST : Hid (∀ p q : Nat, p < N → q < N → q ≠ p → Anc (a ++ b) p q → ∃ r : Nat, par (u.sp 0) q = r ∧ r < N ∧ Anc (a ++ b) p r ∧ (dp (u.sp 0) r).toNat < (dp (u.sp 0) q).toNat) := fun p q hp hq hne ha => by
    obtain ⟨r, e1, e2, e3, e4⟩ := join_step hu (by rw [hab]; exact hp) (by rw [hab]; exact hq) hne ha
    have := (tree_dp HUT.out r).1
    exact ⟨r, e1, by rw [← hab]; exact e2, e3, by omega⟩
  have HUP : Hid (∀ q : Nat, q < N → par (u.sp 0) q = -1 ∨ ∃ r : Nat, par (u.sp 0) q = r ∧ r < N ∧ (dp (u.sp 0) r).toNat < (dp (u.sp 0) q).toNat) := fun q hq => by
    rcases join_up hu (q := q) (by rw [hab]; exact hq) with e | ⟨r, e1, e2, e3⟩
    · exact .inl e
    · have := (tree_dp HUT.out r).1
      exact .inr ⟨r, e1, by rw [← hab]; exact e2, by omega⟩
  have HDP : Hid (∀ q, (dp (u.sp 0) q).toNat < 1000) := fun q => by have := tree_dp HUT.out q; omega
  have hneq : ((N : Int) != (n : Int) + (m : Int)) = false := by simp; omega
  have hwr : IntKind.i64.wrap ((n : Int) + (m : Int)) = (n : Int) + (m : Int) := IntWalk.i64_in _ (by omega)
  have H := Lib.hid h
  clear h h' hE h1 h2 h3 h4 ht hu hcb hab hN
  go_enter Try.func6, Try.ntmps6
  go_wp2_with fail
  refine HJ.out.mono ?_
  rintro e w1 ⟨A1, c1, rfl, hp1, hb1⟩
  have HB1 := Lib.hid hb1
  have H1 := Lib.hid (H.out.below hb1)
  have HJ1 := Lib.hid hp1
  clear hb1 hp1 HJ H
  go_wp2_with fail
  refine (HOf_ok A n c a t w1 H1.out HCA.out HT.out).mono ?_
  rintro e w2 ⟨A2, c2, rfl, hp2, hb2⟩
  have HB2 := Lib.hid (below_next HB1.out hb2)
  have HJ2 := Lib.hid (HJ1.out.below hb2)
  have HS2 := Lib.hid hp2
  clear hb2 hp2 HB1 HJ1 H1
  go_wp2_with fail
  refine (heapLives_any w2).mono ?_
  rintro e w3 ⟨rfl, hb3⟩
  have HB3 := Lib.hid (below_next HB2.out hb3)
  have HJ3 := Lib.hid (HJ2.out.below hb3)
  have HS3 := Lib.hid (HS2.out.below hb3)
  clear hb3 HB2 HJ2 HS2
  go_wp2_with fail
  refine (ok_any _ 2 2 [0, 0] _ (is_new w3 25 [0, 0]) (by omega) (by simp)).mono ?_
  rintro e w4 ⟨rfl, rfl⟩
  obtain ⟨w4, hw4⟩ : ∃ w4, w3.alloc (Obj.cells #[I 0, I 0] 25) = w4 := ⟨_, rfl⟩
  have HB4 : Hid (Below w.heap.size w w4) := by show Below _ _ _; rw [← hw4]; exact HB3.out.alloc HB3.out.size _
  have HJ4 : Hid (PS w4 A1 N c1 (u.sp 0)) := by show PS _ _ _ _ _; rw [← hw4]; exact HJ3.out.alloc _
  have HS4 : Hid (PS w4 A2 n c2 (t.sp 0)) := by show PS _ _ _ _ _; rw [← hw4]; exact HS3.out.alloc _
  have HW4 := Lib.hid hw4
  clear hw4 HB3 HJ3 HS3
  go_wp2_with fail
  have hw4 := HW4.out
  rw [hw4]
  clear hw4 HW4
  refine (Parents_is A2 n c2 (t.sp 0) w4 HS4.out HTT.out).mono ?_
  rintro e w5 ⟨A5, c5, rfl, hi5, hb5⟩
  have HB5 := Lib.hid (below_next HB4.out hb5)
  have HJ5 := Lib.hid (HJ4.out.below hb5)
  have HP5 := Lib.hid hi5
  clear hb5 hi5 HB4 HJ4 HS4
  go_wp2_with fail
  refine (Parents_is A1 N c1 (u.sp 0) w5 HJ5.out HUT.out).mono ?_
  rintro e w6 ⟨A6, c6, rfl, hi6, hb6⟩
  have HB6 := Lib.hid (below_next HB5.out hb6)
  have HP6 := Lib.hid (HP5.out.below hb6)
  have HQ6 := Lib.hid hi6
  clear hb6 hi6 HB5 HJ5 HP5
  go_wp2_with fail
  refine (ok_any _ 2 2 [0, 0] _ (is_new w6 25 [0, 0]) (by omega) (by simp)).mono ?_
  rintro e w7 ⟨rfl, rfl⟩
  obtain ⟨V, hV⟩ : ∃ V, w6.alloc (Obj.cells #[I 0, I 0] 25) = V := ⟨_, rfl⟩
  have HB7 : Hid (Below w.heap.size w V) := by show Below _ _ _; rw [← hV]; exact HB6.out.alloc HB6.out.size _
  have HP7 : Hid (IS V A5 n c5 (parL (t.sp 0))) := by show IS _ _ _ _ _; rw [← hV]; exact HP6.out.alloc _
  have HQ7 : Hid (IS V A6 N c6 (parL (u.sp 0))) := by show IS _ _ _ _ _; rw [← hV]; exact HQ6.out.alloc _
  have HV := Lib.hid hV
  clear HB6 HP6 HQ6 hV
  go_wp2
  have hV := HV.out
  rw [hV]
  clear hV HV
  go_loopg [69] n (fun g i wr => ∃ k : Nat, k ≤ n ∧ n - k ≤ g ∧ i = .int .i64 k ∧ wr = V)
  case atStart => exact ⟨0, Nat.zero_le _, by omega, rfl, rfl⟩
  case round =>
    obtain ⟨k, hk, hkm, rfl, rfl⟩ := hrel
    by_cases hlt : k < n
    · obtain ⟨b1, o1, rfl, hb1, hc1⟩ := HP7.out.dat (by omega)
      obtain ⟨b2, o2, rfl, hb2, hc2⟩ := HQ7.out.dat (by omega)
      have hck : wr.cell? ⟨b1, o1 + k, none⟩ = some (I (par (t.sp 0) k)) := by have := hc1 k hlt; rwa [parL_get _ k (by rw [HTL.out]; exact hlt)] at this
      have HCQ : Hid (∀ q, q < N → wr.cell? ⟨b2, o2 + q, none⟩ = some (I (par (u.sp 0) q))) := fun q hq => by have := hc2 q hq; rwa [parL_get _ q (by rw [HUL.out]; exact hq)] at this
      obtain ⟨V, HVW⟩ : ∃ V, Hid (V = wr) := ⟨_, Lib.hid rfl⟩
      clear hc1 hc2
      rcases HAN.out k hlt with hp | ⟨p, hp, hpn, hanc⟩
      · rw [hp] at hck
        clear hp
        go_wp2
        go_loopg [15] 1000 (fun g x wr' => wr' = V ∧ (x = .int .i64 (-1) ∨ ∃ q : Nat, q < N ∧ (dp (u.sp 0) q).toNat < g ∧ x = .int .i64 q))
        case atStart => exact ⟨HVW.out.symm, .inr ⟨k, by omega, HDP.out k, rfl⟩⟩
        case round =>
          obtain ⟨hV, hx⟩ := hrel
          rw [HVW.out] at hV
          subst hV
          rcases hx with rfl | ⟨q, hq, hqg, rfl⟩
          · go_wp2
            go_roundg (n - (k + 1))
            case measure => omega
            case rel => exact ⟨k + 1, by omega, by omega, by go_num, rfl⟩
          · have hcq := HCQ.out q hq
            have hne : ((q : Int) != -1) = true := by simp
            have hq0 : (0 : Int) ≤ (q : Int) := by omega
            rcases HUP.out q hq with e | ⟨r, e, hr, hd⟩
            · rw [e] at hcq
              clear e
              go_wp2
              go_roundg (gk - 1)
              case measure => omega
              case rel => exact ⟨HVW.out.symm, .inl rfl⟩
            · rw [e] at hcq
              clear e
              go_wp2
              go_roundg (gk - 1)
              case measure => omega
              case rel => exact ⟨HVW.out.symm, .inr ⟨r, hr, by omega, rfl⟩⟩
      · rw [hp] at hck
        clear hp
        have hpp : ((p : Int) != (p : Int)) = false := by simp
        have hp0 : (0 : Int) ≤ (p : Int) := by omega
        have HANC := Lib.hid hanc
        clear hanc
        go_wp2
        go_loopg [15] 1000 (fun g x wr' => wr' = V ∧ ∃ q : Nat, q < N ∧ (dp (u.sp 0) q).toNat < g ∧ Anc (a ++ b) p q ∧ x = .int .i64 q)
        case atStart => exact ⟨HVW.out.symm, k, by omega, HDP.out k, HANC.out, rfl⟩
        case round =>
          obtain ⟨hV, q, hq, hqg, hanq, rfl⟩ := hrel
          rw [HVW.out] at hV
          subst hV
          by_cases hqp : q = p
          · subst hqp
            clear hanq
            go_wp2
            go_roundg (n - (k + 1))
            case measure => omega
            case rel => exact ⟨k + 1, by omega, by omega, by go_num, rfl⟩
          · have hcq := HCQ.out q hq
            have hne : ((q : Int) != (p : Int)) = true := by simp; omega
            have hq0 : (0 : Int) ≤ (q : Int) := by omega
            obtain ⟨r, e, hr, hanr, hd⟩ := HST.out p q (by omega) hq hqp hanq
            rw [e] at hcq
            have HANR := Lib.hid hanr
            clear e hanq hanr
            go_wp2
            go_roundg (gk - 1)
            case measure => omega
            case rel => exact ⟨HVW.out.symm, r, hr, by omega, HANR.out, rfl⟩
    · go_wp2
      go_ret
      exact ⟨rfl, HB7.out⟩

set_option maxRecDepth 100000 in
set_option maxHeartbeats 4000000 in
theorem hjoins_bad (A A' : Option Addr) (n c m c' : Nat) (a b : PL) (w : World) (h : PS w A n c a) (h' : PS w A' m c' b) (hn : n ≤ 9223372036854775807) (hm : m ≤ 9223372036854775807) (E : Int) (hE : joinE a b = E) (hE0 : E ≠ 0) :
    Calls Try.prog 6 #[.slice A n c, .slice A' m c'] w fun e w' => e = .returned (.bool true) ∧ Below w.heap.size w w' := by
  have HJ := Lib.hid (HJoin_bad A A' n c m c' a b w h h' hn hm E hE hE0)
  have H := Lib.hid h
  have HE0 := Lib.hid hE0
  clear h h' hE hE0
  go_enter Try.func6, Try.ntmps6
  go_wp2_with fail
  refine HJ.out.mono ?_
  rintro e w1 ⟨rfl, hb1⟩
  have HB1 := Lib.hid hb1
  have H1 := Lib.hid (H.out.below hb1)
  clear hb1 HJ H
  go_wp2_with fail
  refine (HOf_some A n c a w1 H1.out hn).mono ?_
  rintro e w2 ⟨A2, n2, c2, rfl, hb2⟩
  have HB2 := Lib.hid (below_next HB1.out hb2)
  clear hb2 HB1 H1
  generalize chk a = F
  go_wp2_with fail
  refine (heapLives_any w2).mono ?_
  rintro e w3 ⟨rfl, hb3⟩
  have HB3 := Lib.hid (below_next HB2.out hb3)
  clear hb3 HB2
  go_wp2_with fail
  refine (ok2_f E F 25 w3 HE0.out).mono ?_
  rintro e w4 ⟨rfl, rfl⟩
  obtain ⟨w4, hw4⟩ : ∃ w4, w3.alloc (Obj.cells #[I E, I F] 25) = w4 := ⟨_, rfl⟩
  have HB4 : Hid (Below w.heap.size w w4) := by show Below _ _ _; rw [← hw4]; exact HB3.out.alloc HB3.out.size _
  have HW4 := Lib.hid hw4
  clear hw4 HB3
  go_wp2_with fail
  have hw4 := HW4.out
  rw [hw4]
  clear hw4 HW4
  refine (heapLives_any w4).mono ?_
  rintro e w5 ⟨rfl, hb5⟩
  have HB5 := Lib.hid (below_next HB4.out hb5)
  clear hb5 HB4
  go_wp2
  go_ret
  exact ⟨rfl, HB5.out⟩
theorem hjoins_any (A : Option Addr) (n c : Nat) (a : PL) (A' : Option Addr) (m c' : Nat) (b : PL) (w : World) (h : PS w A n c a) (hn : n ≤ 9223372036854775807) (h' : PS w A' m c' b) (hm : m ≤ 9223372036854775807) :
    Calls Try.prog 6 #[.slice A n c, .slice A' m c'] w fun e w' => e = .returned (.bool true) ∧ Below w.heap.size w w' := by
  by_cases hc : joinE a b = 0
  · exact hjoins_ok A A' n c m c' a b w h h' hc
  · exact hjoins_bad A A' n c m c' a b w h h' hn hm _ rfl hc

end Go.Proofs.Ytcjhglejmmphbaa
