/-
  The walk of the law PlainCuts.
-/
import Derived.Test.YtfgcmccgmmaajaaPuts
namespace Go.Proofs.Ytfgcmccgmmaajaa
open Go.RowKit

theorem cut_ok {l : PL} {key : Int} (h : (doA l 3 key).e = 0) : chk l = 0 ∧ keyB key = true := by
  by_cases hc : chk l = 0
  · refine ⟨hc, ?_⟩
    rw [doA_cut hc] at h
    cases hk : keyB key with
    | false => rw [hk] at h; simp at h
    | true => rfl
  · rw [doA_bad hc] at h
    exact absurd h hc
theorem chk_del {l : PL} {key : Int} (hc : chk l = 0) : chk (delR key l) = 0 := by
  obtain ⟨h1, h2⟩ := (chk_zero l).1 hc
  refine (chk_zero _).2 ⟨?_, srt_del l key 0 h2⟩
  rw [len_del]
  split <;> omega

theorem cuts_facts {l : PL} {key other : Int} (h : (doA l 3 key).e = 0) :
    doL l 3 key 0 = delR key l ∧ doA (delR key l) 2 key = an0 ∧ (other ≠ key → doA (delR key l) 2 other = doA l 2 other) ∧ (delR key l).length ≤ l.length ∧ (delR key l).length ≤ 200 ∧
      ((doA (delR key l) 1 key).e = 0 → doL (doL (delR key l) 1 key (doA l 3 key).v) 3 key 0 = delR key l ∧ ((doA l 3 key).b = true → doL (delR key l) 1 key (doA l 3 key).v = l)) := by
  obtain ⟨hc, hk⟩ := cut_ok h
  have hs := ((chk_zero l).1 hc).2
  have hm := chk_del (key := key) hc
  have hg : getR key (delR key l) = none := by rw [get_del l key key 0 hs, if_pos rfl]
  have hlen : (delR key l).length ≤ l.length := by rw [len_del]; split <;> omega
  refine ⟨?_, ?_, fun ho => ?_, hlen, chk_len hm, fun he => ?_⟩
  · rw [doL_cut hc, hk, if_pos rfl, cutL_eq]
  · rw [doA_get hm, hk, if_pos rfl, getA_eq, hg]; rfl
  · rw [doA_get hm, doA_get hc, getA_eq, getA_eq, get_del l key other 0 hs, if_neg ho]
  · obtain ⟨_, _, hr⟩ := put_ok he
    have hp := do_put hm hk hr (doA l 3 key).v
    have hci := chk_ins hm hk hr (doA l 3 key).v
    rw [hp.1]
    refine ⟨?_, fun hb => ?_⟩
    · rw [doL_cut hci, hk, if_pos rfl, cutL_eq, del_ins _ _ _ hg]
    · rw [doA_cut hc, hk, if_pos rfl, getA_eq] at hb ⊢
      cases hl : getR key l with
      | none => rw [hl] at hb; cases hb
      | some v => exact ins_del l key v 0 hs hl

set_option maxRecDepth 100000 in
set_option maxHeartbeats 1000000 in
theorem Cuts_bad (A : Option Addr) (n c : Nat) (l : PL) (key other : Int) (w : World) (h : PS w A n c l) (hn : n ≤ 9223372036854775807) (hc : (doA l 3 key).e ≠ 0) :
    Calls Try.prog 7 #[.slice A n c, I key, I other] w (Yes w) := by
  have H := Lib.hid h
  clear h
  obtain ⟨a, ha⟩ : ∃ a, doA l 3 key = a := ⟨_, rfl⟩
  rw [ha] at hc
  have HA := Lib.hid ha
  have hE : (a.e != 0) = true := by simpa using hc
  clear hc ha
  go_enter Try.func7, Try.ntmps7
  go_wp2_with fail
  refine (Do_is A n c l 3 key 0 _ H.out hn _ _ rfl HA.out).mono ?_
  rintro e w1 ⟨A1, n1, c1, rfl, -, hb, -⟩
  have HB1 := Lib.hid hb
  clear hb
  go_wp2_with fail
  refine (lives_any _).mono ?_
  rintro e w2 ⟨rfl, hb⟩
  have HB2 := Lib.hid (below_step HB1.out hb)
  obtain ⟨a0, a1, a2, a3⟩ := (AA.made (a := a) hb).facts
  clear hb
  go_wp2_with fail
  refine (lives_any _).mono ?_
  rintro e w5 ⟨rfl, hb⟩
  have HB5 := Lib.hid (below_next HB2.out hb)
  clear hb a0 a1 a2 a3
  go_wp2
  go_ret
  exact ⟨rfl, HB5.out⟩

set_option maxRecDepth 100000 in
set_option maxHeartbeats 4000000 in
theorem Cuts_good (A : Option Addr) (n c : Nat) (l : PL) (key other : Int) (w : World) (h : PS w A n c l) (hn : n ≤ 9223372036854775807) (hc : (doA l 3 key).e = 0) :
    Calls Try.prog 7 #[.slice A n c, I key, I other] w (Yes w) := by
  obtain ⟨q1, q2, q3, q4, q5, q6⟩ := cuts_facts (other := other) hc
  have H := Lib.hid h
  have hl200 : l.length ≤ 200 := chk_len (cut_ok hc).1
  have hln : l.length = n := h.len
  clear h
  obtain ⟨a, ha⟩ : ∃ a, doA l 3 key = a := ⟨_, rfl⟩
  rw [ha] at hc q6
  have HA := Lib.hid ha
  have hE : (a.e != 0) = false := by simpa using hc
  obtain ⟨M, hM⟩ : ∃ M, delR key l = M := ⟨_, rfl⟩
  rw [hM] at q1 q2 q3 q4 q5 q6
  obtain ⟨cc, hcc⟩ : ∃ cc, doA M 2 other = cc := ⟨_, rfl⟩
  obtain ⟨dd, hdd⟩ : ∃ dd, doA l 2 other = dd := ⟨_, rfl⟩
  obtain ⟨ee, hee⟩ : ∃ ee, doA M 1 key = ee := ⟨_, rfl⟩
  obtain ⟨N, hN⟩ : ∃ N, doL M 1 key a.v = N := ⟨_, rfl⟩
  obtain ⟨X, hX⟩ : ∃ X, doL N 3 key 0 = X := ⟨_, rfl⟩
  rw [hcc, hdd] at q3
  rw [hee, hN, hX] at q6
  have hN2 : N.length ≤ 200 := by rw [← hN]; exact doL_len _ _ _ _
  have hX2 : X.length ≤ 200 := by rw [← hX]; exact doL_len _ _ _ _
  have hMn : M.length ≤ n := by rw [← hln]; exact q4
  have hn2 : n ≤ 200 := by rw [← hln]; exact hl200
  have Q1 := Lib.hid q1
  have Q2 := Lib.hid q2
  have Q3 := Lib.hid q3
  have Q6 := Lib.hid q6
  have HCC := Lib.hid hcc
  have HDD := Lib.hid hdd
  have HEE := Lib.hid hee
  have HN := Lib.hid hN
  have HX := Lib.hid hX
  clear hc ha q1 q2 q3 q4 q6 hcc hdd hM hX hN hee hln hl200
  go_enter Try.func7, Try.ntmps7
  go_wp2_with fail
  refine (Do_is A n c l 3 key 0 _ H.out hn M a Q1.out HA.out).mono ?_
  rintro e w1 ⟨A1, n1, c1, rfl, hps, hb, -⟩
  have hn1 : n1 ≤ n := by rw [← hps.len]; exact hMn
  have HB1 := Lib.hid hb
  have HM1 := Lib.hid hps
  clear hb hps
  go_wp2_with fail
  refine (lives_any _).mono ?_
  rintro e w2 ⟨rfl, hb⟩
  have HB2 := Lib.hid (below_step HB1.out hb)
  have HM2 := Lib.hid (HM1.out.step hb)
  have HAA2 := Lib.hid (AA.made (a := a) hb)
  obtain ⟨a0, a1, a2, a3⟩ := HAA2.out.facts
  clear hb
  go_wp2_with fail
  refine (Do_is A1 n1 c1 M 2 key 0 _ HM2.out (by omega) _ _ rfl Q2.out).mono ?_
  rintro e w3 ⟨A3, n3, c3, rfl, -, hb, -⟩
  have HB3 := Lib.hid (below_next HB2.out hb)
  have HM3 := Lib.hid (HM2.out.below hb)
  have HAA3 := Lib.hid (HAA2.out.below hb)
  clear hb a0 a1 a2 a3
  go_wp2_with fail
  refine (Do_is A1 n1 c1 M 2 other 0 _ (HM3.out.alloc _) (by omega) _ cc rfl HCC.out).mono ?_
  rintro e w4 ⟨A4, n4, c4, rfl, -, hb, -⟩
  have HB4 := Lib.hid (below_step HB3.out hb)
  have HM4 := Lib.hid (HM3.out.step hb)
  have HAA4 := Lib.hid (HAA3.out.step hb)
  have HAB4 := Lib.hid (AA.made (a := an0) hb)
  clear hb
  go_wp2_with fail
  refine (Do_is A n c l 2 other 0 _ ((H.out.below HB4.out).alloc _) hn _ dd rfl HDD.out).mono ?_
  rintro e w5 ⟨A5, n5, c5, rfl, -, hb, -⟩
  have HB5 := Lib.hid (below_step HB4.out hb)
  have HM5 := Lib.hid (HM4.out.step hb)
  have HAA5 := Lib.hid (HAA4.out.step hb)
  have hab := HAB4.out.step hb
  have hac := AA.made (a := cc) hb
  have b0 : w5.cell? ⟨w3.heap.size, 0, none⟩ = some (I 0) := hab.facts.1
  have b1 : w5.cell? ⟨w3.heap.size, 1, none⟩ = some (I 0) := hab.facts.2.1
  have b2 : w5.cell? ⟨w3.heap.size, 2, none⟩ = some (I 0) := hab.facts.2.2.1
  have b3 : w5.cell? ⟨w3.heap.size, 3, none⟩ = some (.bool false) := hab.facts.2.2.2
  obtain ⟨c0, c1', c2', c3'⟩ := hac.facts
  obtain ⟨a0, a1, a2, a3⟩ := HAA5.out.facts
  have z1 := hab.lt
  have z2 := hac.lt
  have z3 := HAA5.out.lt
  clear hb hab hac
  have hcd : (other != key) = false ∨ ((other != key) = true ∧ cc = dd) := by
    by_cases ho : other = key
    · left; simp [ho]
    · right; exact ⟨by simp [ho], Q3.out ho⟩
  rcases hcd with ho | ⟨ho, rfl⟩
  all_goals
    go_wp2_with fail
    refine (Do_is A1 n1 c1 M 1 key a.v _ (HM5.out.alloc _) (by omega) N ee HN.out HEE.out).mono ?_
    rintro e w6 ⟨A6, n6, c6, rfl, hps, hb, -⟩
    have hn6 : n6 ≤ 200 := by rw [← hps.len]; exact hN2
    have HB6 := Lib.hid (below_step HB5.out hb)
    have HM6 := Lib.hid (HM5.out.step hb)
    have HAA6 := Lib.hid (HAA5.out.step hb)
    have HN6 := Lib.hid hps
    clear hb hps a0 a1 a2 a3 b0 b1 b2 b3 c0 c1' c2' c3' z1 z2 z3
    go_wp2_with fail
    refine (Do_is A6 n6 c6 N 3 key 0 _ (HN6.out.alloc _) (by omega) X _ HX.out rfl).mono ?_
    rintro e w7 ⟨A7, n7, c7, rfl, hps, hb, -⟩
    have hn7 : n7 ≤ 200 := by rw [← hps.len]; exact hX2
    have HB7 := Lib.hid (below_step HB6.out hb)
    have HM7 := Lib.hid (HM6.out.step hb)
    have HN7 := Lib.hid (HN6.out.step hb)
    have HX7 := Lib.hid hps
    have HAA7 := Lib.hid (HAA6.out.step hb)
    have hae := AA.made (a := ee) hb
    obtain ⟨e0, e1, e2, e3⟩ := hae.facts
    obtain ⟨a0, a1, a2, a3⟩ := HAA7.out.facts
    have z1 := hae.lt
    have z3 := HAA7.out.lt
    clear hb hps hae
    have HFIN : Hid (∀ o : Obj, Below w.heap.size w (w7.alloc o)) := fun o => HB7.out.alloc HB7.out.size o
    by_cases hez : ee.e = 0
    · obtain ⟨hXM, hNl⟩ := Q6.out hez
      have hez' : (ee.e != 0) = false := by simpa using hez
      have ht : decide (X = M) = true := by simpa using hXM
      clear hez hXM
      go_wp2_with fail
      refine (eqPair_any A7 A1 n7 n1 c7 c1 X M _ (HX7.out.alloc _) (HM7.out.alloc _) (by omega) (by omega)).mono ?_
      rintro e w8 ⟨rfl, hb⟩
      have HB8 := Lib.hid (below_step HB7.out hb)
      have HN8 := Lib.hid (HN7.out.step hb)
      have haa := HAA7.out.step hb
      clear a0 a1 a2 a3 e0 e1 e2 e3
      obtain ⟨a0, a1, a2, a3⟩ := haa.facts
      clear hb haa
      cases hab : a.b with
      | false =>
        rw [hab] at a3
        clear hab hNl
        go_wp2
        go_ret
        exact ⟨rfl, HB8.out⟩
      | true =>
        have htl : decide (N = l) = true := by simpa using hNl hab
        rw [hab] at a3
        clear hab hNl
        go_wp2_with fail
        refine (eqPair_any A6 A n6 n c6 c N l _ HN8.out (H.out.below HB8.out) (by omega) (by omega)).mono ?_
        rintro e w9 ⟨rfl, hb⟩
        have HB9 := Lib.hid (below_next HB8.out hb)
        clear hb
        go_wp2
        go_ret
        exact ⟨rfl, HB9.out⟩
    · have hez' : (ee.e != 0) = true := by simpa using hez
      clear hez
      go_wp2
      go_ret
      exact ⟨rfl, HFIN.out _⟩

theorem Cuts_any (A : Option Addr) (n c : Nat) (l : PL) (key other : Int) (w : World) (h : PS w A n c l) (hn : n ≤ 9223372036854775807) :
    Calls Try.prog 7 #[.slice A n c, I key, I other] w (Yes w) := by
  by_cases hc : (doA l 3 key).e = 0
  · exact Cuts_good A n c l key other w h hn hc
  · exact Cuts_bad A n c l key other w h hn hc

end Go.Proofs.Ytfgcmccgmmaajaa
