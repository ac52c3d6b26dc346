/-
  The walk of the law PlainPuts.
-/
import Derived.Test.YtfgcmccgmmaajaaRanks
namespace Go.Proofs.Ytfgcmccgmmaajaa
open Go.RowKit

/-- what a put that tells no error comes to -/
theorem put_ok {l : PL} {key : Int} (h : (doA l 1 key).e = 0) : chk l = 0 ∧ keyB key = true ∧ ((getR key l).isSome ∨ l.length < 200) := by
  by_cases hc : chk l = 0
  · rw [doA_put hc] at h
    cases hk : keyB key with
    | false => rw [hk] at h; simp at h
    | true =>
      refine ⟨hc, rfl, ?_⟩
      rw [hk, if_pos rfl, putA_eq] at h
      cases hg : (getR key l).isSome with
      | true => exact .inl rfl
      | false =>
        rw [hg] at h
        by_cases h2 : 200 ≤ l.length
        · simp [h2] at h
        · right; omega
  · rw [doA_bad hc] at h
    exact absurd h hc
theorem chk_ins {l : PL} {key : Int} (hc : chk l = 0) (hk : keyB key = true) (hr : (getR key l).isSome ∨ l.length < 200) (v : Int) : chk (insR key v l) = 0 := by
  obtain ⟨h1, h2⟩ := (chk_zero l).1 hc
  have hk' : 0 ≤ key ∧ key ≤ 1000000 := by simpa [keyB] using hk
  refine (chk_zero _).2 ⟨?_, srt_ins l key v 0 h2 hk'.1 hk'.2⟩
  rw [len_ins]
  split
  · exact h1
  · rcases hr with hr | hr
    · contradiction
    · omega
theorem do_put {l : PL} {key : Int} (hc : chk l = 0) (hk : keyB key = true) (hr : (getR key l).isSome ∨ l.length < 200) (v : Int) :
    doL l 1 key v = insR key v l ∧ (doA l 1 key).e = 0 := by
  rw [doL_put hc, doA_put hc, hk, if_pos rfl, if_pos rfl, putL_eq, putA_eq, if_pos hr]
  refine ⟨rfl, ?_⟩
  split
  · rfl
  · rw [if_neg]
    rcases hr with hr | hr
    · contradiction
    · omega

/-- all that the law leans on, where the put tells no error -/
theorem puts_facts {l : PL} {key value other : Int} (h : (doA l 1 key).e = 0) :
    chk l = 0 ∧ chk (insR key value l) = 0 ∧ doL l 1 key value = insR key value l ∧ doA (insR key value l) 2 key = ⟨0, 0, value, true⟩ ∧ (other ≠ key → doA (insR key value l) 2 other = doA l 2 other) ∧
      doL (insR key value l) 1 key other = insR key other l ∧ doA (insR key value l) 1 key = ⟨0, 0, 0, true⟩ ∧ doL l 1 key other = insR key other l := by
  obtain ⟨hc, hk, hr⟩ := put_ok h
  have hm := chk_ins hc hk hr value
  have hg : getR key (insR key value l) = some value := by rw [get_ins, if_pos rfl]
  have hr2 : (getR key (insR key value l)).isSome ∨ (insR key value l).length < 200 := by left; rw [hg]; rfl
  refine ⟨hc, hm, (do_put hc hk hr value).1, ?_, fun ho => ?_, ?_, ?_, (do_put hc hk hr other).1⟩
  · rw [doA_get hm, hk, if_pos rfl, getA_eq, hg]; rfl
  · rw [doA_get hm, doA_get hc, getA_eq, getA_eq, get_ins, if_neg ho]
  · rw [(do_put hm hk hr2 other).1, ins_ins]
  · rw [doA_put hm, hk, if_pos rfl, putA_eq, hg]; rfl

set_option maxRecDepth 100000 in
set_option maxHeartbeats 1000000 in
theorem Puts_bad (A : Option Addr) (n c : Nat) (l : PL) (key value other : Int) (w : World) (h : PS w A n c l) (hn : n ≤ 9223372036854775807) (hc : (doA l 1 key).e ≠ 0) :
    Calls Try.prog 6 #[.slice A n c, I key, I value, I other] w (Yes w) := by
  have H := Lib.hid h
  clear h
  obtain ⟨a, ha⟩ : ∃ a, doA l 1 key = a := ⟨_, rfl⟩
  rw [ha] at hc
  have HA := Lib.hid ha
  have hE : (a.e != 0) = true := by simpa using hc
  clear hc ha
  go_enter Try.func6, Try.ntmps6
  go_wp2_with fail
  refine (Do_is A n c l 1 key value _ H.out hn _ _ rfl HA.out).mono ?_
  rintro e w1 ⟨A1, n1, c1, rfl, -, hb, -⟩
  have HB1 := Lib.hid hb
  clear hb
  go_wp2_with fail
  refine (lives_any _).mono ?_
  rintro e w2 ⟨rfl, hb⟩
  have HB2 := Lib.hid (below_step HB1.out hb)
  obtain ⟨a0, a1, a2, a3⟩ := (AA.made (a := a) hb).facts
  clear hb
  go_wp2_with fail
  refine (lives_any _).mono ?_
  rintro e w5 ⟨rfl, hb⟩
  have HB5 := Lib.hid (below_next HB2.out hb)
  clear hb a0 a1 a2 a3
  go_wp2
  go_ret
  exact ⟨rfl, HB5.out⟩

set_option maxRecDepth 100000 in
set_option maxHeartbeats 2000000 in
theorem Puts_good (A : Option Addr) (n c : Nat) (l : PL) (key value other : Int) (w : World) (h : PS w A n c l) (hn : n ≤ 9223372036854775807) (hc : (doA l 1 key).e = 0) :
    Calls Try.prog 6 #[.slice A n c, I key, I value, I other] w (Yes w) := by
  obtain ⟨q1, q2, q3, q4, q5, q6, q7, q8⟩ := puts_facts (value := value) (other := other) hc
  have H := Lib.hid h
  clear h
  obtain ⟨a, ha⟩ : ∃ a, doA l 1 key = a := ⟨_, rfl⟩
  rw [ha] at hc
  have HA := Lib.hid ha
  have hE : (a.e != 0) = false := by simpa using hc
  have hF : (a.e == 0) = true := by simpa using hc
  obtain ⟨cc, hcc⟩ : ∃ cc, doA (insR key value l) 2 other = cc := ⟨_, rfl⟩
  obtain ⟨dd, hdd⟩ : ∃ dd, doA l 2 other = dd := ⟨_, rfl⟩
  obtain ⟨M, hM⟩ : ∃ M, insR key value l = M := ⟨_, rfl⟩
  obtain ⟨X, hX⟩ : ∃ X, insR key other l = X := ⟨_, rfl⟩
  rw [hM] at q2 q3 q4 q5 q6 q7 hcc
  rw [hX] at q6 q8
  rw [hcc, hdd] at q5
  have Q2 := Lib.hid q2
  have Q3 := Lib.hid q3
  have Q4 := Lib.hid q4
  have Q5 := Lib.hid q5
  have Q6 := Lib.hid q6
  have Q7 := Lib.hid q7
  have Q8 := Lib.hid q8
  have HCC := Lib.hid hcc
  have HDD := Lib.hid hdd
  have hM2 : M.length ≤ 200 := chk_len q2
  have hX2 : X.length ≤ 200 := by rw [← q8]; exact doL_len _ _ _ _
  clear hc ha q1 q2 q3 q4 q5 q6 q7 q8 hcc hdd hM hX
  go_enter Try.func6, Try.ntmps6
  go_wp2_with fail
  refine (Do_is A n c l 1 key value _ H.out hn M a Q3.out HA.out).mono ?_
  rintro e w1 ⟨A1, n1, c1, rfl, hps, hb, -⟩
  have hn1 : n1 ≤ 200 := by rw [← hps.len]; exact hM2
  have HB1 := Lib.hid hb
  have HM1 := Lib.hid hps
  clear hb hps
  go_wp2_with fail
  refine (lives_any _).mono ?_
  rintro e w2 ⟨rfl, hb⟩
  have HB2 := Lib.hid (below_step HB1.out hb)
  have HM2 := Lib.hid (HM1.out.step hb)
  obtain ⟨a0, a1, a2, a3⟩ := (AA.made (a := a) hb).facts
  clear hb
  go_wp2_with fail
  refine (Do_is A1 n1 c1 M 2 key 0 _ HM2.out (by omega) _ _ rfl Q4.out).mono ?_
  rintro e w3 ⟨A3, n3, c3, rfl, -, hb, -⟩
  have HB3 := Lib.hid (below_next HB2.out hb)
  have HM3 := Lib.hid (HM2.out.below hb)
  clear hb a0 a1 a2 a3
  go_wp2_with fail
  refine (Do_is A1 n1 c1 M 2 other 0 _ (HM3.out.alloc _) (by omega) _ cc rfl HCC.out).mono ?_
  rintro e w4 ⟨A4, n4, c4, rfl, -, hb, -⟩
  have HB4 := Lib.hid (below_step HB3.out hb)
  have HM4 := Lib.hid (HM3.out.step hb)
  have HAB4 := Lib.hid (AA.made (a := ⟨0, 0, value, true⟩) hb)
  clear hb
  go_wp2_with fail
  refine (Do_is A n c l 2 other 0 _ ((H.out.below HB4.out).alloc _) hn _ dd rfl HDD.out).mono ?_
  rintro e w5 ⟨A5, n5, c5, rfl, -, hb, -⟩
  have HB5 := Lib.hid (below_step HB4.out hb)
  have HM5 := Lib.hid (HM4.out.step hb)
  have HAB5 := Lib.hid (HAB4.out.step hb)
  have HAC5 := Lib.hid (AA.made (a := cc) hb)
  clear hb
  go_wp2_with fail
  refine (Do_is A1 n1 c1 M 1 key other _ (HM5.out.alloc _) (by omega) X _ Q6.out Q7.out).mono ?_
  rintro e w6 ⟨A6, n6, c6, rfl, hps, hb, -⟩
  have hn6 : n6 ≤ 200 := by rw [← hps.len]; exact hX2
  have HB6 := Lib.hid (below_step HB5.out hb)
  have HM6 := Lib.hid (HM5.out.step hb)
  have HAB6 := Lib.hid (HAB5.out.step hb)
  have HAC6 := Lib.hid (HAC5.out.step hb)
  have HAD6 := Lib.hid (AA.made (a := dd) hb)
  have HN6 := Lib.hid hps
  clear hb hps
  go_wp2_with fail
  refine (Do_is A n c l 1 key other _ ((H.out.below HB6.out).alloc _) hn X a Q8.out HA.out).mono ?_
  rintro e w7 ⟨A7, n7, c7, rfl, hps, hb, -⟩
  have hn7 : n7 ≤ 200 := by rw [← hps.len]; exact hX2
  have HB7 := Lib.hid (below_step HB6.out hb)
  have HM7 := Lib.hid (HM6.out.step hb)
  have HN7 := Lib.hid (HN6.out.step hb)
  have HX7 := Lib.hid hps
  have hab := (HAB6.out.step hb)
  have hac := (HAC6.out.step hb)
  have had := (HAD6.out.step hb)
  have hae := (AA.made (a := ⟨0, 0, 0, true⟩) hb)
  have b0 : w7.cell? ⟨w3.heap.size, 0, none⟩ = some (I 0) := hab.facts.1
  have b1 : w7.cell? ⟨w3.heap.size, 1, none⟩ = some (I 0) := hab.facts.2.1
  have b2 : w7.cell? ⟨w3.heap.size, 2, none⟩ = some (I value) := hab.facts.2.2.1
  have b3 : w7.cell? ⟨w3.heap.size, 3, none⟩ = some (.bool true) := hab.facts.2.2.2
  obtain ⟨c0, c1', c2', c3'⟩ := hac.facts
  obtain ⟨d0, d1, d2, d3⟩ := had.facts
  have e0 : w7.cell? ⟨w6.heap.size, 0, none⟩ = some (I 0) := hae.facts.1
  have e1 : w7.cell? ⟨w6.heap.size, 1, none⟩ = some (I 0) := hae.facts.2.1
  have e2 : w7.cell? ⟨w6.heap.size, 2, none⟩ = some (I 0) := hae.facts.2.2.1
  have e3 : w7.cell? ⟨w6.heap.size, 3, none⟩ = some (.bool true) := hae.facts.2.2.2
  have z1 := hab.lt
  have z2 := hac.lt
  have z3 := had.lt
  have z4 := hae.lt
  clear hb hps hab hac had hae
  by_cases ho : other = key
  · have ho' : (other == key) = true := by simpa using ho
    have ho2 : (key == key) = true := by simp
    subst ho
    go_wp2_with fail
    refine (eqPair_any A6 A7 n6 n7 c6 c7 X X _ (HN7.out.alloc _) (HX7.out.alloc _) (by omega) (by omega)).mono ?_
    rintro e w8 ⟨rfl, hb⟩
    have HB8 := Lib.hid (below_step HB7.out hb)
    have HM8 := Lib.hid (HM7.out.step hb)
    have ht : decide (X = X) = true := by simp
    clear hb
    go_wp2_with fail
    refine (Check_is A1 n1 c1 M _ HM8.out (by omega) 0 Q2.out).mono ?_
    rintro e w9 ⟨rfl, hb⟩
    have HB9 := Lib.hid (below_next HB8.out hb)
    clear hb
    go_wp2
    go_ret
    exact ⟨rfl, HB9.out⟩
  · have ho' : (other == key) = false := by simpa using ho
    have hcd : cc = dd := Q5.out ho
    subst hcd
    go_wp2_with fail
    refine (eqPair_any A6 A7 n6 n7 c6 c7 X X _ (HN7.out.alloc _) (HX7.out.alloc _) (by omega) (by omega)).mono ?_
    rintro e w8 ⟨rfl, hb⟩
    have HB8 := Lib.hid (below_step HB7.out hb)
    have HM8 := Lib.hid (HM7.out.step hb)
    have ht : decide (X = X) = true := by simp
    clear hb
    go_wp2_with fail
    refine (Check_is A1 n1 c1 M _ HM8.out (by omega) 0 Q2.out).mono ?_
    rintro e w9 ⟨rfl, hb⟩
    have HB9 := Lib.hid (below_next HB8.out hb)
    clear hb
    go_wp2
    go_ret
    exact ⟨rfl, HB9.out⟩

theorem Puts_any (A : Option Addr) (n c : Nat) (l : PL) (key value other : Int) (w : World) (h : PS w A n c l) (hn : n ≤ 9223372036854775807) :
    Calls Try.prog 6 #[.slice A n c, I key, I value, I other] w (Yes w) := by
  by_cases hc : (doA l 1 key).e = 0
  · exact Puts_good A n c l key value other w h hn hc
  · exact Puts_bad A n c l key value other w h hn hc

end Go.Proofs.Ytfgcmccgmmaajaa
