/-
  The walk of the law PlainRanks.
-/
import Derived.Test.YtfgcmccgmmaajaaSteps
namespace Go.Proofs.Ytfgcmccgmmaajaa
open Go.RowKit

/-- true comes back; nothing that was there has turned -/
abbrev Yes (w : World) (e : Ending) (w' : World) : Prop := e = .returned (.bool true) ∧ Below w.heap.size w w'

set_option maxRecDepth 100000 in
set_option maxHeartbeats 1000000 in
theorem Ranks_bad (A : Option Addr) (n c : Nat) (l : PL) (m key more : Int) (w : World) (h : PS w A n c l) (hn : n ≤ 9223372036854775807) (hc : chk l ≠ 0) :
    Calls Try.prog 9 #[.slice A n c, I m, I key, I more] w (Yes w) := by
  have H := Lib.hid h
  clear h
  have HA : Hid (∀ kind key : Int, doA l kind key = ⟨chk l, 0, 0, false⟩) := fun _ _ => doA_bad hc _ _
  have hE : (chk l != 0) = true := by simpa using hc
  clear hc
  generalize chk l = E at *
  go_enter Try.func9, Try.ntmps9
  go_wp2_with fail
  refine (Do_is A n c l 7 m 0 _ H.out hn _ _ rfl (HA.out _ _)).mono ?_
  rintro e w1 ⟨A1, n1, c1, rfl, -, hb, -⟩
  have HB1 := Lib.hid hb
  clear hb
  go_wp2_with fail
  refine (Do_is A n c l 6 key 0 _ ((H.out.below HB1.out).alloc _) hn _ _ rfl (HA.out _ _)).mono ?_
  rintro e w2 ⟨A2, n2, c2, rfl, -, hb, -⟩
  have HB2 := Lib.hid (below_step HB1.out hb)
  have HAA := Lib.hid (AA.made (a := ⟨E, 0, 0, false⟩) hb)
  clear hb
  go_wp2_with fail
  refine (Do_is A n c l 6 more 0 _ ((H.out.below HB2.out).alloc _) hn _ _ rfl (HA.out _ _)).mono ?_
  rintro e w3 ⟨A3, n3, c3, rfl, -, hb, -⟩
  have HB3 := Lib.hid (below_step HB2.out hb)
  have HAA3 := Lib.hid (HAA.out.step hb)
  clear hb
  go_wp2_with fail
  refine (lives_any _).mono ?_
  rintro e w4 ⟨rfl, hb⟩
  have HB4 := Lib.hid (below_step HB3.out hb)
  obtain ⟨a0, a1, a2, a3⟩ := (HAA3.out.step hb).facts
  clear hb
  go_wp2_with fail
  refine (lives_any _).mono ?_
  rintro e w5 ⟨rfl, hb⟩
  have HB5 := Lib.hid (below_next HB4.out hb)
  clear hb a0 a1 a2 a3
  go_wp2
  go_ret
  exact ⟨rfl, HB5.out⟩

set_option maxRecDepth 100000 in
set_option maxHeartbeats 2000000 in
theorem Ranks_good (A : Option Addr) (n c : Nat) (l : PL) (m key more : Int) (w : World) (h : PS w A n c l) (hc : chk l = 0) :
    Calls Try.prog 9 #[.slice A n c, I m, I key, I more] w (Yes w) := by
  have hn : n ≤ 200 := by have := chk_len hc; rw [h.len] at this; exact this
  have H := Lib.hid h
  have hs := ((chk_zero l).1 hc).2
  have Hlen := Lib.hid h.len
  obtain ⟨a, ha⟩ : ∃ a, doA l 7 m = a := ⟨_, rfl⟩
  have hae : a.e = 0 ∧ (a.b = true → ∃ k : Nat, m = k ∧ k < n ∧ cnt l a.k = k) ∧ (a.b = false → m < 0 ∨ (n : Int) ≤ m) := by
    rw [← ha, doA_nth hc]
    unfold pairA
    split
    · rename_i hm
      refine ⟨rfl, fun _ => ⟨m.toNat, by omega, by have := h.len; omega, ?_⟩, fun hb => by cases hb⟩
      have hl : m.toNat < l.length := by omega
      simp only [List.getElem?_eq_getElem hl, Option.getD_some]
      exact (cnt_at l 0 hs _ hl).1
    · rename_i hm
      refine ⟨rfl, (fun hb => by cases hb), fun _ => ?_⟩
      have := h.len
      omega
  have HA := Lib.hid ha
  have HX := Lib.hid (doA_count hc key)
  have HY := Lib.hid (doA_count hc more)
  have HZ := Lib.hid (doA_count hc a.k)
  have hcx : cnt l key ≤ n := by have := cnt_le l key; rw [h.len] at this; exact this
  have hcy : cnt l more ≤ n := by have := cnt_le l more; rw [h.len] at this; exact this
  have HM : Hid (key ≤ more → cnt l key ≤ cnt l more) := cnt_mono l key more
  have hE : (a.e != 0) = false := by simp [hae.1]
  have HAE := Lib.hid hae
  clear h hs ha hae hc
  go_enter Try.func9, Try.ntmps9
  go_wp2_with fail
  refine (Do_is A n c l 7 m 0 _ H.out (by omega) _ _ rfl HA.out).mono ?_
  rintro e w1 ⟨A1, n1, c1, rfl, -, hb, -⟩
  have HB1 := Lib.hid hb
  clear hb
  go_wp2_with fail
  refine (Do_is A n c l 6 key 0 _ ((H.out.below HB1.out).alloc _) (by omega) _ _ rfl HX.out).mono ?_
  rintro e w2 ⟨A2, n2, c2, rfl, -, hb, -⟩
  have HB2 := Lib.hid (below_step HB1.out hb)
  have HAA := Lib.hid (AA.made hb)
  clear hb
  go_wp2_with fail
  refine (Do_is A n c l 6 more 0 _ ((H.out.below HB2.out).alloc _) (by omega) _ _ rfl HY.out).mono ?_
  rintro e w3 ⟨A3, n3, c3, rfl, -, hb, -⟩
  have HB3 := Lib.hid (below_step HB2.out hb)
  have HAA3 := Lib.hid (HAA.out.step hb)
  have HAX3 := Lib.hid (AA.made (a := ⟨0, 0, cnt l key, true⟩) hb)
  clear hb
  go_wp2_with fail
  refine (lives_any _).mono ?_
  rintro e w4 ⟨rfl, hb⟩
  have HB4 := Lib.hid (below_step HB3.out hb)
  have HAA4 := Lib.hid (HAA3.out.step hb)
  have HAX4 := Lib.hid (HAX3.out.step hb)
  have HAY4 := Lib.hid (AA.made (a := ⟨0, 0, cnt l more, true⟩) hb)
  obtain ⟨a0, a1, a2, a3⟩ := HAA4.out.facts
  clear hb
  go_wp2_with fail
  refine (Do_is A n c l 6 a.k 0 _ (H.out.below HB4.out) (by omega) _ _ rfl HZ.out).mono ?_
  rintro e w5 ⟨A5, n5, c5, rfl, -, hb, -⟩
  have HB5 := Lib.hid (below_next HB4.out hb)
  clear a0 a1 a2 a3
  obtain ⟨a0, a1, a2, a3⟩ := (HAA4.out.below hb).facts
  have x2 : w5.cell? ⟨w2.heap.size, 2, none⟩ = some (I (cnt l key)) := (HAX4.out.below hb).facts.2.2.1
  have y2 : w5.cell? ⟨w3.heap.size, 2, none⟩ = some (I (cnt l more)) := (HAY4.out.below hb).facts.2.2.1
  have z1 := (HAA4.out.below hb).lt
  have z2 := (HAX4.out.below hb).lt
  have z3 := (HAY4.out.below hb).lt
  have hfin : ∀ o : Obj, Below w.heap.size w (w5.alloc o) := fun o => HB5.out.alloc HB5.out.size o
  have HFIN := Lib.hid hfin
  clear hb hfin
  cases hab : a.b with
  | true =>
    obtain ⟨k, rfl, hk, hcnt⟩ := HAE.out.2.1 hab
    have ht : (((cnt l a.k : Nat) : Int) == (k : Int)) = true := by simp [hcnt]
    rw [hab] at a3
    clear hab hcnt
    by_cases hkm : more < key
    · go_wp2
      go_ret
      exact ⟨rfl, HFIN.out _⟩
    · have hle := HM.out (by omega)
      go_wp2
      go_ret
      exact ⟨rfl, HFIN.out _⟩
  | false =>
    have hm := HAE.out.2.2 hab
    rw [hab] at a3
    clear hab
    by_cases hm0 : m < 0
    · by_cases hkm : more < key
      · go_wp2
        go_ret
        exact ⟨rfl, HFIN.out _⟩
      · have hle := HM.out (by omega)
        go_wp2
        go_ret
        exact ⟨rfl, HFIN.out _⟩
    · have hm1 : (n : Int) ≤ m := by omega
      have hdm : decide (m < (n : Int)) = false := by simpa using hm1
      by_cases hkm : more < key
      · go_wp2
        go_ret
        exact ⟨rfl, HFIN.out _⟩
      · have hle := HM.out (by omega)
        go_wp2
        go_ret
        exact ⟨rfl, HFIN.out _⟩

theorem Ranks_any (A : Option Addr) (n c : Nat) (l : PL) (m key more : Int) (w : World) (h : PS w A n c l) (hn : n ≤ 9223372036854775807) :
    Calls Try.prog 9 #[.slice A n c, I m, I key, I more] w (Yes w) := by
  by_cases hc : chk l = 0
  · exact Ranks_good A n c l m key more w h hc
  · exact Ranks_bad A n c l m key more w h hn hc

end Go.Proofs.Ytfgcmccgmmaajaa
