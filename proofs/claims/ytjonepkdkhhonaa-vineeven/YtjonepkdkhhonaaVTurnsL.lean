/-
  The walk of the law VineTurns.
-/
import Derived.Test.YtjonepkdkhhonaaVLives
namespace Go.Proofs.Ytjonepkdkhhonaa
open Go.RowKit

def YesV (w : World) (e : Ending) (w' : World) : Prop := e = .returned (.bool true) ∧ Below w.heap.size w w'
theorem vixK_own {l : PL} (h : upTo l l.length) {j : Nat} (hj : j < l.length) : ixK l (ky l j) = j :=
  ixK_hit hj rfl (fun i hi e => by have := up_lt h i j hi hj; omega)
theorem tns_cons {l m : PL} {k : Int} {ks : List Int} (h : Tns l (k :: ks) m) : ∃ i, i < l.length ∧ ky l i = k ∧ dp l i ≠ 0 ∧ Tns (turnL l i) ks m := by
  cases h with
  | cons h1 h2 h3 h4 => exact ⟨_, h1, h2, h3, h4⟩
theorem tns_nil {l m : PL} (h : Tns l [] m) : l = m := by cases h; rfl

set_option maxRecDepth 100000 in
set_option maxHeartbeats 2000000 in
theorem vturns_bad (A : Option Addr) (n c : Nat) (l : PL) (w : World) (h : PS w A n c l) (hn : n ≤ 9223372036854775807) (hc : chkS l ≠ 0) :
    Calls Try.prog 3 #[.slice A n c] w (YesV w) := by
  obtain ⟨E, hE0⟩ : ∃ E, chkS l = E := ⟨_, rfl⟩
  rw [hE0] at hc
  have HV := Lib.hid (Vine_bad A n c l w h hn E hE0 hc)
  have hE : (E != 0) = true := by simpa using hc
  clear h hc hE0
  go_enter Try.func3, Try.ntmps3
  go_wp2_with fail
  refine HV.out.mono ?_
  rintro e w1 ⟨rfl, hb1⟩
  have HB1 := Lib.hid hb1
  clear hb1
  go_wp2_with fail
  refine (vineLives_any _).mono ?_
  rintro e w2 ⟨rfl, hb2⟩
  have HB2 := Lib.hid (below_on HB1.out hb2)
  clear hb2
  go_wp2_with fail
  refine (vineLives_any _).mono ?_
  rintro e w3 ⟨rfl, hb3⟩
  have HB3 := Lib.hid (below_on HB2.out hb3)
  clear hb3
  go_wp2
  go_ret
  exact ⟨rfl, HB3.out⟩

set_option maxRecDepth 100000 in
set_option maxHeartbeats 4000000 in
theorem vturns_ok (A : Option Addr) (n c : Nat) (t : Tr) (w : World) (h : PS w A n c (t.sp 0)) (hT : IsTree (t.sp 0)) :
    Calls Try.prog 3 #[.slice A n c] w (YesV w) := by
  have hn : n ≤ 200 := by rw [← h.len]; exact hT.1
  have hsz : t.size = n := by rw [← sp_length t 0, h.len]
  have HV := Lib.hid (Vine_ok A n c t w h hT)
  have H := Lib.hid h
  have HT := Lib.hid hT
  have HSZ := Lib.hid hsz
  have HTN := Lib.hid (vine_turns t)
  have HVD := Lib.hid (vine_dp t)
  have hvl := vks_less t
  obtain ⟨m, hm⟩ : ∃ m, (vks t).length = m := ⟨_, rfl⟩
  rw [hm, hsz] at hvl
  have HM := Lib.hid hm
  have hm2 : m ≤ 200 := by omega
  have HVL := Lib.hid hvl
  clear h hT hsz hm hvl
  go_enter Try.func3, Try.ntmps3
  go_wp2_with fail
  refine HV.out.mono ?_
  rintro e w1 ⟨A1, c1, rfl, his1, hb1⟩
  rw [HM.out] at his1 ⊢
  have HB1 := Lib.hid hb1
  have HI1 := Lib.hid his1
  clear hb1 his1
  go_wp2_with fail
  refine (vineLives_any _).mono ?_
  rintro e w2 ⟨rfl, hb2⟩
  have HB2 := Lib.hid (below_on HB1.out hb2)
  have HI2 := Lib.hid (HI1.out.below hb2)
  clear hb2 HI1
  obtain ⟨F, hF⟩ : ∃ F, vsp [] 0 t.ks = F := ⟨_, rfl⟩
  rw [hF] at HTN HVD
  clear hF
  go_wp2
  go_loopg [5, 32] m (fun k s i wr => ∃ (j : Nat) (L : PL) (A' : Option Addr) (c' : Nat), i = .int .i64 j ∧ j ≤ m ∧ m - j ≤ k ∧ s = .slice A' n c' ∧ L.length = n ∧ IsTree L ∧ PS wr A' n c' L ∧ Tns L ((vks t).drop j) F ∧ Below w2.heap.size w2 wr)
  case atStart => exact ⟨0, t.sp 0, A, c, rfl, Nat.zero_le _, by omega, rfl, by rw [sp_length, HSZ.out], HT.out, H.out.below HB2.out, HTN.out, Below.refl _ _⟩
  case round =>
    obtain ⟨j, L, A', c', rfl, hj, hjk, rfl, hL, hLT, hps, htn, hb⟩ := hrel
    have HPS := Lib.hid hps
    have HLT := Lib.hid hLT
    have HL := Lib.hid hL
    have HBW := Lib.hid hb
    have HTN2 := Lib.hid htn
    clear hL hLT hps htn hb
    by_cases hjm : j < m
    · obtain ⟨b1, off1, rfl, hb1, hcs1⟩ := (HI2.out.below HBW.out).at_ (by omega)
      have hjl : j < (vks t).length := by rw [HM.out]; exact hjm
      obtain ⟨key, hkey⟩ : ∃ key, (vks t)[j] = key := ⟨_, rfl⟩
      have hck : wr.cell? ⟨b1, off1 + j, none⟩ = some (I key) := by rw [hcs1 j hjm, hkey]
      have htd := HTN2.out
      rw [List.drop_eq_getElem_cons hjl, hkey] at htd
      obtain ⟨p, hp, hpk, hpd, htn2⟩ := tns_cons htd
      have hix : ixK L key = p := by rw [← hpk]; exact vixK_own HLT.out.2.1 hp
      rw [HL.out] at hp
      have HTU := Lib.hid (Turn_ok A' n c' p L key wr HPS.out HLT.out hix hp hpd)
      obtain ⟨_, _, htdd⟩ := turned_of HLT.out (by rw [HL.out]; exact hp : p < L.length) hpd
      have HTL := Lib.hid (htdd.len.trans HL.out)
      have HTT := Lib.hid htdd.tree
      have HTN3 := Lib.hid htn2
      clear hcs1 hkey htd htn2 hix hpk hpd htdd hp
      go_wp2_with fail
      refine HTU.out.mono ?_
      rintro e w5 ⟨A5, n5, c5, rfl, hps5, hb5, -⟩
      obtain rfl : n5 = n := by rw [← hps5.len, HTL.out]
      have HPS5 := Lib.hid hps5
      have HB5 := Lib.hid (below_on HBW.out hb5)
      clear hps5 hb5
      go_wp2
      go_roundg (m - (j + 1))
      case measure => omega
      case rel => exact ⟨j + 1, turnL L p, A5, c5, by go_num, by omega, Nat.le_refl _, rfl, HTL.out, HTT.out, HPS5.out, HTN3.out, HB5.out⟩
    · have hdr : (vks t).drop j = [] := List.drop_of_length_le (by rw [HM.out]; omega)
      have htd := HTN2.out
      rw [hdr] at htd
      have hLF := tns_nil htd
      subst hLF
      have HDP : Hid (∀ i, i < n → dp L i = (i : Int)) := fun i hi => HVD.out.2 i (by rw [HSZ.out]; exact hi)
      clear hdr htd
      go_wp2
      go_loopg [48] n (fun k i wr' => ∃ x : Nat, i = .int .i64 x ∧ x ≤ n ∧ n - x ≤ k ∧ Below wr.heap.size wr wr')
      case atStart => exact ⟨0, rfl, Nat.zero_le _, by omega, Below.refl _ _⟩
      case round =>
        obtain ⟨x, rfl, hx, hxk, hbx⟩ := hrel
        have HBX := Lib.hid hbx
        have hzx := hbx.size
        clear hbx
        by_cases hxn : x < n
        · obtain ⟨b, off, rfl, hbb, hcs⟩ := (HPS.out.below HBX.out).dat (by omega)
          have hc0 := (hcs x hxn).1
          have hc1 := (hcs x hxn).2
          rw [HDP.out x hxn] at hc1
          have hxx : ((x : Int) != (x : Int)) = false := by simp
          clear hcs
          go_wp2
          go_roundg (n - (x + 1))
          case measure => omega
          case rel => exact ⟨x + 1, by go_num, by omega, Nat.le_refl _, HBX.out.alloc hzx _⟩
        · have HBA := Lib.hid (below_on (below_on HB2.out HBW.out) HBX.out)
          have hlt : m < max n 1 := HVL.out
          rcases Nat.eq_zero_or_pos n with h0 | h0
          · have hm1 : (if n < 1 then 1 else n) = 1 := by rw [if_pos (by omega)]
            have hm1' : (if (n : Int) < 1 then 1 else (n : Int)) = 1 := by rw [if_pos (by omega)]
            have hq : m < 1 := by omega
            have hn1 : n < 1 := by omega
            have hn1' : (n : Int) < 1 := by omega
            have hq2 : decide ((m : Int) < 1) = true := by simp; omega
            go_wp2
            go_ret
            exact ⟨by simp, HBA.out⟩
          · have hq : m < n := by omega
            have hn1 : ¬ n < 1 := by omega
            have hn1' : ¬ (n : Int) < 1 := by omega
            go_wp2
            go_ret
            exact ⟨rfl, HBA.out⟩

theorem vturns_any (A : Option Addr) (n c : Nat) (l : PL) (w : World) (h : PS w A n c l) (hn : n ≤ 9223372036854775807) :
    Calls Try.prog 3 #[.slice A n c] w (YesV w) := by
  by_cases hc : chkS l = 0
  · have hT := chkS_zero.1 hc
    obtain ⟨t, ht⟩ := hT.2.2
    subst ht
    exact vturns_ok A n c t w h hT
  · exact vturns_bad A n c l w h hn hc

end Go.Proofs.Ytjonepkdkhhonaa
