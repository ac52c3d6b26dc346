/-
  The walk of the law PlainDoes.
-/
import Derived.Test.YtfgcmccgmmaajaaDone
import Derived.Test.YtfgcmccgmmaajaaRanks
namespace Go.Proofs.Ytfgcmccgmmaajaa
open Go.RowKit

theorem MapRight_is (A : Option Addr) (n c : Nat) (l : PL) (w : World) (h : PS w A n c l) (hn : n ≤ 9223372036854775807) (E : Int) (hE : chk l = E) :
    Calls Try.prog 11 #[.slice A n c] w fun e w' => e = .returned (I E) ∧ Below w.heap.size w w' :=
  (MapRight_any A n c l w h hn).mono fun _ _ ⟨he, hw⟩ => ⟨by rw [he, hE], hw⟩
theorem OB.alloc {w : World} {g : Nat} {kind key val : Int} (h : OB w g kind key val) (hg : g < w.heap.size) (o : Obj) : OB (w.alloc o) g kind key val := h.below (B := w.heap.size) ((Below.refl _ _).alloc (Nat.le_refl _) _) hg

set_option maxRecDepth 100000 in
set_option maxHeartbeats 1000000 in
theorem Does_bad (A : Option Addr) (n c : Nat) (l : PL) (kind key val : Int) (w : World) (h : PS w A n c l) (hn : n ≤ 9223372036854775807) (hc : chk l ≠ 0) :
    Calls Try.prog 3 #[.slice A n c, .agg #[I kind, I key, I val]] w (Yes w) := by
  have H := Lib.hid h
  clear h
  have HL := Lib.hid (doL_bad hc kind key val)
  obtain ⟨E, hE0⟩ : ∃ E, chk l = E := ⟨_, rfl⟩
  have HA : Hid (doA l kind key = ⟨E, 0, 0, false⟩) := by show _ = _; rw [doA_bad hc, hE0]
  rw [hE0] at hc
  have HE := Lib.hid hE0
  have hE : (E != 0) = true := by simpa using hc
  have hEE : (E != E) = false := by simp
  have hEq : (E == E) = true := by simp
  clear hc hE0
  go_enter Try.func3, Try.ntmps3
  go_wp2_with fail
  refine (Do_is A n c l kind key val _ (H.out.alloc _) hn [] _ HL.out HA.out).mono ?_
  rintro e w1 ⟨A1, n1, c1, rfl, hps, hb, -⟩
  obtain rfl : 0 = n1 := hps.len
  have HB1 := Lib.hid (below_step (Below.refl _ _) hb)
  clear hb hps
  go_wp2_with fail
  refine (MapRight_is A n c l _ ((H.out.below HB1.out).alloc _) hn E HE.out).mono ?_
  rintro e w2 ⟨rfl, hb⟩
  have HB2 := Lib.hid (below_step HB1.out hb)
  have HAA2 := Lib.hid (AA.made (a := ⟨E, 0, 0, false⟩) hb)
  clear hb
  go_wp2_with fail
  refine (Check_is A n c l _ (H.out.below HB2.out) hn E HE.out).mono ?_
  rintro e w3 ⟨rfl, hb⟩
  have HB3 := Lib.hid (below_next HB2.out hb)
  have haa := HAA2.out.below hb
  have a0 : w3.cell? ⟨w1.heap.size, 0, none⟩ = some (I E) := haa.facts.1
  have a1 : w3.cell? ⟨w1.heap.size, 1, none⟩ = some (I 0) := haa.facts.2.1
  have a2 : w3.cell? ⟨w1.heap.size, 2, none⟩ = some (I 0) := haa.facts.2.2.1
  have a3 : w3.cell? ⟨w1.heap.size, 3, none⟩ = some (.bool false) := haa.facts.2.2.2
  clear hb haa
  go_wp2
  go_ret
  exact ⟨rfl, HB3.out⟩

set_option maxRecDepth 100000 in
set_option maxHeartbeats 1000000 in
theorem Does_good (A : Option Addr) (n c : Nat) (l : PL) (kind key val : Int) (w : World) (h : PS w A n c l) (hc : chk l = 0) :
    Calls Try.prog 3 #[.slice A n c, .agg #[I kind, I key, I val]] w (Yes w) := by
  have hn : n ≤ 200 := by have := chk_len hc; rw [h.len] at this; exact this
  have H := Lib.hid h
  have HC := Lib.hid hc
  clear h hc
  obtain ⟨a, ha⟩ : ∃ a, doA l kind key = a := ⟨_, rfl⟩
  obtain ⟨L, hL⟩ : ∃ L, doL l kind key val = L := ⟨_, rfl⟩
  have hL2 : L.length ≤ 200 := by rw [← hL]; exact doL_len _ _ _ _
  have HA := Lib.hid ha
  have HL := Lib.hid hL
  clear ha hL
  go_enter Try.func3, Try.ntmps3
  go_wp2_with fail
  refine (Do_is A n c l kind key val _ (H.out.alloc _) (by omega) L a HL.out HA.out).mono ?_
  rintro e w1 ⟨A1, n1, c1, rfl, hps, hb, -⟩
  have hn1 : n1 ≤ 200 := by rw [← hps.len]; exact hL2
  have HB1 := Lib.hid (below_step (Below.refl _ _) hb)
  have HM1 := Lib.hid hps
  have hob1 : OB w1 w.heap.size kind key val := (OB.new w kind key val).below hb (by simp)
  have hz1 : w.heap.size < w1.heap.size := by have := hb.size; simp at this; omega
  have HOB1 := Lib.hid hob1
  clear hb hps hob1
  go_wp2_with fail
  refine (MapRight_is A n c l _ ((H.out.below HB1.out).alloc _) (by omega) 0 HC.out).mono ?_
  rintro e w2 ⟨rfl, hb⟩
  have HB2 := Lib.hid (below_step HB1.out hb)
  have HM2 := Lib.hid (HM1.out.step hb)
  have HAA2 := Lib.hid (AA.made (a := a) hb)
  have HOB2 := Lib.hid ((HOB1.out.alloc hz1 _).below hb (by simp; omega))
  have hz2 : w.heap.size < w2.heap.size := by have := hb.size; simp at this; omega
  clear hb
  go_wp2_with fail
  refine (Check_is A n c l _ (H.out.below HB2.out) (by omega) 0 HC.out).mono ?_
  rintro e w3 ⟨rfl, hb⟩
  have HB3 := Lib.hid (below_next HB2.out hb)
  have HM3 := Lib.hid (HM2.out.below hb)
  have HAA3 := Lib.hid (HAA2.out.below hb)
  obtain ⟨o0, o1, o2⟩ := (HOB2.out.below hb hz2).facts
  clear hb
  go_wp2_with fail
  refine (Done_any A n c l kind key val _ (H.out.below HB3.out) HC.out).mono ?_
  rw [HL.out, HA.out]
  rintro e w4 ⟨A4, n4, c4, rfl, hps, hb, -⟩
  have hn4 : n4 ≤ 200 := by rw [← hps.len]; exact hL2
  have HB4 := Lib.hid (below_next HB3.out hb)
  have HM4 := Lib.hid (HM3.out.below hb)
  have HN4 := Lib.hid hps
  have HAA4 := Lib.hid (HAA3.out.below hb)
  clear hb hps o0 o1 o2
  go_wp2_with fail
  refine (eqPair_any A1 A4 n1 n4 c1 c4 L L _ (HM4.out.alloc _) (HN4.out.alloc _) (by omega) (by omega)).mono ?_
  rintro e w5 ⟨rfl, hb⟩
  have HB5 := Lib.hid (below_step HB4.out hb)
  obtain ⟨a0, a1, a2, a3⟩ := (HAA4.out.step hb).facts
  obtain ⟨b0, b1, b2, b3⟩ := (AA.made (a := a) hb).facts
  have ht : decide (L = L) = true := by simp
  clear hb
  go_wp2
  go_ret
  exact ⟨rfl, HB5.out⟩

theorem Does_any (A : Option Addr) (n c : Nat) (l : PL) (kind key val : Int) (w : World) (h : PS w A n c l) (hn : n ≤ 9223372036854775807) :
    Calls Try.prog 3 #[.slice A n c, .agg #[I kind, I key, I val]] w (Yes w) := by
  by_cases hc : chk l = 0
  · exact Does_good A n c l kind key val w h hc
  · exact Does_bad A n c l kind key val w h hn hc

end Go.Proofs.Ytfgcmccgmmaajaa
