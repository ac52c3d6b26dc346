/-
  The walk of the law PlainRuns.
-/
import Derived.Test.YtfgcmccgmmaajaaAnswered
namespace Go.Proofs.Ytfgcmccgmmaajaa
open Go.RowKit

set_option maxRecDepth 100000 in
set_option maxHeartbeats 1000000 in
theorem Runs_large (A : Option Addr) (n c : Nat) (w : World) (hn : 300 < n) (hm : n ≤ 9223372036854775807) :
    Calls Try.prog 4 #[.slice A n c] w (Yes w) := by
  go_enter Try.func4, Try.ntmps4
  go_wp2_with fail
  refine (Run_large A n c _ hn hm).mono ?_
  rintro e w1 ⟨A1, n1, c1, A2, n2, c2, rfl, hps, has, hb⟩
  obtain rfl : 0 = n1 := hps.len
  obtain rfl : 0 = n2 := has.len
  have HB1 := Lib.hid hb
  clear hps has hb
  go_wp2
  go_ret
  exact ⟨rfl, HB1.out⟩

set_option maxRecDepth 100000 in
set_option maxHeartbeats 1000000 in
theorem Runs_small (A : Option Addr) (n c : Nat) (ops : List OP) (w : World) (h : OS w A n c ops) (hn : n ≤ 300) :
    Calls Try.prog 4 #[.slice A n c] w (Yes w) := by
  have H := Lib.hid h
  have Hlen := Lib.hid h.len
  clear h
  have hl1 : (runR ops).1.length ≤ 200 := chk_len (chk_runR ops)
  have hl2 : (runR ops).2.length ≤ 300 := by rw [runR_len, Hlen.out]; exact hn
  go_enter Try.func4, Try.ntmps4
  go_wp2_with fail
  refine (Run_any A n c ops _ H.out hn).mono ?_
  rintro e w1 ⟨A1, n1, c1, A2, n2, c2, rfl, hps, has, hb⟩
  have hn1 : n1 ≤ 200 := by rw [← hps.len]; exact hl1
  have hn2 : n2 ≤ 300 := by rw [← has.len]; exact hl2
  have HB1 := Lib.hid hb
  have HP1 := Lib.hid hps
  have HA1 := Lib.hid has
  clear hps has hb
  go_wp2_with fail
  refine (Answered_any A n c ops _ (H.out.below HB1.out) hn).mono ?_
  rintro e w2 ⟨A3, n3, c3, A4, n4, c4, rfl, hps, has, hb⟩
  have hn3 : n3 ≤ 200 := by rw [← hps.len]; exact hl1
  have hn4 : n4 ≤ 300 := by rw [← has.len]; exact hl2
  have HB2 := Lib.hid (below_next HB1.out hb)
  have HP2 := Lib.hid (HP1.out.below hb)
  have HA2 := Lib.hid (HA1.out.below hb)
  have HQ2 := Lib.hid hps
  have HR2 := Lib.hid has
  clear hps has hb
  go_wp2_with fail
  refine (eqPair_any A1 A3 n1 n3 c1 c3 (runR ops).1 (runR ops).1 _ HP2.out HQ2.out (by omega) (by omega)).mono ?_
  rintro e w3 ⟨rfl, hb⟩
  have HB3 := Lib.hid (below_next HB2.out hb)
  have HA3 := Lib.hid (HA2.out.below hb)
  have HR3 := Lib.hid (HR2.out.below hb)
  have ht : decide ((runR ops).1 = (runR ops).1) = true := by simp
  clear hb
  go_wp2_with fail
  refine (eqAns_any A2 A4 n2 n4 c2 c4 (runR ops).2 (runR ops).2 _ HA3.out HR3.out (by omega) (by omega)).mono ?_
  rintro e w4 ⟨rfl, hb⟩
  have HB4 := Lib.hid (below_next HB3.out hb)
  have ht2 : decide ((runR ops).2 = (runR ops).2) = true := by simp
  clear hb
  go_wp2
  go_ret
  exact ⟨rfl, HB4.out⟩

theorem Runs_any (A : Option Addr) (n c : Nat) (ops : List OP) (w : World) (h : OS w A n c ops) (hn : n ≤ 9223372036854775807) :
    Calls Try.prog 4 #[.slice A n c] w (Yes w) := by
  by_cases hc : n ≤ 300
  · exact Runs_small A n c ops w h hc
  · exact Runs_large A n c w (by omega) hn

end Go.Proofs.Ytfgcmccgmmaajaa
