/-
  plainLives.
-/
import Derived.Test.YtfgcmccgmmaajaaRun
namespace Go.Proofs.Ytfgcmccgmmaajaa
open Go.RowKit

abbrev livesOps : List OP := [(1, 7, 1), (1, 3, 2), (4, 3, 0), (3, 7, 0)]
theorem lives_run : runR livesOps = ([(3, 2)], [an0, an0, ⟨0, 7, 1, true⟩, ⟨0, 0, 1, true⟩]) := by decide +kernel
abbrev livesO : Obj := .cells #[I 1, I 7, I 1, I 1, I 3, I 2, I 4, I 3, I 0, I 3, I 7, I 0] 24
theorem lives_os (w : World) : OS (w.alloc livesO) (some ⟨w.heap.size, 0, none⟩) 4 4 livesOps := by
  refine ⟨rfl, Nat.le_refl _, fun _ => ⟨w.heap.size, 0, rfl, by simp, fun i hi j hj => ?_⟩⟩
  have hh : (w.alloc livesO).heap[w.heap.size]? = some livesO := heap_alloc_new w _
  have h4 : i = 0 ∨ i = 1 ∨ i = 2 ∨ i = 3 := by omega
  have h3 : j = 0 ∨ j = 1 ∨ j = 2 := by omega
  rcases h4 with rfl | rfl | rfl | rfl <;> rcases h3 with rfl | rfl | rfl <;> (rw [cell_of_row _ _ _ _ _ _ hh]; rfl)

set_option maxRecDepth 100000 in
set_option maxHeartbeats 1000000 in
theorem lives_any (w : World) : Calls Try.prog 19 #[] w fun e w' => e = .returned (.bool true) ∧ Below w.heap.size w w' := by
  have hb0 : Below w.heap.size w (w.alloc livesO) := (Below.refl _ _).alloc (Nat.le_refl _) _
  go_enter Try.func19, Try.ntmps19
  go_wp2_with fail
  refine (Run_any _ 4 4 livesOps _ (lives_os w) (by omega)).mono ?_
  rintro e w1 ⟨A1, n1, c1, A2, n2, c2, rfl, hps, has, hb1⟩
  rw [lives_run] at hps has
  obtain rfl : n1 = 1 := hps.len.symm
  obtain rfl : n2 = 4 := has.len.symm
  obtain ⟨b, off, rfl, hbl, hc⟩ := has.at_ (by omega)
  have k2 := hc 2 (by omega)
  have k3 := hc 3 (by omega)
  simp only [List.getElem_cons_succ, List.getElem_cons_zero] at k2 k3
  have HB1 := Lib.hid (hb0.trans (hb1.mono (by simp)))
  have HPS := Lib.hid hps
  have HK2 := Lib.hid k2
  have HK3 := Lib.hid k3
  clear hb0 hb1 hps has hc k2 k3
  go_wp2_with fail
  have hba : Below w1.heap.size w1 (w1.alloc (.cells #[I 3, I 2] 33)) := (Below.refl _ _).alloc (Nat.le_refl _) _
  have hp2 : PS (w1.alloc (.cells #[I 3, I 2] 33)) (some ⟨w1.heap.size, 0, none⟩) 1 1 [(3, 2)] := (PB.new w1 33 [(3, 2)]).ps (Nat.le_refl _)
  refine (eqPair_any _ _ 1 1 c1 1 [(3, 2)] [(3, 2)] _ (HPS.out.below hba) hp2 (by omega) (by omega)).mono ?_
  rintro e w2 ⟨rfl, hb2⟩
  have hbr : Below w1.heap.size w1 w2 := hba.trans (hb2.mono (by simp))
  have g0 : w2.cell? ⟨b, off + 8, none⟩ = some (I 0) := (hbr.cell (by exact hbl)).trans HK2.out.1
  have g1 : w2.cell? ⟨b, off + 8 + 1, none⟩ = some (I 7) := (hbr.cell (by exact hbl)).trans HK2.out.2.1
  have g2 : w2.cell? ⟨b, off + 8 + 2, none⟩ = some (I 1) := (hbr.cell (by exact hbl)).trans HK2.out.2.2.1
  have g3 : w2.cell? ⟨b, off + 8 + 3, none⟩ = some (.bool true) := (hbr.cell (by exact hbl)).trans HK2.out.2.2.2
  have e0 : w2.cell? ⟨b, off + 12, none⟩ = some (I 0) := (hbr.cell (by exact hbl)).trans HK3.out.1
  have e1 : w2.cell? ⟨b, off + 12 + 1, none⟩ = some (I 0) := (hbr.cell (by exact hbl)).trans HK3.out.2.1
  have e2 : w2.cell? ⟨b, off + 12 + 2, none⟩ = some (I 1) := (hbr.cell (by exact hbl)).trans HK3.out.2.2.1
  have e3 : w2.cell? ⟨b, off + 12 + 3, none⟩ = some (.bool true) := (hbr.cell (by exact hbl)).trans HK3.out.2.2.2
  have HB2 := Lib.hid (HB1.out.trans (hbr.mono HB1.out.size))
  clear hba hp2 hb2 hbr HK2 HK3
  go_wp2
  go_ret
  exact ⟨rfl, HB2.out⟩

end Go.Proofs.Ytfgcmccgmmaajaa
