/-
  The walk of the law Names.
-/
import Derived.Test.YtfgcmccgmmaajaaEq
namespace Go.Proofs.Ytfgcmccgmmaajaa
open Go.RowKit

def blkInts (l : List Int) : Obj := .cells (l.map I).toArray 3
theorem IS_of {w : World} {g t : Nat} {l : List Int} {c : Nat} (h : w.heap[g]? = some (.cells (l.map I).toArray t (0, 0))) (hc : l.length ≤ c) : IS w (some ⟨g, 0, none⟩) l.length c l := by
  refine ⟨rfl, hc, fun _ => ⟨g, 0, rfl, ?_, fun i hi j hj => ?_⟩⟩
  · rcases Nat.lt_or_ge g w.heap.size with hlt | hge
    · exact hlt
    · rw [Array.getElem?_eq_none hge] at h; cases h
  · obtain rfl : j = 0 := by omega
    simp [World.cell?, h, List.getElem?_eq_getElem hi]

abbrev fewO : Obj := .cells #[I 1, I 2, I 3, I 4, I 5, I 6, I 7, I 1, I 2, I 3, I 4, I 1, I 2, I 3] 3
abbrev limO : Obj := .cells #[I 1000000, I 200, I 300, I 12, I 20, I 65535, I 500, I 4000] 3
abbrev errO : Obj := .cells #[I 0, I 1, I 2, I 3, I 4, I 5] 25
abbrev fewL : List Int := [1, 2, 3, 4, 5, 6, 7, 1, 2, 3, 4, 1, 2, 3]
abbrev limL : List Int := [1000000, 200, 300, 12, 20, 65535, 500, 4000]
theorem heap_old (w : World) (o : Obj) (i : Nat) (x : Obj) (h : w.heap[i]? = some x) : (w.alloc o).heap[i]? = some x := by
  have hi : i < w.heap.size := by
    rcases Nat.lt_or_ge i w.heap.size with hlt | hge
    · exact hlt
    · rw [Array.getElem?_eq_none hge] at h; cases h
  rw [Below.heap_alloc w o i hi]; exact h
theorem names_facts (w : World) : IS ((((w.alloc errO).alloc fewO).alloc limO).alloc fewO) (some ⟨w.heap.size + 1, 0, none⟩) 14 14 fewL ∧ IS ((((w.alloc errO).alloc fewO).alloc limO).alloc fewO) (some ⟨w.heap.size + 1 + 1, 0, none⟩) 8 8 limL ∧
    IS ((((w.alloc errO).alloc fewO).alloc limO).alloc fewO) (some ⟨w.heap.size + 1 + 1 + 1, 0, none⟩) 14 14 fewL ∧ Below w.heap.size w ((((w.alloc errO).alloc fewO).alloc limO).alloc fewO) := by
  have h1 := heap_alloc_new (w.alloc errO) fewO
  have h2 := heap_alloc_new ((w.alloc errO).alloc fewO) limO
  have h3 := heap_alloc_new (((w.alloc errO).alloc fewO).alloc limO) fewO
  simp only [World.size_alloc] at h1 h2 h3
  refine ⟨IS_of (l := fewL) (heap_old _ _ _ _ (heap_old _ _ _ _ h1)) (Nat.le_refl _), IS_of (l := limL) (heap_old _ _ _ _ h2) (Nat.le_refl _), IS_of (l := fewL) h3 (Nat.le_refl _), ?_⟩
  exact ((((Below.refl _ _).alloc (Nat.le_refl _) _).alloc (by simp) _).alloc (by simp; omega) _).alloc (by simp; omega) _

set_option maxRecDepth 100000 in
set_option maxHeartbeats 1000000 in
theorem Names_any (w : World) : Calls Try.prog 5 #[] w fun e w' => e = .returned (.bool true) ∧ Below w.heap.size w w' := by
  go_enter Try.func5, Try.ntmps5
  go_wp2
  go_loop [7] (fun i => ∃ k : Nat, k ≤ 6 ∧ i = .int .i64 k) (fun i => 6 - (intOf i).toNat)
  case atStart => exact ⟨0, Nat.zero_le _, rfl⟩
  case round =>
    obtain ⟨k, hk, rfl⟩ := hrel
    rcases (show k = 0 ∨ k = 1 ∨ k = 2 ∨ k = 3 ∨ k = 4 ∨ k = 5 ∨ k = 6 by omega) with rfl | rfl | rfl | rfl | rfl | rfl | rfl
    · go_wp2
      go_round
      case rel => exact ⟨1, by omega, rfl⟩
      case measure => simp [intOf]
    · go_wp2
      go_round
      case rel => exact ⟨2, by omega, rfl⟩
      case measure => simp [intOf]
    · go_wp2
      go_round
      case rel => exact ⟨3, by omega, rfl⟩
      case measure => simp [intOf]
    · go_wp2
      go_round
      case rel => exact ⟨4, by omega, rfl⟩
      case measure => simp [intOf]
    · go_wp2
      go_round
      case rel => exact ⟨5, by omega, rfl⟩
      case measure => simp [intOf]
    · go_wp2
      go_round
      case rel => exact ⟨6, by omega, rfl⟩
      case measure => simp [intOf]
    · go_wp2_with fail
      obtain ⟨i1, i2, i3, hb0⟩ := names_facts w
      refine (eqInt_any _ _ 14 14 14 14 fewL fewL _ i1 i3 (by omega) (by omega)).mono ?_
      rintro e w1 ⟨rfl, hb1⟩
      have hbw1 := hb0.trans (hb1.mono hb0.size)
      have I2 := Lib.hid (i2.below hb1)
      have HB1 := Lib.hid hbw1
      clear i1 i2 i3 hb0 hb1 hbw1
      go_wp2_with fail
      have i4 : IS (w1.alloc limO) (some ⟨w1.heap.size, 0, none⟩) 8 8 limL := IS_of (l := limL) (heap_alloc_new w1 limO) (Nat.le_refl _)
      have hb2 : Below w1.heap.size w1 (w1.alloc limO) := (Below.refl _ _).alloc (Nat.le_refl _) _
      refine (eqInt_any _ _ 8 8 8 8 limL limL _ (I2.out.below hb2) i4 (by omega) (by omega)).mono ?_
      rintro e w2 ⟨rfl, hb3⟩
      have HB2 := Lib.hid (HB1.out.trans ((hb2.mono HB1.out.size).trans (hb3.mono (by simp; have := HB1.out.size; omega))))
      clear i4 hb2 hb3
      go_wp2
      go_ret
      exact ⟨rfl, HB2.out⟩

end Go.Proofs.Ytfgcmccgmmaajaa
