/-
  hedgkeep.HandsNaive.
-/
import Derived.Test.YtdjdjaegihhmiaaJLivesW
namespace Go.Proofs.Ytdjdjaegihhmiaa
open Go.RowKit

def wNv : Wd := (Wd.begin_ []).runs (alg 4) (dds (P2 (1, 1) (1, 2))) (fun v => (P2 (1, 1) (1, 2) v).length) [0, 0, 1, 1, 0, 1]
theorem wNv_told : wNv.ix 0 = 1 ∧ wNv.ix 1 = 1 ∧ wNv.tol 0 0 = some (0, 4, true) ∧ wNv.tol 1 0 = some (2, 5, true) ∧ wNv.s.nx 0 = 3 ∧ wNv.s.nx 3 = 1 ∧ wNv.s.tl = 1 ∧ wNv.s.key 3 = 2 ∧ wNv.s.mrk 3 = false := by
  decide
theorem wNv_end : Wend 4 2 (P2 (1, 1) (1, 2)) [] [0, 0, 1, 1, 0, 1] = wNv := by
  unfold Wend
  have e : ordN 2 [0, 0, 1, 1, 0, 1] = [0, 0, 1, 1, 0, 1] := by decide
  rw [e]
  refine rounds_stop (k := 0) (by omega) (fun v hv => ?_)
  have h0 : wNv.ix v = 1 := by
    rcases (show v = 0 ∨ v = 1 by omega) with rfl | rfl
    · exact wNv_told.1
    · exact wNv_told.2.1
  show ¬ wNv.ix v < _
  rw [h0]
  rcases (show v = 0 ∨ v = 1 by omega) with rfl | rfl <;> decide
theorem wNv_tdl : Tdl wNv 2 (fun v => (P2 (1, 1) (1, 2) v).length) = [⟨0, 0, 0, 4, true⟩, ⟨1, 0, 2, 5, true⟩] := by
  have e : Tdl wNv 2 (fun v => (P2 (1, 1) (1, 2) v).length) = [tolD wNv 0 0, tolD wNv 1 0] := rfl
  obtain ⟨_, _, t2, t3, _⟩ := wNv_told
  rw [e]
  unfold tolD
  rw [t2, t3]
  rfl
set_option maxRecDepth 100000 in
set_option maxHeartbeats 8000000 in
theorem naive_any (w : World) : Calls Try.prog 5 #[] w fun e w' => e = .returned (.bool true) ∧ Below w.heap.size w w' := by
  obtain ⟨w1, hw1⟩ : ∃ w1, w1 = w.alloc (.cells #[I 1, I 1] 42) := ⟨_, rfl⟩
  obtain ⟨w2, hw2⟩ : ∃ w2, w2 = w1.alloc (.cells #[I 1, I 2] 42) := ⟨_, rfl⟩
  have z1 : w1.heap.size = w.heap.size + 1 := by rw [hw1]; simp
  have z2 : w2.heap.size = w.heap.size + 1 + 1 := by rw [hw2]; simp [z1]
  have p1 : PS w1 (some ⟨w.heap.size, 0, none⟩) 1 1 [(1, 1)] := by rw [hw1]; exact psD_new w 1 1
  have p2 : PS w2 (some ⟨w.heap.size + 1, 0, none⟩) 1 1 [(1, 2)] := by rw [hw2, ← z1]; exact psD_new w1 1 2
  have b12 : Below w1.heap.size w1 w2 := by rw [hw2]; exact (Below.refl _ _).alloc (Nat.le_refl _) _
  have r1 := rsD_new w2 ⟨some ⟨w.heap.size, 0, none⟩, 1, 1, [(1, 1)]⟩ ⟨some ⟨w.heap.size + 1, 0, none⟩, 1, 1, [(1, 2)]⟩ (PS.below p1 b12) p2
  obtain ⟨w4, hw4⟩ : ∃ w4, w4 = w2.alloc (.cells #[.slice (some ⟨w.heap.size, 0, none⟩) 1 1, .slice (some ⟨w.heap.size + 1, 0, none⟩) 1 1] 35) := ⟨_, rfl⟩
  have z4 : w4.heap.size = w.heap.size + 1 + 1 + 1 := by rw [hw4]; simp [z2]
  have b24 : Below w2.heap.size w2 w4 := by rw [hw4]; exact (Below.refl _ _).alloc (Nat.le_refl _) _
  have r4 : RS w4 (some ⟨w.heap.size + 1 + 1, 0, none⟩) 2 2 [⟨some ⟨w.heap.size, 0, none⟩, 1, 1, [(1, 1)]⟩, ⟨some ⟨w.heap.size + 1, 0, none⟩, 1, 1, [(1, 2)]⟩] := by rw [hw4, ← z2]; exact r1
  obtain ⟨w5, hw5⟩ : ∃ w5, w5 = w4.alloc (.cells #[I 0, I 0, I 1, I 1, I 0, I 1] 3) := ⟨_, rfl⟩
  have i5 : IS w5 (some ⟨w.heap.size + 1 + 1 + 1, 0, none⟩) 6 6 [0, 0, 1, 1, 0, 1] := by rw [hw5, ← z4]; exact isI_new w4 [0, 0, 1, 1, 0, 1]
  have b45 : Below w4.heap.size w4 w5 := by rw [hw5]; exact (Below.refl _ _).alloc (Nat.le_refl _) _
  have b05 : Below w.heap.size w w5 := by
    have b01 : Below w.heap.size w w1 := by rw [hw1]; exact (Below.refl _ _).alloc (Nat.le_refl _) _
    exact ((b01.trans (b12.mono (by omega))).trans (b24.mono (by omega))).trans (b45.mono (by omega))
  have hR := Run_ok none (some ⟨w.heap.size + 1 + 1, 0, none⟩) (some ⟨w.heap.size + 1 + 1 + 1, 0, none⟩) 0 0 2 2 6 6 [] [0, 0, 1, 1, 0, 1] _ w5 (al := 4) (.inr (.inr (.inr rfl))) ⟨rfl, Rd.none_⟩ (r4.below b45) i5 (by omega) (by omega) (by omega) (by intro s hs; simp at hs; rcases hs with rfl | rfl <;> (show 1 ≤ _; omega)) (chk_two (by decide) (by show 1 ≤ 4; omega) (by show 1 ≤ 4; omega) rfl rfl (by omega))
  unfold RetRun at hR
  rw [prog_two _ _ rfl rfl, wNv_end, wNv_tdl] at hR
  obtain ⟨t0, t1, t2, t3, n0, n3, ntl, k3, m3⟩ := wNv_told
  have hR2 : Calls Try.prog 9 #[I 4, .slice none 0 0, .slice (some ⟨w.heap.size + 1 + 1, 0, none⟩) 2 2, .slice (some ⟨w.heap.size + 1 + 1 + 1, 0, none⟩) 6 6] w5 fun e w' =>
      ∃ dv lv, e = .returned (.tuple #[.agg #[dv, lv], I 0]) ∧ OwnD w' w5.heap.size dv [⟨0, 0, 0, 4, true⟩, ⟨1, 0, 2, 5, true⟩] ∧ OwnI w' w5.heap.size lv [2] ∧ Below w5.heap.size w5 w' := hR.mono fun e w' hr => by
    obtain ⟨dv, lv, m, a, b, c, d, f⟩ := hr
    refine ⟨dv, lv, a, c, ?_, f⟩
    rw [n0, ntl] at b
    obtain rfl := pn_one n3 (by omega) b
    rw [n0] at d
    have : lft wNv.s 1 3 = [2] := by
      rw [lft_cons_f m3, k3]
      rfl
    rw [this] at d
    exact d
  rw [hw5, hw4, hw2, hw1] at hR2
  have HR := Lib.hid hR2
  have HB := Lib.hid b05
  have HW : Hid (w5 = (((w.alloc (.cells #[I 1, I 1] 42)).alloc (.cells #[I 1, I 2] 42)).alloc (.cells #[.slice (some ⟨w.heap.size, 0, none⟩) 1 1, .slice (some ⟨w.heap.size + 1, 0, none⟩) 1 1] 35)).alloc (.cells #[I 0, I 0, I 1, I 1, I 0, I 1] 3)) := by show _ = _; rw [hw5, hw4, hw2, hw1]
  clear hw1 hw2 hw4 hw5 z1 z2 z4 p1 p2 b12 r1 b24 r4 i5 b45 b05 hR hR2 t0 t1 t2 t3 n0 n3 ntl k3 m3
  go_enter Try.func5, Try.ntmps5
  go_wp2_with fail
  refine HR.out.mono ?_
  rintro e w6 ⟨dv, lv, rfl, hd, hl, hb⟩
  rw [← HW.out] at hb
  have HB6 : Hid (Below w.heap.size w w6) := HB.out.trans (hb.mono HB.out.size)
  obtain ⟨dA, dc, rfl, hdA⟩ := hd.is_
  obtain ⟨g, rfl⟩ : ∃ g, dA = some ⟨g, 0, none⟩ := by
    rcases hdA with h | h
    · cases h
    · exact h
  obtain ⟨lA, lc, rfl, -, -⟩ := hl.is_
  obtain ⟨cs, hcs, hct⟩ : ∃ cs : Array Value, w6.heap[g]? = some (.cells cs 37 (0, 0)) ∧ cs.toList.take 10 = flatD [⟨0, 0, 0, 4, true⟩, ⟨1, 0, 2, 5, true⟩] := by
    rcases hd.2 with ⟨h0, _⟩ | ⟨g', cap, cur, h0, h2, h3, h4, h5, h6, h7⟩
    · cases h0
    · cases h0
      exact ⟨cur, h3, h7⟩
  have cc : ∀ i, i < 10 → w6.cell? ⟨g, i, none⟩ = (flatD [⟨0, 0, 0, 4, true⟩, ⟨1, 0, 2, 5, true⟩])[i]? := fun i hi => by
    rw [jcell hcs, ← hct, List.getElem?_take, if_pos hi]
    simp
  have hgl := jblk hcs
  have HC : Hid (∀ i, i < 10 → w6.cell? ⟨g, i, none⟩ = (flatD [⟨0, 0, 0, 4, true⟩, ⟨1, 0, 2, 5, true⟩])[i]?) := cc
  clear hb hd hl hdA hcs hct cc
  have HLV := Lib.hid (lives_any (w6.alloc (.cells #[.slice (some ⟨g, 0, none⟩) 2 dc, .slice lA 1 lc] 26)))
  go_wp2_with fail
  refine HLV.out.mono ?_
  rintro e w7 ⟨rfl, hb7⟩
  have hz : (w6.alloc (.cells #[.slice (some ⟨g, 0, none⟩) 2 dc, .slice lA 1 lc] 26)).heap.size = w6.heap.size + 1 := by simp
  rw [hz] at hb7
  have hlow : ∀ p : Addr, p.block < w6.heap.size → w7.cell? p = w6.cell? p := fun p hp => (hb7.cell (by omega)).trans (World.cell?_of_block (Below.heap_alloc _ _ _ hp))
  have d4 : w7.cell? ⟨g, 4, none⟩ = some (.bool true) := (hlow _ hgl).trans (HC.out 4 (by omega))
  have d9 : w7.cell? ⟨g, 9, none⟩ = some (.bool true) := (hlow _ hgl).trans (HC.out 9 (by omega))
  have t0 : w7.cell? ⟨w6.heap.size, 0, none⟩ = some (.slice (some ⟨g, 0, none⟩) 2 dc) := by
    rw [hb7.cell (p := ⟨w6.heap.size, 0, none⟩) (by show w6.heap.size < _; omega)]; simp
  have t1 : w7.cell? ⟨w6.heap.size, 1, none⟩ = some (.slice lA 1 lc) := by
    rw [hb7.cell (p := ⟨w6.heap.size, 1, none⟩) (by show w6.heap.size < _; omega)]; simp
  have HB7 : Hid (Below w.heap.size w w7) := (HB6.out.alloc HB6.out.size _).trans (hb7.mono (by have := HB6.out.size; omega))
  clear hb7 hlow hz
  go_wp2
  go_ret
  exact ⟨rfl, HB7.out⟩

end Go.Proofs.Ytdjdjaegihhmiaa
