/-
  threeSpots, ok, shapeLives.
-/
import Derived.Test.YtgpbafalciccdaaSOf
import Derived.Test.YtgpbafalciccdaaSEq
namespace Go.Proofs.Ytgpbafalciccdaa
open Go.RowKit

abbrev T3 : Tr := .node (.node .nil 1 .nil) 2 (.node .nil 3 .nil)
abbrev three : PL := [(1, 1), (2, 0), (3, 1)]
theorem three_sp : three = T3.sp 0 := rfl
theorem three_tree : IsTree three := by
  refine ⟨by decide, ?_, T3, rfl⟩
  intro i hi
  have : i = 0 ∨ i = 1 := by simp at hi; omega
  rcases this with rfl | rfl <;> decide
theorem three_srt : T3.srt := by
  refine ⟨?_, ?_, ⟨?_, ?_, trivial, trivial⟩, ?_, ?_, trivial, trivial⟩ <;> simp [Tr.pre]
theorem three_turn : turnL three 2 = [(1, 2), (2, 1), (3, 0)] := by
  have h : RR three 1 2 0 (.node .nil 1 .nil) 2 .nil 3 .nil [] [] := ⟨.hole, rfl, rfl, rfl⟩
  exact h.turn

theorem three_any (w : World) : Calls Try.prog 20 #[] w fun e w' => e = .returned (.slice (some ⟨w.heap.size, 0, none⟩) 3 3) ∧ PB w' w.heap.size 32 three ∧ Below w.heap.size w w' := by
  go_enter Try.func20, Try.ntmps20
  go_wp2
  go_ret
  exact ⟨rfl, PB.new w 32 three, (Below.refl _ _).alloc (Nat.le_refl _) _⟩

set_option maxHeartbeats 1000000 in
theorem ok_any (A : Option Addr) (n c : Nat) (l : List Int) (w : World) (h : IS w A n c l) (hn : n ≤ 1000) (hz : ∀ x ∈ l, x = 0) :
    Calls Try.prog 22 #[.slice A n c] w fun e w' => e = .returned (.bool true) ∧ w = w' := by
  have H := Lib.hid h
  have Hlen := Lib.hid h.len
  have HZ := Lib.hid hz
  clear h hz
  go_enter Try.func22, Try.ntmps22
  go_wp2
  go_loop [7] (fun i => ∃ j : Nat, j ≤ n ∧ i = .int .i64 j) (fun i => n - (intOf i).toNat)
  case atStart => exact ⟨0, Nat.zero_le _, rfl⟩
  case round =>
    obtain ⟨j, hj, rfl⟩ := hrel
    by_cases hlt : j < n
    · obtain ⟨b, off, rfl, hb, hcs⟩ := H.out.at_ (by omega)
      have hjl : j < l.length := by rw [Hlen.out]; exact hlt
      have hc0 : w.cell? ⟨b, off + j, none⟩ = some (I 0) := by rw [hcs j hlt, HZ.out _ (List.getElem_mem hjl)]
      clear hcs
      go_wp2
      go_round
      case rel => exact ⟨j + 1, by omega, by go_num⟩
      case measure => simp [intOf]; omega
    · go_wp2
      go_ret
      exact ⟨rfl, rfl⟩

theorem is_new (w : World) (t : Nat) (L : List Int) : IS (w.alloc (.cells (L.map I).toArray t)) (some ⟨w.heap.size, 0, none⟩) L.length L.length L := (IB.new w t L).is_ (Nat.le_refl _)

set_option maxRecDepth 100000 in
set_option maxHeartbeats 4000000 in
theorem shapeLives_any (w : World) : Calls Try.prog 8 #[] w fun e w' => e = .returned (.bool true) ∧ Below w.heap.size w w' := by
  go_enter Try.func8, Try.ntmps8
  go_wp2_with fail
  refine (three_any w).mono ?_
  rintro e w1 ⟨rfl, hpb, hb1⟩
  have HB1 := Lib.hid hb1
  have HP1 := Lib.hid (hpb.ps (c := 3) (Nat.le_refl _))
  clear hb1 hpb
  go_wp2_with fail
  refine (Order1_ok _ 3 3 three T3 w1 HP1.out three_tree rfl).mono ?_
  rintro e w2 ⟨A2, n2, c2, rfl, his2, hb2, -⟩
  obtain rfl : n2 = 3 := his2.len.symm
  have HB2 := Lib.hid (below_on HB1.out hb2)
  have HI2 := Lib.hid his2
  clear hb2 his2
  go_wp2_with fail
  refine (Of_ok _ 3 3 T3 _ (is_new w2 3 [2, 1, 3]) (by omega) three_srt (by simp [Tr.pre])).mono ?_
  rintro e w3 ⟨A3, n3, c3, rfl, hps3, hb3, -⟩
  obtain rfl : n3 = 3 := hps3.len.symm
  have hbx3 : Below w2.heap.size w2 w3 := below_box hb3
  have HB3 := Lib.hid (below_on HB2.out hbx3)
  have HI3 := Lib.hid (HI2.out.below hbx3)
  have HP3 := Lib.hid hps3
  clear hb3 hps3 hbx3 HI2
  go_wp2_with fail
  refine (three_any w3).mono ?_
  rintro e w4 ⟨rfl, hpb, hb4⟩
  have HB4 := Lib.hid (below_on HB3.out hb4)
  have HI4 := Lib.hid (HI3.out.below hb4)
  have HP4 := Lib.hid (HP3.out.below hb4)
  have HQ4 := Lib.hid (hpb.ps (c := 3) (Nat.le_refl _))
  clear hb4 hpb HI3 HP3
  go_wp2_with fail
  refine (Turn_ok _ 3 3 2 three 3 w4 HQ4.out three_tree (by decide) (by omega) (by decide)).mono ?_
  rw [three_turn]
  rintro e w5 ⟨A5, n5, c5, rfl, hps5, hb5, -⟩
  obtain rfl : n5 = 3 := hps5.len.symm
  have HB5 := Lib.hid (below_on HB4.out hb5)
  have HI5 := Lib.hid (HI4.out.below hb5)
  have HP5 := Lib.hid (HP4.out.below hb5)
  have HQ5 := Lib.hid hps5
  clear hb5 hps5 HI4 HP4 HQ4
  go_wp2_with fail
  refine (ok_any _ 3 3 [0, 0, 0] _ (is_new w5 23 [0, 0, 0]) (by omega) (by simp)).mono ?_
  rintro e w6 ⟨rfl, rfl⟩
  obtain ⟨o5, HO5⟩ : ∃ o5, Hid (o5 = Obj.cells #[I 0, I 0, I 0] 23) := ⟨_, Lib.hid rfl⟩
  go_wp2_with fail
  rw [← HO5.out]
  have hba : Below w5.heap.size w5 ((w5.alloc o5).alloc (.cells #[I 2, I 1, I 3] 3)) := ((Below.refl _ _).alloc (Nat.le_refl _) _).alloc (by simp) _
  have hnew : IS ((w5.alloc o5).alloc (.cells #[I 2, I 1, I 3] 3)) (some ⟨w5.heap.size + 1, 0, none⟩) 3 3 [2, 1, 3] := by
    rw [show w5.heap.size + 1 = (w5.alloc o5).heap.size by simp]
    exact is_new (w5.alloc o5) 3 [2, 1, 3]
  refine (eqInt_any A2 _ 3 3 c2 3 [2, 1, 3] [2, 1, 3] _ (HI5.out.below hba) hnew (by omega) (by omega)).mono ?_
  rintro e w7 ⟨rfl, hb7⟩
  have hbx7 : Below w5.heap.size w5 w7 := hba.trans (hb7.mono (by simp; omega))
  have HB7 := Lib.hid (below_on HB5.out hbx7)
  have HP7 := Lib.hid (HP5.out.below hbx7)
  have HQ7 := Lib.hid (HQ5.out.below hbx7)
  clear hb7 hbx7 hba hnew HI5 HP5 HQ5
  go_wp2_with fail
  refine (three_any w7).mono ?_
  rintro e w8 ⟨rfl, hpb, hb8⟩
  have HB8 := Lib.hid (below_on HB7.out hb8)
  have HP8 := Lib.hid (HP7.out.below hb8)
  have HQ8 := Lib.hid (HQ7.out.below hb8)
  have HT8 := Lib.hid (hpb.ps (c := 3) (Nat.le_refl _))
  clear hb8 hpb HP7 HQ7
  go_wp2_with fail
  refine (eqSpot_any A3 _ 3 3 c3 3 three three _ HP8.out HT8.out (by omega) (by omega)).mono ?_
  rintro e w9 ⟨rfl, hb9⟩
  have HB9 := Lib.hid (below_on HB8.out hb9)
  have HQ9 := Lib.hid (HQ8.out.below hb9)
  clear hb9 HP8 HQ8 HT8
  go_wp2_with fail
  refine (eqSpot_any A5 _ 3 3 c5 3 [(1, 2), (2, 1), (3, 0)] [(1, 2), (2, 1), (3, 0)] _ (HQ9.out.alloc _) ((PB.new w9 32 [(1, 2), (2, 1), (3, 0)]).ps (Nat.le_refl _)) (by omega) (by omega)).mono ?_
  rintro e wa ⟨rfl, hba⟩
  have HBA := Lib.hid (below_on HB9.out (below_box hba))
  clear hba HQ9
  go_wp2
  go_ret
  exact ⟨rfl, HBA.out⟩

end Go.Proofs.Ytgpbafalciccdaa
