/-
  heapLives: three keys with ranks.
-/
import Derived.Test.YtcjhglejmmphbaaHOf
import Derived.Test.YtcjhglejmmphbaaHLeast
import Derived.Test.YtcjhglejmmphbaaSEq
import Derived.Test.YtcjhglejmmphbaaThree
import Derived.Test.YtcjhglejmmphbaaEqT
namespace Go.Proofs.Ytcjhglejmmphbaa
open Go.RowKit

abbrev hT3 : Tr := .node (.node .nil 1 .nil) 2 (.node .nil 3 .nil)
theorem h_hp : Hp hT3 [(1, 4), (2, 9), (3, 4)] := by
  refine ⟨[(1, 4)], 9, [(3, 4)], rfl, ⟨[], 4, [], rfl, rfl, rfl, by simp, by simp⟩, ⟨[], 4, [], rfl, rfl, rfl, by simp, by simp⟩, by simp, by simp⟩
theorem h_chk : chk [(1, 4), (2, 9), (3, 4)] = 0 := by decide
theorem h_sp : hT3.sp 0 = gth := by decide
theorem h_near : nearL [3, 1, 2] = [-1, -1, 1] := by decide

theorem ok2_f (E F : Int) (t : Nat) (w : World) (h : E ≠ 0) : Calls Try.prog 24 #[.slice (some ⟨w.heap.size, 0, none⟩) 2 2] (w.alloc (.cells #[I E, I F] t)) fun e w' => e = .returned (.bool false) ∧ w' = w.alloc (.cells #[I E, I F] t) := by
  have hne : (E != 0) = true := by simpa using h
  have h0 : (w.alloc (.cells #[I E, I F] t)).cell? ⟨w.heap.size, 0, none⟩ = some (I E) := by simp
  go_enter Try.func24, Try.ntmps24
  go_wp2
  go_loop [7] (fun i => i = .int .i64 0) (fun i => 2 - (intOf i).toNat)
  case atStart => rfl
  case round =>
    subst hrel
    go_wp2
    go_ret
    exact ⟨rfl, rfl⟩

set_option maxRecDepth 100000 in
set_option maxHeartbeats 4000000 in
theorem heapLives_any (w : World) : Calls Try.prog 16 #[] w fun e w' => e = .returned (.bool true) ∧ Below w.heap.size w w' := by
  go_enter Try.func16, Try.ntmps16
  go_wp2_with fail
  refine (HOf_ok _ 3 3 [(1, 4), (2, 9), (3, 4)] hT3 _ ((PB.new w 37 [(1, 4), (2, 9), (3, 4)]).ps (Nat.le_refl _)) h_chk h_hp).mono ?_
  rw [h_sp]
  rintro e w1 ⟨A1, c1, rfl, hps1, hb1⟩
  have HB1 := Lib.hid (gbelow_box hb1)
  have HP1 := Lib.hid hps1
  clear hb1 hps1
  go_wp2_with fail
  refine (Least_ok _ 3 3 [3, 1, 2] _ (is_new w1 3 [3, 1, 2]) (by omega)).mono ?_
  rw [h_near]
  rintro e w2 ⟨A2, rfl, his2, hb2⟩
  have hbx2 : Below w1.heap.size w1 w2 := gbelow_box hb2
  have HB2 := Lib.hid (gbelow_on HB1.out hbx2)
  have HP2 := Lib.hid (HP1.out.below hbx2)
  have HI2 := Lib.hid his2
  clear hb2 hbx2 his2 HP1
  go_wp2_with fail
  refine (ok_any _ 2 2 [0, 0] _ (is_new w2 25 [0, 0]) (by omega) (by simp)).mono ?_
  rintro e w4 ⟨rfl, rfl⟩
  obtain ⟨o5, HO5⟩ : ∃ o5, Hid (o5 = Obj.cells #[I 0, I 0] 25) := ⟨_, Lib.hid rfl⟩
  go_wp2_with fail
  rw [← HO5.out]
  refine (gthree_any (w2.alloc o5)).mono ?_
  rintro e w5 ⟨rfl, hpb, hb5⟩
  have hbx5 : Below w2.heap.size w2 w5 := gbelow_box hb5
  have HB5 := Lib.hid (gbelow_on HB2.out hbx5)
  have HP5 := Lib.hid (HP2.out.below hbx5)
  have HI5 := Lib.hid (HI2.out.below hbx5)
  have HT5 : Hid (PS w5 (some ⟨w2.heap.size + 1, 0, none⟩) 3 3 gth) := by
    show PS _ _ _ _ _
    rw [show w2.heap.size + 1 = (w2.alloc o5).heap.size by simp]
    exact hpb.ps (Nat.le_refl _)
  clear hb5 hbx5 hpb HP2 HI2
  go_wp2_with fail
  refine (eqSpot_any A1 (some ⟨w2.heap.size + 1, 0, none⟩) 3 3 c1 3 gth gth w5 HP5.out HT5.out (by omega) (by omega)).mono ?_
  rintro e w6 ⟨rfl, hb6⟩
  have HB6 := Lib.hid (gbelow_on HB5.out hb6)
  have HI6 := Lib.hid (HI5.out.below hb6)
  clear hb6 HP5 HI5 HT5
  go_wp2_with fail
  refine (eqInt_t A2 _ 3 3 3 [-1, -1, 1] _ (HI6.out.alloc _) (is_new w6 3 [-1, -1, 1]) (by omega)).mono ?_
  rintro e w7 ⟨rfl, hb7⟩
  have HB7 := Lib.hid (gbelow_on HB6.out (gbelow_box hb7))
  clear hb7 HI6
  go_wp2
  go_ret
  exact ⟨rfl, HB7.out⟩

end Go.Proofs.Ytcjhglejmmphbaa
