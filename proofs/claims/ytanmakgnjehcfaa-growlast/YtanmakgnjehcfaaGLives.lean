/-
  growLives: three keys, the middle one first.
-/
import Derived.Test.YtanmakgnjehcfaaGRun
import Derived.Test.YtanmakgnjehcfaaGSort
import Derived.Test.YtanmakgnjehcfaaSEq
namespace Go.Proofs.Ytanmakgnjehcfaa
open Go.RowKit

theorem gbelow_box {w w1 : World} {o : Obj} (h : Below (w.alloc o).heap.size (w.alloc o) w1) : Below w.heap.size w w1 := ((Below.refl _ _).alloc (Nat.le_refl _) o).trans (h.mono (by simp))
theorem gbelow_on {w w1 w2 : World} (h : Below w.heap.size w w1) (h2 : Below w1.heap.size w1 w2) : Below w.heap.size w w2 := h.trans (h2.mono h.size)
abbrev gth : PL := [(1, 1), (2, 0), (3, 1)]
theorem g_of : (gro .nil [2, 1, 3]).sp 0 = gth := by decide
theorem g_unl1 : unl [2, 1, 3] = 0 := by decide
theorem g_unl2 : unl [2, 3, 1] = 0 := by decide
theorem g_qs : qs [2, 3, 1] = [1, 2, 3] := by simp [qs_cons, qs_nil, lo, hi]
theorem g_hel : hel [2, 3, 1] = 2 := by simp [hel_cons, hel_nil, lo, hi]
abbrev gops : List OP := [(1, 2, 0), (1, 1, 0), (1, 3, 0), (3, 2, 0)]
theorem g_run : (grT gops).sp 0 = [(1, 1), (3, 0)] := by decide
theorem g_os (w : World) : OS (w.alloc (.cells #[I 1, I 2, I 0, I 1, I 1, I 0, I 1, I 3, I 0, I 3, I 2, I 0] 61)) (some ⟨w.heap.size, 0, none⟩) 4 4 gops := by
  refine ⟨rfl, Nat.le_refl _, fun _ => ⟨w.heap.size, 0, rfl, by simp, fun i hi j hj => ?_⟩⟩
  have h1 : i = 0 ∨ i = 1 ∨ i = 2 ∨ i = 3 := by omega
  have h2 : j = 0 ∨ j = 1 ∨ j = 2 := by omega
  rcases h1 with rfl | rfl | rfl | rfl <;> rcases h2 with rfl | rfl | rfl <;> simp [of_]

theorem gthree_any (w : World) : Calls Try.prog 35 #[] w fun e w' => e = .returned (.slice (some ⟨w.heap.size, 0, none⟩) 3 3) ∧ PB w' w.heap.size 53 gth ∧ Below w.heap.size w w' := by
  go_enter Try.func35, Try.ntmps35
  go_wp2
  go_ret
  exact ⟨rfl, PB.new w 53 gth, (Below.refl _ _).alloc (Nat.le_refl _) _⟩

set_option maxRecDepth 100000 in
set_option maxHeartbeats 4000000 in
theorem growLives_any (w : World) : Calls Try.prog 20 #[] w fun e w' => e = .returned (.bool true) ∧ Below w.heap.size w w' := by
  go_enter Try.func20, Try.ntmps20
  go_wp2_with fail
  refine (GOf_ok _ 3 3 [2, 1, 3] _ (is_new w 3 [2, 1, 3]) g_unl1).mono ?_
  rw [g_of]
  rintro e w1 ⟨A1, n1, c1, rfl, hps1, hb1⟩
  obtain rfl : n1 = 3 := hps1.len.symm
  have HB1 := Lib.hid (gbelow_box hb1)
  have HP1 := Lib.hid hps1
  clear hb1 hps1
  go_wp2_with fail
  refine (Sort_ok _ 3 3 [2, 3, 1] _ (is_new w1 3 [2, 3, 1]) g_unl2).mono ?_
  rw [g_qs, g_hel]
  rintro e w2 ⟨A2, n2, c2, rfl, his2, hb2⟩
  obtain rfl : n2 = 3 := his2.len.symm
  have hbx2 : Below w1.heap.size w1 w2 := gbelow_box hb2
  have HB2 := Lib.hid (gbelow_on HB1.out hbx2)
  have HP2 := Lib.hid (HP1.out.below hbx2)
  have HI2 := Lib.hid his2
  clear hb2 hbx2 his2 HP1
  go_wp2_with fail
  refine (GRun_any _ 4 4 gops _ (g_os w2) (by omega)).mono ?_
  rw [g_run]
  rintro e w3 ⟨A3, n3, c3, A4, n4, c4, rfl, hps3, _, hb3⟩
  obtain rfl : n3 = 2 := hps3.len.symm
  have hbx3 : Below w2.heap.size w2 w3 := gbelow_box hb3
  have HB3 := Lib.hid (gbelow_on HB2.out hbx3)
  have HP3 := Lib.hid (HP2.out.below hbx3)
  have HI3 := Lib.hid (HI2.out.below hbx3)
  have HQ3 := Lib.hid hps3
  clear hb3 hbx3 hps3 HP2 HI2
  go_wp2_with fail
  refine (ok_any _ 3 3 [0, 0, 0] _ (is_new w3 26 [0, 0, 0]) (by omega) (by simp)).mono ?_
  rintro e w4 ⟨rfl, rfl⟩
  obtain ⟨o5, HO5⟩ : ∃ o5, Hid (o5 = Obj.cells #[I 0, I 0, I 0] 26) := ⟨_, Lib.hid rfl⟩
  go_wp2_with fail
  rw [← HO5.out]
  refine (gthree_any (w3.alloc o5)).mono ?_
  rintro e w5 ⟨rfl, hpb, hb5⟩
  have hbx5 : Below w3.heap.size w3 w5 := gbelow_box hb5
  have HB5 := Lib.hid (gbelow_on HB3.out hbx5)
  have HP5 := Lib.hid (HP3.out.below hbx5)
  have HI5 := Lib.hid (HI3.out.below hbx5)
  have HQ5 := Lib.hid (HQ3.out.below hbx5)
  have HT5 : Hid (PS w5 (some ⟨w3.heap.size + 1, 0, none⟩) 3 3 gth) := by
    show PS _ _ _ _ _
    rw [show w3.heap.size + 1 = (w3.alloc o5).heap.size by simp]
    exact hpb.ps (Nat.le_refl _)
  clear hb5 hbx5 hpb HP3 HI3 HQ3
  go_wp2_with fail
  refine (eqSpot_any A1 (some ⟨w3.heap.size + 1, 0, none⟩) 3 3 c1 3 gth gth w5 HP5.out HT5.out (by omega) (by omega)).mono ?_
  rintro e w6 ⟨rfl, hb6⟩
  have HB6 := Lib.hid (gbelow_on HB5.out hb6)
  have HI6 := Lib.hid (HI5.out.below hb6)
  have HQ6 := Lib.hid (HQ5.out.below hb6)
  clear hb6 HP5 HI5 HQ5 HT5
  go_wp2_with fail
  refine (eqInt_any A2 _ 3 3 c2 3 [1, 2, 3] [1, 2, 3] _ (HI6.out.alloc _) (is_new w6 3 [1, 2, 3]) (by omega) (by omega)).mono ?_
  rintro e w7 ⟨rfl, hb7⟩
  have hbx7 : Below w6.heap.size w6 w7 := gbelow_box hb7
  have HB7 := Lib.hid (gbelow_on HB6.out hbx7)
  have HQ7 := Lib.hid (HQ6.out.below hbx7)
  clear hb7 hbx7 HI6 HQ6
  go_wp2_with fail
  refine (eqSpot_any A3 _ 2 2 c3 2 [(1, 1), (3, 0)] [(1, 1), (3, 0)] _ (HQ7.out.alloc _) ((PB.new w7 53 [(1, 1), (3, 0)]).ps (Nat.le_refl _)) (by omega) (by omega)).mono ?_
  rintro e w8 ⟨rfl, hb8⟩
  have HB8 := Lib.hid (gbelow_on HB7.out (gbelow_box hb8))
  clear hb8 HQ7
  go_wp2
  go_ret
  exact ⟨rfl, HB8.out⟩

end Go.Proofs.Ytanmakgnjehcfaa
