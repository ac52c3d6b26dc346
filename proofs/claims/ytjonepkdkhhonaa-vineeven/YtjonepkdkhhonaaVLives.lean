/-
  vineLives.
-/
import Derived.Test.YtjonepkdkhhonaaVEvn
import Derived.Test.YtjonepkdkhhonaaThree
import Derived.Test.YtjonepkdkhhonaaSEq
namespace Go.Proofs.Ytjonepkdkhhonaa
open Go.RowKit

abbrev V3 : Tr := .node (.node .nil 1 .nil) 2 (.node .nil 3 .nil)
abbrev V4 : Tr := .node .nil 1 (.node .nil 2 (.node .nil 3 .nil))
theorem v3_tree : IsTree (V3.sp 0) := by
  refine ⟨by decide, ?_, V3, rfl⟩
  intro i hi
  have : i = 0 ∨ i = 1 := by simp [Tr.sp] at hi; omega
  rcases this with rfl | rfl <;> decide
theorem v4_tree : IsTree (V4.sp 0) := istree_ks (s := V4) (t := V3) v3_tree rfl
theorem v3_vks : vks V3 = [1] := rfl
theorem v4_evn : (evn 2 V4.ks).sp 0 = gth := rfl
theorem v4_up : (vks V4).length + evUp 2 3 = 1 := rfl

set_option maxRecDepth 100000 in
set_option maxHeartbeats 4000000 in
theorem vineLives_any (w : World) : Calls Try.prog 8 #[] w fun e w' => e = .returned (.bool true) ∧ Below w.heap.size w w' := by
  go_enter Try.func8, Try.ntmps8
  go_wp2_with fail
  refine (gthree_any w).mono ?_
  rintro e w1 ⟨rfl, hpb, hb1⟩
  have HB1 := Lib.hid hb1
  have HP1 := Lib.hid (hpb.ps (c := 3) (Nat.le_refl _))
  clear hb1 hpb
  go_wp2_with fail
  refine (Vine_ok _ 3 3 V3 w1 HP1.out v3_tree).mono ?_
  rw [v3_vks]
  rintro e w2 ⟨A2, c2, rfl, his2, hb2⟩
  have HB2 := Lib.hid (below_on HB1.out hb2)
  have HI2 := Lib.hid his2
  clear hb2 his2
  go_wp2_with fail
  refine (EvenV_ok _ 3 3 2 V4 _ ((PB.new w2 31 [(1, 0), (2, 1), (3, 2)]).ps (Nat.le_refl _)) v4_tree (by decide) (by decide)).mono ?_
  rw [v4_evn, v4_up]
  rintro e w3 ⟨A3, c3, rfl, hps3, hb3⟩
  have hbx3 : Below w2.heap.size w2 w3 := below_box hb3
  have HB3 := Lib.hid (below_on HB2.out hbx3)
  have HI3 := Lib.hid (HI2.out.below hbx3)
  have HP3 := Lib.hid hps3
  clear hb3 hps3 hbx3 HI2
  go_wp2_with fail
  refine (ok_any _ 2 2 [0, 0] _ (is_new w3 24 [0, 0]) (by omega) (by simp)).mono ?_
  rintro e w6 ⟨rfl, rfl⟩
  obtain ⟨o5, HO5⟩ : ∃ o5, Hid (o5 = Obj.cells #[I 0, I 0] 24) := ⟨_, Lib.hid rfl⟩
  go_wp2_with fail
  rw [← HO5.out]
  have hba : Below w3.heap.size w3 ((w3.alloc o5).alloc (.cells #[I 1] 3)) := ((Below.refl _ _).alloc (Nat.le_refl _) _).alloc (by simp) _
  have hnew : IS ((w3.alloc o5).alloc (.cells #[I 1] 3)) (some ⟨w3.heap.size + 1, 0, none⟩) 1 1 [1] := by
    rw [show w3.heap.size + 1 = (w3.alloc o5).heap.size by simp]
    exact is_new (w3.alloc o5) 3 [1]
  refine (eqInt_any A2 _ 1 1 c2 1 [1] [1] _ (HI3.out.below hba) hnew (by omega) (by omega)).mono ?_
  rintro e w7 ⟨rfl, hb7⟩
  have hbx7 : Below w3.heap.size w3 w7 := hba.trans (hb7.mono (by simp; omega))
  have HB7 := Lib.hid (below_on HB3.out hbx7)
  have HP7 := Lib.hid (HP3.out.below hbx7)
  clear hb7 hbx7 hba hnew HI3 HP3
  go_wp2_with fail
  refine (gthree_any w7).mono ?_
  rintro e w8 ⟨rfl, hpb, hb8⟩
  have HB8 := Lib.hid (below_on HB7.out hb8)
  have HP8 := Lib.hid (HP7.out.below hb8)
  have HT8 := Lib.hid (hpb.ps (c := 3) (Nat.le_refl _))
  clear hb8 hpb HP7
  go_wp2_with fail
  refine (eqSpot_any A3 _ 3 3 c3 3 gth gth _ HP8.out HT8.out (by omega) (by omega)).mono ?_
  rintro e w9 ⟨rfl, hb9⟩
  have HB9 := Lib.hid (below_on HB8.out hb9)
  clear hb9 HP8 HT8
  go_wp2
  go_ret
  exact ⟨rfl, HB9.out⟩

end Go.Proofs.Ytjonepkdkhhonaa
