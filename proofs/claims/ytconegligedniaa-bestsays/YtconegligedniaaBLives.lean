/-
  bestLives.
-/
import Derived.Test.YtconegligedniaaBTree
import Derived.Test.YtconegligedniaaBCost
import Derived.Test.YtconegligedniaaCopy
namespace Go.Proofs.Ytconegligedniaa
open Go.RowKit

abbrev B3 : Tr := .node (.node .nil 0 .nil) 1 (.node .nil 2 .nil)
theorem b3_in : InB [1, 5, 1] [0, 0, 0, 0] 3 := ⟨rfl, rfl, by omega, by decide, by decide⟩
theorem b3_tree : (bt (wij [1, 5, 1] [0, 0, 0, 0]) 20 0 3).sp 0 = [(0, 1), (1, 0), (2, 1)] := by decide +kernel
theorem b3_cost : lc (wij [1, 5, 1] [0, 0, 0, 0]) 0 3 = 9 := by decide +kernel
theorem b3_rng : Rng B3 0 3 := ⟨by decide, ⟨by decide, rfl, rfl⟩, ⟨by decide, rfl, rfl⟩⟩
theorem b3_sp : B3.sp 0 = [(0, 1), (1, 0), (2, 1)] := rfl
theorem b3_ask : B3.ask [1, 5, 1] [0, 0, 0, 0] 0 0 = 9 := by decide +kernel

theorem tree3_any (A A' : Option Addr) (c c' : Nat) (w : World) (h : IS w A 3 c [1, 5, 1]) (h' : IS w A' 4 c' [0, 0, 0, 0]) :
    Calls Try.prog 9 #[.slice A 3 c, .slice A' 4 c'] w fun e w' => ∃ A2 c2, e = .returned (.tuple #[.slice A2 3 c2, I 9, I 0]) ∧ PS w' A2 3 c2 [(0, 1), (1, 0), (2, 1)] ∧ Below w.heap.size w w' :=
  (TreeB_ok A A' 3 c c' _ _ w h h' b3_in).mono fun e w' hr => by
    obtain ⟨A2, c2, he, hp, hb⟩ := hr
    rw [b3_cost] at he
    rw [b3_tree] at hp
    exact ⟨A2, c2, he, hp, hb⟩
theorem cost3_any (A1 A A' : Option Addr) (c1 c c' : Nat) (w : World) (h1 : PS w A1 3 c1 [(0, 1), (1, 0), (2, 1)]) (h : IS w A 3 c [1, 5, 1]) (h' : IS w A' 4 c' [0, 0, 0, 0]) :
    Calls Try.prog 8 #[.slice A1 3 c1, .slice A 3 c, .slice A' 4 c'] w fun e w' => e = .returned (.tuple #[I 9, I 0]) ∧ Below w.heap.size w w' :=
  (Cost_ok A1 A A' c1 3 c c' B3 _ _ w (by rw [b3_sp]; exact h1) h h' b3_in b3_rng).mono fun e w' hr => by
    rw [b3_ask] at hr
    exact hr

set_option maxRecDepth 100000 in
set_option maxHeartbeats 4000000 in
theorem bestLives_any (w : World) : Calls Try.prog 19 #[] w fun e w' => e = .returned (.bool true) ∧ Below w.heap.size w w' := by
  obtain ⟨o1, HO1⟩ : ∃ o1, Hid (o1 = Obj.cells #[I 1, I 5, I 1] 3) := ⟨_, Lib.hid rfl⟩
  obtain ⟨o2, HO2⟩ : ∃ o2, Hid (o2 = Obj.cells #[I 0, I 0, I 0, I 0] 3) := ⟨_, Lib.hid rfl⟩
  obtain ⟨o3, HO3⟩ : ∃ o3, Hid (o3 = Obj.cells #[I 0, I 1, I 1, I 0, I 2, I 1] 42) := ⟨_, Lib.hid rfl⟩
  have HIS1 : Hid (∀ W : World, IS (W.alloc o1) (some ⟨W.heap.size, 0, none⟩) 3 3 [1, 5, 1]) := fun W => by rw [HO1.out]; exact is_new W 3 [1, 5, 1]
  have HIS2 : Hid (∀ W : World, IS (W.alloc o2) (some ⟨W.heap.size, 0, none⟩) 4 4 [0, 0, 0, 0]) := fun W => by rw [HO2.out]; exact is_new W 3 [0, 0, 0, 0]
  have HPS3 : Hid (∀ W : World, PS (W.alloc o3) (some ⟨W.heap.size, 0, none⟩) 3 3 [(0, 1), (1, 0), (2, 1)]) := fun W => by rw [HO3.out]; exact (PB.new W 42 [(0, 1), (1, 0), (2, 1)]).ps (Nat.le_refl _)
  go_enter Try.func19, Try.ntmps19
  go_wp2_with fail
  rw [← HO1.out, ← HO2.out]
  have i1 : IS ((w.alloc o1).alloc o2) (some ⟨w.heap.size, 0, none⟩) 3 3 [1, 5, 1] := (HIS1.out w).alloc o2
  have i2 : IS ((w.alloc o1).alloc o2) (some ⟨w.heap.size + 1, 0, none⟩) 4 4 [0, 0, 0, 0] := by have := HIS2.out (w.alloc o1); simpa using this
  have hb0 : Below w.heap.size w ((w.alloc o1).alloc o2) := ((Below.refl _ _).alloc (Nat.le_refl _) _).alloc (by simp) _
  have HT := Lib.hid (tree3_any _ _ 3 4 _ i1 i2)
  have HB0 := Lib.hid hb0
  clear i1 i2 hb0
  generalize (w.alloc o1).alloc o2 = w1 at *
  refine HT.out.mono ?_
  rintro e w2 ⟨A2, c2, rfl, hps2, hb2⟩
  have HB2 := Lib.hid (HB0.out.trans (hb2.mono HB0.out.size))
  have HP2 := Lib.hid hps2
  clear hb2 hps2
  go_wp2_with fail
  rw [← HO1.out, ← HO2.out, ← HO3.out]
  have j3 : PS (((w2.alloc o3).alloc o1).alloc o2) (some ⟨w2.heap.size, 0, none⟩) 3 3 [(0, 1), (1, 0), (2, 1)] := ((HPS3.out w2).alloc o1).alloc o2
  have j1 : IS (((w2.alloc o3).alloc o1).alloc o2) (some ⟨w2.heap.size + 1, 0, none⟩) 3 3 [1, 5, 1] := by have := (HIS1.out (w2.alloc o3)).alloc o2; simpa using this
  have j2 : IS (((w2.alloc o3).alloc o1).alloc o2) (some ⟨w2.heap.size + 2, 0, none⟩) 4 4 [0, 0, 0, 0] := by have := HIS2.out ((w2.alloc o3).alloc o1); simpa using this
  have hb3 : Below w2.heap.size w2 (((w2.alloc o3).alloc o1).alloc o2) := (((Below.refl _ _).alloc (Nat.le_refl _) _).alloc (by simp) _).alloc (by simp; omega) _
  have HC := Lib.hid (cost3_any _ _ _ 3 3 4 _ j3 j1 j2)
  have HB3 := Lib.hid (HB2.out.trans (hb3.mono HB2.out.size))
  have HP3 := Lib.hid (HP2.out.below hb3)
  clear j1 j2 j3 hb3 HP2
  generalize ((w2.alloc o3).alloc o1).alloc o2 = w3 at *
  refine HC.out.mono ?_
  rintro e w4 ⟨rfl, hb4⟩
  have HB4 := Lib.hid (HB3.out.trans (hb4.mono HB3.out.size))
  have HP4 := Lib.hid (HP3.out.below hb4)
  clear hb4 HP3
  go_wp2_with fail
  refine (ok_any _ 2 2 [0, 0] _ (is_new w4 24 [0, 0]) (by omega) (by simp)).mono ?_
  rintro e w5 ⟨rfl, rfl⟩
  have hp5 := HP4.out.alloc (.cells #[I 0, I 0] 24)
  obtain ⟨b, off, hA, hb, hc⟩ := hp5.dat (by omega)
  subst hA
  have c0 := (hc 1 (by omega)).1
  have c1 := (hc 1 (by omega)).2
  have e0 : ky [(0, 1), (1, 0), (2, 1)] 1 = 1 := rfl
  have e1 : dp [(0, 1), (1, 0), (2, 1)] 1 = 0 := rfl
  rw [e0] at c0
  rw [e1] at c1
  have HB5 : Hid (Below w.heap.size w (w4.alloc (.cells #[I 0, I 0] 24))) := HB4.out.alloc HB4.out.size _
  clear hp5 hc e0 e1
  go_wp2
  go_ret
  exact ⟨rfl, HB5.out⟩

end Go.Proofs.Ytconegligedniaa
