/-
  package hands: a deed begins, of each of the four ways. Written by tools/gen_jbegin.py.
-/
import Derived.Test.YtfmdpmebllepeaaJEnv
namespace Go.Proofs.Ytfmdpmebllepeaa
open Go.RowKit

section
variable {base B nh v : Nat} {kd K : Int} {ad : Nat → Nat} {s : Bs} {lk : Nat → Bool} {hs : Nat → Nat → Value} {hm : Nat → Value} {w : World}

set_option maxRecDepth 100000 in
set_option maxHeartbeats 4000000 in
theorem wayO_any (h : ST base B nh v kd K ad s lk hs hm w) : Calls Try.prog 24 #[.pointer (some ⟨B, v * 9, none⟩)] w (RetB 1 base B nh v kd K ad s lk hs hm w) := by
  have H := Lib.hid h
  have hsz := h.js.szb
  have c7 : ∀ (o0 o1 o2 : Obj), (((w.alloc o0).alloc o1).alloc o2).cell? ⟨B, v * 9 + 7, none⟩ = some (hm 7) := fun o0 o1 o2 => (((h.alloc o0).alloc o1).alloc o2).hand (by omega)
  have f7 : ∀ (o0 o1 o2 : Obj), (((w.alloc o0).alloc o1).alloc o2).frozen? ⟨B, v * 9 + 7, none⟩ = false := fun o0 o1 o2 => (((h.alloc o0).alloc o1).alloc o2).hfroz _
  have hB := h.js.h.lt
  clear h
  go_enter Try.func24, Try.ntmps24
  go_wp2
  go_end0
  have b1 := HBox.newz w (.pointer (some ⟨B, v * 9, none⟩)) (z := w.heap.size) rfl
  have hx2 := (JX.start H.out).alloc (.cells #[(.pointer (some ⟨B, v * 9, none⟩))] 75)
  have b3 := b1.alloc (.cells #[.nilFunc] 1)
  have b4 := FBox.newz (w.alloc (.cells #[(.pointer (some ⟨B, v * 9, none⟩))] 75)) .nilFunc (z := w.heap.size + 1) (by simp)
  have hx5 := hx2.alloc (.cells #[.nilFunc] 1)
  have b6 := b3.alloc (.cells #[.nilFunc] 1)
  have b7 := b4.alloc (.cells #[.nilFunc] 1)
  have b8 := FBox.newz ((w.alloc (.cells #[(.pointer (some ⟨B, v * 9, none⟩))] 75)).alloc (.cells #[.nilFunc] 1)) .nilFunc (z := w.heap.size + 1 + 1) (by simp)
  have hx9 := hx5.alloc (.cells #[.nilFunc] 1)
  have b10 := b6.far (p := ⟨B, v * 9 + 7, none⟩) (by show _ ≠ B; omega) (fO1 w.heap.size (w.heap.size + 1))
  have b11 := b7.far (p := ⟨B, v * 9 + 7, none⟩) (by show _ ≠ B; omega) (fO1 w.heap.size (w.heap.size + 1))
  have b12 := b8.far (p := ⟨B, v * 9 + 7, none⟩) (by show _ ≠ B; omega) (fO1 w.heap.size (w.heap.size + 1))
  have hx13 := hx9.fld (i := 7) (by omega) (by omega) (fO1 w.heap.size (w.heap.size + 1))
  have hx14 := hx13.fset (by omega) hsz b11 (fO2 w.heap.size (w.heap.size + 1 + 1))
  have b15 := b10.far (p := ⟨w.heap.size + 1, 0, none⟩) (by show _ ≠ w.heap.size + 1; omega) (fO2 w.heap.size (w.heap.size + 1 + 1))
  have b16 := b11.set (fO2 w.heap.size (w.heap.size + 1 + 1))
  have b17 := b12.far (p := ⟨w.heap.size + 1, 0, none⟩) (by show _ ≠ w.heap.size + 1; omega) (fO2 w.heap.size (w.heap.size + 1 + 1))
  have hx18 := hx14.fset (by omega) hsz b17 (fO3 w.heap.size (w.heap.size + 1))
  have b19 := b15.far (p := ⟨w.heap.size + 1 + 1, 0, none⟩) (by show _ ≠ w.heap.size + 1 + 1; omega) (fO3 w.heap.size (w.heap.size + 1))
  have b20 := b16.far (p := ⟨w.heap.size + 1 + 1, 0, none⟩) (by show _ ≠ w.heap.size + 1 + 1; omega) (fO3 w.heap.size (w.heap.size + 1))
  have b21 := b17.set (fO3 w.heap.size (w.heap.size + 1))
  exact ⟨_, ⟨rfl, hx18.1, hx18.2⟩, NX.of1 ⟨_, _, _, ⟨b19, b20, b21⟩, rfl⟩⟩

set_option maxRecDepth 100000 in
set_option maxHeartbeats 4000000 in
theorem wayL_any (h : ST base B nh v kd K ad s lk hs hm w) : Calls Try.prog 25 #[.pointer (some ⟨B, v * 9, none⟩)] w (RetB 2 base B nh v kd K ad s lk hs hm w) := by
  have H := Lib.hid h
  have hsz := h.js.szb
  have c7 : ∀ (o0 o1 o2 o3 o4 : Obj), (((((w.alloc o0).alloc o1).alloc o2).alloc o3).alloc o4).cell? ⟨B, v * 9 + 7, none⟩ = some (hm 7) := fun o0 o1 o2 o3 o4 => (((((h.alloc o0).alloc o1).alloc o2).alloc o3).alloc o4).hand (by omega)
  have f7 : ∀ (o0 o1 o2 o3 o4 : Obj), (((((w.alloc o0).alloc o1).alloc o2).alloc o3).alloc o4).frozen? ⟨B, v * 9 + 7, none⟩ = false := fun o0 o1 o2 o3 o4 => (((((h.alloc o0).alloc o1).alloc o2).alloc o3).alloc o4).hfroz _
  have hB := h.js.h.lt
  clear h
  go_enter Try.func25, Try.ntmps25
  go_wp2
  go_end0
  have b1 := HBox.newz w (.pointer (some ⟨B, v * 9, none⟩)) (z := w.heap.size) rfl
  have hx2 := (JX.start H.out).alloc (.cells #[(.pointer (some ⟨B, v * 9, none⟩))] 75)
  have b3 := b1.alloc (.cells #[.nilFunc] 1)
  have b4 := FBox.newz (w.alloc (.cells #[(.pointer (some ⟨B, v * 9, none⟩))] 75)) .nilFunc (z := w.heap.size + 1) (by simp)
  have hx5 := hx2.alloc (.cells #[.nilFunc] 1)
  have b6 := b3.alloc (.cells #[.nilFunc] 1)
  have b7 := b4.alloc (.cells #[.nilFunc] 1)
  have b8 := FBox.newz ((w.alloc (.cells #[(.pointer (some ⟨B, v * 9, none⟩))] 75)).alloc (.cells #[.nilFunc] 1)) .nilFunc (z := w.heap.size + 1 + 1) (by simp)
  have hx9 := hx5.alloc (.cells #[.nilFunc] 1)
  have b10 := b6.alloc (.cells #[.nilFunc] 1)
  have b11 := b7.alloc (.cells #[.nilFunc] 1)
  have b12 := b8.alloc (.cells #[.nilFunc] 1)
  have b13 := FBox.newz (((w.alloc (.cells #[(.pointer (some ⟨B, v * 9, none⟩))] 75)).alloc (.cells #[.nilFunc] 1)).alloc (.cells #[.nilFunc] 1)) .nilFunc (z := w.heap.size + 1 + 1 + 1) (by simp)
  have hx14 := hx9.alloc (.cells #[.nilFunc] 1)
  have b15 := b10.alloc (.cells #[.nilFunc] 1)
  have b16 := b11.alloc (.cells #[.nilFunc] 1)
  have b17 := b12.alloc (.cells #[.nilFunc] 1)
  have b18 := b13.alloc (.cells #[.nilFunc] 1)
  have b19 := FBox.newz ((((w.alloc (.cells #[(.pointer (some ⟨B, v * 9, none⟩))] 75)).alloc (.cells #[.nilFunc] 1)).alloc (.cells #[.nilFunc] 1)).alloc (.cells #[.nilFunc] 1)) .nilFunc (z := w.heap.size + 1 + 1 + 1 + 1) (by simp)
  have hx20 := hx14.alloc (.cells #[.nilFunc] 1)
  have b21 := b15.far (p := ⟨B, v * 9 + 7, none⟩) (by show _ ≠ B; omega) (fL1 w.heap.size (w.heap.size + 1))
  have b22 := b16.far (p := ⟨B, v * 9 + 7, none⟩) (by show _ ≠ B; omega) (fL1 w.heap.size (w.heap.size + 1))
  have b23 := b17.far (p := ⟨B, v * 9 + 7, none⟩) (by show _ ≠ B; omega) (fL1 w.heap.size (w.heap.size + 1))
  have b24 := b18.far (p := ⟨B, v * 9 + 7, none⟩) (by show _ ≠ B; omega) (fL1 w.heap.size (w.heap.size + 1))
  have b25 := b19.far (p := ⟨B, v * 9 + 7, none⟩) (by show _ ≠ B; omega) (fL1 w.heap.size (w.heap.size + 1))
  have hx26 := hx20.fld (i := 7) (by omega) (by omega) (fL1 w.heap.size (w.heap.size + 1))
  have hx27 := hx26.fset (by omega) hsz b22 (fL2 w.heap.size (w.heap.size + 1 + 1))
  have b28 := b21.far (p := ⟨w.heap.size + 1, 0, none⟩) (by show _ ≠ w.heap.size + 1; omega) (fL2 w.heap.size (w.heap.size + 1 + 1))
  have b29 := b22.set (fL2 w.heap.size (w.heap.size + 1 + 1))
  have b30 := b23.far (p := ⟨w.heap.size + 1, 0, none⟩) (by show _ ≠ w.heap.size + 1; omega) (fL2 w.heap.size (w.heap.size + 1 + 1))
  have b31 := b24.far (p := ⟨w.heap.size + 1, 0, none⟩) (by show _ ≠ w.heap.size + 1; omega) (fL2 w.heap.size (w.heap.size + 1 + 1))
  have b32 := b25.far (p := ⟨w.heap.size + 1, 0, none⟩) (by show _ ≠ w.heap.size + 1; omega) (fL2 w.heap.size (w.heap.size + 1 + 1))
  have hx33 := hx27.fset (by omega) hsz b30 (fL3 w.heap.size (w.heap.size + 1 + 1 + 1))
  have b34 := b28.far (p := ⟨w.heap.size + 1 + 1, 0, none⟩) (by show _ ≠ w.heap.size + 1 + 1; omega) (fL3 w.heap.size (w.heap.size + 1 + 1 + 1))
  have b35 := b29.far (p := ⟨w.heap.size + 1 + 1, 0, none⟩) (by show _ ≠ w.heap.size + 1 + 1; omega) (fL3 w.heap.size (w.heap.size + 1 + 1 + 1))
  have b36 := b30.set (fL3 w.heap.size (w.heap.size + 1 + 1 + 1))
  have b37 := b31.far (p := ⟨w.heap.size + 1 + 1, 0, none⟩) (by show _ ≠ w.heap.size + 1 + 1; omega) (fL3 w.heap.size (w.heap.size + 1 + 1 + 1))
  have b38 := b32.far (p := ⟨w.heap.size + 1 + 1, 0, none⟩) (by show _ ≠ w.heap.size + 1 + 1; omega) (fL3 w.heap.size (w.heap.size + 1 + 1 + 1))
  have hx39 := hx33.fset (by omega) hsz b37 (fL4 w.heap.size (w.heap.size + 1 + 1 + 1 + 1))
  have b40 := b34.far (p := ⟨w.heap.size + 1 + 1 + 1, 0, none⟩) (by show _ ≠ w.heap.size + 1 + 1 + 1; omega) (fL4 w.heap.size (w.heap.size + 1 + 1 + 1 + 1))
  have b41 := b35.far (p := ⟨w.heap.size + 1 + 1 + 1, 0, none⟩) (by show _ ≠ w.heap.size + 1 + 1 + 1; omega) (fL4 w.heap.size (w.heap.size + 1 + 1 + 1 + 1))
  have b42 := b36.far (p := ⟨w.heap.size + 1 + 1 + 1, 0, none⟩) (by show _ ≠ w.heap.size + 1 + 1 + 1; omega) (fL4 w.heap.size (w.heap.size + 1 + 1 + 1 + 1))
  have b43 := b37.set (fL4 w.heap.size (w.heap.size + 1 + 1 + 1 + 1))
  have b44 := b38.far (p := ⟨w.heap.size + 1 + 1 + 1, 0, none⟩) (by show _ ≠ w.heap.size + 1 + 1 + 1; omega) (fL4 w.heap.size (w.heap.size + 1 + 1 + 1 + 1))
  have hx45 := hx39.fset (by omega) hsz b44 (fL5 w.heap.size)
  have b46 := b40.far (p := ⟨w.heap.size + 1 + 1 + 1 + 1, 0, none⟩) (by show _ ≠ w.heap.size + 1 + 1 + 1 + 1; omega) (fL5 w.heap.size)
  have b47 := b41.far (p := ⟨w.heap.size + 1 + 1 + 1 + 1, 0, none⟩) (by show _ ≠ w.heap.size + 1 + 1 + 1 + 1; omega) (fL5 w.heap.size)
  have b48 := b42.far (p := ⟨w.heap.size + 1 + 1 + 1 + 1, 0, none⟩) (by show _ ≠ w.heap.size + 1 + 1 + 1 + 1; omega) (fL5 w.heap.size)
  have b49 := b43.far (p := ⟨w.heap.size + 1 + 1 + 1 + 1, 0, none⟩) (by show _ ≠ w.heap.size + 1 + 1 + 1 + 1; omega) (fL5 w.heap.size)
  have b50 := b44.set (fL5 w.heap.size)
  exact ⟨_, ⟨rfl, hx45.1, hx45.2⟩, NX.of2 ⟨_, _, _, _, _, ⟨b46, b47, b48, b49, b50⟩, rfl⟩⟩

/-- behind withoutLocks -/
def RetW (base B nh v : Nat) (kd K : Int) (ad : Nat → Nat) (s : Bs) (lk : Nat → Bool) (hs : Nat → Nat → Value) (hm : Nat → Value) (fa fc : Value) (w : World) (e : Ending) (w' : World) : Prop :=
  ∃ hb ab cb lb, RetJ base B nh v kd K ad s lk hs (upd hm 7 (fW2 hb lb)) w e w' ∧ EnvW w' (.pointer (some ⟨B, v * 9, none⟩)) hb ab cb lb fa fc

set_option maxRecDepth 100000 in
set_option maxHeartbeats 4000000 in
theorem without_any (h : ST base B nh v kd K ad s lk hs hm w) (na nc : Nat) (ca cc : Array Value) : Calls Try.prog 67 #[.pointer (some ⟨B, v * 9, none⟩), .func (.func na) #[] ca, .func (.func nc) #[] cc] w (RetW base B nh v kd K ad s lk hs hm (.func (.func na) #[] ca) (.func (.func nc) #[] cc) w) := by
  have H := Lib.hid h
  have hsz := h.js.szb
  have c7 : ∀ (o0 o1 o2 o3 : Obj), ((((w.alloc o0).alloc o1).alloc o2).alloc o3).cell? ⟨B, v * 9 + 7, none⟩ = some (hm 7) := fun o0 o1 o2 o3 => ((((h.alloc o0).alloc o1).alloc o2).alloc o3).hand (by omega)
  have f7 : ∀ (o0 o1 o2 o3 : Obj), ((((w.alloc o0).alloc o1).alloc o2).alloc o3).frozen? ⟨B, v * 9 + 7, none⟩ = false := fun o0 o1 o2 o3 => ((((h.alloc o0).alloc o1).alloc o2).alloc o3).hfroz _
  have hB := h.js.h.lt
  clear h
  go_enter Try.func67, Try.ntmps67
  go_wp2
  go_end0
  have b1 := HBox.newz w (.pointer (some ⟨B, v * 9, none⟩)) (z := w.heap.size) rfl
  have hx2 := (JX.start H.out).alloc (.cells #[(.pointer (some ⟨B, v * 9, none⟩))] 75)
  have b3 := b1.alloc (.cells #[(.func (.func na) #[] ca)] 1)
  have b4 := FBox.newz (w.alloc (.cells #[(.pointer (some ⟨B, v * 9, none⟩))] 75)) (.func (.func na) #[] ca) (z := w.heap.size + 1) (by simp)
  have hx5 := hx2.alloc (.cells #[(.func (.func na) #[] ca)] 1)
  have b6 := b3.alloc (.cells #[(.func (.func nc) #[] cc)] 1)
  have b7 := b4.alloc (.cells #[(.func (.func nc) #[] cc)] 1)
  have b8 := FBox.newz ((w.alloc (.cells #[(.pointer (some ⟨B, v * 9, none⟩))] 75)).alloc (.cells #[(.func (.func na) #[] ca)] 1)) (.func (.func nc) #[] cc) (z := w.heap.size + 1 + 1) (by simp)
  have hx9 := hx5.alloc (.cells #[(.func (.func nc) #[] cc)] 1)
  have b10 := b6.alloc (.cells #[(fW1 w.heap.size (w.heap.size + 1) (w.heap.size + 1 + 1))] 1)
  have b11 := b7.alloc (.cells #[(fW1 w.heap.size (w.heap.size + 1) (w.heap.size + 1 + 1))] 1)
  have b12 := b8.alloc (.cells #[(fW1 w.heap.size (w.heap.size + 1) (w.heap.size + 1 + 1))] 1)
  have b13 := FBox.newz (((w.alloc (.cells #[(.pointer (some ⟨B, v * 9, none⟩))] 75)).alloc (.cells #[(.func (.func na) #[] ca)] 1)).alloc (.cells #[(.func (.func nc) #[] cc)] 1)) (fW1 w.heap.size (w.heap.size + 1) (w.heap.size + 1 + 1)) (z := w.heap.size + 1 + 1 + 1) (by simp)
  have hx14 := hx9.alloc (.cells #[(fW1 w.heap.size (w.heap.size + 1) (w.heap.size + 1 + 1))] 1)
  have b15 := b10.far (p := ⟨B, v * 9 + 7, none⟩) (by show _ ≠ B; omega) (fW2 w.heap.size (w.heap.size + 1 + 1 + 1))
  have b16 := b11.far (p := ⟨B, v * 9 + 7, none⟩) (by show _ ≠ B; omega) (fW2 w.heap.size (w.heap.size + 1 + 1 + 1))
  have b17 := b12.far (p := ⟨B, v * 9 + 7, none⟩) (by show _ ≠ B; omega) (fW2 w.heap.size (w.heap.size + 1 + 1 + 1))
  have b18 := b13.far (p := ⟨B, v * 9 + 7, none⟩) (by show _ ≠ B; omega) (fW2 w.heap.size (w.heap.size + 1 + 1 + 1))
  have hx19 := hx14.fld (i := 7) (by omega) (by omega) (fW2 w.heap.size (w.heap.size + 1 + 1 + 1))
  exact ⟨_, _, _, _, ⟨rfl, hx19.1, hx19.2⟩, ⟨b15, b16, b17, b18⟩⟩

set_option maxRecDepth 100000 in
set_option maxHeartbeats 4000000 in
theorem wayM_any (h : ST base B nh v kd K ad s lk hs hm w) : Calls Try.prog 26 #[.pointer (some ⟨B, v * 9, none⟩)] w (RetB 3 base B nh v kd K ad s lk hs hm w) := by
  have H := Lib.hid h
  have hsz := h.js.szb
  have c7 : w.cell? ⟨B, v * 9 + 7, none⟩ = some (hm 7) := h.hand (by omega)
  have f7 : w.frozen? ⟨B, v * 9 + 7, none⟩ = false := h.hfroz _
  have hB := h.js.h.lt
  clear h
  have b1 := HBox.newz w (.pointer (some ⟨B, v * 9, none⟩)) (z := w.heap.size) rfl
  have hx2 := (JX.start H.out).alloc (.cells #[(.pointer (some ⟨B, v * 9, none⟩))] 75)
  have b3 := b1.alloc (.cells #[(fM2 w.heap.size)] 1)
  have b4 := FBox.newz (w.alloc (.cells #[(.pointer (some ⟨B, v * 9, none⟩))] 75)) (fM2 w.heap.size) (z := w.heap.size + 1) (by simp)
  have hx5 := hx2.alloc (.cells #[(fM2 w.heap.size)] 1)
  have HX := Lib.hid hx5
  have HB0 := Lib.hid b3
  have HB1 := Lib.hid b4
  have HC := Lib.hid (without_any hx5.1 64 66 #[jp w.heap.size] #[jp w.heap.size, jp (w.heap.size + 1)])
  clear b1 hx2 b3 b4 hx5
  go_enter Try.func26, Try.ntmps26
  go_wp2_with fail
  refine HC.out.mono ?_
  rintro e w1 ⟨hb, ab, cb, lb, ⟨rfl, h1, hp1⟩, he1⟩
  have H1 := Lib.hid h1
  have HP1 := Lib.hid hp1
  have HE1 := Lib.hid he1
  clear h1 hp1 he1
  go_wp2
  go_end0
  exact ⟨_, ⟨rfl, H1.out, HX.out.2.trans HP1.out⟩, NX.of3 ⟨_, _, _, _, _, _, ⟨HB0.out.keep HP1.out, HB1.out.keep HP1.out, HE1.out⟩, rfl⟩⟩

set_option maxRecDepth 100000 in
set_option maxHeartbeats 4000000 in
theorem wayN_any (h : ST base B nh v kd K ad s lk hs hm w) : Calls Try.prog 27 #[.pointer (some ⟨B, v * 9, none⟩)] w (RetB 4 base B nh v kd K ad s lk hs hm w) := by
  have H := Lib.hid h
  have hsz := h.js.szb
  have c7 : w.cell? ⟨B, v * 9 + 7, none⟩ = some (hm 7) := h.hand (by omega)
  have f7 : w.frozen? ⟨B, v * 9 + 7, none⟩ = false := h.hfroz _
  have hB := h.js.h.lt
  clear h
  have b1 := HBox.newz w (.pointer (some ⟨B, v * 9, none⟩)) (z := w.heap.size) rfl
  have hx2 := (JX.start H.out).alloc (.cells #[(.pointer (some ⟨B, v * 9, none⟩))] 75)
  have HX := Lib.hid hx2
  have HB0 := Lib.hid b1
  have HC := Lib.hid (without_any hx2.1 68 69 #[jp w.heap.size] #[jp w.heap.size])
  clear b1 hx2
  go_enter Try.func27, Try.ntmps27
  go_wp2_with fail
  refine HC.out.mono ?_
  rintro e w1 ⟨hb, ab, cb, lb, ⟨rfl, h1, hp1⟩, he1⟩
  have H1 := Lib.hid h1
  have HP1 := Lib.hid hp1
  have HE1 := Lib.hid he1
  clear h1 hp1 he1
  go_wp2
  go_end0
  exact ⟨_, ⟨rfl, H1.out, HX.out.2.trans HP1.out⟩, NX.of4 ⟨_, _, _, _, _, ⟨HB0.out.keep HP1.out, HE1.out⟩, rfl⟩⟩

set_option maxRecDepth 100000 in
set_option maxHeartbeats 4000000 in
theorem beginO_any (h : ST base B nh v kd K ad s lk hs hm w) (h3 : hm 3 = fWay 1) : Calls Try.prog 62 #[.pointer (some ⟨B, v * 9, none⟩)] w (RetB 1 base B nh v kd K ad s lk hs hm w) := by
  have c3 := h.hand (i := 3) (by omega)
  rw [h3] at c3
  have c3' : w.cell? ⟨B, v * 9 + 3, none⟩ = some (.func (.func 24) #[] #[]) := c3
  have HC := Lib.hid (wayO_any h)
  clear h h3 c3
  go_enter Try.func62, Try.ntmps62
  go_wp2_with fail
  refine HC.out.mono ?_
  rintro e w1 ⟨f, ⟨rfl, h1, hp1⟩, hn⟩
  have H1 := Lib.hid h1
  have HP1 := Lib.hid hp1
  have HN := Lib.hid hn
  clear h1 hp1 hn
  go_wp2
  go_end0
  exact ⟨f, ⟨rfl, H1.out, HP1.out⟩, HN.out⟩
set_option maxRecDepth 100000 in
set_option maxHeartbeats 4000000 in
theorem beginL_any (h : ST base B nh v kd K ad s lk hs hm w) (h3 : hm 3 = fWay 2) : Calls Try.prog 62 #[.pointer (some ⟨B, v * 9, none⟩)] w (RetB 2 base B nh v kd K ad s lk hs hm w) := by
  have c3 := h.hand (i := 3) (by omega)
  rw [h3] at c3
  have c3' : w.cell? ⟨B, v * 9 + 3, none⟩ = some (.func (.func 25) #[] #[]) := c3
  have HC := Lib.hid (wayL_any h)
  clear h h3 c3
  go_enter Try.func62, Try.ntmps62
  go_wp2_with fail
  refine HC.out.mono ?_
  rintro e w1 ⟨f, ⟨rfl, h1, hp1⟩, hn⟩
  have H1 := Lib.hid h1
  have HP1 := Lib.hid hp1
  have HN := Lib.hid hn
  clear h1 hp1 hn
  go_wp2
  go_end0
  exact ⟨f, ⟨rfl, H1.out, HP1.out⟩, HN.out⟩
set_option maxRecDepth 100000 in
set_option maxHeartbeats 4000000 in
theorem beginM_any (h : ST base B nh v kd K ad s lk hs hm w) (h3 : hm 3 = fWay 3) : Calls Try.prog 62 #[.pointer (some ⟨B, v * 9, none⟩)] w (RetB 3 base B nh v kd K ad s lk hs hm w) := by
  have c3 := h.hand (i := 3) (by omega)
  rw [h3] at c3
  have c3' : w.cell? ⟨B, v * 9 + 3, none⟩ = some (.func (.func 26) #[] #[]) := c3
  have HC := Lib.hid (wayM_any h)
  clear h h3 c3
  go_enter Try.func62, Try.ntmps62
  go_wp2_with fail
  refine HC.out.mono ?_
  rintro e w1 ⟨f, ⟨rfl, h1, hp1⟩, hn⟩
  have H1 := Lib.hid h1
  have HP1 := Lib.hid hp1
  have HN := Lib.hid hn
  clear h1 hp1 hn
  go_wp2
  go_end0
  exact ⟨f, ⟨rfl, H1.out, HP1.out⟩, HN.out⟩
set_option maxRecDepth 100000 in
set_option maxHeartbeats 4000000 in
theorem beginN_any (h : ST base B nh v kd K ad s lk hs hm w) (h3 : hm 3 = fWay 4) : Calls Try.prog 62 #[.pointer (some ⟨B, v * 9, none⟩)] w (RetB 4 base B nh v kd K ad s lk hs hm w) := by
  have c3 := h.hand (i := 3) (by omega)
  rw [h3] at c3
  have c3' : w.cell? ⟨B, v * 9 + 3, none⟩ = some (.func (.func 27) #[] #[]) := c3
  have HC := Lib.hid (wayN_any h)
  clear h h3 c3
  go_enter Try.func62, Try.ntmps62
  go_wp2_with fail
  refine HC.out.mono ?_
  rintro e w1 ⟨f, ⟨rfl, h1, hp1⟩, hn⟩
  have H1 := Lib.hid h1
  have HP1 := Lib.hid hp1
  have HN := Lib.hid hn
  clear h1 hp1 hn
  go_wp2
  go_end0
  exact ⟨f, ⟨rfl, H1.out, HP1.out⟩, HN.out⟩

theorem begin_any {al : Nat} (hal : al = 1 ∨ al = 2 ∨ al = 3 ∨ al = 4) (h : ST base B nh v kd K ad s lk hs hm w) (h3 : hm 3 = fWay al) : Calls Try.prog 62 #[.pointer (some ⟨B, v * 9, none⟩)] w (RetB al base B nh v kd K ad s lk hs hm w) := by
  rcases hal with rfl | rfl | rfl | rfl
  · exact beginO_any h h3
  · exact beginL_any h h3
  · exact beginM_any h h3
  · exact beginN_any h h3
end

end Go.Proofs.Ytfmdpmebllepeaa
