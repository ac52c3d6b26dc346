/-
  Joined texts: YtfmdpmebllepeaaUStep0, YtfmdpmebllepeaaUStepN, YtfmdpmebllepeaaUStep1, YtfmdpmebllepeaaUStep2, YtfmdpmebllepeaaUStepA.
-/
import Derived.Test.YtfmdpmebllepeaaURowAll
import Derived.Test.YtfmdpmebllepeaaURow2All
import Derived.Deep.DeepCutAuto
import Derived.Deep.RegionHeld3
import Derived.Deep.RegionLaw
import Derived.Test.YtfmdpmebllepeaaUJoinAll
import Derived.Test.YtfmdpmebllepeaaUTellAll
/-
  hedgref's Bench: step. Written by tools/gen_ustep.py.
-/
namespace Go.Proofs.Ytfmdpmebllepeaa
open Go.RowKit Go.Maps

section
variable {w : World} {base bb gB cB gH cH nh nh' : Nat} {s : Bs} {lk : Nat → Bool} {ix : Nat → Nat} {hs : Nat → Hd} {dv : Value} {now v j b pb poff pc qb qoff sn sc : Nat} {X Y L : List Dn} {kd K : Int} {r : Rel}
variable {al : Nat} {qA : Option Addr}
set_option maxRecDepth 100000 in
set_option maxHeartbeats 16000000 in
theorem ustep_none (h : UB w base bb gB cB gH cH al nh s lk ix hs (.slice (some ⟨pb, poff, none⟩) nh' pc) dv now L) (hv : v < nh) (hvp : v < nh') (hx : ix v = j) (hpb : pb < base)
    (hp : w.cell? ⟨pb, poff + v, none⟩ = some (.slice qA j sc)) :
    Calls Try.prog 19 #[jp bb, I v] w (fun e w' => e = .returned (.bool false) ∧ UB w' base bb gB cB gH cH al nh s lk ix hs (.slice (some ⟨pb, poff, none⟩) nh' pc) dv now L ∧ UF base w w') := by
  have hbz := h.bbase
  have HX := Lib.hid hx
  have HP := Lib.hid hp
  obtain ⟨w0, hw0⟩ : ∃ x, x = w.alloc (.cells #[I v] 3) := ⟨_, rfl⟩
  obtain ⟨wb, hwb⟩ : ∃ x, w.heap.size = x := ⟨_, rfl⟩
  have H0 : Hid (UB w0 base bb gB cB gH cH al nh s lk ix hs (.slice (some ⟨pb, poff, none⟩) nh' pc) dv now L) := by rw [hw0]; exact h.keep ((Below.refl _ _).alloc (Nat.le_refl _) _)
  have G0 : Hid (UF base w w0) := by rw [hw0]; exact (UF.refl _ _).alloc hbz _
  have W0 : Hid (w0.heap[wb]? = some (.cells #[I v] 3 (0, 0))) := by rw [hw0, ← hwb]; exact heap_alloc_new _ _
  obtain ⟨f0, f1, f2, f3, f4, f5, ff⟩ := H0.out.fb
  have hwc : w0.cell? ⟨wb, 0, none⟩ = some (I v) := by rw [jcell W0.out]; rfl
  have f2a : ∀ o : Obj, (w0.alloc o).cell? ⟨bb, 2, none⟩ = some (.slice (some ⟨gH, 0, none⟩) nh cH) := fun o => (World.cell?_of_block (Below.heap_alloc _ _ _ (jblk H0.out.box))).trans f2
  have hwca : ∀ o : Obj, (w0.alloc o).cell? ⟨wb, 0, none⟩ = some (I v) := fun o => (World.cell?_of_block (Below.heap_alloc _ _ _ (jblk W0.out))).trans hwc
  have hvi : (v : Int) < (nh : Int) := by omega
  have hvi' : (v : Int) < (nh' : Int) := by omega
  have hv0 : (0 : Int) ≤ (v : Int) := by omega
  clear h hbz hx hp
  go_enter Try.func19, Try.ntmps19
  go_upto_region 1 with fail
  rw [← hw0]
  try rw [hwb]
  clear hw0 hwb
  go_region
  all_goals
    (obtain ⟨hb, hhb⟩ : ∃ x, w0.heap.size = x := ⟨_, rfl⟩
     clear f2a hwca hwc f0 f1 f2 f3 f4 f5 ff
     have H1 : Hid (UB ((w0.alloc (.cells #[.pointer (some ⟨gH, v * 5, none⟩)] 79)).drew) base bb gB cB gH cH al nh s lk ix hs (.slice (some ⟨pb, poff, none⟩) nh' pc) dv now L) := (H0.out.keep ((Below.refl _ _).alloc (Nat.le_refl _) _)).drew
     have G1 : Hid (UF base w ((w0.alloc (.cells #[.pointer (some ⟨gH, v * 5, none⟩)] 79)).drew)) := (G0.out.alloc H0.out.bbase _).drew
     have W1 : Hid (((w0.alloc (.cells #[.pointer (some ⟨gH, v * 5, none⟩)] 79)).drew).heap[wb]? = some (.cells #[I v] 3 (0, 0))) := (Below.heap_alloc _ _ _ (jblk W0.out)).trans W0.out
     have B1 : Hid (((w0.alloc (.cells #[.pointer (some ⟨gH, v * 5, none⟩)] 79)).drew).heap[hb]? = some (.cells #[.pointer (some ⟨gH, v * 5, none⟩)] 79 (0, 0))) := by rw [← hhb]; exact heap_alloc_new w0 _
     generalize hgw : (w0.alloc (.cells #[.pointer (some ⟨gH, v * 5, none⟩)] 79)).drew = w1 at *
     clear hgw
     try rw [hhb]
     clear hhb H0 G0 W0
     obtain ⟨f0, f1, f2, f3, f4, f5, ff⟩ := H1.out.fb
     obtain ⟨y0, y1, y2, y3, y4, yf⟩ := H1.out.hd hv
     rw [HX.out] at y0
     have cw : w1.cell? ⟨wb, 0, none⟩ = some (I v) := by rw [jcell W1.out]; rfl
     have ch : w1.cell? ⟨hb, 0, none⟩ = some (.pointer (some ⟨gH, v * 5, none⟩)) := by rw [jcell B1.out]; rfl
     have hp' : w1.cell? ⟨pb, poff + v, none⟩ = some (.slice qA j sc) := (G1.out.bl.cell (by exact hpb)).trans HP.out
     clear f0 f1 f2 f4 f5 ff y1 y2 y3 y4 yf
     go_wp2_with fail
     go_quiet (fail)
     go_wp2
     go_ret
     exact ⟨rfl, H1.out.drewN _, G1.out.drewN _⟩)
end
end Go.Proofs.Ytfmdpmebllepeaa

/-
  hedgref's Bench: step. Written by tools/gen_ustep.py.
-/
namespace Go.Proofs.Ytfmdpmebllepeaa
open Go.RowKit Go.Maps

section
variable {w : World} {base bb gB cB gH cH nh nh' : Nat} {s : Bs} {lk : Nat → Bool} {ix : Nat → Nat} {hs : Nat → Hd} {dv : Value} {now v j b pb poff pc qb qoff sn sc : Nat} {X Y L : List Dn} {kd K : Int} {r : Rel}
variable {al : Nat}
set_option maxRecDepth 100000 in
set_option maxHeartbeats 16000000 in
theorem ustep_new_go (h : UB w base bb gB cB gH cH al nh s lk ix hs (.slice (some ⟨pb, poff, none⟩) nh' pc) dv now L) (hv : v < nh) (hvp : v < nh') (hx : ix v = j) (hX : fix1 (isV v j) L = -1) (hLL : L.length ≤ 10000) (hnow : now ≤ 5000) (hjn : j < sn) (hsn : sn ≤ 4) (hpb : pb < base) (hqb : qb < base)
    (hp : w.cell? ⟨pb, poff + v, none⟩ = some (.slice (some ⟨qb, qoff, none⟩) sn sc)) (q0 : w.cell? ⟨qb, qoff + j * 2, none⟩ = some (I kd)) (q1 : w.cell? ⟨qb, qoff + j * 2 + 1, none⟩ = some (I K)) (ho : r.over = false)
    (hal : al = 1 ∨ al = 2 ∨ al = 3 ∨ al = 4)
    (HR1 : al = 1 → ∀ w' dv', UB w' base bb gB cB gH cH 1 nh s lk ix hs (.slice (some ⟨pb, poff, none⟩) nh' pc) dv' now (L ++ [⟨v, j, now, -1, false⟩]) → Calls Try.prog 40 #[jp bb, .pointer (some ⟨gH, v * 5, none⟩), .agg #[I kd, I K]] w' (RetH base bb gH cH 1 nh ix hs (.slice (some ⟨pb, poff, none⟩) nh' pc) dv' now (L ++ [⟨v, j, now, -1, false⟩]) v r w'))
    (HR2 : al = 2 → ∀ w' dv', UB w' base bb gB cB gH cH 2 nh s lk ix hs (.slice (some ⟨pb, poff, none⟩) nh' pc) dv' now (L ++ [⟨v, j, now, -1, false⟩]) → Calls Try.prog 41 #[jp bb, .pointer (some ⟨gH, v * 5, none⟩), .agg #[I kd, I K]] w' (RetH base bb gH cH 2 nh ix hs (.slice (some ⟨pb, poff, none⟩) nh' pc) dv' now (L ++ [⟨v, j, now, -1, false⟩]) v r w'))
    (HR3 : al = 3 → ∀ w' dv', UB w' base bb gB cB gH cH 3 nh s lk ix hs (.slice (some ⟨pb, poff, none⟩) nh' pc) dv' now (L ++ [⟨v, j, now, -1, false⟩]) → Calls Try.prog 42 #[jp bb, .pointer (some ⟨gH, v * 5, none⟩), .agg #[I kd, I K]] w' (RetH base bb gH cH 3 nh ix hs (.slice (some ⟨pb, poff, none⟩) nh' pc) dv' now (L ++ [⟨v, j, now, -1, false⟩]) v r w'))
    (HR4 : al = 4 → ∀ w' dv', UB w' base bb gB cB gH cH 4 nh s lk ix hs (.slice (some ⟨pb, poff, none⟩) nh' pc) dv' now (L ++ [⟨v, j, now, -1, false⟩]) → Calls Try.prog 42 #[jp bb, .pointer (some ⟨gH, v * 5, none⟩), .agg #[I kd, I K]] w' (RetH base bb gH cH 4 nh ix hs (.slice (some ⟨pb, poff, none⟩) nh' pc) dv' now (L ++ [⟨v, j, now, -1, false⟩]) v r w')) :
    Calls Try.prog 19 #[jp bb, I v] w (fun e w' => e = .returned (.bool true) ∧ (∃ gB' cB' dv', UB w' base bb gB' cB' gH cH al nh r.s r.lk ix (upd hs v r.h) (.slice (some ⟨pb, poff, none⟩) nh' pc) dv' (now + 1) (L ++ [⟨v, j, now, -1, false⟩])) ∧ UF base w w') := by
  have hbz := h.bbase
  obtain ⟨DA, nd, dc, hdv, hnd, hDA⟩ : ∃ DA nd dc, dv = .slice DA nd dc ∧ nd = L.length ∧ (nd = 0 ∨ ∃ g, DA = some ⟨g, 0, none⟩) := by
    obtain ⟨A, c, e, hA⟩ := h.done.is_
    exact ⟨A, _, c, e, rfl, hA⟩
  subst hdv
  have hDR : ∀ w', UB w' base bb gB cB gH cH al nh s lk ix hs (.slice (some ⟨pb, poff, none⟩) nh' pc) (.slice DA nd dc) now L → ∃ A c, ((.slice DA nd dc) : Value) = Value.slice A nd c ∧ DR w' A nd L := fun w' h' => by
    obtain ⟨A, c, e, hd⟩ := h'.done.dr
    rw [← hnd] at e hd
    exact ⟨A, c, e, hd⟩
  have hnd9 : nd ≤ 10000 := by omega
  have HDR := Lib.hid hDR
  have HHX := Lib.hid hX
  have HND := Lib.hid hnd
  have HRH1 := Lib.hid HR1
  have HRH2 := Lib.hid HR2
  have HRH3 := Lib.hid HR3
  have HRH4 := Lib.hid HR4
  have HALL := Lib.hid hal
  have HO := Lib.hid ho
  have HX := Lib.hid hx
  have HP := Lib.hid hp
  have HQ0 := Lib.hid q0
  have HQ1 := Lib.hid q1
  obtain ⟨w0, hw0⟩ : ∃ x, x = w.alloc (.cells #[I v] 3) := ⟨_, rfl⟩
  obtain ⟨wb, hwb⟩ : ∃ x, w.heap.size = x := ⟨_, rfl⟩
  have H0 : Hid (UB w0 base bb gB cB gH cH al nh s lk ix hs (.slice (some ⟨pb, poff, none⟩) nh' pc) (.slice DA nd dc) now L) := by rw [hw0]; exact h.keep ((Below.refl _ _).alloc (Nat.le_refl _) _)
  have G0 : Hid (UF base w w0) := by rw [hw0]; exact (UF.refl _ _).alloc hbz _
  have W0 : Hid (w0.heap[wb]? = some (.cells #[I v] 3 (0, 0))) := by rw [hw0, ← hwb]; exact heap_alloc_new _ _
  obtain ⟨f0, f1, f2, f3, f4, f5, ff⟩ := H0.out.fb
  have hwc : w0.cell? ⟨wb, 0, none⟩ = some (I v) := by rw [jcell W0.out]; rfl
  have f2a : ∀ o : Obj, (w0.alloc o).cell? ⟨bb, 2, none⟩ = some (.slice (some ⟨gH, 0, none⟩) nh cH) := fun o => (World.cell?_of_block (Below.heap_alloc _ _ _ (jblk H0.out.box))).trans f2
  have hwca : ∀ o : Obj, (w0.alloc o).cell? ⟨wb, 0, none⟩ = some (I v) := fun o => (World.cell?_of_block (Below.heap_alloc _ _ _ (jblk W0.out))).trans hwc
  have hvi : (v : Int) < (nh : Int) := by omega
  have hvi' : (v : Int) < (nh' : Int) := by omega
  have hji : (j : Int) < (sn : Int) := by omega
  have hv0 : (0 : Int) ≤ (v : Int) := by omega
  have hj0 : (0 : Int) ≤ (j : Int) := by omega
  have hjs : ((j : Int) == (sn : Int)) = false := by simp; omega
  have hj9 : j < 9 := by omega
  clear h hbz hx hp q0 q1 ho HR1 HR2 HR3 HR4 hal hDR hX hnd hLL hjn hsn
  go_enter Try.func19, Try.ntmps19
  go_upto_region 1 with fail
  rw [← hw0]
  try rw [hwb]
  clear hw0 hwb
  go_region_held3 (fun w' => w'.cell? ⟨bb, 2, none⟩ = some (.slice (some ⟨gH, 0, none⟩) nh cH) ∧ w'.cell? ⟨wb, 0, none⟩ = some (I v))
    (first
      | exact ⟨f2, hwc⟩
      | exact ⟨f2a _, hwca _⟩)
    (fail)
  all_goals
    (
      obtain ⟨hb, hhb⟩ : ∃ x, w0.heap.size = x := ⟨_, rfl⟩
      clear f2a hwca hwc
      try clear f0
      try clear f1
      try clear f2
      try clear f3
      try clear f4
      try clear f5
      try clear ff
      try clear y0
      try clear y1
      try clear y2
      try clear y3
      try clear y4
      try clear yf
      try clear cw
      try clear ch
      try clear cq
      try clear ck
      try clear hp'
      try clear q0'
      try clear q1'
      obtain ⟨w1, hw1⟩ : ∃ x, x = (w0.alloc (.cells #[.pointer (some ⟨gH, v * 5, none⟩)] 79)).drew := ⟨_, rfl⟩
      have H1 : Hid (UB w1 base bb gB cB gH cH al nh s lk ix hs (.slice (some ⟨pb, poff, none⟩) nh' pc) (.slice DA nd dc) now L) := by rw [hw1]; exact (H0.out.keep ((Below.refl _ _).alloc (Nat.le_refl _) _)).drew
      have G1 : Hid (UF base w w1) := by rw [hw1]; exact (G0.out.alloc H0.out.bbase _).drew
      have W1 : Hid (w1.heap[wb]? = some (.cells #[I v] 3 (0, 0))) := by rw [hw1]; exact (Below.heap_alloc _ _ _ (jblk W0.out)).trans W0.out
      have B1 : Hid (w1.heap[hb]? = some (.cells #[.pointer (some ⟨gH, v * 5, none⟩)] 79 (0, 0))) := by rw [hw1]; exact (by rw [← hhb]; exact heap_alloc_new w0 _)
      rw [← hw1]
      clear hw1
      try rw [hhb]
      clear hhb H0 G0 W0
      try clear f0
      try clear f1
      try clear f2
      try clear f3
      try clear f4
      try clear f5
      try clear ff
      try clear y0
      try clear y1
      try clear y2
      try clear y3
      try clear y4
      try clear yf
      try clear cw
      try clear ch
      try clear cq
      try clear ck
      try clear hp'
      try clear q0'
      try clear q1'
      obtain ⟨f0, f1, f2, f3, f4, f5, ff⟩ := H1.out.fb
      obtain ⟨y0, y1, y2, y3, y4, yf⟩ := H1.out.hd hv
      rw [HX.out] at y0
      have f0q : w1.cell? ⟨bb, 0, none⟩ = some (I al) := f0
      clear f0
      have f0 := f0q
      clear f0q
      have cw : w1.cell? ⟨wb, 0, none⟩ = some (I v) := by rw [jcell W1.out]; rfl
      have ch : w1.cell? ⟨hb, 0, none⟩ = some (.pointer (some ⟨gH, v * 5, none⟩)) := by rw [jcell B1.out]; rfl
      have hp' : w1.cell? ⟨pb, poff + v, none⟩ = some (.slice (some ⟨qb, qoff, none⟩) sn sc) := (G1.out.bl.cell (by exact hpb)).trans HP.out
      have q0' : w1.cell? ⟨qb, qoff + j * 2, none⟩ = some (I kd) := (G1.out.bl.cell (by exact hqb)).trans HQ0.out
      have q1' : w1.cell? ⟨qb, qoff + j * 2 + 1, none⟩ = some (I K) := (G1.out.bl.cell (by exact hqb)).trans HQ1.out
      clear f0 f1 f2 f4 f5 ff y1 y2 y3 y4 yf q0' q1'
      go_wp2_with fail
      go_quiet (fail)
      try clear f0
      try clear f1
      try clear f2
      try clear f3
      try clear f4
      try clear f5
      try clear ff
      try clear y0
      try clear y1
      try clear y2
      try clear y3
      try clear y4
      try clear yf
      try clear cw
      try clear ch
      try clear cq
      try clear ck
      try clear hp'
      try clear q0'
      try clear q1'
      obtain ⟨w2, hw2⟩ : ∃ x, x = w1.drewN nq := ⟨_, rfl⟩
      have H2 : Hid (UB w2 base bb gB cB gH cH al nh s lk ix hs (.slice (some ⟨pb, poff, none⟩) nh' pc) (.slice DA nd dc) now L) := by rw [hw2]; exact H1.out.drewN nq
      have G2 : Hid (UF base w w2) := by rw [hw2]; exact G1.out.drewN nq
      have W2 : Hid (w2.heap[wb]? = some (.cells #[I v] 3 (0, 0))) := by rw [hw2]; exact W1.out
      have B2 : Hid (w2.heap[hb]? = some (.cells #[.pointer (some ⟨gH, v * 5, none⟩)] 79 (0, 0))) := by rw [hw2]; exact B1.out
      rw [← hw2]
      clear hw2
      clear H1 G1 W1 B1
      try clear f0
      try clear f1
      try clear f2
      try clear f3
      try clear f4
      try clear f5
      try clear ff
      try clear y0
      try clear y1
      try clear y2
      try clear y3
      try clear y4
      try clear yf
      try clear cw
      try clear ch
      try clear cq
      try clear ck
      try clear hp'
      try clear q0'
      try clear q1'
      obtain ⟨f0, f1, f2, f3, f4, f5, ff⟩ := H2.out.fb
      obtain ⟨y0, y1, y2, y3, y4, yf⟩ := H2.out.hd hv
      rw [HX.out] at y0
      have f0q : w2.cell? ⟨bb, 0, none⟩ = some (I al) := f0
      clear f0
      have f0 := f0q
      clear f0q
      have cw : w2.cell? ⟨wb, 0, none⟩ = some (I v) := by rw [jcell W2.out]; rfl
      have ch : w2.cell? ⟨hb, 0, none⟩ = some (.pointer (some ⟨gH, v * 5, none⟩)) := by rw [jcell B2.out]; rfl
      have hp' : w2.cell? ⟨pb, poff + v, none⟩ = some (.slice (some ⟨qb, qoff, none⟩) sn sc) := (G2.out.bl.cell (by exact hpb)).trans HP.out
      have q0' : w2.cell? ⟨qb, qoff + j * 2, none⟩ = some (I kd) := (G2.out.bl.cell (by exact hqb)).trans HQ0.out
      have q1' : w2.cell? ⟨qb, qoff + j * 2 + 1, none⟩ = some (I K) := (G2.out.bl.cell (by exact hqb)).trans HQ1.out
      clear f0 f1 f2 f4 f5 ff y1 y2 y3 y4 yf
      have l1 := jblk H2.out.box
      have l2 : pb < w2.heap.size := Nat.lt_of_lt_of_le hpb H2.out.bbase
      have l3 : qb < w2.heap.size := Nat.lt_of_lt_of_le hqb H2.out.bbase
      have l4 := jblk W2.out
      have l5 := jblk B2.out
      obtain ⟨_, hlH, _⟩ := H2.out.hblk
      have l6 := jblk hlH
      have f3a := fun o : Obj => (World.cell?_of_block (Below.heap_alloc w2 o _ (l1))).trans f3
      have cwa := fun o : Obj => (World.cell?_of_block (Below.heap_alloc w2 o _ (l4))).trans cw
      have cha := fun o : Obj => (World.cell?_of_block (Below.heap_alloc w2 o _ (l5))).trans ch
      have y0a := fun o : Obj => (World.cell?_of_block (Below.heap_alloc w2 o _ (l6))).trans y0
      have hp'a := fun o : Obj => (World.cell?_of_block (Below.heap_alloc w2 o _ (l2))).trans hp'
      have q0'a := fun o : Obj => (World.cell?_of_block (Below.heap_alloc w2 o _ (l3))).trans q0'
      have q1'a := fun o : Obj => (World.cell?_of_block (Below.heap_alloc w2 o _ (l3))).trans q1'
      go_upto_region 4 with fail
      go_region_held3 (fun w' => w'.cell? ⟨bb, 3, none⟩ = some (.slice (some ⟨pb, poff, none⟩) nh' pc) ∧ w'.cell? ⟨wb, 0, none⟩ = some (I v) ∧ w'.cell? ⟨hb, 0, none⟩ = some (.pointer (some ⟨gH, v * 5, none⟩)) ∧ w'.cell? ⟨gH, v * 5, none⟩ = some (I j) ∧ w'.cell? ⟨pb, poff + v, none⟩ = some (.slice (some ⟨qb, qoff, none⟩) sn sc) ∧ w'.cell? ⟨qb, qoff + j * 2, none⟩ = some (I kd) ∧ w'.cell? ⟨qb, qoff + j * 2 + 1, none⟩ = some (I K))
        (first
          | exact ⟨f3, cw, ch, y0, hp', q0', q1'⟩
          | exact ⟨f3a _, cwa _, cha _, y0a _, hp'a _, q0'a _, q1'a _⟩)
        (fail)
      all_goals
        (
          clear f3a cwa cha y0a hp'a q0'a q1'a l1 l2 l3 l4 l5 l6 hlH hvi hvi' hji hv0 hj0 hjs
          obtain ⟨db, hdb⟩ : ∃ x, w2.heap.size = x := ⟨_, rfl⟩
          try clear f0
          try clear f1
          try clear f2
          try clear f3
          try clear f4
          try clear f5
          try clear ff
          try clear y0
          try clear y1
          try clear y2
          try clear y3
          try clear y4
          try clear yf
          try clear cw
          try clear ch
          try clear cq
          try clear ck
          try clear hp'
          try clear q0'
          try clear q1'
          obtain ⟨w3, hw3⟩ : ∃ x, x = (w2.alloc (.cells #[I kd, I K] 50)).drew := ⟨_, rfl⟩
          have H3 : Hid (UB w3 base bb gB cB gH cH al nh s lk ix hs (.slice (some ⟨pb, poff, none⟩) nh' pc) (.slice DA nd dc) now L) := by rw [hw3]; exact (H2.out.keep ((Below.refl _ _).alloc (Nat.le_refl _) _)).drew
          have G3 : Hid (UF base w w3) := by rw [hw3]; exact (G2.out.alloc H2.out.bbase _).drew
          have W3 : Hid (w3.heap[wb]? = some (.cells #[I v] 3 (0, 0))) := by rw [hw3]; exact (Below.heap_alloc _ _ _ (jblk W2.out)).trans W2.out
          have B3 : Hid (w3.heap[hb]? = some (.cells #[.pointer (some ⟨gH, v * 5, none⟩)] 79 (0, 0))) := by rw [hw3]; exact (Below.heap_alloc _ _ _ (jblk B2.out)).trans B2.out
          have Q3 : Hid (w3.heap[db]? = some (.cells #[I kd, I K] 50 (0, 0))) := by rw [hw3]; exact (by rw [← hdb]; exact heap_alloc_new w2 _)
          rw [← hw3]
          clear hw3
          try rw [hdb]
          clear hdb H2 G2 W2 B2
          have F3 := Lib.hid (UF.refl base w3)
          try clear f0
          try clear f1
          try clear f2
          try clear f3
          try clear f4
          try clear f5
          try clear ff
          try clear y0
          try clear y1
          try clear y2
          try clear y3
          try clear y4
          try clear yf
          try clear cw
          try clear ch
          try clear cq
          try clear ck
          try clear hp'
          try clear q0'
          try clear q1'
          obtain ⟨f0, f1, f2, f3, f4, f5, ff⟩ := H3.out.fb
          obtain ⟨y0, y1, y2, y3, y4, yf⟩ := H3.out.hd hv
          rw [HX.out] at y0
          have f0q : w3.cell? ⟨bb, 0, none⟩ = some (I al) := f0
          clear f0
          have f0 := f0q
          clear f0q
          have cw : w3.cell? ⟨wb, 0, none⟩ = some (I v) := by rw [jcell W3.out]; rfl
          have ch : w3.cell? ⟨hb, 0, none⟩ = some (.pointer (some ⟨gH, v * 5, none⟩)) := by rw [jcell B3.out]; rfl
          have cq : w3.cell? ⟨db, 0, none⟩ = some (I kd) := by rw [jcell Q3.out]; rfl
          have ck : w3.cell? ⟨db, 1, none⟩ = some (I K) := by rw [jcell Q3.out]; rfl
          clear f0 f1 f2 f3 f4 ff y1 y2 y3 y4 yf cq ck
          obtain ⟨dA, dcc, hdA, hdr⟩ := HDR.out w3 H3.out
          obtain ⟨_, hlH, _⟩ := H3.out.hblk
          have HIX := ixV_any dA nd dcc L wb hb gH v j w3 hdr cw ch y0 (jblk W3.out) (jblk B3.out) (jblk hlH) (by omega)
          rw [← hdA, HHX.out] at HIX
          have HIXH := Lib.hid HIX
          clear HIX
          clear hdr hlH hdA cw ch y0
          go_wp2_with fail
          refine HIXH.out.mono ?_
          rintro e w4 ⟨rfl, hb4⟩
          have H4 : Hid (UB w4 base bb gB cB gH cH al nh s lk ix hs (.slice (some ⟨pb, poff, none⟩) nh' pc) (.slice DA nd dc) now L) := H3.out.keep hb4
          have F4 := Lib.hid (UF.below H3.out.bbase hb4)
          clear hb4 HIXH
          have W4 : Hid (w4.heap[wb]? = some (.cells #[I v] 3 (0, 0))) := F4.out.blk W3.out (by decide) (by decide) (by decide) (by decide)
          have B4 : Hid (w4.heap[hb]? = some (.cells #[.pointer (some ⟨gH, v * 5, none⟩)] 79 (0, 0))) := F4.out.blk B3.out (by decide) (by decide) (by decide) (by decide)
          have Q4 : Hid (w4.heap[db]? = some (.cells #[I kd, I K] 50 (0, 0))) := F4.out.blk Q3.out (by decide) (by decide) (by decide) (by decide)
          try clear f0
          try clear f1
          try clear f2
          try clear f3
          try clear f4
          try clear f5
          try clear ff
          try clear y0
          try clear y1
          try clear y2
          try clear y3
          try clear y4
          try clear yf
          try clear cw
          try clear ch
          try clear cq
          try clear ck
          try clear hp'
          try clear q0'
          try clear q1'
          obtain ⟨f0, f1, f2, f3, f4, f5, ff⟩ := H4.out.fb
          obtain ⟨y0, y1, y2, y3, y4, yf⟩ := H4.out.hd hv
          rw [HX.out] at y0
          have f0q : w4.cell? ⟨bb, 0, none⟩ = some (I al) := f0
          clear f0
          have f0 := f0q
          clear f0q
          have cw : w4.cell? ⟨wb, 0, none⟩ = some (I v) := by rw [jcell W4.out]; rfl
          have ch : w4.cell? ⟨hb, 0, none⟩ = some (.pointer (some ⟨gH, v * 5, none⟩)) := by rw [jcell B4.out]; rfl
          have cq : w4.cell? ⟨db, 0, none⟩ = some (I kd) := by rw [jcell Q4.out]; rfl
          have ck : w4.cell? ⟨db, 1, none⟩ = some (I K) := by rw [jcell Q4.out]; rfl
          clear f0 f1 f2 f3 ff y1 y2 y3 y4 yf cq ck
          obtain ⟨i0, hi, hzi0, hzi1, hzi2⟩ := jinfo_parts done_info
          have HI := Lib.hid hi
          have HZ0 := Lib.hid hzi0
          have HZ1 := Lib.hid hzi1
          have HZ2 := Lib.hid hzi2
          have hown0 : w4.ownsRow base 37 5 (.slice DA nd dc) nd (flatD L) := by have := H4.out.done; unfold OwnD at this; rw [← HND.out] at this; exact this
          have HOWN : Hid ((w4.drew.alloc (.cells #[I v, I j, I now, I (-1), .bool false] 37)).ownsRow base 37 5 (.slice DA nd dc) nd (flatD L)) := own_below hown0 (((Below.refl _ _).drew).alloc (Nat.le_refl _) _)
          have HNEW : Hid (∀ k u, [I (v : Int), I (j : Int), I (now : Int), I (-1), .bool false][k]? = some u → (w4.drew.alloc (.cells #[I v, I j, I now, I (-1), .bool false] 37)).cell? ((⟨w4.heap.size, 0, none⟩ : Addr).add k) = some u) := fun k u hu => by
            have : (w4.drew.alloc (.cells #[I v, I j, I now, I (-1), .bool false] 37)).cell? ⟨w4.drew.heap.size, k, none⟩ = _ := World.cell?_alloc_mark w4.drew #[I v, I j, I now, I (-1), .bool false] 37 (0, 0) k
            rw [show ((⟨w4.heap.size, 0, none⟩ : Addr).add k) = ⟨w4.drew.heap.size, k, none⟩ by simp [Addr.add] <;> omega, this]
            simpa using hu
          have l1 := jblk H4.out.box
          have hbz4 := H4.out.bbase
          have f5a := fun o : Obj => (World.cell?_of_block (Below.heap_alloc w4 o _ l1)).trans f5
          have f4a := fun o : Obj => (World.cell?_of_block (Below.heap_alloc w4 o _ l1)).trans f4
          have cwa := fun o : Obj => (World.cell?_of_block (Below.heap_alloc w4 o _ (jblk W4.out))).trans cw
          have cha := fun o : Obj => (World.cell?_of_block (Below.heap_alloc w4 o _ (jblk B4.out))).trans ch
          obtain ⟨_, hlH4, _⟩ := H4.out.hblk
          have y0a := fun o : Obj => (World.cell?_of_block (Below.heap_alloc w4 o _ (jblk hlH4))).trans y0
          clear hi hzi0 hzi1 hzi2 hown0 hlH4
          go_upto_region 8 with fail
          go_cut [] (fun wx => ∃ g5 cap5, Hid (UB wx base bb gB cB gH cH al nh s lk ix hs (.slice (some ⟨pb, poff, none⟩) nh' pc) (.slice (some ⟨g5, 0, none⟩) (nd + 1) cap5) now (L ++ [⟨v, j, now, -1, false⟩]) ∧ UF base w4 wx))
          case first =>
           clear HDR HHX HRH1 HRH2 HRH3 HRH4 HALL HO HP HQ0 HQ1 H3 G3 W3 B3 Q3 F3 Q4
           refine wp_region_noPanic ?_
           refine wp_region_held_drew (S := fun w' => w'.cell? ⟨wb, 0, none⟩ = some (I v) ∧ w'.cell? ⟨hb, 0, none⟩ = some (.pointer (some ⟨gH, v * 5, none⟩)) ∧ w'.cell? ⟨gH, v * 5, none⟩ = some (I j) ∧ w'.cell? ⟨bb, 4, none⟩ = some (I now)) (by kernel_rfl) (by exact ⟨cw, ch, y0, f4⟩) (fun hHeld0 => ?_)
           refine wpAnyH_take (i := 0) (oi := { dst := some 54, op := Op.move (Operand.tmp 0), type := 53, pos := "hands.go:222", after := #[], guard := none }) (v := ?_) rfl (by kernel_rfl) (by kernel_rfl) (by kernel_rfl) (fun _ _ _ h => h) (Or.inl ⟨by rfl, ?_⟩) (by assumption) ?_
           rotate_left
           · intro w hSw
             try dsimp only at hSw
             go_simp
             try with_reducible rfl
           try simp only [Act.put, List.setIfInBounds_toArray, List.set_cons_zero, List.set_cons_succ]
           refine wpAnyH_take (i := 1) (oi := { dst := some 55, op := Op.move (Operand.tmp 0), type := 53, pos := "hands.go:222", after := #[], guard := none }) (v := ?_) rfl (by kernel_rfl) (by kernel_rfl) (by kernel_rfl) (fun _ _ _ h => h) (Or.inl ⟨by rfl, ?_⟩) (by assumption) ?_
           rotate_left
           · intro w hSw
             try dsimp only at hSw
             go_simp
             try with_reducible rfl
           try simp only [Act.put, List.setIfInBounds_toArray, List.set_cons_zero, List.set_cons_succ]
           refine wpAnyH_take (i := 2) (oi := { dst := some 56, op := Op.nilCheck (Operand.tmp 55), type := 0, pos := "hands.go:222", after := #[{ on := 1, ground := Ground.data }], guard := none }) (v := ?_) rfl (by kernel_rfl) (by kernel_rfl) (by kernel_rfl) (fun _ _ _ h => h) (Or.inl ⟨by rfl, ?_⟩) (by assumption) ?_
           rotate_left
           · intro w hSw
             try dsimp only at hSw
             go_simp
             try with_reducible rfl
           try simp only [Act.put, List.setIfInBounds_toArray, List.set_cons_zero, List.set_cons_succ]
           refine wpAnyH_take (i := 3) (oi := { dst := some 57, op := Op.fieldAddr 59 (Operand.tmp 56) 5, type := 0, pos := "hands.go:222", after := #[{ on := 2, ground := Ground.data }], guard := none }) (v := ?_) rfl (by kernel_rfl) (by kernel_rfl) (by kernel_rfl) (fun _ _ _ h => h) (Or.inl ⟨by rfl, ?_⟩) (by assumption) ?_
           rotate_left
           · intro w hSw
             try dsimp only at hSw
             go_simp
             try with_reducible rfl
           try simp only [Act.put, List.setIfInBounds_toArray, List.set_cons_zero, List.set_cons_succ]
           refine wpAnyH_take (i := 5) (oi := { dst := some 59, op := Op.load 3 (Operand.tmp 3), type := 3, pos := "hands.go:222", after := #[], guard := none }) (v := ?_) rfl (by kernel_rfl) (by kernel_rfl) (by kernel_rfl) (fun _ _ _ h => h) (Or.inl ⟨by rfl, ?_⟩) (by assumption) ?_
           rotate_left
           · intro w hSw
             try dsimp only at hSw
             go_simp
             try with_reducible rfl
           try simp only [Act.put, List.setIfInBounds_toArray, List.set_cons_zero, List.set_cons_succ]
           refine wpAnyH_take (i := 6) (oi := { dst := some 60, op := Op.load 79 (Operand.tmp 5), type := 79, pos := "hands.go:222", after := #[], guard := none }) (v := ?_) rfl (by kernel_rfl) (by kernel_rfl) (by kernel_rfl) (fun _ _ _ h => h) (Or.inl ⟨by rfl, ?_⟩) (by assumption) ?_
           rotate_left
           · intro w hSw
             try dsimp only at hSw
             go_simp
             try with_reducible rfl
           try simp only [Act.put, List.setIfInBounds_toArray, List.set_cons_zero, List.set_cons_succ]
           refine wpAnyH_take (i := 7) (oi := { dst := some 61, op := Op.nilCheck (Operand.tmp 60), type := 0, pos := "hands.go:222", after := #[{ on := 6, ground := Ground.data }], guard := none }) (v := ?_) rfl (by kernel_rfl) (by kernel_rfl) (by kernel_rfl) (fun _ _ _ h => h) (Or.inl ⟨by rfl, ?_⟩) (by assumption) ?_
           rotate_left
           · intro w hSw
             try dsimp only at hSw
             go_simp
             try with_reducible rfl
           try simp only [Act.put, List.setIfInBounds_toArray, List.set_cons_zero, List.set_cons_succ]
           refine wpAnyH_take (i := 8) (oi := { dst := some 62, op := Op.fieldAddr 81 (Operand.tmp 61) 0, type := 0, pos := "hands.go:222", after := #[{ on := 7, ground := Ground.data }], guard := none }) (v := ?_) rfl (by kernel_rfl) (by kernel_rfl) (by kernel_rfl) (fun _ _ _ h => h) (Or.inl ⟨by rfl, ?_⟩) (by assumption) ?_
           rotate_left
           · intro w hSw
             try dsimp only at hSw
             go_simp
             try with_reducible rfl
           try simp only [Act.put, List.setIfInBounds_toArray, List.set_cons_zero, List.set_cons_succ]
           refine wpAnyH_take (i := 9) (oi := { dst := some 63, op := Op.load 3 (Operand.tmp 62), type := 3, pos := "hands.go:222", after := #[{ on := 8, ground := Ground.data }], guard := none }) (v := ?_) rfl (by kernel_rfl) (by kernel_rfl) (by kernel_rfl) (fun _ _ _ h => h) (Or.inl ⟨by rfl, ?_⟩) (by assumption) ?_
           rotate_left
           · intro w hSw
             try dsimp only at hSw
             go_simp
             try with_reducible rfl
           try simp only [Act.put, List.setIfInBounds_toArray, List.set_cons_zero, List.set_cons_succ]
           refine wpAnyH_take (i := 10) (oi := { dst := some 64, op := Op.move (Operand.tmp 0), type := 53, pos := "hands.go:222", after := #[], guard := none }) (v := ?_) rfl (by kernel_rfl) (by kernel_rfl) (by kernel_rfl) (fun _ _ _ h => h) (Or.inl ⟨by rfl, ?_⟩) (by assumption) ?_
           rotate_left
           · intro w hSw
             try dsimp only at hSw
             go_simp
             try with_reducible rfl
           try simp only [Act.put, List.setIfInBounds_toArray, List.set_cons_zero, List.set_cons_succ]
           refine wpAnyH_take (i := 11) (oi := { dst := some 65, op := Op.nilCheck (Operand.tmp 64), type := 0, pos := "hands.go:222", after := #[{ on := 10, ground := Ground.data }], guard := none }) (v := ?_) rfl (by kernel_rfl) (by kernel_rfl) (by kernel_rfl) (fun _ _ _ h => h) (Or.inl ⟨by rfl, ?_⟩) (by assumption) ?_
           rotate_left
           · intro w hSw
             try dsimp only at hSw
             go_simp
             try with_reducible rfl
           try simp only [Act.put, List.setIfInBounds_toArray, List.set_cons_zero, List.set_cons_succ]
           refine wpAnyH_take (i := 12) (oi := { dst := some 66, op := Op.fieldAddr 59 (Operand.tmp 65) 4, type := 0, pos := "hands.go:222", after := #[{ on := 11, ground := Ground.data }], guard := none }) (v := ?_) rfl (by kernel_rfl) (by kernel_rfl) (by kernel_rfl) (fun _ _ _ h => h) (Or.inl ⟨by rfl, ?_⟩) (by assumption) ?_
           rotate_left
           · intro w hSw
             try dsimp only at hSw
             go_simp
             try with_reducible rfl
           try simp only [Act.put, List.setIfInBounds_toArray, List.set_cons_zero, List.set_cons_succ]
           refine wpAnyH_take (i := 13) (oi := { dst := some 67, op := Op.load 3 (Operand.tmp 66), type := 3, pos := "hands.go:222", after := #[{ on := 12, ground := Ground.data }], guard := none }) (v := ?_) rfl (by kernel_rfl) (by kernel_rfl) (by kernel_rfl) (fun _ _ _ h => h) (Or.inl ⟨by rfl, ?_⟩) (by assumption) ?_
           rotate_left
           · intro w hSw
             try dsimp only at hSw
             go_simp
             try with_reducible rfl
           try simp only [Act.put, List.setIfInBounds_toArray, List.set_cons_zero, List.set_cons_succ]
           refine wpAnyH_take (i := 14) (oi := { dst := some 68, op := Op.build 37 #[(0, Operand.tmp 59), (1, Operand.tmp 63), (2, Operand.tmp 67), (3, Operand.const (Value.int IntKind.i64 (-1)))], type := 37, pos := "hands.go:222", after := #[{ on := 5, ground := Ground.data }, { on := 9, ground := Ground.data }, { on := 13, ground := Ground.data }], guard := none }) (v := ?_) rfl (by kernel_rfl) (by kernel_rfl) (by kernel_rfl) (fun _ _ _ h => h) (Or.inl ⟨by rfl, ?_⟩) (by assumption) ?_
           rotate_left
           · intro w hSw
             try dsimp only at hSw
             go_simp
             try with_reducible rfl
           try simp only [Act.put, List.setIfInBounds_toArray, List.set_cons_zero, List.set_cons_succ]
           refine wpAnyH_ready (rs := [4, 15]) (by kernel_rfl) (by simp) ?_
           refine AllReadyH.cons (o := { dst := some 58, op := Op.load 24 (Operand.tmp 57), type := 24, pos := "hands.go:222", after := #[{ on := 3, ground := Ground.data }], guard := none }) rfl (fun K hK => ?_) ?_
           · go_simp
             refine hK.out _ _ (by exact ⟨cw, ch, y0, f4⟩) (fun hHeld1 => ?_)
             clear hK K hHeld0
             try simp only [Act.put, List.setIfInBounds_toArray, List.set_cons_zero, List.set_cons_succ]
             refine wpAnyH_ready (rs := [15]) (by kernel_rfl) (by simp) ?_
             refine AllReadyH.cons (o := { dst := some 69, op := Op.buildSlice 24 1 #[(0, Operand.tmp 68)], type := 24, pos := "hands.go:222", after := #[{ on := 14, ground := Ground.data }], guard := none }) rfl (fun K hK => ?_) ?_
             · go_simp
               refine hK.out _ _ (by exact ⟨cwa _, cha _, y0a _, f4a _⟩) (fun hHeld2 => ?_)
               clear hK K hHeld1
               try simp only [Act.put, List.setIfInBounds_toArray, List.set_cons_zero, List.set_cons_succ]
               refine wpAnyH_ready (rs := [16]) (by kernel_rfl) (by simp) ?_
               refine AllReadyH.cons (o := { dst := some 70, op := Op.call { callee := Callee.builtin Builtin.append, args := #[Operand.tmp 58, Operand.tmp 69], argTypes := #[24, 24] }, type := 24, pos := "hands.go:222", after := #[{ on := 4, ground := Ground.data }, { on := 15, ground := Ground.data }], guard := none }) rfl (fun K hK => ?_) ?_
               · refine step_append_lies _ rfl (.tmp 58) (.tmp 69) 24 rfl base 37 i0 _ 5 40 Try.underlying24 HI.out HZ0.out HZ1.out HZ2.out rfl (by omega) (.slice DA nd dc) nd (flatD L) rfl HOWN.out ⟨w4.heap.size, 0, none⟩ 1 1 [I v, I j, I now, I (-1), .bool false] rfl rfl HNEW.out (by intro u hu; simp at hu; rcases hu with rfl | rfl | rfl | rfl | rfl <;> rfl) (by omega) (by unfold maxLen; omega) (by omega) (by simp; omega) (w4.heap.size + 1) (by simp) ?_
                 intro g5 cap5 w5 hown5 hgrow5 hat5 hlt5
                 obtain ⟨q1, -, qh, qf⟩ := H4.out.dgrown hgrow5
                 have c55 : w5.cell? ⟨bb, 5, none⟩ = some (.slice DA nd dc) := by rw [jcell q1]; rfl
                 have f55 : w5.frozen? ⟨bb, 5, none⟩ = false := jfroz q1
                 rw [HND.out] at hown5
                 have HU5 := Lib.hid (H4.out.begun (d := ⟨v, j, now, -1, false⟩) hgrow5 hown5)
                 rw [← HND.out] at HU5
                 have S5 := Lib.hid (And.intro ((qf.cell W4.out (by decide) (by decide) (by decide) (by decide)).trans cw) (And.intro ((qf.cell B4.out (by decide) (by decide) (by decide) (by decide)).trans ch) (And.intro ((urow_cell qh (show v * 5 < _ by rw [flatH_len]; omega)).trans ((urow_cell H4.out.hands (show v * 5 < _ by rw [flatH_len]; omega)).symm.trans y0)) (show w5.cell? ⟨bb, 4, none⟩ = some (I now) by rw [jcell q1]; rfl))))
                 have S6 := Lib.hid (And.intro ((HU5.out.2.cell W4.out (by decide) (by decide) (by decide) (by decide)).trans cw) (And.intro ((HU5.out.2.cell B4.out (by decide) (by decide) (by decide) (by decide)).trans ch) (And.intro ((HU5.out.1.hd hv).1.trans (by rw [HX.out])) HU5.out.1.fb.2.2.2.2.1)))
                 clear hown5 hgrow5 hat5 hlt5 q1 qh qf
                 refine hK.out _ _ (by exact S5.out) (fun hHeld3 => ?_)
                 clear hK K hHeld2
                 try simp only [Act.put, List.setIfInBounds_toArray, List.set_cons_zero, List.set_cons_succ]
                 refine wpAnyH_take (i := 17) (oi := { dst := some 71, op := Op.nilCheck (Operand.tmp 54), type := 0, pos := "hands.go:222", after := #[{ on := 0, ground := Ground.data }, { on := 0, ground := Ground.phase }, { on := 1, ground := Ground.phase }, { on := 2, ground := Ground.phase }, { on := 3, ground := Ground.phase }, { on := 4, ground := Ground.phase }, { on := 5, ground := Ground.phase }, { on := 6, ground := Ground.phase }, { on := 7, ground := Ground.phase }, { on := 8, ground := Ground.phase }, { on := 9, ground := Ground.phase }, { on := 10, ground := Ground.phase }, { on := 11, ground := Ground.phase }, { on := 12, ground := Ground.phase }, { on := 13, ground := Ground.phase }, { on := 14, ground := Ground.phase }, { on := 15, ground := Ground.phase }, { on := 16, ground := Ground.phase }], guard := none }) (v := ?_) rfl (by kernel_rfl) (by kernel_rfl) (by kernel_rfl) (fun _ _ _ h => h) (Or.inl ⟨by rfl, ?_⟩) (by assumption) ?_
                 rotate_left
                 · intro w hSw
                   try dsimp only at hSw
                   go_simp
                   try with_reducible rfl
                 try simp only [Act.put, List.setIfInBounds_toArray, List.set_cons_zero, List.set_cons_succ]
                 refine wpAnyH_take (i := 18) (oi := { dst := some 72, op := Op.fieldAddr 59 (Operand.tmp 71) 5, type := 0, pos := "hands.go:222", after := #[{ on := 17, ground := Ground.data }, { on := 0, ground := Ground.phase }, { on := 1, ground := Ground.phase }, { on := 2, ground := Ground.phase }, { on := 3, ground := Ground.phase }, { on := 4, ground := Ground.phase }, { on := 5, ground := Ground.phase }, { on := 6, ground := Ground.phase }, { on := 7, ground := Ground.phase }, { on := 8, ground := Ground.phase }, { on := 9, ground := Ground.phase }, { on := 10, ground := Ground.phase }, { on := 11, ground := Ground.phase }, { on := 12, ground := Ground.phase }, { on := 13, ground := Ground.phase }, { on := 14, ground := Ground.phase }, { on := 15, ground := Ground.phase }, { on := 16, ground := Ground.phase }], guard := none }) (v := ?_) rfl (by kernel_rfl) (by kernel_rfl) (by kernel_rfl) (fun _ _ _ h => h) (Or.inl ⟨by rfl, ?_⟩) (by assumption) ?_
                 rotate_left
                 · intro w hSw
                   try dsimp only at hSw
                   go_simp
                   try with_reducible rfl
                 try simp only [Act.put, List.setIfInBounds_toArray, List.set_cons_zero, List.set_cons_succ]
                 refine wpAnyH_ready (rs := [19]) (by kernel_rfl) (by simp) ?_
                 refine AllReadyH.cons (o := { dst := none, op := Op.store 24 (Operand.tmp 72) (Operand.tmp 70), type := 0, pos := "hands.go:222", after := #[{ on := 18, ground := Ground.data }, { on := 16, ground := Ground.data }, { on := 16, ground := Ground.chain }, { on := 0, ground := Ground.phase }, { on := 1, ground := Ground.phase }, { on := 2, ground := Ground.phase }, { on := 3, ground := Ground.phase }, { on := 4, ground := Ground.phase }, { on := 5, ground := Ground.phase }, { on := 6, ground := Ground.phase }, { on := 7, ground := Ground.phase }, { on := 8, ground := Ground.phase }, { on := 9, ground := Ground.phase }, { on := 10, ground := Ground.phase }, { on := 11, ground := Ground.phase }, { on := 12, ground := Ground.phase }, { on := 13, ground := Ground.phase }, { on := 14, ground := Ground.phase }, { on := 15, ground := Ground.phase }, { on := 16, ground := Ground.phase }], guard := none }) rfl (fun K hK => ?_) ?_
                 · go_simp
                   refine hK.out _ _ (by exact S6.out) (fun hHeld4 => ?_)
                   clear hK K hHeld3
                   try simp only [Act.put, List.setIfInBounds_toArray, List.set_cons_zero, List.set_cons_succ]
                   refine wpAnyH_done (by kernel_rfl) ?_ _
                   refine NoPanic.normal ?_
                   go_wp2_with fail
                   go_meet
                   case rel => exact ⟨g5, cap5, HU5⟩
                 exact AllReadyH.nil
               exact AllReadyH.nil
             exact AllReadyH.nil
           refine AllReadyH.cons (o := { dst := some 69, op := Op.buildSlice 24 1 #[(0, Operand.tmp 68)], type := 24, pos := "hands.go:222", after := #[{ on := 14, ground := Ground.data }], guard := none }) rfl (fun K hK => ?_) ?_
           · go_simp
             refine hK.out _ _ (by exact ⟨cwa _, cha _, y0a _, f4a _⟩) (fun hHeld1 => ?_)
             clear hK K hHeld0
             try simp only [Act.put, List.setIfInBounds_toArray, List.set_cons_zero, List.set_cons_succ]
             refine wpAnyH_ready (rs := [4]) (by kernel_rfl) (by simp) ?_
             refine AllReadyH.cons (o := { dst := some 58, op := Op.load 24 (Operand.tmp 57), type := 24, pos := "hands.go:222", after := #[{ on := 3, ground := Ground.data }], guard := none }) rfl (fun K hK => ?_) ?_
             · go_simp
               refine hK.out _ _ (by exact ⟨cwa _, cha _, y0a _, f4a _⟩) (fun hHeld2 => ?_)
               clear hK K hHeld1
               try simp only [Act.put, List.setIfInBounds_toArray, List.set_cons_zero, List.set_cons_succ]
               refine wpAnyH_ready (rs := [16]) (by kernel_rfl) (by simp) ?_
               refine AllReadyH.cons (o := { dst := some 70, op := Op.call { callee := Callee.builtin Builtin.append, args := #[Operand.tmp 58, Operand.tmp 69], argTypes := #[24, 24] }, type := 24, pos := "hands.go:222", after := #[{ on := 4, ground := Ground.data }, { on := 15, ground := Ground.data }], guard := none }) rfl (fun K hK => ?_) ?_
               · refine step_append_lies _ rfl (.tmp 58) (.tmp 69) 24 rfl base 37 i0 _ 5 40 Try.underlying24 HI.out HZ0.out HZ1.out HZ2.out rfl (by omega) (.slice DA nd dc) nd (flatD L) rfl HOWN.out ⟨w4.heap.size, 0, none⟩ 1 1 [I v, I j, I now, I (-1), .bool false] rfl rfl HNEW.out (by intro u hu; simp at hu; rcases hu with rfl | rfl | rfl | rfl | rfl <;> rfl) (by omega) (by unfold maxLen; omega) (by omega) (by simp; omega) (w4.heap.size + 1) (by simp) ?_
                 intro g5 cap5 w5 hown5 hgrow5 hat5 hlt5
                 obtain ⟨q1, -, qh, qf⟩ := H4.out.dgrown hgrow5
                 have c55 : w5.cell? ⟨bb, 5, none⟩ = some (.slice DA nd dc) := by rw [jcell q1]; rfl
                 have f55 : w5.frozen? ⟨bb, 5, none⟩ = false := jfroz q1
                 rw [HND.out] at hown5
                 have HU5 := Lib.hid (H4.out.begun (d := ⟨v, j, now, -1, false⟩) hgrow5 hown5)
                 rw [← HND.out] at HU5
                 have S5 := Lib.hid (And.intro ((qf.cell W4.out (by decide) (by decide) (by decide) (by decide)).trans cw) (And.intro ((qf.cell B4.out (by decide) (by decide) (by decide) (by decide)).trans ch) (And.intro ((urow_cell qh (show v * 5 < _ by rw [flatH_len]; omega)).trans ((urow_cell H4.out.hands (show v * 5 < _ by rw [flatH_len]; omega)).symm.trans y0)) (show w5.cell? ⟨bb, 4, none⟩ = some (I now) by rw [jcell q1]; rfl))))
                 have S6 := Lib.hid (And.intro ((HU5.out.2.cell W4.out (by decide) (by decide) (by decide) (by decide)).trans cw) (And.intro ((HU5.out.2.cell B4.out (by decide) (by decide) (by decide) (by decide)).trans ch) (And.intro ((HU5.out.1.hd hv).1.trans (by rw [HX.out])) HU5.out.1.fb.2.2.2.2.1)))
                 clear hown5 hgrow5 hat5 hlt5 q1 qh qf
                 refine hK.out _ _ (by exact S5.out) (fun hHeld3 => ?_)
                 clear hK K hHeld2
                 try simp only [Act.put, List.setIfInBounds_toArray, List.set_cons_zero, List.set_cons_succ]
                 refine wpAnyH_take (i := 17) (oi := { dst := some 71, op := Op.nilCheck (Operand.tmp 54), type := 0, pos := "hands.go:222", after := #[{ on := 0, ground := Ground.data }, { on := 0, ground := Ground.phase }, { on := 1, ground := Ground.phase }, { on := 2, ground := Ground.phase }, { on := 3, ground := Ground.phase }, { on := 4, ground := Ground.phase }, { on := 5, ground := Ground.phase }, { on := 6, ground := Ground.phase }, { on := 7, ground := Ground.phase }, { on := 8, ground := Ground.phase }, { on := 9, ground := Ground.phase }, { on := 10, ground := Ground.phase }, { on := 11, ground := Ground.phase }, { on := 12, ground := Ground.phase }, { on := 13, ground := Ground.phase }, { on := 14, ground := Ground.phase }, { on := 15, ground := Ground.phase }, { on := 16, ground := Ground.phase }], guard := none }) (v := ?_) rfl (by kernel_rfl) (by kernel_rfl) (by kernel_rfl) (fun _ _ _ h => h) (Or.inl ⟨by rfl, ?_⟩) (by assumption) ?_
                 rotate_left
                 · intro w hSw
                   try dsimp only at hSw
                   go_simp
                   try with_reducible rfl
                 try simp only [Act.put, List.setIfInBounds_toArray, List.set_cons_zero, List.set_cons_succ]
                 refine wpAnyH_take (i := 18) (oi := { dst := some 72, op := Op.fieldAddr 59 (Operand.tmp 71) 5, type := 0, pos := "hands.go:222", after := #[{ on := 17, ground := Ground.data }, { on := 0, ground := Ground.phase }, { on := 1, ground := Ground.phase }, { on := 2, ground := Ground.phase }, { on := 3, ground := Ground.phase }, { on := 4, ground := Ground.phase }, { on := 5, ground := Ground.phase }, { on := 6, ground := Ground.phase }, { on := 7, ground := Ground.phase }, { on := 8, ground := Ground.phase }, { on := 9, ground := Ground.phase }, { on := 10, ground := Ground.phase }, { on := 11, ground := Ground.phase }, { on := 12, ground := Ground.phase }, { on := 13, ground := Ground.phase }, { on := 14, ground := Ground.phase }, { on := 15, ground := Ground.phase }, { on := 16, ground := Ground.phase }], guard := none }) (v := ?_) rfl (by kernel_rfl) (by kernel_rfl) (by kernel_rfl) (fun _ _ _ h => h) (Or.inl ⟨by rfl, ?_⟩) (by assumption) ?_
                 rotate_left
                 · intro w hSw
                   try dsimp only at hSw
                   go_simp
                   try with_reducible rfl
                 try simp only [Act.put, List.setIfInBounds_toArray, List.set_cons_zero, List.set_cons_succ]
                 refine wpAnyH_ready (rs := [19]) (by kernel_rfl) (by simp) ?_
                 refine AllReadyH.cons (o := { dst := none, op := Op.store 24 (Operand.tmp 72) (Operand.tmp 70), type := 0, pos := "hands.go:222", after := #[{ on := 18, ground := Ground.data }, { on := 16, ground := Ground.data }, { on := 16, ground := Ground.chain }, { on := 0, ground := Ground.phase }, { on := 1, ground := Ground.phase }, { on := 2, ground := Ground.phase }, { on := 3, ground := Ground.phase }, { on := 4, ground := Ground.phase }, { on := 5, ground := Ground.phase }, { on := 6, ground := Ground.phase }, { on := 7, ground := Ground.phase }, { on := 8, ground := Ground.phase }, { on := 9, ground := Ground.phase }, { on := 10, ground := Ground.phase }, { on := 11, ground := Ground.phase }, { on := 12, ground := Ground.phase }, { on := 13, ground := Ground.phase }, { on := 14, ground := Ground.phase }, { on := 15, ground := Ground.phase }, { on := 16, ground := Ground.phase }], guard := none }) rfl (fun K hK => ?_) ?_
                 · go_simp
                   refine hK.out _ _ (by exact S6.out) (fun hHeld4 => ?_)
                   clear hK K hHeld3
                   try simp only [Act.put, List.setIfInBounds_toArray, List.set_cons_zero, List.set_cons_succ]
                   refine wpAnyH_done (by kernel_rfl) ?_ _
                   refine NoPanic.normal ?_
                   go_wp2_with fail
                   go_meet
                   case rel => exact ⟨g5, cap5, HU5⟩
                 exact AllReadyH.nil
               exact AllReadyH.nil
             exact AllReadyH.nil
           exact AllReadyH.nil
          case rest =>
              try clear f0
              try clear f1
              try clear f2
              try clear f3
              try clear f4
              try clear f5
              try clear ff
              try clear y0
              try clear y1
              try clear y2
              try clear y3
              try clear y4
              try clear yf
              try clear cw
              try clear ch
              try clear cq
              try clear ck
              try clear hp'
              try clear q0'
              try clear q1'
              obtain ⟨g5, cap5, HU5⟩ := hcut
              obtain ⟨w5', hw5⟩ : ∃ x, x = wc := ⟨_, rfl⟩
              rw [← hw5] at HU5 ⊢
              clear hw5
              obtain ⟨hu5, hb5⟩ := HU5.out
              clear HU5 f5a f4a cwa cha y0a l1 HNEW HOWN
              have H5 : Hid (UB w5' base bb gB cB gH cH al nh s lk ix hs (.slice (some ⟨pb, poff, none⟩) nh' pc) (.slice (some ⟨g5, 0, none⟩) (nd + 1) cap5) now (L ++ [⟨v, j, now, -1, false⟩])) := hu5
              have F5 : Hid (UF base w3 w5') := F4.out.trans hb5
              clear hu5 hb5
              have W5 : Hid (w5'.heap[wb]? = some (.cells #[I v] 3 (0, 0))) := F5.out.blk W3.out (by decide) (by decide) (by decide) (by decide)
              have B5 : Hid (w5'.heap[hb]? = some (.cells #[.pointer (some ⟨gH, v * 5, none⟩)] 79 (0, 0))) := F5.out.blk B3.out (by decide) (by decide) (by decide) (by decide)
              have Q5 : Hid (w5'.heap[db]? = some (.cells #[I kd, I K] 50 (0, 0))) := F5.out.blk Q3.out (by decide) (by decide) (by decide) (by decide)
              rcases HALL.out with hal | hal | hal | hal
              · subst hal
                try clear f0
                try clear f1
                try clear f2
                try clear f3
                try clear f4
                try clear f5
                try clear ff
                try clear y0
                try clear y1
                try clear y2
                try clear y3
                try clear y4
                try clear yf
                try clear cw
                try clear ch
                try clear cq
                try clear ck
                try clear hp'
                try clear q0'
                try clear q1'
                obtain ⟨f0, f1, f2, f3, f4, f5, ff⟩ := H5.out.fb
                obtain ⟨y0, y1, y2, y3, y4, yf⟩ := H5.out.hd hv
                rw [HX.out] at y0
                have f0q : w5'.cell? ⟨bb, 0, none⟩ = some (I 1) := f0
                clear f0
                have f0 := f0q
                clear f0q
                have cw : w5'.cell? ⟨wb, 0, none⟩ = some (I v) := by rw [jcell W5.out]; rfl
                have ch : w5'.cell? ⟨hb, 0, none⟩ = some (.pointer (some ⟨gH, v * 5, none⟩)) := by rw [jcell B5.out]; rfl
                have cq : w5'.cell? ⟨db, 0, none⟩ = some (I kd) := by rw [jcell Q5.out]; rfl
                have ck : w5'.cell? ⟨db, 1, none⟩ = some (I K) := by rw [jcell Q5.out]; rfl
                clear f1 f2 f3 f4 f5 ff y0 y1 y2 y3 y4 yf cw
                have HC := Lib.hid (HRH1.out rfl w5' _ H5.out)
                go_wp2_with fail
                refine HC.out.mono ?_
                rintro e w6 ⟨rfl, ⟨gB6, cB6, h6⟩, f6⟩
                rw [HO.out]
                have H6 : Hid (UB w6 base bb gB6 cB6 gH cH 1 nh r.s r.lk ix (upd hs v r.h) (.slice (some ⟨pb, poff, none⟩) nh' pc) (.slice (some ⟨g5, 0, none⟩) (nd + 1) cap5) now (L ++ [⟨v, j, now, -1, false⟩])) := h6
                have F6 := Lib.hid (F5.out.trans f6)
                clear h6 f6 HC
                have W6 : Hid (w6.heap[wb]? = some (.cells #[I v] 3 (0, 0))) := F6.out.blk W3.out (by decide) (by decide) (by decide) (by decide)
                have B6 : Hid (w6.heap[hb]? = some (.cells #[.pointer (some ⟨gH, v * 5, none⟩)] 79 (0, 0))) := F6.out.blk B3.out (by decide) (by decide) (by decide) (by decide)
                have Q6 : Hid (w6.heap[db]? = some (.cells #[I kd, I K] 50 (0, 0))) := F6.out.blk Q3.out (by decide) (by decide) (by decide) (by decide)
                try clear f0
                try clear f1
                try clear f2
                try clear f3
                try clear f4
                try clear f5
                try clear ff
                try clear y0
                try clear y1
                try clear y2
                try clear y3
                try clear y4
                try clear yf
                try clear cw
                try clear ch
                try clear cq
                try clear ck
                try clear hp'
                try clear q0'
                try clear q1'
                obtain ⟨f0, f1, f2, f3, f4, f5, ff⟩ := H6.out.fb
                obtain ⟨y0, y1, y2, y3, y4, yf⟩ := H6.out.hd hv
                rw [HX.out] at y0
                rw [upd_same] at y1 y2 y3 y4
                have f0q : w6.cell? ⟨bb, 0, none⟩ = some (I 1) := f0
                clear f0
                have f0 := f0q
                clear f0q
                have cw : w6.cell? ⟨wb, 0, none⟩ = some (I v) := by rw [jcell W6.out]; rfl
                have ch : w6.cell? ⟨hb, 0, none⟩ = some (.pointer (some ⟨gH, v * 5, none⟩)) := by rw [jcell B6.out]; rfl
                have cq : w6.cell? ⟨db, 0, none⟩ = some (I kd) := by rw [jcell Q6.out]; rfl
                have ck : w6.cell? ⟨db, 1, none⟩ = some (I K) := by rw [jcell Q6.out]; rfl
                clear f0 f1 f2 f3 f5 y0 y1 y2 y3 y4 yf cw ch cq ck
                have H7 : Hid (UB (w6.setCell ⟨bb, 4, none⟩ (I ((now : Int) + 1))) base bb gB6 cB6 gH cH 1 nh r.s r.lk ix (upd hs v r.h) (.slice (some ⟨pb, poff, none⟩) nh' pc) (.slice (some ⟨g5, 0, none⟩) (nd + 1) cap5) (now + 1) (L ++ [⟨v, j, now, -1, false⟩])) := by
                  have hnw : ((now + 1 : Nat) : Int) = (now : Int) + 1 := by omega
                  rw [← hnw]
                  exact H6.out.nset (now + 1)
                have G7 : Hid (UF base w (w6.setCell ⟨bb, 4, none⟩ (I ((now : Int) + 1)))) := (G3.out.trans F6.out).trans (H6.out.ufb _ _)
                go_wp2
                go_ret
                exact ⟨rfl, ⟨_, _, _, H7.out⟩, G7.out⟩
              · subst hal
                try clear f0
                try clear f1
                try clear f2
                try clear f3
                try clear f4
                try clear f5
                try clear ff
                try clear y0
                try clear y1
                try clear y2
                try clear y3
                try clear y4
                try clear yf
                try clear cw
                try clear ch
                try clear cq
                try clear ck
                try clear hp'
                try clear q0'
                try clear q1'
                obtain ⟨f0, f1, f2, f3, f4, f5, ff⟩ := H5.out.fb
                obtain ⟨y0, y1, y2, y3, y4, yf⟩ := H5.out.hd hv
                rw [HX.out] at y0
                have f0q : w5'.cell? ⟨bb, 0, none⟩ = some (I 2) := f0
                clear f0
                have f0 := f0q
                clear f0q
                have cw : w5'.cell? ⟨wb, 0, none⟩ = some (I v) := by rw [jcell W5.out]; rfl
                have ch : w5'.cell? ⟨hb, 0, none⟩ = some (.pointer (some ⟨gH, v * 5, none⟩)) := by rw [jcell B5.out]; rfl
                have cq : w5'.cell? ⟨db, 0, none⟩ = some (I kd) := by rw [jcell Q5.out]; rfl
                have ck : w5'.cell? ⟨db, 1, none⟩ = some (I K) := by rw [jcell Q5.out]; rfl
                clear f1 f2 f3 f4 f5 ff y0 y1 y2 y3 y4 yf cw
                have HC := Lib.hid (HRH2.out rfl w5' _ H5.out)
                go_wp2_with fail
                refine HC.out.mono ?_
                rintro e w6 ⟨rfl, ⟨gB6, cB6, h6⟩, f6⟩
                rw [HO.out]
                have H6 : Hid (UB w6 base bb gB6 cB6 gH cH 2 nh r.s r.lk ix (upd hs v r.h) (.slice (some ⟨pb, poff, none⟩) nh' pc) (.slice (some ⟨g5, 0, none⟩) (nd + 1) cap5) now (L ++ [⟨v, j, now, -1, false⟩])) := h6
                have F6 := Lib.hid (F5.out.trans f6)
                clear h6 f6 HC
                have W6 : Hid (w6.heap[wb]? = some (.cells #[I v] 3 (0, 0))) := F6.out.blk W3.out (by decide) (by decide) (by decide) (by decide)
                have B6 : Hid (w6.heap[hb]? = some (.cells #[.pointer (some ⟨gH, v * 5, none⟩)] 79 (0, 0))) := F6.out.blk B3.out (by decide) (by decide) (by decide) (by decide)
                have Q6 : Hid (w6.heap[db]? = some (.cells #[I kd, I K] 50 (0, 0))) := F6.out.blk Q3.out (by decide) (by decide) (by decide) (by decide)
                try clear f0
                try clear f1
                try clear f2
                try clear f3
                try clear f4
                try clear f5
                try clear ff
                try clear y0
                try clear y1
                try clear y2
                try clear y3
                try clear y4
                try clear yf
                try clear cw
                try clear ch
                try clear cq
                try clear ck
                try clear hp'
                try clear q0'
                try clear q1'
                obtain ⟨f0, f1, f2, f3, f4, f5, ff⟩ := H6.out.fb
                obtain ⟨y0, y1, y2, y3, y4, yf⟩ := H6.out.hd hv
                rw [HX.out] at y0
                rw [upd_same] at y1 y2 y3 y4
                have f0q : w6.cell? ⟨bb, 0, none⟩ = some (I 2) := f0
                clear f0
                have f0 := f0q
                clear f0q
                have cw : w6.cell? ⟨wb, 0, none⟩ = some (I v) := by rw [jcell W6.out]; rfl
                have ch : w6.cell? ⟨hb, 0, none⟩ = some (.pointer (some ⟨gH, v * 5, none⟩)) := by rw [jcell B6.out]; rfl
                have cq : w6.cell? ⟨db, 0, none⟩ = some (I kd) := by rw [jcell Q6.out]; rfl
                have ck : w6.cell? ⟨db, 1, none⟩ = some (I K) := by rw [jcell Q6.out]; rfl
                clear f0 f1 f2 f3 f5 y0 y1 y2 y3 y4 yf cw ch cq ck
                have H7 : Hid (UB (w6.setCell ⟨bb, 4, none⟩ (I ((now : Int) + 1))) base bb gB6 cB6 gH cH 2 nh r.s r.lk ix (upd hs v r.h) (.slice (some ⟨pb, poff, none⟩) nh' pc) (.slice (some ⟨g5, 0, none⟩) (nd + 1) cap5) (now + 1) (L ++ [⟨v, j, now, -1, false⟩])) := by
                  have hnw : ((now + 1 : Nat) : Int) = (now : Int) + 1 := by omega
                  rw [← hnw]
                  exact H6.out.nset (now + 1)
                have G7 : Hid (UF base w (w6.setCell ⟨bb, 4, none⟩ (I ((now : Int) + 1)))) := (G3.out.trans F6.out).trans (H6.out.ufb _ _)
                go_wp2
                go_ret
                exact ⟨rfl, ⟨_, _, _, H7.out⟩, G7.out⟩
              · subst hal
                try clear f0
                try clear f1
                try clear f2
                try clear f3
                try clear f4
                try clear f5
                try clear ff
                try clear y0
                try clear y1
                try clear y2
                try clear y3
                try clear y4
                try clear yf
                try clear cw
                try clear ch
                try clear cq
                try clear ck
                try clear hp'
                try clear q0'
                try clear q1'
                obtain ⟨f0, f1, f2, f3, f4, f5, ff⟩ := H5.out.fb
                obtain ⟨y0, y1, y2, y3, y4, yf⟩ := H5.out.hd hv
                rw [HX.out] at y0
                have f0q : w5'.cell? ⟨bb, 0, none⟩ = some (I 3) := f0
                clear f0
                have f0 := f0q
                clear f0q
                have cw : w5'.cell? ⟨wb, 0, none⟩ = some (I v) := by rw [jcell W5.out]; rfl
                have ch : w5'.cell? ⟨hb, 0, none⟩ = some (.pointer (some ⟨gH, v * 5, none⟩)) := by rw [jcell B5.out]; rfl
                have cq : w5'.cell? ⟨db, 0, none⟩ = some (I kd) := by rw [jcell Q5.out]; rfl
                have ck : w5'.cell? ⟨db, 1, none⟩ = some (I K) := by rw [jcell Q5.out]; rfl
                clear f1 f2 f3 f4 f5 ff y0 y1 y2 y3 y4 yf cw
                have HC := Lib.hid (HRH3.out rfl w5' _ H5.out)
                go_wp2_with fail
                refine HC.out.mono ?_
                rintro e w6 ⟨rfl, ⟨gB6, cB6, h6⟩, f6⟩
                rw [HO.out]
                have H6 : Hid (UB w6 base bb gB6 cB6 gH cH 3 nh r.s r.lk ix (upd hs v r.h) (.slice (some ⟨pb, poff, none⟩) nh' pc) (.slice (some ⟨g5, 0, none⟩) (nd + 1) cap5) now (L ++ [⟨v, j, now, -1, false⟩])) := h6
                have F6 := Lib.hid (F5.out.trans f6)
                clear h6 f6 HC
                have W6 : Hid (w6.heap[wb]? = some (.cells #[I v] 3 (0, 0))) := F6.out.blk W3.out (by decide) (by decide) (by decide) (by decide)
                have B6 : Hid (w6.heap[hb]? = some (.cells #[.pointer (some ⟨gH, v * 5, none⟩)] 79 (0, 0))) := F6.out.blk B3.out (by decide) (by decide) (by decide) (by decide)
                have Q6 : Hid (w6.heap[db]? = some (.cells #[I kd, I K] 50 (0, 0))) := F6.out.blk Q3.out (by decide) (by decide) (by decide) (by decide)
                try clear f0
                try clear f1
                try clear f2
                try clear f3
                try clear f4
                try clear f5
                try clear ff
                try clear y0
                try clear y1
                try clear y2
                try clear y3
                try clear y4
                try clear yf
                try clear cw
                try clear ch
                try clear cq
                try clear ck
                try clear hp'
                try clear q0'
                try clear q1'
                obtain ⟨f0, f1, f2, f3, f4, f5, ff⟩ := H6.out.fb
                obtain ⟨y0, y1, y2, y3, y4, yf⟩ := H6.out.hd hv
                rw [HX.out] at y0
                rw [upd_same] at y1 y2 y3 y4
                have f0q : w6.cell? ⟨bb, 0, none⟩ = some (I 3) := f0
                clear f0
                have f0 := f0q
                clear f0q
                have cw : w6.cell? ⟨wb, 0, none⟩ = some (I v) := by rw [jcell W6.out]; rfl
                have ch : w6.cell? ⟨hb, 0, none⟩ = some (.pointer (some ⟨gH, v * 5, none⟩)) := by rw [jcell B6.out]; rfl
                have cq : w6.cell? ⟨db, 0, none⟩ = some (I kd) := by rw [jcell Q6.out]; rfl
                have ck : w6.cell? ⟨db, 1, none⟩ = some (I K) := by rw [jcell Q6.out]; rfl
                clear f0 f1 f2 f3 f5 y0 y1 y2 y3 y4 yf cw ch cq ck
                have H7 : Hid (UB (w6.setCell ⟨bb, 4, none⟩ (I ((now : Int) + 1))) base bb gB6 cB6 gH cH 3 nh r.s r.lk ix (upd hs v r.h) (.slice (some ⟨pb, poff, none⟩) nh' pc) (.slice (some ⟨g5, 0, none⟩) (nd + 1) cap5) (now + 1) (L ++ [⟨v, j, now, -1, false⟩])) := by
                  have hnw : ((now + 1 : Nat) : Int) = (now : Int) + 1 := by omega
                  rw [← hnw]
                  exact H6.out.nset (now + 1)
                have G7 : Hid (UF base w (w6.setCell ⟨bb, 4, none⟩ (I ((now : Int) + 1)))) := (G3.out.trans F6.out).trans (H6.out.ufb _ _)
                go_wp2
                go_ret
                exact ⟨rfl, ⟨_, _, _, H7.out⟩, G7.out⟩
              · subst hal
                try clear f0
                try clear f1
                try clear f2
                try clear f3
                try clear f4
                try clear f5
                try clear ff
                try clear y0
                try clear y1
                try clear y2
                try clear y3
                try clear y4
                try clear yf
                try clear cw
                try clear ch
                try clear cq
                try clear ck
                try clear hp'
                try clear q0'
                try clear q1'
                obtain ⟨f0, f1, f2, f3, f4, f5, ff⟩ := H5.out.fb
                obtain ⟨y0, y1, y2, y3, y4, yf⟩ := H5.out.hd hv
                rw [HX.out] at y0
                have f0q : w5'.cell? ⟨bb, 0, none⟩ = some (I 4) := f0
                clear f0
                have f0 := f0q
                clear f0q
                have cw : w5'.cell? ⟨wb, 0, none⟩ = some (I v) := by rw [jcell W5.out]; rfl
                have ch : w5'.cell? ⟨hb, 0, none⟩ = some (.pointer (some ⟨gH, v * 5, none⟩)) := by rw [jcell B5.out]; rfl
                have cq : w5'.cell? ⟨db, 0, none⟩ = some (I kd) := by rw [jcell Q5.out]; rfl
                have ck : w5'.cell? ⟨db, 1, none⟩ = some (I K) := by rw [jcell Q5.out]; rfl
                clear f1 f2 f3 f4 f5 ff y0 y1 y2 y3 y4 yf cw
                have HC := Lib.hid (HRH4.out rfl w5' _ H5.out)
                go_wp2_with fail
                refine HC.out.mono ?_
                rintro e w6 ⟨rfl, ⟨gB6, cB6, h6⟩, f6⟩
                rw [HO.out]
                have H6 : Hid (UB w6 base bb gB6 cB6 gH cH 4 nh r.s r.lk ix (upd hs v r.h) (.slice (some ⟨pb, poff, none⟩) nh' pc) (.slice (some ⟨g5, 0, none⟩) (nd + 1) cap5) now (L ++ [⟨v, j, now, -1, false⟩])) := h6
                have F6 := Lib.hid (F5.out.trans f6)
                clear h6 f6 HC
                have W6 : Hid (w6.heap[wb]? = some (.cells #[I v] 3 (0, 0))) := F6.out.blk W3.out (by decide) (by decide) (by decide) (by decide)
                have B6 : Hid (w6.heap[hb]? = some (.cells #[.pointer (some ⟨gH, v * 5, none⟩)] 79 (0, 0))) := F6.out.blk B3.out (by decide) (by decide) (by decide) (by decide)
                have Q6 : Hid (w6.heap[db]? = some (.cells #[I kd, I K] 50 (0, 0))) := F6.out.blk Q3.out (by decide) (by decide) (by decide) (by decide)
                try clear f0
                try clear f1
                try clear f2
                try clear f3
                try clear f4
                try clear f5
                try clear ff
                try clear y0
                try clear y1
                try clear y2
                try clear y3
                try clear y4
                try clear yf
                try clear cw
                try clear ch
                try clear cq
                try clear ck
                try clear hp'
                try clear q0'
                try clear q1'
                obtain ⟨f0, f1, f2, f3, f4, f5, ff⟩ := H6.out.fb
                obtain ⟨y0, y1, y2, y3, y4, yf⟩ := H6.out.hd hv
                rw [HX.out] at y0
                rw [upd_same] at y1 y2 y3 y4
                have f0q : w6.cell? ⟨bb, 0, none⟩ = some (I 4) := f0
                clear f0
                have f0 := f0q
                clear f0q
                have cw : w6.cell? ⟨wb, 0, none⟩ = some (I v) := by rw [jcell W6.out]; rfl
                have ch : w6.cell? ⟨hb, 0, none⟩ = some (.pointer (some ⟨gH, v * 5, none⟩)) := by rw [jcell B6.out]; rfl
                have cq : w6.cell? ⟨db, 0, none⟩ = some (I kd) := by rw [jcell Q6.out]; rfl
                have ck : w6.cell? ⟨db, 1, none⟩ = some (I K) := by rw [jcell Q6.out]; rfl
                clear f0 f1 f2 f3 f5 y0 y1 y2 y3 y4 yf cw ch cq ck
                have H7 : Hid (UB (w6.setCell ⟨bb, 4, none⟩ (I ((now : Int) + 1))) base bb gB6 cB6 gH cH 4 nh r.s r.lk ix (upd hs v r.h) (.slice (some ⟨pb, poff, none⟩) nh' pc) (.slice (some ⟨g5, 0, none⟩) (nd + 1) cap5) (now + 1) (L ++ [⟨v, j, now, -1, false⟩])) := by
                  have hnw : ((now + 1 : Nat) : Int) = (now : Int) + 1 := by omega
                  rw [← hnw]
                  exact H6.out.nset (now + 1)
                have G7 : Hid (UF base w (w6.setCell ⟨bb, 4, none⟩ (I ((now : Int) + 1)))) := (G3.out.trans F6.out).trans (H6.out.ufb _ _)
                go_wp2
                go_ret
                exact ⟨rfl, ⟨_, _, _, H7.out⟩, G7.out⟩))
end
end Go.Proofs.Ytfmdpmebllepeaa

/-
  hedgref's Bench: step. Written by tools/gen_ustep.py.
-/
namespace Go.Proofs.Ytfmdpmebllepeaa
open Go.RowKit Go.Maps

section
variable {w : World} {base bb gB cB gH cH nh nh' : Nat} {s : Bs} {lk : Nat → Bool} {ix : Nat → Nat} {hs : Nat → Hd} {dv : Value} {now v j b pb poff pc qb qoff sn sc : Nat} {X Y L : List Dn} {kd K : Int} {r : Rel}
variable {al : Nat}
set_option maxRecDepth 100000 in
set_option maxHeartbeats 16000000 in
theorem ustep_had_go (h : UB w base bb gB cB gH cH al nh s lk ix hs (.slice (some ⟨pb, poff, none⟩) nh' pc) dv now (X ++ ⟨v, j, b, -1, false⟩ :: Y)) (hv : v < nh) (hvp : v < nh') (hx : ix v = j) (hX : fix1 (isV v j) (X ++ ⟨v, j, b, -1, false⟩ :: Y) = (X.length : Int)) (hLL : (X ++ (⟨v, j, b, -1, false⟩ : Dn) :: Y).length ≤ 10000) (hnow : now ≤ 5000) (hjn : j < sn) (hsn : sn ≤ 4) (hpb : pb < base) (hqb : qb < base)
    (hp : w.cell? ⟨pb, poff + v, none⟩ = some (.slice (some ⟨qb, qoff, none⟩) sn sc)) (q0 : w.cell? ⟨qb, qoff + j * 2, none⟩ = some (I kd)) (q1 : w.cell? ⟨qb, qoff + j * 2 + 1, none⟩ = some (I K)) (ho : r.over = false)
    (hal : al = 1 ∨ al = 2 ∨ al = 3 ∨ al = 4)
    (HR1 : al = 1 → ∀ w' dv', UB w' base bb gB cB gH cH 1 nh s lk ix hs (.slice (some ⟨pb, poff, none⟩) nh' pc) dv' now (X ++ ⟨v, j, b, -1, false⟩ :: Y) → Calls Try.prog 40 #[jp bb, .pointer (some ⟨gH, v * 5, none⟩), .agg #[I kd, I K]] w' (RetH base bb gH cH 1 nh ix hs (.slice (some ⟨pb, poff, none⟩) nh' pc) dv' now (X ++ ⟨v, j, b, -1, false⟩ :: Y) v r w'))
    (HR2 : al = 2 → ∀ w' dv', UB w' base bb gB cB gH cH 2 nh s lk ix hs (.slice (some ⟨pb, poff, none⟩) nh' pc) dv' now (X ++ ⟨v, j, b, -1, false⟩ :: Y) → Calls Try.prog 41 #[jp bb, .pointer (some ⟨gH, v * 5, none⟩), .agg #[I kd, I K]] w' (RetH base bb gH cH 2 nh ix hs (.slice (some ⟨pb, poff, none⟩) nh' pc) dv' now (X ++ ⟨v, j, b, -1, false⟩ :: Y) v r w'))
    (HR3 : al = 3 → ∀ w' dv', UB w' base bb gB cB gH cH 3 nh s lk ix hs (.slice (some ⟨pb, poff, none⟩) nh' pc) dv' now (X ++ ⟨v, j, b, -1, false⟩ :: Y) → Calls Try.prog 42 #[jp bb, .pointer (some ⟨gH, v * 5, none⟩), .agg #[I kd, I K]] w' (RetH base bb gH cH 3 nh ix hs (.slice (some ⟨pb, poff, none⟩) nh' pc) dv' now (X ++ ⟨v, j, b, -1, false⟩ :: Y) v r w'))
    (HR4 : al = 4 → ∀ w' dv', UB w' base bb gB cB gH cH 4 nh s lk ix hs (.slice (some ⟨pb, poff, none⟩) nh' pc) dv' now (X ++ ⟨v, j, b, -1, false⟩ :: Y) → Calls Try.prog 42 #[jp bb, .pointer (some ⟨gH, v * 5, none⟩), .agg #[I kd, I K]] w' (RetH base bb gH cH 4 nh ix hs (.slice (some ⟨pb, poff, none⟩) nh' pc) dv' now (X ++ ⟨v, j, b, -1, false⟩ :: Y) v r w')) :
    Calls Try.prog 19 #[jp bb, I v] w (fun e w' => e = .returned (.bool true) ∧ (∃ gB' cB' dv', UB w' base bb gB' cB' gH cH al nh r.s r.lk ix (upd hs v r.h) (.slice (some ⟨pb, poff, none⟩) nh' pc) dv' (now + 1) (X ++ ⟨v, j, b, -1, false⟩ :: Y)) ∧ UF base w w') := by
  have hbz := h.bbase
  obtain ⟨n, hn⟩ : ∃ n, X.length = n := ⟨_, rfl⟩
  have hLn : (X ++ (⟨v, j, b, -1, false⟩ : Dn) :: Y).length = n + 1 + Y.length := by rw [← hn]; simp; omega
  obtain ⟨gd, nd, cd, rfl⟩ : ∃ gd nd cd, dv = .slice (some ⟨gd, 0, none⟩) nd cd := by
    obtain ⟨A, c, e, hA⟩ := h.done.is_
    rcases hA with h0 | ⟨g, rfl⟩
    · omega
    · exact ⟨_, _, _, e⟩
  obtain ⟨hnd, -⟩ := h.dn
  have hkn : (n : Int) < (nd : Int) := by omega
  have hk0 : (0 : Int) ≤ (n : Int) := by omega
  have hk0n : ¬ (n : Int) < 0 := by omega
  rw [hn] at hX
  have hDR : ∀ w', UB w' base bb gB cB gH cH al nh s lk ix hs (.slice (some ⟨pb, poff, none⟩) nh' pc) (.slice (some ⟨gd, 0, none⟩) nd cd) now (X ++ ⟨v, j, b, -1, false⟩ :: Y) → ∃ A c, ((.slice (some ⟨gd, 0, none⟩) nd cd) : Value) = Value.slice A nd c ∧ DR w' A nd (X ++ ⟨v, j, b, -1, false⟩ :: Y) := fun w' h' => by
    obtain ⟨A, c, e, hd⟩ := h'.done.dr
    rw [← hnd] at e hd
    exact ⟨A, c, e, hd⟩
  have hnd9 : nd ≤ 10000 := by omega
  have HDR := Lib.hid hDR
  have HN := Lib.hid hn
  have HHX := Lib.hid hX
  have HND := Lib.hid hnd
  have HRH1 := Lib.hid HR1
  have HRH2 := Lib.hid HR2
  have HRH3 := Lib.hid HR3
  have HRH4 := Lib.hid HR4
  have HALL := Lib.hid hal
  have HO := Lib.hid ho
  have HX := Lib.hid hx
  have HP := Lib.hid hp
  have HQ0 := Lib.hid q0
  have HQ1 := Lib.hid q1
  obtain ⟨w0, hw0⟩ : ∃ x, x = w.alloc (.cells #[I v] 3) := ⟨_, rfl⟩
  obtain ⟨wb, hwb⟩ : ∃ x, w.heap.size = x := ⟨_, rfl⟩
  have H0 : Hid (UB w0 base bb gB cB gH cH al nh s lk ix hs (.slice (some ⟨pb, poff, none⟩) nh' pc) (.slice (some ⟨gd, 0, none⟩) nd cd) now (X ++ ⟨v, j, b, -1, false⟩ :: Y)) := by rw [hw0]; exact h.keep ((Below.refl _ _).alloc (Nat.le_refl _) _)
  have G0 : Hid (UF base w w0) := by rw [hw0]; exact (UF.refl _ _).alloc hbz _
  have W0 : Hid (w0.heap[wb]? = some (.cells #[I v] 3 (0, 0))) := by rw [hw0, ← hwb]; exact heap_alloc_new _ _
  obtain ⟨f0, f1, f2, f3, f4, f5, ff⟩ := H0.out.fb
  have hwc : w0.cell? ⟨wb, 0, none⟩ = some (I v) := by rw [jcell W0.out]; rfl
  have f2a : ∀ o : Obj, (w0.alloc o).cell? ⟨bb, 2, none⟩ = some (.slice (some ⟨gH, 0, none⟩) nh cH) := fun o => (World.cell?_of_block (Below.heap_alloc _ _ _ (jblk H0.out.box))).trans f2
  have hwca : ∀ o : Obj, (w0.alloc o).cell? ⟨wb, 0, none⟩ = some (I v) := fun o => (World.cell?_of_block (Below.heap_alloc _ _ _ (jblk W0.out))).trans hwc
  have hvi : (v : Int) < (nh : Int) := by omega
  have hvi' : (v : Int) < (nh' : Int) := by omega
  have hji : (j : Int) < (sn : Int) := by omega
  have hv0 : (0 : Int) ≤ (v : Int) := by omega
  have hj0 : (0 : Int) ≤ (j : Int) := by omega
  have hjs : ((j : Int) == (sn : Int)) = false := by simp; omega
  have hj9 : j < 9 := by omega
  clear h hbz hx hp q0 q1 ho HR1 HR2 HR3 HR4 hal hDR hX hnd hn hLn hLL hjn hsn
  go_enter Try.func19, Try.ntmps19
  go_upto_region 1 with fail
  rw [← hw0]
  try rw [hwb]
  clear hw0 hwb
  go_region_held3 (fun w' => w'.cell? ⟨bb, 2, none⟩ = some (.slice (some ⟨gH, 0, none⟩) nh cH) ∧ w'.cell? ⟨wb, 0, none⟩ = some (I v))
    (first
      | exact ⟨f2, hwc⟩
      | exact ⟨f2a _, hwca _⟩)
    (fail)
  all_goals
    (
      obtain ⟨hb, hhb⟩ : ∃ x, w0.heap.size = x := ⟨_, rfl⟩
      clear f2a hwca hwc
      try clear f0
      try clear f1
      try clear f2
      try clear f3
      try clear f4
      try clear f5
      try clear ff
      try clear y0
      try clear y1
      try clear y2
      try clear y3
      try clear y4
      try clear yf
      try clear cw
      try clear ch
      try clear cq
      try clear ck
      try clear hp'
      try clear q0'
      try clear q1'
      obtain ⟨w1, hw1⟩ : ∃ x, x = (w0.alloc (.cells #[.pointer (some ⟨gH, v * 5, none⟩)] 79)).drew := ⟨_, rfl⟩
      have H1 : Hid (UB w1 base bb gB cB gH cH al nh s lk ix hs (.slice (some ⟨pb, poff, none⟩) nh' pc) (.slice (some ⟨gd, 0, none⟩) nd cd) now (X ++ ⟨v, j, b, -1, false⟩ :: Y)) := by rw [hw1]; exact (H0.out.keep ((Below.refl _ _).alloc (Nat.le_refl _) _)).drew
      have G1 : Hid (UF base w w1) := by rw [hw1]; exact (G0.out.alloc H0.out.bbase _).drew
      have W1 : Hid (w1.heap[wb]? = some (.cells #[I v] 3 (0, 0))) := by rw [hw1]; exact (Below.heap_alloc _ _ _ (jblk W0.out)).trans W0.out
      have B1 : Hid (w1.heap[hb]? = some (.cells #[.pointer (some ⟨gH, v * 5, none⟩)] 79 (0, 0))) := by rw [hw1]; exact (by rw [← hhb]; exact heap_alloc_new w0 _)
      rw [← hw1]
      clear hw1
      try rw [hhb]
      clear hhb H0 G0 W0
      try clear f0
      try clear f1
      try clear f2
      try clear f3
      try clear f4
      try clear f5
      try clear ff
      try clear y0
      try clear y1
      try clear y2
      try clear y3
      try clear y4
      try clear yf
      try clear cw
      try clear ch
      try clear cq
      try clear ck
      try clear hp'
      try clear q0'
      try clear q1'
      obtain ⟨f0, f1, f2, f3, f4, f5, ff⟩ := H1.out.fb
      obtain ⟨y0, y1, y2, y3, y4, yf⟩ := H1.out.hd hv
      rw [HX.out] at y0
      have f0q : w1.cell? ⟨bb, 0, none⟩ = some (I al) := f0
      clear f0
      have f0 := f0q
      clear f0q
      have cw : w1.cell? ⟨wb, 0, none⟩ = some (I v) := by rw [jcell W1.out]; rfl
      have ch : w1.cell? ⟨hb, 0, none⟩ = some (.pointer (some ⟨gH, v * 5, none⟩)) := by rw [jcell B1.out]; rfl
      have hp' : w1.cell? ⟨pb, poff + v, none⟩ = some (.slice (some ⟨qb, qoff, none⟩) sn sc) := (G1.out.bl.cell (by exact hpb)).trans HP.out
      have q0' : w1.cell? ⟨qb, qoff + j * 2, none⟩ = some (I kd) := (G1.out.bl.cell (by exact hqb)).trans HQ0.out
      have q1' : w1.cell? ⟨qb, qoff + j * 2 + 1, none⟩ = some (I K) := (G1.out.bl.cell (by exact hqb)).trans HQ1.out
      clear f0 f1 f2 f4 f5 ff y1 y2 y3 y4 yf q0' q1'
      go_wp2_with fail
      go_quiet (fail)
      try clear f0
      try clear f1
      try clear f2
      try clear f3
      try clear f4
      try clear f5
      try clear ff
      try clear y0
      try clear y1
      try clear y2
      try clear y3
      try clear y4
      try clear yf
      try clear cw
      try clear ch
      try clear cq
      try clear ck
      try clear hp'
      try clear q0'
      try clear q1'
      obtain ⟨w2, hw2⟩ : ∃ x, x = w1.drewN nq := ⟨_, rfl⟩
      have H2 : Hid (UB w2 base bb gB cB gH cH al nh s lk ix hs (.slice (some ⟨pb, poff, none⟩) nh' pc) (.slice (some ⟨gd, 0, none⟩) nd cd) now (X ++ ⟨v, j, b, -1, false⟩ :: Y)) := by rw [hw2]; exact H1.out.drewN nq
      have G2 : Hid (UF base w w2) := by rw [hw2]; exact G1.out.drewN nq
      have W2 : Hid (w2.heap[wb]? = some (.cells #[I v] 3 (0, 0))) := by rw [hw2]; exact W1.out
      have B2 : Hid (w2.heap[hb]? = some (.cells #[.pointer (some ⟨gH, v * 5, none⟩)] 79 (0, 0))) := by rw [hw2]; exact B1.out
      rw [← hw2]
      clear hw2
      clear H1 G1 W1 B1
      try clear f0
      try clear f1
      try clear f2
      try clear f3
      try clear f4
      try clear f5
      try clear ff
      try clear y0
      try clear y1
      try clear y2
      try clear y3
      try clear y4
      try clear yf
      try clear cw
      try clear ch
      try clear cq
      try clear ck
      try clear hp'
      try clear q0'
      try clear q1'
      obtain ⟨f0, f1, f2, f3, f4, f5, ff⟩ := H2.out.fb
      obtain ⟨y0, y1, y2, y3, y4, yf⟩ := H2.out.hd hv
      rw [HX.out] at y0
      have f0q : w2.cell? ⟨bb, 0, none⟩ = some (I al) := f0
      clear f0
      have f0 := f0q
      clear f0q
      have cw : w2.cell? ⟨wb, 0, none⟩ = some (I v) := by rw [jcell W2.out]; rfl
      have ch : w2.cell? ⟨hb, 0, none⟩ = some (.pointer (some ⟨gH, v * 5, none⟩)) := by rw [jcell B2.out]; rfl
      have hp' : w2.cell? ⟨pb, poff + v, none⟩ = some (.slice (some ⟨qb, qoff, none⟩) sn sc) := (G2.out.bl.cell (by exact hpb)).trans HP.out
      have q0' : w2.cell? ⟨qb, qoff + j * 2, none⟩ = some (I kd) := (G2.out.bl.cell (by exact hqb)).trans HQ0.out
      have q1' : w2.cell? ⟨qb, qoff + j * 2 + 1, none⟩ = some (I K) := (G2.out.bl.cell (by exact hqb)).trans HQ1.out
      clear f0 f1 f2 f4 f5 ff y1 y2 y3 y4 yf
      have l1 := jblk H2.out.box
      have l2 : pb < w2.heap.size := Nat.lt_of_lt_of_le hpb H2.out.bbase
      have l3 : qb < w2.heap.size := Nat.lt_of_lt_of_le hqb H2.out.bbase
      have l4 := jblk W2.out
      have l5 := jblk B2.out
      obtain ⟨_, hlH, _⟩ := H2.out.hblk
      have l6 := jblk hlH
      have f3a := fun o : Obj => (World.cell?_of_block (Below.heap_alloc w2 o _ (l1))).trans f3
      have cwa := fun o : Obj => (World.cell?_of_block (Below.heap_alloc w2 o _ (l4))).trans cw
      have cha := fun o : Obj => (World.cell?_of_block (Below.heap_alloc w2 o _ (l5))).trans ch
      have y0a := fun o : Obj => (World.cell?_of_block (Below.heap_alloc w2 o _ (l6))).trans y0
      have hp'a := fun o : Obj => (World.cell?_of_block (Below.heap_alloc w2 o _ (l2))).trans hp'
      have q0'a := fun o : Obj => (World.cell?_of_block (Below.heap_alloc w2 o _ (l3))).trans q0'
      have q1'a := fun o : Obj => (World.cell?_of_block (Below.heap_alloc w2 o _ (l3))).trans q1'
      go_upto_region 4 with fail
      go_region_held3 (fun w' => w'.cell? ⟨bb, 3, none⟩ = some (.slice (some ⟨pb, poff, none⟩) nh' pc) ∧ w'.cell? ⟨wb, 0, none⟩ = some (I v) ∧ w'.cell? ⟨hb, 0, none⟩ = some (.pointer (some ⟨gH, v * 5, none⟩)) ∧ w'.cell? ⟨gH, v * 5, none⟩ = some (I j) ∧ w'.cell? ⟨pb, poff + v, none⟩ = some (.slice (some ⟨qb, qoff, none⟩) sn sc) ∧ w'.cell? ⟨qb, qoff + j * 2, none⟩ = some (I kd) ∧ w'.cell? ⟨qb, qoff + j * 2 + 1, none⟩ = some (I K))
        (first
          | exact ⟨f3, cw, ch, y0, hp', q0', q1'⟩
          | exact ⟨f3a _, cwa _, cha _, y0a _, hp'a _, q0'a _, q1'a _⟩)
        (fail)
      all_goals
        (
          clear f3a cwa cha y0a hp'a q0'a q1'a l1 l2 l3 l4 l5 l6 hlH hvi hvi' hji hv0 hj0 hjs
          obtain ⟨db, hdb⟩ : ∃ x, w2.heap.size = x := ⟨_, rfl⟩
          try clear f0
          try clear f1
          try clear f2
          try clear f3
          try clear f4
          try clear f5
          try clear ff
          try clear y0
          try clear y1
          try clear y2
          try clear y3
          try clear y4
          try clear yf
          try clear cw
          try clear ch
          try clear cq
          try clear ck
          try clear hp'
          try clear q0'
          try clear q1'
          obtain ⟨w3, hw3⟩ : ∃ x, x = (w2.alloc (.cells #[I kd, I K] 50)).drew := ⟨_, rfl⟩
          have H3 : Hid (UB w3 base bb gB cB gH cH al nh s lk ix hs (.slice (some ⟨pb, poff, none⟩) nh' pc) (.slice (some ⟨gd, 0, none⟩) nd cd) now (X ++ ⟨v, j, b, -1, false⟩ :: Y)) := by rw [hw3]; exact (H2.out.keep ((Below.refl _ _).alloc (Nat.le_refl _) _)).drew
          have G3 : Hid (UF base w w3) := by rw [hw3]; exact (G2.out.alloc H2.out.bbase _).drew
          have W3 : Hid (w3.heap[wb]? = some (.cells #[I v] 3 (0, 0))) := by rw [hw3]; exact (Below.heap_alloc _ _ _ (jblk W2.out)).trans W2.out
          have B3 : Hid (w3.heap[hb]? = some (.cells #[.pointer (some ⟨gH, v * 5, none⟩)] 79 (0, 0))) := by rw [hw3]; exact (Below.heap_alloc _ _ _ (jblk B2.out)).trans B2.out
          have Q3 : Hid (w3.heap[db]? = some (.cells #[I kd, I K] 50 (0, 0))) := by rw [hw3]; exact (by rw [← hdb]; exact heap_alloc_new w2 _)
          rw [← hw3]
          clear hw3
          try rw [hdb]
          clear hdb H2 G2 W2 B2
          have F3 := Lib.hid (UF.refl base w3)
          try clear f0
          try clear f1
          try clear f2
          try clear f3
          try clear f4
          try clear f5
          try clear ff
          try clear y0
          try clear y1
          try clear y2
          try clear y3
          try clear y4
          try clear yf
          try clear cw
          try clear ch
          try clear cq
          try clear ck
          try clear hp'
          try clear q0'
          try clear q1'
          obtain ⟨f0, f1, f2, f3, f4, f5, ff⟩ := H3.out.fb
          obtain ⟨y0, y1, y2, y3, y4, yf⟩ := H3.out.hd hv
          rw [HX.out] at y0
          have f0q : w3.cell? ⟨bb, 0, none⟩ = some (I al) := f0
          clear f0
          have f0 := f0q
          clear f0q
          have cw : w3.cell? ⟨wb, 0, none⟩ = some (I v) := by rw [jcell W3.out]; rfl
          have ch : w3.cell? ⟨hb, 0, none⟩ = some (.pointer (some ⟨gH, v * 5, none⟩)) := by rw [jcell B3.out]; rfl
          have cq : w3.cell? ⟨db, 0, none⟩ = some (I kd) := by rw [jcell Q3.out]; rfl
          have ck : w3.cell? ⟨db, 1, none⟩ = some (I K) := by rw [jcell Q3.out]; rfl
          clear f0 f1 f2 f3 f4 ff y1 y2 y3 y4 yf cq ck
          obtain ⟨dA, dcc, hdA, hdr⟩ := HDR.out w3 H3.out
          obtain ⟨_, hlH, _⟩ := H3.out.hblk
          have HIX := ixV_any dA nd dcc (X ++ ⟨v, j, b, -1, false⟩ :: Y) wb hb gH v j w3 hdr cw ch y0 (jblk W3.out) (jblk B3.out) (jblk hlH) (by omega)
          rw [← hdA, HHX.out] at HIX
          have HIXH := Lib.hid HIX
          clear HIX
          clear hdr hlH hdA cw ch y0
          go_wp2_with fail
          refine HIXH.out.mono ?_
          rintro e w4 ⟨rfl, hb4⟩
          have H4 : Hid (UB w4 base bb gB cB gH cH al nh s lk ix hs (.slice (some ⟨pb, poff, none⟩) nh' pc) (.slice (some ⟨gd, 0, none⟩) nd cd) now (X ++ ⟨v, j, b, -1, false⟩ :: Y)) := H3.out.keep hb4
          have F4 := Lib.hid (UF.below H3.out.bbase hb4)
          clear hb4 HIXH
          have W4 : Hid (w4.heap[wb]? = some (.cells #[I v] 3 (0, 0))) := F4.out.blk W3.out (by decide) (by decide) (by decide) (by decide)
          have B4 : Hid (w4.heap[hb]? = some (.cells #[.pointer (some ⟨gH, v * 5, none⟩)] 79 (0, 0))) := F4.out.blk B3.out (by decide) (by decide) (by decide) (by decide)
          have Q4 : Hid (w4.heap[db]? = some (.cells #[I kd, I K] 50 (0, 0))) := F4.out.blk Q3.out (by decide) (by decide) (by decide) (by decide)
          rcases HALL.out with hal | hal | hal | hal
          · subst hal
            try clear f0
            try clear f1
            try clear f2
            try clear f3
            try clear f4
            try clear f5
            try clear ff
            try clear y0
            try clear y1
            try clear y2
            try clear y3
            try clear y4
            try clear yf
            try clear cw
            try clear ch
            try clear cq
            try clear ck
            try clear hp'
            try clear q0'
            try clear q1'
            obtain ⟨f0, f1, f2, f3, f4, f5, ff⟩ := H4.out.fb
            obtain ⟨y0, y1, y2, y3, y4, yf⟩ := H4.out.hd hv
            rw [HX.out] at y0
            have f0q : w4.cell? ⟨bb, 0, none⟩ = some (I 1) := f0
            clear f0
            have f0 := f0q
            clear f0q
            have cw : w4.cell? ⟨wb, 0, none⟩ = some (I v) := by rw [jcell W4.out]; rfl
            have ch : w4.cell? ⟨hb, 0, none⟩ = some (.pointer (some ⟨gH, v * 5, none⟩)) := by rw [jcell B4.out]; rfl
            have cq : w4.cell? ⟨db, 0, none⟩ = some (I kd) := by rw [jcell Q4.out]; rfl
            have ck : w4.cell? ⟨db, 1, none⟩ = some (I K) := by rw [jcell Q4.out]; rfl
            clear f1 f2 f3 f4 f5 ff y0 y1 y2 y3 y4 yf cw
            have HC := Lib.hid (HRH1.out rfl w4 _ H4.out)
            go_wp2_with fail
            refine HC.out.mono ?_
            rintro e w6 ⟨rfl, ⟨gB6, cB6, h6⟩, f6⟩
            rw [HO.out]
            have H6 : Hid (UB w6 base bb gB6 cB6 gH cH 1 nh r.s r.lk ix (upd hs v r.h) (.slice (some ⟨pb, poff, none⟩) nh' pc) (.slice (some ⟨gd, 0, none⟩) nd cd) now (X ++ ⟨v, j, b, -1, false⟩ :: Y)) := h6
            have F6 := Lib.hid (F4.out.trans f6)
            clear h6 f6 HC
            have W6 : Hid (w6.heap[wb]? = some (.cells #[I v] 3 (0, 0))) := F6.out.blk W3.out (by decide) (by decide) (by decide) (by decide)
            have B6 : Hid (w6.heap[hb]? = some (.cells #[.pointer (some ⟨gH, v * 5, none⟩)] 79 (0, 0))) := F6.out.blk B3.out (by decide) (by decide) (by decide) (by decide)
            have Q6 : Hid (w6.heap[db]? = some (.cells #[I kd, I K] 50 (0, 0))) := F6.out.blk Q3.out (by decide) (by decide) (by decide) (by decide)
            try clear f0
            try clear f1
            try clear f2
            try clear f3
            try clear f4
            try clear f5
            try clear ff
            try clear y0
            try clear y1
            try clear y2
            try clear y3
            try clear y4
            try clear yf
            try clear cw
            try clear ch
            try clear cq
            try clear ck
            try clear hp'
            try clear q0'
            try clear q1'
            obtain ⟨f0, f1, f2, f3, f4, f5, ff⟩ := H6.out.fb
            obtain ⟨y0, y1, y2, y3, y4, yf⟩ := H6.out.hd hv
            rw [HX.out] at y0
            rw [upd_same] at y1 y2 y3 y4
            have f0q : w6.cell? ⟨bb, 0, none⟩ = some (I 1) := f0
            clear f0
            have f0 := f0q
            clear f0q
            have cw : w6.cell? ⟨wb, 0, none⟩ = some (I v) := by rw [jcell W6.out]; rfl
            have ch : w6.cell? ⟨hb, 0, none⟩ = some (.pointer (some ⟨gH, v * 5, none⟩)) := by rw [jcell B6.out]; rfl
            have cq : w6.cell? ⟨db, 0, none⟩ = some (I kd) := by rw [jcell Q6.out]; rfl
            have ck : w6.cell? ⟨db, 1, none⟩ = some (I K) := by rw [jcell Q6.out]; rfl
            clear f0 f1 f2 f3 f5 y0 y1 y2 y3 y4 yf cw ch cq ck
            have H7 : Hid (UB (w6.setCell ⟨bb, 4, none⟩ (I ((now : Int) + 1))) base bb gB6 cB6 gH cH 1 nh r.s r.lk ix (upd hs v r.h) (.slice (some ⟨pb, poff, none⟩) nh' pc) (.slice (some ⟨gd, 0, none⟩) nd cd) (now + 1) (X ++ ⟨v, j, b, -1, false⟩ :: Y)) := by
              have hnw : ((now + 1 : Nat) : Int) = (now : Int) + 1 := by omega
              rw [← hnw]
              exact H6.out.nset (now + 1)
            have G7 : Hid (UF base w (w6.setCell ⟨bb, 4, none⟩ (I ((now : Int) + 1)))) := (G3.out.trans F6.out).trans (H6.out.ufb _ _)
            go_wp2
            go_ret
            exact ⟨rfl, ⟨_, _, _, H7.out⟩, G7.out⟩
          · subst hal
            try clear f0
            try clear f1
            try clear f2
            try clear f3
            try clear f4
            try clear f5
            try clear ff
            try clear y0
            try clear y1
            try clear y2
            try clear y3
            try clear y4
            try clear yf
            try clear cw
            try clear ch
            try clear cq
            try clear ck
            try clear hp'
            try clear q0'
            try clear q1'
            obtain ⟨f0, f1, f2, f3, f4, f5, ff⟩ := H4.out.fb
            obtain ⟨y0, y1, y2, y3, y4, yf⟩ := H4.out.hd hv
            rw [HX.out] at y0
            have f0q : w4.cell? ⟨bb, 0, none⟩ = some (I 2) := f0
            clear f0
            have f0 := f0q
            clear f0q
            have cw : w4.cell? ⟨wb, 0, none⟩ = some (I v) := by rw [jcell W4.out]; rfl
            have ch : w4.cell? ⟨hb, 0, none⟩ = some (.pointer (some ⟨gH, v * 5, none⟩)) := by rw [jcell B4.out]; rfl
            have cq : w4.cell? ⟨db, 0, none⟩ = some (I kd) := by rw [jcell Q4.out]; rfl
            have ck : w4.cell? ⟨db, 1, none⟩ = some (I K) := by rw [jcell Q4.out]; rfl
            clear f1 f2 f3 f4 f5 ff y0 y1 y2 y3 y4 yf cw
            have HC := Lib.hid (HRH2.out rfl w4 _ H4.out)
            go_wp2_with fail
            refine HC.out.mono ?_
            rintro e w6 ⟨rfl, ⟨gB6, cB6, h6⟩, f6⟩
            rw [HO.out]
            have H6 : Hid (UB w6 base bb gB6 cB6 gH cH 2 nh r.s r.lk ix (upd hs v r.h) (.slice (some ⟨pb, poff, none⟩) nh' pc) (.slice (some ⟨gd, 0, none⟩) nd cd) now (X ++ ⟨v, j, b, -1, false⟩ :: Y)) := h6
            have F6 := Lib.hid (F4.out.trans f6)
            clear h6 f6 HC
            have W6 : Hid (w6.heap[wb]? = some (.cells #[I v] 3 (0, 0))) := F6.out.blk W3.out (by decide) (by decide) (by decide) (by decide)
            have B6 : Hid (w6.heap[hb]? = some (.cells #[.pointer (some ⟨gH, v * 5, none⟩)] 79 (0, 0))) := F6.out.blk B3.out (by decide) (by decide) (by decide) (by decide)
            have Q6 : Hid (w6.heap[db]? = some (.cells #[I kd, I K] 50 (0, 0))) := F6.out.blk Q3.out (by decide) (by decide) (by decide) (by decide)
            try clear f0
            try clear f1
            try clear f2
            try clear f3
            try clear f4
            try clear f5
            try clear ff
            try clear y0
            try clear y1
            try clear y2
            try clear y3
            try clear y4
            try clear yf
            try clear cw
            try clear ch
            try clear cq
            try clear ck
            try clear hp'
            try clear q0'
            try clear q1'
            obtain ⟨f0, f1, f2, f3, f4, f5, ff⟩ := H6.out.fb
            obtain ⟨y0, y1, y2, y3, y4, yf⟩ := H6.out.hd hv
            rw [HX.out] at y0
            rw [upd_same] at y1 y2 y3 y4
            have f0q : w6.cell? ⟨bb, 0, none⟩ = some (I 2) := f0
            clear f0
            have f0 := f0q
            clear f0q
            have cw : w6.cell? ⟨wb, 0, none⟩ = some (I v) := by rw [jcell W6.out]; rfl
            have ch : w6.cell? ⟨hb, 0, none⟩ = some (.pointer (some ⟨gH, v * 5, none⟩)) := by rw [jcell B6.out]; rfl
            have cq : w6.cell? ⟨db, 0, none⟩ = some (I kd) := by rw [jcell Q6.out]; rfl
            have ck : w6.cell? ⟨db, 1, none⟩ = some (I K) := by rw [jcell Q6.out]; rfl
            clear f0 f1 f2 f3 f5 y0 y1 y2 y3 y4 yf cw ch cq ck
            have H7 : Hid (UB (w6.setCell ⟨bb, 4, none⟩ (I ((now : Int) + 1))) base bb gB6 cB6 gH cH 2 nh r.s r.lk ix (upd hs v r.h) (.slice (some ⟨pb, poff, none⟩) nh' pc) (.slice (some ⟨gd, 0, none⟩) nd cd) (now + 1) (X ++ ⟨v, j, b, -1, false⟩ :: Y)) := by
              have hnw : ((now + 1 : Nat) : Int) = (now : Int) + 1 := by omega
              rw [← hnw]
              exact H6.out.nset (now + 1)
            have G7 : Hid (UF base w (w6.setCell ⟨bb, 4, none⟩ (I ((now : Int) + 1)))) := (G3.out.trans F6.out).trans (H6.out.ufb _ _)
            go_wp2
            go_ret
            exact ⟨rfl, ⟨_, _, _, H7.out⟩, G7.out⟩
          · subst hal
            try clear f0
            try clear f1
            try clear f2
            try clear f3
            try clear f4
            try clear f5
            try clear ff
            try clear y0
            try clear y1
            try clear y2
            try clear y3
            try clear y4
            try clear yf
            try clear cw
            try clear ch
            try clear cq
            try clear ck
            try clear hp'
            try clear q0'
            try clear q1'
            obtain ⟨f0, f1, f2, f3, f4, f5, ff⟩ := H4.out.fb
            obtain ⟨y0, y1, y2, y3, y4, yf⟩ := H4.out.hd hv
            rw [HX.out] at y0
            have f0q : w4.cell? ⟨bb, 0, none⟩ = some (I 3) := f0
            clear f0
            have f0 := f0q
            clear f0q
            have cw : w4.cell? ⟨wb, 0, none⟩ = some (I v) := by rw [jcell W4.out]; rfl
            have ch : w4.cell? ⟨hb, 0, none⟩ = some (.pointer (some ⟨gH, v * 5, none⟩)) := by rw [jcell B4.out]; rfl
            have cq : w4.cell? ⟨db, 0, none⟩ = some (I kd) := by rw [jcell Q4.out]; rfl
            have ck : w4.cell? ⟨db, 1, none⟩ = some (I K) := by rw [jcell Q4.out]; rfl
            clear f1 f2 f3 f4 f5 ff y0 y1 y2 y3 y4 yf cw
            have HC := Lib.hid (HRH3.out rfl w4 _ H4.out)
            go_wp2_with fail
            refine HC.out.mono ?_
            rintro e w6 ⟨rfl, ⟨gB6, cB6, h6⟩, f6⟩
            rw [HO.out]
            have H6 : Hid (UB w6 base bb gB6 cB6 gH cH 3 nh r.s r.lk ix (upd hs v r.h) (.slice (some ⟨pb, poff, none⟩) nh' pc) (.slice (some ⟨gd, 0, none⟩) nd cd) now (X ++ ⟨v, j, b, -1, false⟩ :: Y)) := h6
            have F6 := Lib.hid (F4.out.trans f6)
            clear h6 f6 HC
            have W6 : Hid (w6.heap[wb]? = some (.cells #[I v] 3 (0, 0))) := F6.out.blk W3.out (by decide) (by decide) (by decide) (by decide)
            have B6 : Hid (w6.heap[hb]? = some (.cells #[.pointer (some ⟨gH, v * 5, none⟩)] 79 (0, 0))) := F6.out.blk B3.out (by decide) (by decide) (by decide) (by decide)
            have Q6 : Hid (w6.heap[db]? = some (.cells #[I kd, I K] 50 (0, 0))) := F6.out.blk Q3.out (by decide) (by decide) (by decide) (by decide)
            try clear f0
            try clear f1
            try clear f2
            try clear f3
            try clear f4
            try clear f5
            try clear ff
            try clear y0
            try clear y1
            try clear y2
            try clear y3
            try clear y4
            try clear yf
            try clear cw
            try clear ch
            try clear cq
            try clear ck
            try clear hp'
            try clear q0'
            try clear q1'
            obtain ⟨f0, f1, f2, f3, f4, f5, ff⟩ := H6.out.fb
            obtain ⟨y0, y1, y2, y3, y4, yf⟩ := H6.out.hd hv
            rw [HX.out] at y0
            rw [upd_same] at y1 y2 y3 y4
            have f0q : w6.cell? ⟨bb, 0, none⟩ = some (I 3) := f0
            clear f0
            have f0 := f0q
            clear f0q
            have cw : w6.cell? ⟨wb, 0, none⟩ = some (I v) := by rw [jcell W6.out]; rfl
            have ch : w6.cell? ⟨hb, 0, none⟩ = some (.pointer (some ⟨gH, v * 5, none⟩)) := by rw [jcell B6.out]; rfl
            have cq : w6.cell? ⟨db, 0, none⟩ = some (I kd) := by rw [jcell Q6.out]; rfl
            have ck : w6.cell? ⟨db, 1, none⟩ = some (I K) := by rw [jcell Q6.out]; rfl
            clear f0 f1 f2 f3 f5 y0 y1 y2 y3 y4 yf cw ch cq ck
            have H7 : Hid (UB (w6.setCell ⟨bb, 4, none⟩ (I ((now : Int) + 1))) base bb gB6 cB6 gH cH 3 nh r.s r.lk ix (upd hs v r.h) (.slice (some ⟨pb, poff, none⟩) nh' pc) (.slice (some ⟨gd, 0, none⟩) nd cd) (now + 1) (X ++ ⟨v, j, b, -1, false⟩ :: Y)) := by
              have hnw : ((now + 1 : Nat) : Int) = (now : Int) + 1 := by omega
              rw [← hnw]
              exact H6.out.nset (now + 1)
            have G7 : Hid (UF base w (w6.setCell ⟨bb, 4, none⟩ (I ((now : Int) + 1)))) := (G3.out.trans F6.out).trans (H6.out.ufb _ _)
            go_wp2
            go_ret
            exact ⟨rfl, ⟨_, _, _, H7.out⟩, G7.out⟩
          · subst hal
            try clear f0
            try clear f1
            try clear f2
            try clear f3
            try clear f4
            try clear f5
            try clear ff
            try clear y0
            try clear y1
            try clear y2
            try clear y3
            try clear y4
            try clear yf
            try clear cw
            try clear ch
            try clear cq
            try clear ck
            try clear hp'
            try clear q0'
            try clear q1'
            obtain ⟨f0, f1, f2, f3, f4, f5, ff⟩ := H4.out.fb
            obtain ⟨y0, y1, y2, y3, y4, yf⟩ := H4.out.hd hv
            rw [HX.out] at y0
            have f0q : w4.cell? ⟨bb, 0, none⟩ = some (I 4) := f0
            clear f0
            have f0 := f0q
            clear f0q
            have cw : w4.cell? ⟨wb, 0, none⟩ = some (I v) := by rw [jcell W4.out]; rfl
            have ch : w4.cell? ⟨hb, 0, none⟩ = some (.pointer (some ⟨gH, v * 5, none⟩)) := by rw [jcell B4.out]; rfl
            have cq : w4.cell? ⟨db, 0, none⟩ = some (I kd) := by rw [jcell Q4.out]; rfl
            have ck : w4.cell? ⟨db, 1, none⟩ = some (I K) := by rw [jcell Q4.out]; rfl
            clear f1 f2 f3 f4 f5 ff y0 y1 y2 y3 y4 yf cw
            have HC := Lib.hid (HRH4.out rfl w4 _ H4.out)
            go_wp2_with fail
            refine HC.out.mono ?_
            rintro e w6 ⟨rfl, ⟨gB6, cB6, h6⟩, f6⟩
            rw [HO.out]
            have H6 : Hid (UB w6 base bb gB6 cB6 gH cH 4 nh r.s r.lk ix (upd hs v r.h) (.slice (some ⟨pb, poff, none⟩) nh' pc) (.slice (some ⟨gd, 0, none⟩) nd cd) now (X ++ ⟨v, j, b, -1, false⟩ :: Y)) := h6
            have F6 := Lib.hid (F4.out.trans f6)
            clear h6 f6 HC
            have W6 : Hid (w6.heap[wb]? = some (.cells #[I v] 3 (0, 0))) := F6.out.blk W3.out (by decide) (by decide) (by decide) (by decide)
            have B6 : Hid (w6.heap[hb]? = some (.cells #[.pointer (some ⟨gH, v * 5, none⟩)] 79 (0, 0))) := F6.out.blk B3.out (by decide) (by decide) (by decide) (by decide)
            have Q6 : Hid (w6.heap[db]? = some (.cells #[I kd, I K] 50 (0, 0))) := F6.out.blk Q3.out (by decide) (by decide) (by decide) (by decide)
            try clear f0
            try clear f1
            try clear f2
            try clear f3
            try clear f4
            try clear f5
            try clear ff
            try clear y0
            try clear y1
            try clear y2
            try clear y3
            try clear y4
            try clear yf
            try clear cw
            try clear ch
            try clear cq
            try clear ck
            try clear hp'
            try clear q0'
            try clear q1'
            obtain ⟨f0, f1, f2, f3, f4, f5, ff⟩ := H6.out.fb
            obtain ⟨y0, y1, y2, y3, y4, yf⟩ := H6.out.hd hv
            rw [HX.out] at y0
            rw [upd_same] at y1 y2 y3 y4
            have f0q : w6.cell? ⟨bb, 0, none⟩ = some (I 4) := f0
            clear f0
            have f0 := f0q
            clear f0q
            have cw : w6.cell? ⟨wb, 0, none⟩ = some (I v) := by rw [jcell W6.out]; rfl
            have ch : w6.cell? ⟨hb, 0, none⟩ = some (.pointer (some ⟨gH, v * 5, none⟩)) := by rw [jcell B6.out]; rfl
            have cq : w6.cell? ⟨db, 0, none⟩ = some (I kd) := by rw [jcell Q6.out]; rfl
            have ck : w6.cell? ⟨db, 1, none⟩ = some (I K) := by rw [jcell Q6.out]; rfl
            clear f0 f1 f2 f3 f5 y0 y1 y2 y3 y4 yf cw ch cq ck
            have H7 : Hid (UB (w6.setCell ⟨bb, 4, none⟩ (I ((now : Int) + 1))) base bb gB6 cB6 gH cH 4 nh r.s r.lk ix (upd hs v r.h) (.slice (some ⟨pb, poff, none⟩) nh' pc) (.slice (some ⟨gd, 0, none⟩) nd cd) (now + 1) (X ++ ⟨v, j, b, -1, false⟩ :: Y)) := by
              have hnw : ((now + 1 : Nat) : Int) = (now : Int) + 1 := by omega
              rw [← hnw]
              exact H6.out.nset (now + 1)
            have G7 : Hid (UF base w (w6.setCell ⟨bb, 4, none⟩ (I ((now : Int) + 1)))) := (G3.out.trans F6.out).trans (H6.out.ufb _ _)
            go_wp2
            go_ret
            exact ⟨rfl, ⟨_, _, _, H7.out⟩, G7.out⟩))
end
end Go.Proofs.Ytfmdpmebllepeaa

/-
  hedgref's Bench: step. Written by tools/gen_ustep.py.
-/
namespace Go.Proofs.Ytfmdpmebllepeaa
open Go.RowKit Go.Maps

section
variable {w : World} {base bb gB cB gH cH nh nh' : Nat} {s : Bs} {lk : Nat → Bool} {ix : Nat → Nat} {hs : Nat → Hd} {dv : Value} {now v j b pb poff pc qb qoff sn sc : Nat} {X Y L : List Dn} {kd K : Int} {r : Rel}
variable {al : Nat}
set_option maxRecDepth 100000 in
set_option maxHeartbeats 16000000 in
theorem ustep_had_over (h : UB w base bb gB cB gH cH al nh s lk ix hs (.slice (some ⟨pb, poff, none⟩) nh' pc) dv now (X ++ ⟨v, j, b, -1, false⟩ :: Y)) (hv : v < nh) (hvp : v < nh') (hx : ix v = j) (hX : fix1 (isV v j) (X ++ ⟨v, j, b, -1, false⟩ :: Y) = (X.length : Int)) (hLL : (X ++ (⟨v, j, b, -1, false⟩ : Dn) :: Y).length ≤ 10000) (hnow : now ≤ 5000) (hjn : j < sn) (hsn : sn ≤ 4) (hpb : pb < base) (hqb : qb < base)
    (hp : w.cell? ⟨pb, poff + v, none⟩ = some (.slice (some ⟨qb, qoff, none⟩) sn sc)) (q0 : w.cell? ⟨qb, qoff + j * 2, none⟩ = some (I kd)) (q1 : w.cell? ⟨qb, qoff + j * 2 + 1, none⟩ = some (I K)) (ho : r.over = true)
    (hal : al = 1 ∨ al = 2 ∨ al = 3 ∨ al = 4)
    (HR1 : al = 1 → ∀ w' dv', UB w' base bb gB cB gH cH 1 nh s lk ix hs (.slice (some ⟨pb, poff, none⟩) nh' pc) dv' now (X ++ ⟨v, j, b, -1, false⟩ :: Y) → Calls Try.prog 40 #[jp bb, .pointer (some ⟨gH, v * 5, none⟩), .agg #[I kd, I K]] w' (RetH base bb gH cH 1 nh ix hs (.slice (some ⟨pb, poff, none⟩) nh' pc) dv' now (X ++ ⟨v, j, b, -1, false⟩ :: Y) v r w'))
    (HR2 : al = 2 → ∀ w' dv', UB w' base bb gB cB gH cH 2 nh s lk ix hs (.slice (some ⟨pb, poff, none⟩) nh' pc) dv' now (X ++ ⟨v, j, b, -1, false⟩ :: Y) → Calls Try.prog 41 #[jp bb, .pointer (some ⟨gH, v * 5, none⟩), .agg #[I kd, I K]] w' (RetH base bb gH cH 2 nh ix hs (.slice (some ⟨pb, poff, none⟩) nh' pc) dv' now (X ++ ⟨v, j, b, -1, false⟩ :: Y) v r w'))
    (HR3 : al = 3 → ∀ w' dv', UB w' base bb gB cB gH cH 3 nh s lk ix hs (.slice (some ⟨pb, poff, none⟩) nh' pc) dv' now (X ++ ⟨v, j, b, -1, false⟩ :: Y) → Calls Try.prog 42 #[jp bb, .pointer (some ⟨gH, v * 5, none⟩), .agg #[I kd, I K]] w' (RetH base bb gH cH 3 nh ix hs (.slice (some ⟨pb, poff, none⟩) nh' pc) dv' now (X ++ ⟨v, j, b, -1, false⟩ :: Y) v r w'))
    (HR4 : al = 4 → ∀ w' dv', UB w' base bb gB cB gH cH 4 nh s lk ix hs (.slice (some ⟨pb, poff, none⟩) nh' pc) dv' now (X ++ ⟨v, j, b, -1, false⟩ :: Y) → Calls Try.prog 42 #[jp bb, .pointer (some ⟨gH, v * 5, none⟩), .agg #[I kd, I K]] w' (RetH base bb gH cH 4 nh ix hs (.slice (some ⟨pb, poff, none⟩) nh' pc) dv' now (X ++ ⟨v, j, b, -1, false⟩ :: Y) v r w')) :
    Calls Try.prog 19 #[jp bb, I v] w (fun e w' => e = .returned (.bool true) ∧ (∃ gB' cB' dv', UB w' base bb gB' cB' gH cH al nh r.s r.lk (upd ix v (j + 1)) (upd hs v hd0) (.slice (some ⟨pb, poff, none⟩) nh' pc) dv' (now + 1) (X ++ ⟨v, j, b, now, r.h.is_⟩ :: Y)) ∧ UF base w w') := by
  have hbz := h.bbase
  obtain ⟨n, hn⟩ : ∃ n, X.length = n := ⟨_, rfl⟩
  have hLn : (X ++ (⟨v, j, b, -1, false⟩ : Dn) :: Y).length = n + 1 + Y.length := by rw [← hn]; simp; omega
  obtain ⟨gd, nd, cd, rfl⟩ : ∃ gd nd cd, dv = .slice (some ⟨gd, 0, none⟩) nd cd := by
    obtain ⟨A, c, e, hA⟩ := h.done.is_
    rcases hA with h0 | ⟨g, rfl⟩
    · omega
    · exact ⟨_, _, _, e⟩
  obtain ⟨hnd, -⟩ := h.dn
  have hkn : (n : Int) < (nd : Int) := by omega
  have hk0 : (0 : Int) ≤ (n : Int) := by omega
  have hk0n : ¬ (n : Int) < 0 := by omega
  rw [hn] at hX
  have hDR : ∀ w', UB w' base bb gB cB gH cH al nh s lk ix hs (.slice (some ⟨pb, poff, none⟩) nh' pc) (.slice (some ⟨gd, 0, none⟩) nd cd) now (X ++ ⟨v, j, b, -1, false⟩ :: Y) → ∃ A c, ((.slice (some ⟨gd, 0, none⟩) nd cd) : Value) = Value.slice A nd c ∧ DR w' A nd (X ++ ⟨v, j, b, -1, false⟩ :: Y) := fun w' h' => by
    obtain ⟨A, c, e, hd⟩ := h'.done.dr
    rw [← hnd] at e hd
    exact ⟨A, c, e, hd⟩
  have hnd9 : nd ≤ 10000 := by omega
  have HDR := Lib.hid hDR
  have HN := Lib.hid hn
  have HHX := Lib.hid hX
  have HND := Lib.hid hnd
  have HRH1 := Lib.hid HR1
  have HRH2 := Lib.hid HR2
  have HRH3 := Lib.hid HR3
  have HRH4 := Lib.hid HR4
  have HALL := Lib.hid hal
  have HO := Lib.hid ho
  have HX := Lib.hid hx
  have HP := Lib.hid hp
  have HQ0 := Lib.hid q0
  have HQ1 := Lib.hid q1
  obtain ⟨w0, hw0⟩ : ∃ x, x = w.alloc (.cells #[I v] 3) := ⟨_, rfl⟩
  obtain ⟨wb, hwb⟩ : ∃ x, w.heap.size = x := ⟨_, rfl⟩
  have H0 : Hid (UB w0 base bb gB cB gH cH al nh s lk ix hs (.slice (some ⟨pb, poff, none⟩) nh' pc) (.slice (some ⟨gd, 0, none⟩) nd cd) now (X ++ ⟨v, j, b, -1, false⟩ :: Y)) := by rw [hw0]; exact h.keep ((Below.refl _ _).alloc (Nat.le_refl _) _)
  have G0 : Hid (UF base w w0) := by rw [hw0]; exact (UF.refl _ _).alloc hbz _
  have W0 : Hid (w0.heap[wb]? = some (.cells #[I v] 3 (0, 0))) := by rw [hw0, ← hwb]; exact heap_alloc_new _ _
  obtain ⟨f0, f1, f2, f3, f4, f5, ff⟩ := H0.out.fb
  have hwc : w0.cell? ⟨wb, 0, none⟩ = some (I v) := by rw [jcell W0.out]; rfl
  have f2a : ∀ o : Obj, (w0.alloc o).cell? ⟨bb, 2, none⟩ = some (.slice (some ⟨gH, 0, none⟩) nh cH) := fun o => (World.cell?_of_block (Below.heap_alloc _ _ _ (jblk H0.out.box))).trans f2
  have hwca : ∀ o : Obj, (w0.alloc o).cell? ⟨wb, 0, none⟩ = some (I v) := fun o => (World.cell?_of_block (Below.heap_alloc _ _ _ (jblk W0.out))).trans hwc
  have hvi : (v : Int) < (nh : Int) := by omega
  have hvi' : (v : Int) < (nh' : Int) := by omega
  have hji : (j : Int) < (sn : Int) := by omega
  have hv0 : (0 : Int) ≤ (v : Int) := by omega
  have hj0 : (0 : Int) ≤ (j : Int) := by omega
  have hjs : ((j : Int) == (sn : Int)) = false := by simp; omega
  have hj9 : j < 9 := by omega
  clear h hbz hx hp q0 q1 ho HR1 HR2 HR3 HR4 hal hDR hX hnd hn hLn hLL hjn hsn
  go_enter Try.func19, Try.ntmps19
  go_upto_region 1 with fail
  rw [← hw0]
  try rw [hwb]
  clear hw0 hwb
  go_region_held3 (fun w' => w'.cell? ⟨bb, 2, none⟩ = some (.slice (some ⟨gH, 0, none⟩) nh cH) ∧ w'.cell? ⟨wb, 0, none⟩ = some (I v))
    (first
      | exact ⟨f2, hwc⟩
      | exact ⟨f2a _, hwca _⟩)
    (fail)
  all_goals
    (
      obtain ⟨hb, hhb⟩ : ∃ x, w0.heap.size = x := ⟨_, rfl⟩
      clear f2a hwca hwc
      try clear f0
      try clear f1
      try clear f2
      try clear f3
      try clear f4
      try clear f5
      try clear ff
      try clear y0
      try clear y1
      try clear y2
      try clear y3
      try clear y4
      try clear yf
      try clear cw
      try clear ch
      try clear cq
      try clear ck
      try clear hp'
      try clear q0'
      try clear q1'
      obtain ⟨w1, hw1⟩ : ∃ x, x = (w0.alloc (.cells #[.pointer (some ⟨gH, v * 5, none⟩)] 79)).drew := ⟨_, rfl⟩
      have H1 : Hid (UB w1 base bb gB cB gH cH al nh s lk ix hs (.slice (some ⟨pb, poff, none⟩) nh' pc) (.slice (some ⟨gd, 0, none⟩) nd cd) now (X ++ ⟨v, j, b, -1, false⟩ :: Y)) := by rw [hw1]; exact (H0.out.keep ((Below.refl _ _).alloc (Nat.le_refl _) _)).drew
      have G1 : Hid (UF base w w1) := by rw [hw1]; exact (G0.out.alloc H0.out.bbase _).drew
      have W1 : Hid (w1.heap[wb]? = some (.cells #[I v] 3 (0, 0))) := by rw [hw1]; exact (Below.heap_alloc _ _ _ (jblk W0.out)).trans W0.out
      have B1 : Hid (w1.heap[hb]? = some (.cells #[.pointer (some ⟨gH, v * 5, none⟩)] 79 (0, 0))) := by rw [hw1]; exact (by rw [← hhb]; exact heap_alloc_new w0 _)
      rw [← hw1]
      clear hw1
      try rw [hhb]
      clear hhb H0 G0 W0
      try clear f0
      try clear f1
      try clear f2
      try clear f3
      try clear f4
      try clear f5
      try clear ff
      try clear y0
      try clear y1
      try clear y2
      try clear y3
      try clear y4
      try clear yf
      try clear cw
      try clear ch
      try clear cq
      try clear ck
      try clear hp'
      try clear q0'
      try clear q1'
      obtain ⟨f0, f1, f2, f3, f4, f5, ff⟩ := H1.out.fb
      obtain ⟨y0, y1, y2, y3, y4, yf⟩ := H1.out.hd hv
      rw [HX.out] at y0
      have f0q : w1.cell? ⟨bb, 0, none⟩ = some (I al) := f0
      clear f0
      have f0 := f0q
      clear f0q
      have cw : w1.cell? ⟨wb, 0, none⟩ = some (I v) := by rw [jcell W1.out]; rfl
      have ch : w1.cell? ⟨hb, 0, none⟩ = some (.pointer (some ⟨gH, v * 5, none⟩)) := by rw [jcell B1.out]; rfl
      have hp' : w1.cell? ⟨pb, poff + v, none⟩ = some (.slice (some ⟨qb, qoff, none⟩) sn sc) := (G1.out.bl.cell (by exact hpb)).trans HP.out
      have q0' : w1.cell? ⟨qb, qoff + j * 2, none⟩ = some (I kd) := (G1.out.bl.cell (by exact hqb)).trans HQ0.out
      have q1' : w1.cell? ⟨qb, qoff + j * 2 + 1, none⟩ = some (I K) := (G1.out.bl.cell (by exact hqb)).trans HQ1.out
      clear f0 f1 f2 f4 f5 ff y1 y2 y3 y4 yf q0' q1'
      go_wp2_with fail
      go_quiet (fail)
      try clear f0
      try clear f1
      try clear f2
      try clear f3
      try clear f4
      try clear f5
      try clear ff
      try clear y0
      try clear y1
      try clear y2
      try clear y3
      try clear y4
      try clear yf
      try clear cw
      try clear ch
      try clear cq
      try clear ck
      try clear hp'
      try clear q0'
      try clear q1'
      obtain ⟨w2, hw2⟩ : ∃ x, x = w1.drewN nq := ⟨_, rfl⟩
      have H2 : Hid (UB w2 base bb gB cB gH cH al nh s lk ix hs (.slice (some ⟨pb, poff, none⟩) nh' pc) (.slice (some ⟨gd, 0, none⟩) nd cd) now (X ++ ⟨v, j, b, -1, false⟩ :: Y)) := by rw [hw2]; exact H1.out.drewN nq
      have G2 : Hid (UF base w w2) := by rw [hw2]; exact G1.out.drewN nq
      have W2 : Hid (w2.heap[wb]? = some (.cells #[I v] 3 (0, 0))) := by rw [hw2]; exact W1.out
      have B2 : Hid (w2.heap[hb]? = some (.cells #[.pointer (some ⟨gH, v * 5, none⟩)] 79 (0, 0))) := by rw [hw2]; exact B1.out
      rw [← hw2]
      clear hw2
      clear H1 G1 W1 B1
      try clear f0
      try clear f1
      try clear f2
      try clear f3
      try clear f4
      try clear f5
      try clear ff
      try clear y0
      try clear y1
      try clear y2
      try clear y3
      try clear y4
      try clear yf
      try clear cw
      try clear ch
      try clear cq
      try clear ck
      try clear hp'
      try clear q0'
      try clear q1'
      obtain ⟨f0, f1, f2, f3, f4, f5, ff⟩ := H2.out.fb
      obtain ⟨y0, y1, y2, y3, y4, yf⟩ := H2.out.hd hv
      rw [HX.out] at y0
      have f0q : w2.cell? ⟨bb, 0, none⟩ = some (I al) := f0
      clear f0
      have f0 := f0q
      clear f0q
      have cw : w2.cell? ⟨wb, 0, none⟩ = some (I v) := by rw [jcell W2.out]; rfl
      have ch : w2.cell? ⟨hb, 0, none⟩ = some (.pointer (some ⟨gH, v * 5, none⟩)) := by rw [jcell B2.out]; rfl
      have hp' : w2.cell? ⟨pb, poff + v, none⟩ = some (.slice (some ⟨qb, qoff, none⟩) sn sc) := (G2.out.bl.cell (by exact hpb)).trans HP.out
      have q0' : w2.cell? ⟨qb, qoff + j * 2, none⟩ = some (I kd) := (G2.out.bl.cell (by exact hqb)).trans HQ0.out
      have q1' : w2.cell? ⟨qb, qoff + j * 2 + 1, none⟩ = some (I K) := (G2.out.bl.cell (by exact hqb)).trans HQ1.out
      clear f0 f1 f2 f4 f5 ff y1 y2 y3 y4 yf
      have l1 := jblk H2.out.box
      have l2 : pb < w2.heap.size := Nat.lt_of_lt_of_le hpb H2.out.bbase
      have l3 : qb < w2.heap.size := Nat.lt_of_lt_of_le hqb H2.out.bbase
      have l4 := jblk W2.out
      have l5 := jblk B2.out
      obtain ⟨_, hlH, _⟩ := H2.out.hblk
      have l6 := jblk hlH
      have f3a := fun o : Obj => (World.cell?_of_block (Below.heap_alloc w2 o _ (l1))).trans f3
      have cwa := fun o : Obj => (World.cell?_of_block (Below.heap_alloc w2 o _ (l4))).trans cw
      have cha := fun o : Obj => (World.cell?_of_block (Below.heap_alloc w2 o _ (l5))).trans ch
      have y0a := fun o : Obj => (World.cell?_of_block (Below.heap_alloc w2 o _ (l6))).trans y0
      have hp'a := fun o : Obj => (World.cell?_of_block (Below.heap_alloc w2 o _ (l2))).trans hp'
      have q0'a := fun o : Obj => (World.cell?_of_block (Below.heap_alloc w2 o _ (l3))).trans q0'
      have q1'a := fun o : Obj => (World.cell?_of_block (Below.heap_alloc w2 o _ (l3))).trans q1'
      go_upto_region 4 with fail
      go_region_held3 (fun w' => w'.cell? ⟨bb, 3, none⟩ = some (.slice (some ⟨pb, poff, none⟩) nh' pc) ∧ w'.cell? ⟨wb, 0, none⟩ = some (I v) ∧ w'.cell? ⟨hb, 0, none⟩ = some (.pointer (some ⟨gH, v * 5, none⟩)) ∧ w'.cell? ⟨gH, v * 5, none⟩ = some (I j) ∧ w'.cell? ⟨pb, poff + v, none⟩ = some (.slice (some ⟨qb, qoff, none⟩) sn sc) ∧ w'.cell? ⟨qb, qoff + j * 2, none⟩ = some (I kd) ∧ w'.cell? ⟨qb, qoff + j * 2 + 1, none⟩ = some (I K))
        (first
          | exact ⟨f3, cw, ch, y0, hp', q0', q1'⟩
          | exact ⟨f3a _, cwa _, cha _, y0a _, hp'a _, q0'a _, q1'a _⟩)
        (fail)
      all_goals
        (
          clear f3a cwa cha y0a hp'a q0'a q1'a l1 l2 l3 l4 l5 l6 hlH hvi hvi' hji hv0 hj0 hjs
          obtain ⟨db, hdb⟩ : ∃ x, w2.heap.size = x := ⟨_, rfl⟩
          try clear f0
          try clear f1
          try clear f2
          try clear f3
          try clear f4
          try clear f5
          try clear ff
          try clear y0
          try clear y1
          try clear y2
          try clear y3
          try clear y4
          try clear yf
          try clear cw
          try clear ch
          try clear cq
          try clear ck
          try clear hp'
          try clear q0'
          try clear q1'
          obtain ⟨w3, hw3⟩ : ∃ x, x = (w2.alloc (.cells #[I kd, I K] 50)).drew := ⟨_, rfl⟩
          have H3 : Hid (UB w3 base bb gB cB gH cH al nh s lk ix hs (.slice (some ⟨pb, poff, none⟩) nh' pc) (.slice (some ⟨gd, 0, none⟩) nd cd) now (X ++ ⟨v, j, b, -1, false⟩ :: Y)) := by rw [hw3]; exact (H2.out.keep ((Below.refl _ _).alloc (Nat.le_refl _) _)).drew
          have G3 : Hid (UF base w w3) := by rw [hw3]; exact (G2.out.alloc H2.out.bbase _).drew
          have W3 : Hid (w3.heap[wb]? = some (.cells #[I v] 3 (0, 0))) := by rw [hw3]; exact (Below.heap_alloc _ _ _ (jblk W2.out)).trans W2.out
          have B3 : Hid (w3.heap[hb]? = some (.cells #[.pointer (some ⟨gH, v * 5, none⟩)] 79 (0, 0))) := by rw [hw3]; exact (Below.heap_alloc _ _ _ (jblk B2.out)).trans B2.out
          have Q3 : Hid (w3.heap[db]? = some (.cells #[I kd, I K] 50 (0, 0))) := by rw [hw3]; exact (by rw [← hdb]; exact heap_alloc_new w2 _)
          rw [← hw3]
          clear hw3
          try rw [hdb]
          clear hdb H2 G2 W2 B2
          have F3 := Lib.hid (UF.refl base w3)
          try clear f0
          try clear f1
          try clear f2
          try clear f3
          try clear f4
          try clear f5
          try clear ff
          try clear y0
          try clear y1
          try clear y2
          try clear y3
          try clear y4
          try clear yf
          try clear cw
          try clear ch
          try clear cq
          try clear ck
          try clear hp'
          try clear q0'
          try clear q1'
          obtain ⟨f0, f1, f2, f3, f4, f5, ff⟩ := H3.out.fb
          obtain ⟨y0, y1, y2, y3, y4, yf⟩ := H3.out.hd hv
          rw [HX.out] at y0
          have f0q : w3.cell? ⟨bb, 0, none⟩ = some (I al) := f0
          clear f0
          have f0 := f0q
          clear f0q
          have cw : w3.cell? ⟨wb, 0, none⟩ = some (I v) := by rw [jcell W3.out]; rfl
          have ch : w3.cell? ⟨hb, 0, none⟩ = some (.pointer (some ⟨gH, v * 5, none⟩)) := by rw [jcell B3.out]; rfl
          have cq : w3.cell? ⟨db, 0, none⟩ = some (I kd) := by rw [jcell Q3.out]; rfl
          have ck : w3.cell? ⟨db, 1, none⟩ = some (I K) := by rw [jcell Q3.out]; rfl
          clear f0 f1 f2 f3 f4 ff y1 y2 y3 y4 yf cq ck
          obtain ⟨dA, dcc, hdA, hdr⟩ := HDR.out w3 H3.out
          obtain ⟨_, hlH, _⟩ := H3.out.hblk
          have HIX := ixV_any dA nd dcc (X ++ ⟨v, j, b, -1, false⟩ :: Y) wb hb gH v j w3 hdr cw ch y0 (jblk W3.out) (jblk B3.out) (jblk hlH) (by omega)
          rw [← hdA, HHX.out] at HIX
          have HIXH := Lib.hid HIX
          clear HIX
          clear hdr hlH hdA cw ch y0
          go_wp2_with fail
          refine HIXH.out.mono ?_
          rintro e w4 ⟨rfl, hb4⟩
          have H4 : Hid (UB w4 base bb gB cB gH cH al nh s lk ix hs (.slice (some ⟨pb, poff, none⟩) nh' pc) (.slice (some ⟨gd, 0, none⟩) nd cd) now (X ++ ⟨v, j, b, -1, false⟩ :: Y)) := H3.out.keep hb4
          have F4 := Lib.hid (UF.below H3.out.bbase hb4)
          clear hb4 HIXH
          have W4 : Hid (w4.heap[wb]? = some (.cells #[I v] 3 (0, 0))) := F4.out.blk W3.out (by decide) (by decide) (by decide) (by decide)
          have B4 : Hid (w4.heap[hb]? = some (.cells #[.pointer (some ⟨gH, v * 5, none⟩)] 79 (0, 0))) := F4.out.blk B3.out (by decide) (by decide) (by decide) (by decide)
          have Q4 : Hid (w4.heap[db]? = some (.cells #[I kd, I K] 50 (0, 0))) := F4.out.blk Q3.out (by decide) (by decide) (by decide) (by decide)
          rcases HALL.out with hal | hal | hal | hal
          · subst hal
            try clear f0
            try clear f1
            try clear f2
            try clear f3
            try clear f4
            try clear f5
            try clear ff
            try clear y0
            try clear y1
            try clear y2
            try clear y3
            try clear y4
            try clear yf
            try clear cw
            try clear ch
            try clear cq
            try clear ck
            try clear hp'
            try clear q0'
            try clear q1'
            obtain ⟨f0, f1, f2, f3, f4, f5, ff⟩ := H4.out.fb
            obtain ⟨y0, y1, y2, y3, y4, yf⟩ := H4.out.hd hv
            rw [HX.out] at y0
            have f0q : w4.cell? ⟨bb, 0, none⟩ = some (I 1) := f0
            clear f0
            have f0 := f0q
            clear f0q
            have cw : w4.cell? ⟨wb, 0, none⟩ = some (I v) := by rw [jcell W4.out]; rfl
            have ch : w4.cell? ⟨hb, 0, none⟩ = some (.pointer (some ⟨gH, v * 5, none⟩)) := by rw [jcell B4.out]; rfl
            have cq : w4.cell? ⟨db, 0, none⟩ = some (I kd) := by rw [jcell Q4.out]; rfl
            have ck : w4.cell? ⟨db, 1, none⟩ = some (I K) := by rw [jcell Q4.out]; rfl
            clear f1 f2 f3 f4 f5 ff y0 y1 y2 y3 y4 yf cw
            have HC := Lib.hid (HRH1.out rfl w4 _ H4.out)
            go_wp2_with fail
            refine HC.out.mono ?_
            rintro e w6 ⟨rfl, ⟨gB6, cB6, h6⟩, f6⟩
            rw [HO.out]
            have H6 : Hid (UB w6 base bb gB6 cB6 gH cH 1 nh r.s r.lk ix (upd hs v r.h) (.slice (some ⟨pb, poff, none⟩) nh' pc) (.slice (some ⟨gd, 0, none⟩) nd cd) now (X ++ ⟨v, j, b, -1, false⟩ :: Y)) := h6
            have F6 := Lib.hid (F4.out.trans f6)
            clear h6 f6 HC
            have W6 : Hid (w6.heap[wb]? = some (.cells #[I v] 3 (0, 0))) := F6.out.blk W3.out (by decide) (by decide) (by decide) (by decide)
            have B6 : Hid (w6.heap[hb]? = some (.cells #[.pointer (some ⟨gH, v * 5, none⟩)] 79 (0, 0))) := F6.out.blk B3.out (by decide) (by decide) (by decide) (by decide)
            have Q6 : Hid (w6.heap[db]? = some (.cells #[I kd, I K] 50 (0, 0))) := F6.out.blk Q3.out (by decide) (by decide) (by decide) (by decide)
            try clear f0
            try clear f1
            try clear f2
            try clear f3
            try clear f4
            try clear f5
            try clear ff
            try clear y0
            try clear y1
            try clear y2
            try clear y3
            try clear y4
            try clear yf
            try clear cw
            try clear ch
            try clear cq
            try clear ck
            try clear hp'
            try clear q0'
            try clear q1'
            obtain ⟨f0, f1, f2, f3, f4, f5, ff⟩ := H6.out.fb
            obtain ⟨y0, y1, y2, y3, y4, yf⟩ := H6.out.hd hv
            rw [HX.out] at y0
            rw [upd_same] at y1 y2 y3 y4
            have f0q : w6.cell? ⟨bb, 0, none⟩ = some (I 1) := f0
            clear f0
            have f0 := f0q
            clear f0q
            have cw : w6.cell? ⟨wb, 0, none⟩ = some (I v) := by rw [jcell W6.out]; rfl
            have ch : w6.cell? ⟨hb, 0, none⟩ = some (.pointer (some ⟨gH, v * 5, none⟩)) := by rw [jcell B6.out]; rfl
            have cq : w6.cell? ⟨db, 0, none⟩ = some (I kd) := by rw [jcell Q6.out]; rfl
            have ck : w6.cell? ⟨db, 1, none⟩ = some (I K) := by rw [jcell Q6.out]; rfl
            clear f0 f1 f2 f3 ff y0 y1 y2 y3 yf cw cq ck
            have dn6q := H6.out.dcell (k := 3) (by omega)
            have dm6q := H6.out.dcell (k := 4) (by omega)
            rw [HN.out] at dn6q dm6q
            have dn6 : w6.cell? ⟨gd, n * 5 + 3, none⟩ = some (I (-1)) := dn6q
            have dm6 : w6.cell? ⟨gd, n * 5 + 4, none⟩ = some (.bool false) := dm6q
            clear dn6q dm6q
            obtain ⟨-, _, hlD, -⟩ := H6.out.dn
            have df6 : ∀ k, w6.frozen? ⟨gd, k, none⟩ = false := fun k => jfroz hlD
            have h7a := H6.out.dset (k := 3) (u := I now) (d' := ⟨v, j, b, now, false⟩) (by omega) rfl
            have h7b := h7a.dset (k := 4) (u := .bool r.h.is_) (d' := ⟨v, j, b, now, r.h.is_⟩) (by omega) rfl
            have u7a := H6.out.ufD (n * 5 + 3) (I now)
            rw [HN.out] at h7a h7b
            have u7b := h7a.ufD (n * 5 + 4) (.bool r.h.is_)
            have H7A := Lib.hid h7a
            have H7B := Lib.hid h7b
            have U7A := Lib.hid u7a
            have U7B := Lib.hid u7b
            have S6 := Lib.hid (And.intro f5 (And.intro f4 (And.intro ch y4)))
            have S7 := Lib.hid (And.intro h7a.fb.2.2.2.2.2.1 (And.intro h7a.fb.2.2.2.2.1 (And.intro ((u7a.cell B6.out (by decide) (by decide) (by decide) (by decide)).trans ch) ((h7a.hd hv).2.2.2.2.1.trans (by rw [upd_same])))))
            have S8 := Lib.hid (And.intro h7b.fb.2.2.2.2.2.1 (And.intro h7b.fb.2.2.2.2.1 (And.intro (((u7a.trans u7b).cell B6.out (by decide) (by decide) (by decide) (by decide)).trans ch) ((h7b.hd hv).2.2.2.2.1.trans (by rw [upd_same])))))
            clear hlD h7a h7b u7a u7b
            go_upto_region 17 with fail
            go_region_held3 (fun w' => w'.cell? ⟨bb, 5, none⟩ = some (.slice (some ⟨gd, 0, none⟩) nd cd) ∧ w'.cell? ⟨bb, 4, none⟩ = some (I now) ∧ w'.cell? ⟨hb, 0, none⟩ = some (.pointer (some ⟨gH, v * 5, none⟩)) ∧ w'.cell? ⟨gH, v * 5 + 4, none⟩ = some (.bool r.h.is_))
              (first
                | exact S6.out
                | exact S7.out
                | exact S8.out)
              (fail)
            all_goals
              (
                clear dn6 dm6 df6 S6 S7 S8
                try clear f0
                try clear f1
                try clear f2
                try clear f3
                try clear f4
                try clear f5
                try clear ff
                try clear y0
                try clear y1
                try clear y2
                try clear y3
                try clear y4
                try clear yf
                try clear cw
                try clear ch
                try clear cq
                try clear ck
                try clear hp'
                try clear q0'
                try clear q1'
                obtain ⟨w7, hw7⟩ : ∃ x, x = ((w6.setCell ⟨gd, n * 5 + 3, none⟩ (I now)).setCell ⟨gd, n * 5 + 4, none⟩ (.bool r.h.is_)).drew := ⟨_, rfl⟩
                have H7 : Hid (UB w7 base bb gB6 cB6 gH cH 1 nh r.s r.lk ix (upd hs v r.h) (.slice (some ⟨pb, poff, none⟩) nh' pc) (.slice (some ⟨gd, 0, none⟩) nd cd) now (X ++ ⟨v, j, b, now, r.h.is_⟩ :: Y)) := by rw [hw7]; exact H7B.out.drew
                have G7 : Hid (UF base w w7) := by rw [hw7]; exact ((G3.out.trans F6.out).trans (U7A.out.trans U7B.out)).drew
                have F7 : Hid (UF base w3 w7) := by rw [hw7]; exact (F6.out.trans (U7A.out.trans U7B.out)).drew
                rw [← hw7]
                clear hw7
                clear H7A H7B U7A U7B
                have W7 : Hid (w7.heap[wb]? = some (.cells #[I v] 3 (0, 0))) := F7.out.blk W3.out (by decide) (by decide) (by decide) (by decide)
                have B7 : Hid (w7.heap[hb]? = some (.cells #[.pointer (some ⟨gH, v * 5, none⟩)] 79 (0, 0))) := F7.out.blk B3.out (by decide) (by decide) (by decide) (by decide)
                have Q7 : Hid (w7.heap[db]? = some (.cells #[I kd, I K] 50 (0, 0))) := F7.out.blk Q3.out (by decide) (by decide) (by decide) (by decide)
                try clear f0
                try clear f1
                try clear f2
                try clear f3
                try clear f4
                try clear f5
                try clear ff
                try clear y0
                try clear y1
                try clear y2
                try clear y3
                try clear y4
                try clear yf
                try clear cw
                try clear ch
                try clear cq
                try clear ck
                try clear hp'
                try clear q0'
                try clear q1'
                obtain ⟨f0, f1, f2, f3, f4, f5, ff⟩ := H7.out.fb
                obtain ⟨y0, y1, y2, y3, y4, yf⟩ := H7.out.hd hv
                rw [HX.out] at y0
                rw [upd_same] at y1 y2 y3 y4
                have f0q : w7.cell? ⟨bb, 0, none⟩ = some (I 1) := f0
                clear f0
                have f0 := f0q
                clear f0q
                have cw : w7.cell? ⟨wb, 0, none⟩ = some (I v) := by rw [jcell W7.out]; rfl
                have ch : w7.cell? ⟨hb, 0, none⟩ = some (.pointer (some ⟨gH, v * 5, none⟩)) := by rw [jcell B7.out]; rfl
                have cq : w7.cell? ⟨db, 0, none⟩ = some (I kd) := by rw [jcell Q7.out]; rfl
                have ck : w7.cell? ⟨db, 1, none⟩ = some (I K) := by rw [jcell Q7.out]; rfl
                clear f0 f1 f2 f3 f4 f5 ff cw cq ck
                go_upto_region 18 with fail
                go_region
                all_goals
                  (
                    have hj1 : ((j + 1 : Nat) : Int) = (j : Int) + 1 := by omega
                    have a1 := H7.out.xset hv (j + 1)
                    rw [hj1] at a1
                    have a2 := a1.aset hv 0
                    have a3 := a2.pset hv 0
                    have a4 := a3.cset hv 0
                    have a5 := a4.iset hv false
                    have b1 := H7.out.ufH (v * 5) (I ((j : Int) + 1))
                    have b2 := b1.trans (a1.ufH (v * 5 + 1) (I 0))
                    have b3 := b2.trans (a2.ufH (v * 5 + 2) (I 0))
                    have b4 := b3.trans (a3.ufH (v * 5 + 3) (I 0))
                    have b5 := b4.trans (a4.ufH (v * 5 + 4) (.bool false))
                    clear hj1
                    try clear f0
                    try clear f1
                    try clear f2
                    try clear f3
                    try clear f4
                    try clear f5
                    try clear ff
                    try clear y0
                    try clear y1
                    try clear y2
                    try clear y3
                    try clear y4
                    try clear yf
                    try clear cw
                    try clear ch
                    try clear cq
                    try clear ck
                    try clear hp'
                    try clear q0'
                    try clear q1'
                    obtain ⟨w8, hw8⟩ : ∃ x, x = (((((w7.setCell ⟨gH, v * 5, none⟩ (I ((j : Int) + 1))).setCell ⟨gH, v * 5 + 1, none⟩ (I 0)).setCell ⟨gH, v * 5 + 2, none⟩ (I 0)).setCell ⟨gH, v * 5 + 3, none⟩ (I 0)).setCell ⟨gH, v * 5 + 4, none⟩ (.bool false)).drew := ⟨_, rfl⟩
                    have H8 : Hid (UB w8 base bb gB6 cB6 gH cH 1 nh r.s r.lk (upd ix v (j + 1)) (upd hs v hd0) (.slice (some ⟨pb, poff, none⟩) nh' pc) (.slice (some ⟨gd, 0, none⟩) nd cd) now (X ++ ⟨v, j, b, now, r.h.is_⟩ :: Y)) := by rw [hw8]; exact a5.drew.hs_eq (by first | (simp [upd_upd, upd_same, hd0]; done) | (simp [upd_upd, upd_same]; rfl))
                    have G8 : Hid (UF base w w8) := by rw [hw8]; exact (G7.out.trans b5).drew
                    rw [← hw8]
                    clear hw8
                    clear a1 a2 a3 a4 a5 b1 b2 b3 b4 b5 H7 G7
                    try clear ch y0 y1 y2 y3 y4 yf
                    obtain ⟨-, -, -, -, f4, -, ff⟩ := H8.out.fb
                    have H9 : Hid (UB (w8.setCell ⟨bb, 4, none⟩ (I ((now : Int) + 1))) base bb gB6 cB6 gH cH 1 nh r.s r.lk (upd ix v (j + 1)) (upd hs v hd0) (.slice (some ⟨pb, poff, none⟩) nh' pc) (.slice (some ⟨gd, 0, none⟩) nd cd) (now + 1) (X ++ ⟨v, j, b, now, r.h.is_⟩ :: Y)) := by
                      have hnw : ((now + 1 : Nat) : Int) = (now : Int) + 1 := by omega
                      rw [← hnw]
                      exact H8.out.nset (now + 1)
                    have G9 : Hid (UF base w (w8.setCell ⟨bb, 4, none⟩ (I ((now : Int) + 1)))) := G8.out.trans (H8.out.ufb _ _)
                    go_wp2
                    go_ret
                    exact ⟨rfl, ⟨_, _, _, H9.out⟩, G9.out⟩))
          · subst hal
            try clear f0
            try clear f1
            try clear f2
            try clear f3
            try clear f4
            try clear f5
            try clear ff
            try clear y0
            try clear y1
            try clear y2
            try clear y3
            try clear y4
            try clear yf
            try clear cw
            try clear ch
            try clear cq
            try clear ck
            try clear hp'
            try clear q0'
            try clear q1'
            obtain ⟨f0, f1, f2, f3, f4, f5, ff⟩ := H4.out.fb
            obtain ⟨y0, y1, y2, y3, y4, yf⟩ := H4.out.hd hv
            rw [HX.out] at y0
            have f0q : w4.cell? ⟨bb, 0, none⟩ = some (I 2) := f0
            clear f0
            have f0 := f0q
            clear f0q
            have cw : w4.cell? ⟨wb, 0, none⟩ = some (I v) := by rw [jcell W4.out]; rfl
            have ch : w4.cell? ⟨hb, 0, none⟩ = some (.pointer (some ⟨gH, v * 5, none⟩)) := by rw [jcell B4.out]; rfl
            have cq : w4.cell? ⟨db, 0, none⟩ = some (I kd) := by rw [jcell Q4.out]; rfl
            have ck : w4.cell? ⟨db, 1, none⟩ = some (I K) := by rw [jcell Q4.out]; rfl
            clear f1 f2 f3 f4 f5 ff y0 y1 y2 y3 y4 yf cw
            have HC := Lib.hid (HRH2.out rfl w4 _ H4.out)
            go_wp2_with fail
            refine HC.out.mono ?_
            rintro e w6 ⟨rfl, ⟨gB6, cB6, h6⟩, f6⟩
            rw [HO.out]
            have H6 : Hid (UB w6 base bb gB6 cB6 gH cH 2 nh r.s r.lk ix (upd hs v r.h) (.slice (some ⟨pb, poff, none⟩) nh' pc) (.slice (some ⟨gd, 0, none⟩) nd cd) now (X ++ ⟨v, j, b, -1, false⟩ :: Y)) := h6
            have F6 := Lib.hid (F4.out.trans f6)
            clear h6 f6 HC
            have W6 : Hid (w6.heap[wb]? = some (.cells #[I v] 3 (0, 0))) := F6.out.blk W3.out (by decide) (by decide) (by decide) (by decide)
            have B6 : Hid (w6.heap[hb]? = some (.cells #[.pointer (some ⟨gH, v * 5, none⟩)] 79 (0, 0))) := F6.out.blk B3.out (by decide) (by decide) (by decide) (by decide)
            have Q6 : Hid (w6.heap[db]? = some (.cells #[I kd, I K] 50 (0, 0))) := F6.out.blk Q3.out (by decide) (by decide) (by decide) (by decide)
            try clear f0
            try clear f1
            try clear f2
            try clear f3
            try clear f4
            try clear f5
            try clear ff
            try clear y0
            try clear y1
            try clear y2
            try clear y3
            try clear y4
            try clear yf
            try clear cw
            try clear ch
            try clear cq
            try clear ck
            try clear hp'
            try clear q0'
            try clear q1'
            obtain ⟨f0, f1, f2, f3, f4, f5, ff⟩ := H6.out.fb
            obtain ⟨y0, y1, y2, y3, y4, yf⟩ := H6.out.hd hv
            rw [HX.out] at y0
            rw [upd_same] at y1 y2 y3 y4
            have f0q : w6.cell? ⟨bb, 0, none⟩ = some (I 2) := f0
            clear f0
            have f0 := f0q
            clear f0q
            have cw : w6.cell? ⟨wb, 0, none⟩ = some (I v) := by rw [jcell W6.out]; rfl
            have ch : w6.cell? ⟨hb, 0, none⟩ = some (.pointer (some ⟨gH, v * 5, none⟩)) := by rw [jcell B6.out]; rfl
            have cq : w6.cell? ⟨db, 0, none⟩ = some (I kd) := by rw [jcell Q6.out]; rfl
            have ck : w6.cell? ⟨db, 1, none⟩ = some (I K) := by rw [jcell Q6.out]; rfl
            clear f0 f1 f2 f3 ff y0 y1 y2 y3 yf cw cq ck
            have dn6q := H6.out.dcell (k := 3) (by omega)
            have dm6q := H6.out.dcell (k := 4) (by omega)
            rw [HN.out] at dn6q dm6q
            have dn6 : w6.cell? ⟨gd, n * 5 + 3, none⟩ = some (I (-1)) := dn6q
            have dm6 : w6.cell? ⟨gd, n * 5 + 4, none⟩ = some (.bool false) := dm6q
            clear dn6q dm6q
            obtain ⟨-, _, hlD, -⟩ := H6.out.dn
            have df6 : ∀ k, w6.frozen? ⟨gd, k, none⟩ = false := fun k => jfroz hlD
            have h7a := H6.out.dset (k := 3) (u := I now) (d' := ⟨v, j, b, now, false⟩) (by omega) rfl
            have h7b := h7a.dset (k := 4) (u := .bool r.h.is_) (d' := ⟨v, j, b, now, r.h.is_⟩) (by omega) rfl
            have u7a := H6.out.ufD (n * 5 + 3) (I now)
            rw [HN.out] at h7a h7b
            have u7b := h7a.ufD (n * 5 + 4) (.bool r.h.is_)
            have H7A := Lib.hid h7a
            have H7B := Lib.hid h7b
            have U7A := Lib.hid u7a
            have U7B := Lib.hid u7b
            have S6 := Lib.hid (And.intro f5 (And.intro f4 (And.intro ch y4)))
            have S7 := Lib.hid (And.intro h7a.fb.2.2.2.2.2.1 (And.intro h7a.fb.2.2.2.2.1 (And.intro ((u7a.cell B6.out (by decide) (by decide) (by decide) (by decide)).trans ch) ((h7a.hd hv).2.2.2.2.1.trans (by rw [upd_same])))))
            have S8 := Lib.hid (And.intro h7b.fb.2.2.2.2.2.1 (And.intro h7b.fb.2.2.2.2.1 (And.intro (((u7a.trans u7b).cell B6.out (by decide) (by decide) (by decide) (by decide)).trans ch) ((h7b.hd hv).2.2.2.2.1.trans (by rw [upd_same])))))
            clear hlD h7a h7b u7a u7b
            go_upto_region 17 with fail
            go_region_held3 (fun w' => w'.cell? ⟨bb, 5, none⟩ = some (.slice (some ⟨gd, 0, none⟩) nd cd) ∧ w'.cell? ⟨bb, 4, none⟩ = some (I now) ∧ w'.cell? ⟨hb, 0, none⟩ = some (.pointer (some ⟨gH, v * 5, none⟩)) ∧ w'.cell? ⟨gH, v * 5 + 4, none⟩ = some (.bool r.h.is_))
              (first
                | exact S6.out
                | exact S7.out
                | exact S8.out)
              (fail)
            all_goals
              (
                clear dn6 dm6 df6 S6 S7 S8
                try clear f0
                try clear f1
                try clear f2
                try clear f3
                try clear f4
                try clear f5
                try clear ff
                try clear y0
                try clear y1
                try clear y2
                try clear y3
                try clear y4
                try clear yf
                try clear cw
                try clear ch
                try clear cq
                try clear ck
                try clear hp'
                try clear q0'
                try clear q1'
                obtain ⟨w7, hw7⟩ : ∃ x, x = ((w6.setCell ⟨gd, n * 5 + 3, none⟩ (I now)).setCell ⟨gd, n * 5 + 4, none⟩ (.bool r.h.is_)).drew := ⟨_, rfl⟩
                have H7 : Hid (UB w7 base bb gB6 cB6 gH cH 2 nh r.s r.lk ix (upd hs v r.h) (.slice (some ⟨pb, poff, none⟩) nh' pc) (.slice (some ⟨gd, 0, none⟩) nd cd) now (X ++ ⟨v, j, b, now, r.h.is_⟩ :: Y)) := by rw [hw7]; exact H7B.out.drew
                have G7 : Hid (UF base w w7) := by rw [hw7]; exact ((G3.out.trans F6.out).trans (U7A.out.trans U7B.out)).drew
                have F7 : Hid (UF base w3 w7) := by rw [hw7]; exact (F6.out.trans (U7A.out.trans U7B.out)).drew
                rw [← hw7]
                clear hw7
                clear H7A H7B U7A U7B
                have W7 : Hid (w7.heap[wb]? = some (.cells #[I v] 3 (0, 0))) := F7.out.blk W3.out (by decide) (by decide) (by decide) (by decide)
                have B7 : Hid (w7.heap[hb]? = some (.cells #[.pointer (some ⟨gH, v * 5, none⟩)] 79 (0, 0))) := F7.out.blk B3.out (by decide) (by decide) (by decide) (by decide)
                have Q7 : Hid (w7.heap[db]? = some (.cells #[I kd, I K] 50 (0, 0))) := F7.out.blk Q3.out (by decide) (by decide) (by decide) (by decide)
                try clear f0
                try clear f1
                try clear f2
                try clear f3
                try clear f4
                try clear f5
                try clear ff
                try clear y0
                try clear y1
                try clear y2
                try clear y3
                try clear y4
                try clear yf
                try clear cw
                try clear ch
                try clear cq
                try clear ck
                try clear hp'
                try clear q0'
                try clear q1'
                obtain ⟨f0, f1, f2, f3, f4, f5, ff⟩ := H7.out.fb
                obtain ⟨y0, y1, y2, y3, y4, yf⟩ := H7.out.hd hv
                rw [HX.out] at y0
                rw [upd_same] at y1 y2 y3 y4
                have f0q : w7.cell? ⟨bb, 0, none⟩ = some (I 2) := f0
                clear f0
                have f0 := f0q
                clear f0q
                have cw : w7.cell? ⟨wb, 0, none⟩ = some (I v) := by rw [jcell W7.out]; rfl
                have ch : w7.cell? ⟨hb, 0, none⟩ = some (.pointer (some ⟨gH, v * 5, none⟩)) := by rw [jcell B7.out]; rfl
                have cq : w7.cell? ⟨db, 0, none⟩ = some (I kd) := by rw [jcell Q7.out]; rfl
                have ck : w7.cell? ⟨db, 1, none⟩ = some (I K) := by rw [jcell Q7.out]; rfl
                clear f0 f1 f2 f3 f4 f5 ff cw cq ck
                go_upto_region 18 with fail
                go_region
                all_goals
                  (
                    have hj1 : ((j + 1 : Nat) : Int) = (j : Int) + 1 := by omega
                    have a1 := H7.out.xset hv (j + 1)
                    rw [hj1] at a1
                    have a2 := a1.aset hv 0
                    have a3 := a2.pset hv 0
                    have a4 := a3.cset hv 0
                    have a5 := a4.iset hv false
                    have b1 := H7.out.ufH (v * 5) (I ((j : Int) + 1))
                    have b2 := b1.trans (a1.ufH (v * 5 + 1) (I 0))
                    have b3 := b2.trans (a2.ufH (v * 5 + 2) (I 0))
                    have b4 := b3.trans (a3.ufH (v * 5 + 3) (I 0))
                    have b5 := b4.trans (a4.ufH (v * 5 + 4) (.bool false))
                    clear hj1
                    try clear f0
                    try clear f1
                    try clear f2
                    try clear f3
                    try clear f4
                    try clear f5
                    try clear ff
                    try clear y0
                    try clear y1
                    try clear y2
                    try clear y3
                    try clear y4
                    try clear yf
                    try clear cw
                    try clear ch
                    try clear cq
                    try clear ck
                    try clear hp'
                    try clear q0'
                    try clear q1'
                    obtain ⟨w8, hw8⟩ : ∃ x, x = (((((w7.setCell ⟨gH, v * 5, none⟩ (I ((j : Int) + 1))).setCell ⟨gH, v * 5 + 1, none⟩ (I 0)).setCell ⟨gH, v * 5 + 2, none⟩ (I 0)).setCell ⟨gH, v * 5 + 3, none⟩ (I 0)).setCell ⟨gH, v * 5 + 4, none⟩ (.bool false)).drew := ⟨_, rfl⟩
                    have H8 : Hid (UB w8 base bb gB6 cB6 gH cH 2 nh r.s r.lk (upd ix v (j + 1)) (upd hs v hd0) (.slice (some ⟨pb, poff, none⟩) nh' pc) (.slice (some ⟨gd, 0, none⟩) nd cd) now (X ++ ⟨v, j, b, now, r.h.is_⟩ :: Y)) := by rw [hw8]; exact a5.drew.hs_eq (by first | (simp [upd_upd, upd_same, hd0]; done) | (simp [upd_upd, upd_same]; rfl))
                    have G8 : Hid (UF base w w8) := by rw [hw8]; exact (G7.out.trans b5).drew
                    rw [← hw8]
                    clear hw8
                    clear a1 a2 a3 a4 a5 b1 b2 b3 b4 b5 H7 G7
                    try clear ch y0 y1 y2 y3 y4 yf
                    obtain ⟨-, -, -, -, f4, -, ff⟩ := H8.out.fb
                    have H9 : Hid (UB (w8.setCell ⟨bb, 4, none⟩ (I ((now : Int) + 1))) base bb gB6 cB6 gH cH 2 nh r.s r.lk (upd ix v (j + 1)) (upd hs v hd0) (.slice (some ⟨pb, poff, none⟩) nh' pc) (.slice (some ⟨gd, 0, none⟩) nd cd) (now + 1) (X ++ ⟨v, j, b, now, r.h.is_⟩ :: Y)) := by
                      have hnw : ((now + 1 : Nat) : Int) = (now : Int) + 1 := by omega
                      rw [← hnw]
                      exact H8.out.nset (now + 1)
                    have G9 : Hid (UF base w (w8.setCell ⟨bb, 4, none⟩ (I ((now : Int) + 1)))) := G8.out.trans (H8.out.ufb _ _)
                    go_wp2
                    go_ret
                    exact ⟨rfl, ⟨_, _, _, H9.out⟩, G9.out⟩))
          · subst hal
            try clear f0
            try clear f1
            try clear f2
            try clear f3
            try clear f4
            try clear f5
            try clear ff
            try clear y0
            try clear y1
            try clear y2
            try clear y3
            try clear y4
            try clear yf
            try clear cw
            try clear ch
            try clear cq
            try clear ck
            try clear hp'
            try clear q0'
            try clear q1'
            obtain ⟨f0, f1, f2, f3, f4, f5, ff⟩ := H4.out.fb
            obtain ⟨y0, y1, y2, y3, y4, yf⟩ := H4.out.hd hv
            rw [HX.out] at y0
            have f0q : w4.cell? ⟨bb, 0, none⟩ = some (I 3) := f0
            clear f0
            have f0 := f0q
            clear f0q
            have cw : w4.cell? ⟨wb, 0, none⟩ = some (I v) := by rw [jcell W4.out]; rfl
            have ch : w4.cell? ⟨hb, 0, none⟩ = some (.pointer (some ⟨gH, v * 5, none⟩)) := by rw [jcell B4.out]; rfl
            have cq : w4.cell? ⟨db, 0, none⟩ = some (I kd) := by rw [jcell Q4.out]; rfl
            have ck : w4.cell? ⟨db, 1, none⟩ = some (I K) := by rw [jcell Q4.out]; rfl
            clear f1 f2 f3 f4 f5 ff y0 y1 y2 y3 y4 yf cw
            have HC := Lib.hid (HRH3.out rfl w4 _ H4.out)
            go_wp2_with fail
            refine HC.out.mono ?_
            rintro e w6 ⟨rfl, ⟨gB6, cB6, h6⟩, f6⟩
            rw [HO.out]
            have H6 : Hid (UB w6 base bb gB6 cB6 gH cH 3 nh r.s r.lk ix (upd hs v r.h) (.slice (some ⟨pb, poff, none⟩) nh' pc) (.slice (some ⟨gd, 0, none⟩) nd cd) now (X ++ ⟨v, j, b, -1, false⟩ :: Y)) := h6
            have F6 := Lib.hid (F4.out.trans f6)
            clear h6 f6 HC
            have W6 : Hid (w6.heap[wb]? = some (.cells #[I v] 3 (0, 0))) := F6.out.blk W3.out (by decide) (by decide) (by decide) (by decide)
            have B6 : Hid (w6.heap[hb]? = some (.cells #[.pointer (some ⟨gH, v * 5, none⟩)] 79 (0, 0))) := F6.out.blk B3.out (by decide) (by decide) (by decide) (by decide)
            have Q6 : Hid (w6.heap[db]? = some (.cells #[I kd, I K] 50 (0, 0))) := F6.out.blk Q3.out (by decide) (by decide) (by decide) (by decide)
            try clear f0
            try clear f1
            try clear f2
            try clear f3
            try clear f4
            try clear f5
            try clear ff
            try clear y0
            try clear y1
            try clear y2
            try clear y3
            try clear y4
            try clear yf
            try clear cw
            try clear ch
            try clear cq
            try clear ck
            try clear hp'
            try clear q0'
            try clear q1'
            obtain ⟨f0, f1, f2, f3, f4, f5, ff⟩ := H6.out.fb
            obtain ⟨y0, y1, y2, y3, y4, yf⟩ := H6.out.hd hv
            rw [HX.out] at y0
            rw [upd_same] at y1 y2 y3 y4
            have f0q : w6.cell? ⟨bb, 0, none⟩ = some (I 3) := f0
            clear f0
            have f0 := f0q
            clear f0q
            have cw : w6.cell? ⟨wb, 0, none⟩ = some (I v) := by rw [jcell W6.out]; rfl
            have ch : w6.cell? ⟨hb, 0, none⟩ = some (.pointer (some ⟨gH, v * 5, none⟩)) := by rw [jcell B6.out]; rfl
            have cq : w6.cell? ⟨db, 0, none⟩ = some (I kd) := by rw [jcell Q6.out]; rfl
            have ck : w6.cell? ⟨db, 1, none⟩ = some (I K) := by rw [jcell Q6.out]; rfl
            clear f0 f1 f2 f3 ff y0 y1 y2 y3 yf cw cq ck
            have dn6q := H6.out.dcell (k := 3) (by omega)
            have dm6q := H6.out.dcell (k := 4) (by omega)
            rw [HN.out] at dn6q dm6q
            have dn6 : w6.cell? ⟨gd, n * 5 + 3, none⟩ = some (I (-1)) := dn6q
            have dm6 : w6.cell? ⟨gd, n * 5 + 4, none⟩ = some (.bool false) := dm6q
            clear dn6q dm6q
            obtain ⟨-, _, hlD, -⟩ := H6.out.dn
            have df6 : ∀ k, w6.frozen? ⟨gd, k, none⟩ = false := fun k => jfroz hlD
            have h7a := H6.out.dset (k := 3) (u := I now) (d' := ⟨v, j, b, now, false⟩) (by omega) rfl
            have h7b := h7a.dset (k := 4) (u := .bool r.h.is_) (d' := ⟨v, j, b, now, r.h.is_⟩) (by omega) rfl
            have u7a := H6.out.ufD (n * 5 + 3) (I now)
            rw [HN.out] at h7a h7b
            have u7b := h7a.ufD (n * 5 + 4) (.bool r.h.is_)
            have H7A := Lib.hid h7a
            have H7B := Lib.hid h7b
            have U7A := Lib.hid u7a
            have U7B := Lib.hid u7b
            have S6 := Lib.hid (And.intro f5 (And.intro f4 (And.intro ch y4)))
            have S7 := Lib.hid (And.intro h7a.fb.2.2.2.2.2.1 (And.intro h7a.fb.2.2.2.2.1 (And.intro ((u7a.cell B6.out (by decide) (by decide) (by decide) (by decide)).trans ch) ((h7a.hd hv).2.2.2.2.1.trans (by rw [upd_same])))))
            have S8 := Lib.hid (And.intro h7b.fb.2.2.2.2.2.1 (And.intro h7b.fb.2.2.2.2.1 (And.intro (((u7a.trans u7b).cell B6.out (by decide) (by decide) (by decide) (by decide)).trans ch) ((h7b.hd hv).2.2.2.2.1.trans (by rw [upd_same])))))
            clear hlD h7a h7b u7a u7b
            go_upto_region 17 with fail
            go_region_held3 (fun w' => w'.cell? ⟨bb, 5, none⟩ = some (.slice (some ⟨gd, 0, none⟩) nd cd) ∧ w'.cell? ⟨bb, 4, none⟩ = some (I now) ∧ w'.cell? ⟨hb, 0, none⟩ = some (.pointer (some ⟨gH, v * 5, none⟩)) ∧ w'.cell? ⟨gH, v * 5 + 4, none⟩ = some (.bool r.h.is_))
              (first
                | exact S6.out
                | exact S7.out
                | exact S8.out)
              (fail)
            all_goals
              (
                clear dn6 dm6 df6 S6 S7 S8
                try clear f0
                try clear f1
                try clear f2
                try clear f3
                try clear f4
                try clear f5
                try clear ff
                try clear y0
                try clear y1
                try clear y2
                try clear y3
                try clear y4
                try clear yf
                try clear cw
                try clear ch
                try clear cq
                try clear ck
                try clear hp'
                try clear q0'
                try clear q1'
                obtain ⟨w7, hw7⟩ : ∃ x, x = ((w6.setCell ⟨gd, n * 5 + 3, none⟩ (I now)).setCell ⟨gd, n * 5 + 4, none⟩ (.bool r.h.is_)).drew := ⟨_, rfl⟩
                have H7 : Hid (UB w7 base bb gB6 cB6 gH cH 3 nh r.s r.lk ix (upd hs v r.h) (.slice (some ⟨pb, poff, none⟩) nh' pc) (.slice (some ⟨gd, 0, none⟩) nd cd) now (X ++ ⟨v, j, b, now, r.h.is_⟩ :: Y)) := by rw [hw7]; exact H7B.out.drew
                have G7 : Hid (UF base w w7) := by rw [hw7]; exact ((G3.out.trans F6.out).trans (U7A.out.trans U7B.out)).drew
                have F7 : Hid (UF base w3 w7) := by rw [hw7]; exact (F6.out.trans (U7A.out.trans U7B.out)).drew
                rw [← hw7]
                clear hw7
                clear H7A H7B U7A U7B
                have W7 : Hid (w7.heap[wb]? = some (.cells #[I v] 3 (0, 0))) := F7.out.blk W3.out (by decide) (by decide) (by decide) (by decide)
                have B7 : Hid (w7.heap[hb]? = some (.cells #[.pointer (some ⟨gH, v * 5, none⟩)] 79 (0, 0))) := F7.out.blk B3.out (by decide) (by decide) (by decide) (by decide)
                have Q7 : Hid (w7.heap[db]? = some (.cells #[I kd, I K] 50 (0, 0))) := F7.out.blk Q3.out (by decide) (by decide) (by decide) (by decide)
                try clear f0
                try clear f1
                try clear f2
                try clear f3
                try clear f4
                try clear f5
                try clear ff
                try clear y0
                try clear y1
                try clear y2
                try clear y3
                try clear y4
                try clear yf
                try clear cw
                try clear ch
                try clear cq
                try clear ck
                try clear hp'
                try clear q0'
                try clear q1'
                obtain ⟨f0, f1, f2, f3, f4, f5, ff⟩ := H7.out.fb
                obtain ⟨y0, y1, y2, y3, y4, yf⟩ := H7.out.hd hv
                rw [HX.out] at y0
                rw [upd_same] at y1 y2 y3 y4
                have f0q : w7.cell? ⟨bb, 0, none⟩ = some (I 3) := f0
                clear f0
                have f0 := f0q
                clear f0q
                have cw : w7.cell? ⟨wb, 0, none⟩ = some (I v) := by rw [jcell W7.out]; rfl
                have ch : w7.cell? ⟨hb, 0, none⟩ = some (.pointer (some ⟨gH, v * 5, none⟩)) := by rw [jcell B7.out]; rfl
                have cq : w7.cell? ⟨db, 0, none⟩ = some (I kd) := by rw [jcell Q7.out]; rfl
                have ck : w7.cell? ⟨db, 1, none⟩ = some (I K) := by rw [jcell Q7.out]; rfl
                clear f0 f1 f2 f3 f4 f5 ff cw cq ck
                go_upto_region 18 with fail
                go_region
                all_goals
                  (
                    have hj1 : ((j + 1 : Nat) : Int) = (j : Int) + 1 := by omega
                    have a1 := H7.out.xset hv (j + 1)
                    rw [hj1] at a1
                    have a2 := a1.aset hv 0
                    have a3 := a2.pset hv 0
                    have a4 := a3.cset hv 0
                    have a5 := a4.iset hv false
                    have b1 := H7.out.ufH (v * 5) (I ((j : Int) + 1))
                    have b2 := b1.trans (a1.ufH (v * 5 + 1) (I 0))
                    have b3 := b2.trans (a2.ufH (v * 5 + 2) (I 0))
                    have b4 := b3.trans (a3.ufH (v * 5 + 3) (I 0))
                    have b5 := b4.trans (a4.ufH (v * 5 + 4) (.bool false))
                    clear hj1
                    try clear f0
                    try clear f1
                    try clear f2
                    try clear f3
                    try clear f4
                    try clear f5
                    try clear ff
                    try clear y0
                    try clear y1
                    try clear y2
                    try clear y3
                    try clear y4
                    try clear yf
                    try clear cw
                    try clear ch
                    try clear cq
                    try clear ck
                    try clear hp'
                    try clear q0'
                    try clear q1'
                    obtain ⟨w8, hw8⟩ : ∃ x, x = (((((w7.setCell ⟨gH, v * 5, none⟩ (I ((j : Int) + 1))).setCell ⟨gH, v * 5 + 1, none⟩ (I 0)).setCell ⟨gH, v * 5 + 2, none⟩ (I 0)).setCell ⟨gH, v * 5 + 3, none⟩ (I 0)).setCell ⟨gH, v * 5 + 4, none⟩ (.bool false)).drew := ⟨_, rfl⟩
                    have H8 : Hid (UB w8 base bb gB6 cB6 gH cH 3 nh r.s r.lk (upd ix v (j + 1)) (upd hs v hd0) (.slice (some ⟨pb, poff, none⟩) nh' pc) (.slice (some ⟨gd, 0, none⟩) nd cd) now (X ++ ⟨v, j, b, now, r.h.is_⟩ :: Y)) := by rw [hw8]; exact a5.drew.hs_eq (by first | (simp [upd_upd, upd_same, hd0]; done) | (simp [upd_upd, upd_same]; rfl))
                    have G8 : Hid (UF base w w8) := by rw [hw8]; exact (G7.out.trans b5).drew
                    rw [← hw8]
                    clear hw8
                    clear a1 a2 a3 a4 a5 b1 b2 b3 b4 b5 H7 G7
                    try clear ch y0 y1 y2 y3 y4 yf
                    obtain ⟨-, -, -, -, f4, -, ff⟩ := H8.out.fb
                    have H9 : Hid (UB (w8.setCell ⟨bb, 4, none⟩ (I ((now : Int) + 1))) base bb gB6 cB6 gH cH 3 nh r.s r.lk (upd ix v (j + 1)) (upd hs v hd0) (.slice (some ⟨pb, poff, none⟩) nh' pc) (.slice (some ⟨gd, 0, none⟩) nd cd) (now + 1) (X ++ ⟨v, j, b, now, r.h.is_⟩ :: Y)) := by
                      have hnw : ((now + 1 : Nat) : Int) = (now : Int) + 1 := by omega
                      rw [← hnw]
                      exact H8.out.nset (now + 1)
                    have G9 : Hid (UF base w (w8.setCell ⟨bb, 4, none⟩ (I ((now : Int) + 1)))) := G8.out.trans (H8.out.ufb _ _)
                    go_wp2
                    go_ret
                    exact ⟨rfl, ⟨_, _, _, H9.out⟩, G9.out⟩))
          · subst hal
            try clear f0
            try clear f1
            try clear f2
            try clear f3
            try clear f4
            try clear f5
            try clear ff
            try clear y0
            try clear y1
            try clear y2
            try clear y3
            try clear y4
            try clear yf
            try clear cw
            try clear ch
            try clear cq
            try clear ck
            try clear hp'
            try clear q0'
            try clear q1'
            obtain ⟨f0, f1, f2, f3, f4, f5, ff⟩ := H4.out.fb
            obtain ⟨y0, y1, y2, y3, y4, yf⟩ := H4.out.hd hv
            rw [HX.out] at y0
            have f0q : w4.cell? ⟨bb, 0, none⟩ = some (I 4) := f0
            clear f0
            have f0 := f0q
            clear f0q
            have cw : w4.cell? ⟨wb, 0, none⟩ = some (I v) := by rw [jcell W4.out]; rfl
            have ch : w4.cell? ⟨hb, 0, none⟩ = some (.pointer (some ⟨gH, v * 5, none⟩)) := by rw [jcell B4.out]; rfl
            have cq : w4.cell? ⟨db, 0, none⟩ = some (I kd) := by rw [jcell Q4.out]; rfl
            have ck : w4.cell? ⟨db, 1, none⟩ = some (I K) := by rw [jcell Q4.out]; rfl
            clear f1 f2 f3 f4 f5 ff y0 y1 y2 y3 y4 yf cw
            have HC := Lib.hid (HRH4.out rfl w4 _ H4.out)
            go_wp2_with fail
            refine HC.out.mono ?_
            rintro e w6 ⟨rfl, ⟨gB6, cB6, h6⟩, f6⟩
            rw [HO.out]
            have H6 : Hid (UB w6 base bb gB6 cB6 gH cH 4 nh r.s r.lk ix (upd hs v r.h) (.slice (some ⟨pb, poff, none⟩) nh' pc) (.slice (some ⟨gd, 0, none⟩) nd cd) now (X ++ ⟨v, j, b, -1, false⟩ :: Y)) := h6
            have F6 := Lib.hid (F4.out.trans f6)
            clear h6 f6 HC
            have W6 : Hid (w6.heap[wb]? = some (.cells #[I v] 3 (0, 0))) := F6.out.blk W3.out (by decide) (by decide) (by decide) (by decide)
            have B6 : Hid (w6.heap[hb]? = some (.cells #[.pointer (some ⟨gH, v * 5, none⟩)] 79 (0, 0))) := F6.out.blk B3.out (by decide) (by decide) (by decide) (by decide)
            have Q6 : Hid (w6.heap[db]? = some (.cells #[I kd, I K] 50 (0, 0))) := F6.out.blk Q3.out (by decide) (by decide) (by decide) (by decide)
            try clear f0
            try clear f1
            try clear f2
            try clear f3
            try clear f4
            try clear f5
            try clear ff
            try clear y0
            try clear y1
            try clear y2
            try clear y3
            try clear y4
            try clear yf
            try clear cw
            try clear ch
            try clear cq
            try clear ck
            try clear hp'
            try clear q0'
            try clear q1'
            obtain ⟨f0, f1, f2, f3, f4, f5, ff⟩ := H6.out.fb
            obtain ⟨y0, y1, y2, y3, y4, yf⟩ := H6.out.hd hv
            rw [HX.out] at y0
            rw [upd_same] at y1 y2 y3 y4
            have f0q : w6.cell? ⟨bb, 0, none⟩ = some (I 4) := f0
            clear f0
            have f0 := f0q
            clear f0q
            have cw : w6.cell? ⟨wb, 0, none⟩ = some (I v) := by rw [jcell W6.out]; rfl
            have ch : w6.cell? ⟨hb, 0, none⟩ = some (.pointer (some ⟨gH, v * 5, none⟩)) := by rw [jcell B6.out]; rfl
            have cq : w6.cell? ⟨db, 0, none⟩ = some (I kd) := by rw [jcell Q6.out]; rfl
            have ck : w6.cell? ⟨db, 1, none⟩ = some (I K) := by rw [jcell Q6.out]; rfl
            clear f0 f1 f2 f3 ff y0 y1 y2 y3 yf cw cq ck
            have dn6q := H6.out.dcell (k := 3) (by omega)
            have dm6q := H6.out.dcell (k := 4) (by omega)
            rw [HN.out] at dn6q dm6q
            have dn6 : w6.cell? ⟨gd, n * 5 + 3, none⟩ = some (I (-1)) := dn6q
            have dm6 : w6.cell? ⟨gd, n * 5 + 4, none⟩ = some (.bool false) := dm6q
            clear dn6q dm6q
            obtain ⟨-, _, hlD, -⟩ := H6.out.dn
            have df6 : ∀ k, w6.frozen? ⟨gd, k, none⟩ = false := fun k => jfroz hlD
            have h7a := H6.out.dset (k := 3) (u := I now) (d' := ⟨v, j, b, now, false⟩) (by omega) rfl
            have h7b := h7a.dset (k := 4) (u := .bool r.h.is_) (d' := ⟨v, j, b, now, r.h.is_⟩) (by omega) rfl
            have u7a := H6.out.ufD (n * 5 + 3) (I now)
            rw [HN.out] at h7a h7b
            have u7b := h7a.ufD (n * 5 + 4) (.bool r.h.is_)
            have H7A := Lib.hid h7a
            have H7B := Lib.hid h7b
            have U7A := Lib.hid u7a
            have U7B := Lib.hid u7b
            have S6 := Lib.hid (And.intro f5 (And.intro f4 (And.intro ch y4)))
            have S7 := Lib.hid (And.intro h7a.fb.2.2.2.2.2.1 (And.intro h7a.fb.2.2.2.2.1 (And.intro ((u7a.cell B6.out (by decide) (by decide) (by decide) (by decide)).trans ch) ((h7a.hd hv).2.2.2.2.1.trans (by rw [upd_same])))))
            have S8 := Lib.hid (And.intro h7b.fb.2.2.2.2.2.1 (And.intro h7b.fb.2.2.2.2.1 (And.intro (((u7a.trans u7b).cell B6.out (by decide) (by decide) (by decide) (by decide)).trans ch) ((h7b.hd hv).2.2.2.2.1.trans (by rw [upd_same])))))
            clear hlD h7a h7b u7a u7b
            go_upto_region 17 with fail
            go_region_held3 (fun w' => w'.cell? ⟨bb, 5, none⟩ = some (.slice (some ⟨gd, 0, none⟩) nd cd) ∧ w'.cell? ⟨bb, 4, none⟩ = some (I now) ∧ w'.cell? ⟨hb, 0, none⟩ = some (.pointer (some ⟨gH, v * 5, none⟩)) ∧ w'.cell? ⟨gH, v * 5 + 4, none⟩ = some (.bool r.h.is_))
              (first
                | exact S6.out
                | exact S7.out
                | exact S8.out)
              (fail)
            all_goals
              (
                clear dn6 dm6 df6 S6 S7 S8
                try clear f0
                try clear f1
                try clear f2
                try clear f3
                try clear f4
                try clear f5
                try clear ff
                try clear y0
                try clear y1
                try clear y2
                try clear y3
                try clear y4
                try clear yf
                try clear cw
                try clear ch
                try clear cq
                try clear ck
                try clear hp'
                try clear q0'
                try clear q1'
                obtain ⟨w7, hw7⟩ : ∃ x, x = ((w6.setCell ⟨gd, n * 5 + 3, none⟩ (I now)).setCell ⟨gd, n * 5 + 4, none⟩ (.bool r.h.is_)).drew := ⟨_, rfl⟩
                have H7 : Hid (UB w7 base bb gB6 cB6 gH cH 4 nh r.s r.lk ix (upd hs v r.h) (.slice (some ⟨pb, poff, none⟩) nh' pc) (.slice (some ⟨gd, 0, none⟩) nd cd) now (X ++ ⟨v, j, b, now, r.h.is_⟩ :: Y)) := by rw [hw7]; exact H7B.out.drew
                have G7 : Hid (UF base w w7) := by rw [hw7]; exact ((G3.out.trans F6.out).trans (U7A.out.trans U7B.out)).drew
                have F7 : Hid (UF base w3 w7) := by rw [hw7]; exact (F6.out.trans (U7A.out.trans U7B.out)).drew
                rw [← hw7]
                clear hw7
                clear H7A H7B U7A U7B
                have W7 : Hid (w7.heap[wb]? = some (.cells #[I v] 3 (0, 0))) := F7.out.blk W3.out (by decide) (by decide) (by decide) (by decide)
                have B7 : Hid (w7.heap[hb]? = some (.cells #[.pointer (some ⟨gH, v * 5, none⟩)] 79 (0, 0))) := F7.out.blk B3.out (by decide) (by decide) (by decide) (by decide)
                have Q7 : Hid (w7.heap[db]? = some (.cells #[I kd, I K] 50 (0, 0))) := F7.out.blk Q3.out (by decide) (by decide) (by decide) (by decide)
                try clear f0
                try clear f1
                try clear f2
                try clear f3
                try clear f4
                try clear f5
                try clear ff
                try clear y0
                try clear y1
                try clear y2
                try clear y3
                try clear y4
                try clear yf
                try clear cw
                try clear ch
                try clear cq
                try clear ck
                try clear hp'
                try clear q0'
                try clear q1'
                obtain ⟨f0, f1, f2, f3, f4, f5, ff⟩ := H7.out.fb
                obtain ⟨y0, y1, y2, y3, y4, yf⟩ := H7.out.hd hv
                rw [HX.out] at y0
                rw [upd_same] at y1 y2 y3 y4
                have f0q : w7.cell? ⟨bb, 0, none⟩ = some (I 4) := f0
                clear f0
                have f0 := f0q
                clear f0q
                have cw : w7.cell? ⟨wb, 0, none⟩ = some (I v) := by rw [jcell W7.out]; rfl
                have ch : w7.cell? ⟨hb, 0, none⟩ = some (.pointer (some ⟨gH, v * 5, none⟩)) := by rw [jcell B7.out]; rfl
                have cq : w7.cell? ⟨db, 0, none⟩ = some (I kd) := by rw [jcell Q7.out]; rfl
                have ck : w7.cell? ⟨db, 1, none⟩ = some (I K) := by rw [jcell Q7.out]; rfl
                clear f0 f1 f2 f3 f4 f5 ff cw cq ck
                go_upto_region 18 with fail
                go_region
                all_goals
                  (
                    have hj1 : ((j + 1 : Nat) : Int) = (j : Int) + 1 := by omega
                    have a1 := H7.out.xset hv (j + 1)
                    rw [hj1] at a1
                    have a2 := a1.aset hv 0
                    have a3 := a2.pset hv 0
                    have a4 := a3.cset hv 0
                    have a5 := a4.iset hv false
                    have b1 := H7.out.ufH (v * 5) (I ((j : Int) + 1))
                    have b2 := b1.trans (a1.ufH (v * 5 + 1) (I 0))
                    have b3 := b2.trans (a2.ufH (v * 5 + 2) (I 0))
                    have b4 := b3.trans (a3.ufH (v * 5 + 3) (I 0))
                    have b5 := b4.trans (a4.ufH (v * 5 + 4) (.bool false))
                    clear hj1
                    try clear f0
                    try clear f1
                    try clear f2
                    try clear f3
                    try clear f4
                    try clear f5
                    try clear ff
                    try clear y0
                    try clear y1
                    try clear y2
                    try clear y3
                    try clear y4
                    try clear yf
                    try clear cw
                    try clear ch
                    try clear cq
                    try clear ck
                    try clear hp'
                    try clear q0'
                    try clear q1'
                    obtain ⟨w8, hw8⟩ : ∃ x, x = (((((w7.setCell ⟨gH, v * 5, none⟩ (I ((j : Int) + 1))).setCell ⟨gH, v * 5 + 1, none⟩ (I 0)).setCell ⟨gH, v * 5 + 2, none⟩ (I 0)).setCell ⟨gH, v * 5 + 3, none⟩ (I 0)).setCell ⟨gH, v * 5 + 4, none⟩ (.bool false)).drew := ⟨_, rfl⟩
                    have H8 : Hid (UB w8 base bb gB6 cB6 gH cH 4 nh r.s r.lk (upd ix v (j + 1)) (upd hs v hd0) (.slice (some ⟨pb, poff, none⟩) nh' pc) (.slice (some ⟨gd, 0, none⟩) nd cd) now (X ++ ⟨v, j, b, now, r.h.is_⟩ :: Y)) := by rw [hw8]; exact a5.drew.hs_eq (by first | (simp [upd_upd, upd_same, hd0]; done) | (simp [upd_upd, upd_same]; rfl))
                    have G8 : Hid (UF base w w8) := by rw [hw8]; exact (G7.out.trans b5).drew
                    rw [← hw8]
                    clear hw8
                    clear a1 a2 a3 a4 a5 b1 b2 b3 b4 b5 H7 G7
                    try clear ch y0 y1 y2 y3 y4 yf
                    obtain ⟨-, -, -, -, f4, -, ff⟩ := H8.out.fb
                    have H9 : Hid (UB (w8.setCell ⟨bb, 4, none⟩ (I ((now : Int) + 1))) base bb gB6 cB6 gH cH 4 nh r.s r.lk (upd ix v (j + 1)) (upd hs v hd0) (.slice (some ⟨pb, poff, none⟩) nh' pc) (.slice (some ⟨gd, 0, none⟩) nd cd) (now + 1) (X ++ ⟨v, j, b, now, r.h.is_⟩ :: Y)) := by
                      have hnw : ((now + 1 : Nat) : Int) = (now : Int) + 1 := by omega
                      rw [← hnw]
                      exact H8.out.nset (now + 1)
                    have G9 : Hid (UF base w (w8.setCell ⟨bb, 4, none⟩ (I ((now : Int) + 1)))) := G8.out.trans (H8.out.ufb _ _)
                    go_wp2
                    go_ret
                    exact ⟨rfl, ⟨_, _, _, H9.out⟩, G9.out⟩))))
end
end Go.Proofs.Ytfmdpmebllepeaa

/-
  hedgref's Bench: a step of a hand, whatever the way and the deed. Written by tools/gen_ustep.py.
-/
namespace Go.Proofs.Ytfmdpmebllepeaa
open Go.RowKit

structure UT (al base bb gH cH nh : Nat) (pv : Value) (P : Nat → PL) (W : Wd) (w0 w : World) : Prop where
  ub : ∃ gB cB dv L, UB w base bb gB cB gH cH al nh W.s W.lk W.ix W.hs pv dv W.now L ∧ DI W L ∧ L.length ≤ W.now
  pc : PCI W
  le : ∀ v, W.ix v ≤ (P v).length
  uf : UF base w0 w
theorem go_parts {A : Alg} {D : Nat → Nat → Int × Int} {W : Wd} {v : Nat} {r : Rel} (hr : A.step W.s W.lk (W.hs v) (D v (W.ix v)).1 (D v (W.ix v)).2 = r) :
    (W.go A D v).s = r.s ∧ (W.go A D v).lk = r.lk ∧ (W.go A D v).hs = upd W.hs v r.nh ∧ (W.go A D v).ix = upd W.ix v (if r.over = true then W.ix v + 1 else W.ix v) ∧ (W.go A D v).now = W.now + 1 := by
  subst hr
  exact ⟨rfl, rfl, rfl, rfl, rfl⟩
theorem go_le {A : Alg} {D : Nat → Nat → Int × Int} {P : Nat → PL} {W : Wd} {v : Nat} (h : ∀ v, W.ix v ≤ (P v).length) (hi : W.ix v < (P v).length) : ∀ v', (W.go A D v).ix v' ≤ (P v').length := fun v' => by
  rw [(go_parts (r := _) rfl).2.2.2.1]
  by_cases e : v' = v
  · subst e
    rw [upd_same]
    split <;> omega
  · rw [upd_other _ _ e]
    exact h v'
section
variable {w0 w : World} {base bb gH cH nh pc v : Nat} {PA : Option Addr} {es : List Sl} {W : Wd}
theorem ustepA1 (h : UT 1 base bb gH cH nh (.slice PA nh pc) (prog0 es) W w0 w) (hz : base = w0.heap.size) (hP : RS w0 PA nh pc es) (hes : ∀ s ∈ es, s.n ≤ 4) (hok : Okay 1 (prog0 es) W) (hv : v < nh) (hnow : W.now ≤ 5000) (hi : W.ix v < (prog0 es v).length) :
    Calls Try.prog 19 #[jp bb, I v] w fun e w' => e = .returned (.bool true) ∧ UT 1 base bb gH cH nh (.slice PA nh pc) (prog0 es) (W.go (alg 1) (dds (prog0 es)) v) w0 w' ∧ UF base w w' := by
  obtain ⟨gB, cB, dv, L, hu, hd, hl⟩ := h.ub
  obtain ⟨hj, hn⟩ := hok v hi
  obtain ⟨pb, poff, rfl, hpb, hpc⟩ := hP.at_ (by omega)
  have hvl : v < es.length := by rw [hP.len]; exact hv
  have hcell := hpc v hv
  have hPv : prog0 es v = es[v].L := by unfold prog0; rw [List.getElem?_eq_getElem hvl]; rfl
  have hps := hP.each es[v] (List.getElem_mem hvl)
  have hsn := hes es[v] (List.getElem_mem hvl)
  obtain ⟨⟨sA, sn, sc, sL⟩, hs⟩ : ∃ s, es[v] = s := ⟨_, rfl⟩
  rw [hs] at hcell hPv hps hsn
  have hi' : W.ix v < sL.length := by rw [hPv] at hi; exact hi
  have hlen : sL.length = sn := PS.len hps
  obtain ⟨qb, qoff, hA, hqb, hq⟩ := PS.at_ hps (show 0 < sn by omega)
  have hA' : sA = some ⟨qb, qoff, none⟩ := hA
  subst hA'
  have hsn' : sn ≤ 4 := hsn
  obtain ⟨q0, q1⟩ := hq (W.ix v) (show W.ix v < sn by omega)
  have hdd : dds (prog0 es) v (W.ix v) = sL[W.ix v] := by unfold dds; rw [hPv, List.getElem?_eq_getElem hi']; rfl
  have hpb' : pb < base := by rw [hz]; exact hpb
  have hqb' : qb < base := by rw [hz]; exact hqb
  have cp : w.cell? ⟨pb, poff + v, none⟩ = some (.slice (some ⟨qb, qoff, none⟩) sn sc) := (h.uf.bl.cell (by exact hpb')).trans hcell
  have c0 : w.cell? ⟨qb, qoff + W.ix v * 2, none⟩ = some (I (dds (prog0 es) v (W.ix v)).1) := (h.uf.bl.cell (by exact hqb')).trans (by rw [hdd]; exact q0)
  have c1 : w.cell? ⟨qb, qoff + W.ix v * 2 + 1, none⟩ = some (I (dds (prog0 es) v (W.ix v)).2) := (h.uf.bl.cell (by exact hqb')).trans (by rw [hdd]; exact q1)
  obtain ⟨r, hr⟩ : ∃ r, (alg 1).step W.s W.lk (W.hs v) (dds (prog0 es) v (W.ix v)).1 (dds (prog0 es) v (W.ix v)).2 = r := ⟨_, rfl⟩
  obtain ⟨g1, g2, g3, g4, g5⟩ := go_parts hr
  have hpcv := h.pc.pc v
  have hsz : W.s.sz ≤ 10000 := by have := h.pc.sz; omega
  have hpc' := h.pc.go (al := 1) (P := prog0 es) hok hi
  have hle' := go_le (A := alg 1) (D := dds (prog0 es)) h.le hi
  cases hb : W.bg v with
  | some b =>
    obtain ⟨X, Y, rfl, hX, hY⟩ := hd.had hb
    have hfix : fix1 (isV v (W.ix v)) (X ++ (⟨v, W.ix v, b, -1, false⟩ : Dn) :: Y) = (X.length : Int) := by unfold fix1; rw [fix1_at X Y _ (isV_self _ _ _ _ _) hX]
    have hD := hd.go (A := alg 1) (D := dds (prog0 es)) hr (b := b) (by rw [hb]; rfl) hX hY (.inl ⟨hb, rfl⟩)
    have hLn : ∀ d : Dn, (X ++ d :: Y).length = (X ++ (⟨v, W.ix v, b, -1, false⟩ : Dn) :: Y).length := fun d => by simp
    cases ho : r.over with
    | false =>
      rw [ho, if_neg (by decide)] at hD g4
      rw [upd_id] at g4
      refine (ustep_had_go hu hv hv rfl hfix (by omega) hnow (show W.ix v < sn by omega) hsn' hpb' hqb' cp c0 c1 ho (by omega) ?hr (fun e => absurd e (by decide)) (fun e => absurd e (by decide)) (fun e => absurd e (by decide))).mono ?_
      case hr =>
        intro _ w' dv' h'
        have := uover_any h' hv hj hpcv.1 hpcv.2 hsz
        rw [← hr]
        exact this
      · rintro e w' ⟨rfl, ⟨gB', cB', dv', hu'⟩, hf⟩
        refine ⟨rfl, ⟨⟨gB', cB', dv', _, ?_, hD, ?_⟩, hpc', hle', h.uf.trans hf⟩, hf⟩
        · rw [g1, g2, g3, g4, g5]
          have hnh : r.nh = r.h := by unfold Rel.nh; rw [ho, if_neg (by decide)]
          rw [hnh]
          exact hu'
        · rw [g5]; omega
    | true =>
      rw [ho, if_pos rfl] at hD g4
      refine (ustep_had_over hu hv hv rfl hfix (by omega) hnow (show W.ix v < sn by omega) hsn' hpb' hqb' cp c0 c1 ho (by omega) ?hr (fun e => absurd e (by decide)) (fun e => absurd e (by decide)) (fun e => absurd e (by decide))).mono ?_
      case hr =>
        intro _ w' dv' h'
        have := uover_any h' hv hj hpcv.1 hpcv.2 hsz
        rw [← hr]
        exact this
      · rintro e w' ⟨rfl, ⟨gB', cB', dv', hu'⟩, hf⟩
        refine ⟨rfl, ⟨⟨gB', cB', dv', _, ?_, hD, ?_⟩, hpc', hle', h.uf.trans hf⟩, hf⟩
        · rw [g1, g2, g3, g4, g5]
          have hnh : r.nh = hd0 := by unfold Rel.nh; rw [ho, if_pos rfl]
          rw [hnh]
          exact hu'
        · rw [g5, hLn]; omega
  | none =>
    have hX := hd.new hb
    have hfix : fix1 (isV v (W.ix v)) L = -1 := fix1_none fun j hj => hX _ (List.getElem_mem hj)
    have hD := hd.go (A := alg 1) (D := dds (prog0 es)) hr (b := W.now) (by rw [hb]; rfl) hX (Y := []) rfl (.inr ⟨hb, rfl, rfl⟩)
    have ho : r.over = false := by
      rw [← hr, hn hb]
      exact alg_first (by omega) _ _ _ _
    rw [ho, if_neg (by decide)] at hD g4
    rw [upd_id] at g4
    refine (ustep_new_go hu hv hv rfl hfix (by omega) hnow (show W.ix v < sn by omega) hsn' hpb' hqb' cp c0 c1 ho (by omega) ?hr (fun e => absurd e (by decide)) (fun e => absurd e (by decide)) (fun e => absurd e (by decide))).mono ?_
    case hr =>
      intro _ w' dv' h'
      have := uover_any h' hv hj hpcv.1 hpcv.2 hsz
      rw [← hr]
      exact this
    · rintro e w' ⟨rfl, ⟨gB', cB', dv', hu'⟩, hf⟩
      refine ⟨rfl, ⟨⟨gB', cB', dv', _, ?_, hD, ?_⟩, hpc', hle', h.uf.trans hf⟩, hf⟩
      · rw [g1, g2, g3, g4, g5]
        have hnh : r.nh = r.h := by unfold Rel.nh; rw [ho, if_neg (by decide)]
        rw [hnh]
        exact hu'
      · rw [g5, List.length_append]; simp; omega
theorem ustepA2 (h : UT 2 base bb gH cH nh (.slice PA nh pc) (prog0 es) W w0 w) (hz : base = w0.heap.size) (hP : RS w0 PA nh pc es) (hes : ∀ s ∈ es, s.n ≤ 4) (hok : Okay 2 (prog0 es) W) (hv : v < nh) (hnow : W.now ≤ 5000) (hi : W.ix v < (prog0 es v).length) :
    Calls Try.prog 19 #[jp bb, I v] w fun e w' => e = .returned (.bool true) ∧ UT 2 base bb gH cH nh (.slice PA nh pc) (prog0 es) (W.go (alg 2) (dds (prog0 es)) v) w0 w' ∧ UF base w w' := by
  obtain ⟨gB, cB, dv, L, hu, hd, hl⟩ := h.ub
  obtain ⟨hj, hn⟩ := hok v hi
  obtain ⟨pb, poff, rfl, hpb, hpc⟩ := hP.at_ (by omega)
  have hvl : v < es.length := by rw [hP.len]; exact hv
  have hcell := hpc v hv
  have hPv : prog0 es v = es[v].L := by unfold prog0; rw [List.getElem?_eq_getElem hvl]; rfl
  have hps := hP.each es[v] (List.getElem_mem hvl)
  have hsn := hes es[v] (List.getElem_mem hvl)
  obtain ⟨⟨sA, sn, sc, sL⟩, hs⟩ : ∃ s, es[v] = s := ⟨_, rfl⟩
  rw [hs] at hcell hPv hps hsn
  have hi' : W.ix v < sL.length := by rw [hPv] at hi; exact hi
  have hlen : sL.length = sn := PS.len hps
  obtain ⟨qb, qoff, hA, hqb, hq⟩ := PS.at_ hps (show 0 < sn by omega)
  have hA' : sA = some ⟨qb, qoff, none⟩ := hA
  subst hA'
  have hsn' : sn ≤ 4 := hsn
  obtain ⟨q0, q1⟩ := hq (W.ix v) (show W.ix v < sn by omega)
  have hdd : dds (prog0 es) v (W.ix v) = sL[W.ix v] := by unfold dds; rw [hPv, List.getElem?_eq_getElem hi']; rfl
  have hpb' : pb < base := by rw [hz]; exact hpb
  have hqb' : qb < base := by rw [hz]; exact hqb
  have cp : w.cell? ⟨pb, poff + v, none⟩ = some (.slice (some ⟨qb, qoff, none⟩) sn sc) := (h.uf.bl.cell (by exact hpb')).trans hcell
  have c0 : w.cell? ⟨qb, qoff + W.ix v * 2, none⟩ = some (I (dds (prog0 es) v (W.ix v)).1) := (h.uf.bl.cell (by exact hqb')).trans (by rw [hdd]; exact q0)
  have c1 : w.cell? ⟨qb, qoff + W.ix v * 2 + 1, none⟩ = some (I (dds (prog0 es) v (W.ix v)).2) := (h.uf.bl.cell (by exact hqb')).trans (by rw [hdd]; exact q1)
  obtain ⟨r, hr⟩ : ∃ r, (alg 2).step W.s W.lk (W.hs v) (dds (prog0 es) v (W.ix v)).1 (dds (prog0 es) v (W.ix v)).2 = r := ⟨_, rfl⟩
  obtain ⟨g1, g2, g3, g4, g5⟩ := go_parts hr
  have hpcv := h.pc.pc v
  have hsz : W.s.sz ≤ 10000 := by have := h.pc.sz; omega
  have hpc' := h.pc.go (al := 2) (P := prog0 es) hok hi
  have hle' := go_le (A := alg 2) (D := dds (prog0 es)) h.le hi
  cases hb : W.bg v with
  | some b =>
    obtain ⟨X, Y, rfl, hX, hY⟩ := hd.had hb
    have hfix : fix1 (isV v (W.ix v)) (X ++ (⟨v, W.ix v, b, -1, false⟩ : Dn) :: Y) = (X.length : Int) := by unfold fix1; rw [fix1_at X Y _ (isV_self _ _ _ _ _) hX]
    have hD := hd.go (A := alg 2) (D := dds (prog0 es)) hr (b := b) (by rw [hb]; rfl) hX hY (.inl ⟨hb, rfl⟩)
    have hLn : ∀ d : Dn, (X ++ d :: Y).length = (X ++ (⟨v, W.ix v, b, -1, false⟩ : Dn) :: Y).length := fun d => by simp
    cases ho : r.over with
    | false =>
      rw [ho, if_neg (by decide)] at hD g4
      rw [upd_id] at g4
      refine (ustep_had_go hu hv hv rfl hfix (by omega) hnow (show W.ix v < sn by omega) hsn' hpb' hqb' cp c0 c1 ho (by omega) (fun e => absurd e (by decide)) ?hr (fun e => absurd e (by decide)) (fun e => absurd e (by decide))).mono ?_
      case hr =>
        intro _ w' dv' h'
        have := ulazy_any h' hv hj hpcv.1 hpcv.2 hsz
        rw [← hr]
        exact this
      · rintro e w' ⟨rfl, ⟨gB', cB', dv', hu'⟩, hf⟩
        refine ⟨rfl, ⟨⟨gB', cB', dv', _, ?_, hD, ?_⟩, hpc', hle', h.uf.trans hf⟩, hf⟩
        · rw [g1, g2, g3, g4, g5]
          have hnh : r.nh = r.h := by unfold Rel.nh; rw [ho, if_neg (by decide)]
          rw [hnh]
          exact hu'
        · rw [g5]; omega
    | true =>
      rw [ho, if_pos rfl] at hD g4
      refine (ustep_had_over hu hv hv rfl hfix (by omega) hnow (show W.ix v < sn by omega) hsn' hpb' hqb' cp c0 c1 ho (by omega) (fun e => absurd e (by decide)) ?hr (fun e => absurd e (by decide)) (fun e => absurd e (by decide))).mono ?_
      case hr =>
        intro _ w' dv' h'
        have := ulazy_any h' hv hj hpcv.1 hpcv.2 hsz
        rw [← hr]
        exact this
      · rintro e w' ⟨rfl, ⟨gB', cB', dv', hu'⟩, hf⟩
        refine ⟨rfl, ⟨⟨gB', cB', dv', _, ?_, hD, ?_⟩, hpc', hle', h.uf.trans hf⟩, hf⟩
        · rw [g1, g2, g3, g4, g5]
          have hnh : r.nh = hd0 := by unfold Rel.nh; rw [ho, if_pos rfl]
          rw [hnh]
          exact hu'
        · rw [g5, hLn]; omega
  | none =>
    have hX := hd.new hb
    have hfix : fix1 (isV v (W.ix v)) L = -1 := fix1_none fun j hj => hX _ (List.getElem_mem hj)
    have hD := hd.go (A := alg 2) (D := dds (prog0 es)) hr (b := W.now) (by rw [hb]; rfl) hX (Y := []) rfl (.inr ⟨hb, rfl, rfl⟩)
    have ho : r.over = false := by
      rw [← hr, hn hb]
      exact alg_first (by omega) _ _ _ _
    rw [ho, if_neg (by decide)] at hD g4
    rw [upd_id] at g4
    refine (ustep_new_go hu hv hv rfl hfix (by omega) hnow (show W.ix v < sn by omega) hsn' hpb' hqb' cp c0 c1 ho (by omega) (fun e => absurd e (by decide)) ?hr (fun e => absurd e (by decide)) (fun e => absurd e (by decide))).mono ?_
    case hr =>
      intro _ w' dv' h'
      have := ulazy_any h' hv hj hpcv.1 hpcv.2 hsz
      rw [← hr]
      exact this
    · rintro e w' ⟨rfl, ⟨gB', cB', dv', hu'⟩, hf⟩
      refine ⟨rfl, ⟨⟨gB', cB', dv', _, ?_, hD, ?_⟩, hpc', hle', h.uf.trans hf⟩, hf⟩
      · rw [g1, g2, g3, g4, g5]
        have hnh : r.nh = r.h := by unfold Rel.nh; rw [ho, if_neg (by decide)]
        rw [hnh]
        exact hu'
      · rw [g5, List.length_append]; simp; omega
theorem ustepA3 (h : UT 3 base bb gH cH nh (.slice PA nh pc) (prog0 es) W w0 w) (hz : base = w0.heap.size) (hP : RS w0 PA nh pc es) (hes : ∀ s ∈ es, s.n ≤ 4) (hok : Okay 3 (prog0 es) W) (hv : v < nh) (hnow : W.now ≤ 5000) (hi : W.ix v < (prog0 es v).length) :
    Calls Try.prog 19 #[jp bb, I v] w fun e w' => e = .returned (.bool true) ∧ UT 3 base bb gH cH nh (.slice PA nh pc) (prog0 es) (W.go (alg 3) (dds (prog0 es)) v) w0 w' ∧ UF base w w' := by
  obtain ⟨gB, cB, dv, L, hu, hd, hl⟩ := h.ub
  obtain ⟨hj, hn⟩ := hok v hi
  obtain ⟨pb, poff, rfl, hpb, hpc⟩ := hP.at_ (by omega)
  have hvl : v < es.length := by rw [hP.len]; exact hv
  have hcell := hpc v hv
  have hPv : prog0 es v = es[v].L := by unfold prog0; rw [List.getElem?_eq_getElem hvl]; rfl
  have hps := hP.each es[v] (List.getElem_mem hvl)
  have hsn := hes es[v] (List.getElem_mem hvl)
  obtain ⟨⟨sA, sn, sc, sL⟩, hs⟩ : ∃ s, es[v] = s := ⟨_, rfl⟩
  rw [hs] at hcell hPv hps hsn
  have hi' : W.ix v < sL.length := by rw [hPv] at hi; exact hi
  have hlen : sL.length = sn := PS.len hps
  obtain ⟨qb, qoff, hA, hqb, hq⟩ := PS.at_ hps (show 0 < sn by omega)
  have hA' : sA = some ⟨qb, qoff, none⟩ := hA
  subst hA'
  have hsn' : sn ≤ 4 := hsn
  obtain ⟨q0, q1⟩ := hq (W.ix v) (show W.ix v < sn by omega)
  have hdd : dds (prog0 es) v (W.ix v) = sL[W.ix v] := by unfold dds; rw [hPv, List.getElem?_eq_getElem hi']; rfl
  have hpb' : pb < base := by rw [hz]; exact hpb
  have hqb' : qb < base := by rw [hz]; exact hqb
  have cp : w.cell? ⟨pb, poff + v, none⟩ = some (.slice (some ⟨qb, qoff, none⟩) sn sc) := (h.uf.bl.cell (by exact hpb')).trans hcell
  have c0 : w.cell? ⟨qb, qoff + W.ix v * 2, none⟩ = some (I (dds (prog0 es) v (W.ix v)).1) := (h.uf.bl.cell (by exact hqb')).trans (by rw [hdd]; exact q0)
  have c1 : w.cell? ⟨qb, qoff + W.ix v * 2 + 1, none⟩ = some (I (dds (prog0 es) v (W.ix v)).2) := (h.uf.bl.cell (by exact hqb')).trans (by rw [hdd]; exact q1)
  obtain ⟨r, hr⟩ : ∃ r, (alg 3).step W.s W.lk (W.hs v) (dds (prog0 es) v (W.ix v)).1 (dds (prog0 es) v (W.ix v)).2 = r := ⟨_, rfl⟩
  obtain ⟨g1, g2, g3, g4, g5⟩ := go_parts hr
  have hpcv := h.pc.pc v
  have hsz : W.s.sz ≤ 10000 := by have := h.pc.sz; omega
  have hpc' := h.pc.go (al := 3) (P := prog0 es) hok hi
  have hle' := go_le (A := alg 3) (D := dds (prog0 es)) h.le hi
  cases hb : W.bg v with
  | some b =>
    obtain ⟨X, Y, rfl, hX, hY⟩ := hd.had hb
    have hfix : fix1 (isV v (W.ix v)) (X ++ (⟨v, W.ix v, b, -1, false⟩ : Dn) :: Y) = (X.length : Int) := by unfold fix1; rw [fix1_at X Y _ (isV_self _ _ _ _ _) hX]
    have hD := hd.go (A := alg 3) (D := dds (prog0 es)) hr (b := b) (by rw [hb]; rfl) hX hY (.inl ⟨hb, rfl⟩)
    have hLn : ∀ d : Dn, (X ++ d :: Y).length = (X ++ (⟨v, W.ix v, b, -1, false⟩ : Dn) :: Y).length := fun d => by simp
    cases ho : r.over with
    | false =>
      rw [ho, if_neg (by decide)] at hD g4
      rw [upd_id] at g4
      refine (ustep_had_go hu hv hv rfl hfix (by omega) hnow (show W.ix v < sn by omega) hsn' hpb' hqb' cp c0 c1 ho (by omega) (fun e => absurd e (by decide)) (fun e => absurd e (by decide)) ?hr (fun e => absurd e (by decide))).mono ?_
      case hr =>
        intro _ w' dv' h'
        have := umark_any h' hv hj hpcv.1 hpcv.2 hsz
        rw [← hr]
        exact this
      · rintro e w' ⟨rfl, ⟨gB', cB', dv', hu'⟩, hf⟩
        refine ⟨rfl, ⟨⟨gB', cB', dv', _, ?_, hD, ?_⟩, hpc', hle', h.uf.trans hf⟩, hf⟩
        · rw [g1, g2, g3, g4, g5]
          have hnh : r.nh = r.h := by unfold Rel.nh; rw [ho, if_neg (by decide)]
          rw [hnh]
          exact hu'
        · rw [g5]; omega
    | true =>
      rw [ho, if_pos rfl] at hD g4
      refine (ustep_had_over hu hv hv rfl hfix (by omega) hnow (show W.ix v < sn by omega) hsn' hpb' hqb' cp c0 c1 ho (by omega) (fun e => absurd e (by decide)) (fun e => absurd e (by decide)) ?hr (fun e => absurd e (by decide))).mono ?_
      case hr =>
        intro _ w' dv' h'
        have := umark_any h' hv hj hpcv.1 hpcv.2 hsz
        rw [← hr]
        exact this
      · rintro e w' ⟨rfl, ⟨gB', cB', dv', hu'⟩, hf⟩
        refine ⟨rfl, ⟨⟨gB', cB', dv', _, ?_, hD, ?_⟩, hpc', hle', h.uf.trans hf⟩, hf⟩
        · rw [g1, g2, g3, g4, g5]
          have hnh : r.nh = hd0 := by unfold Rel.nh; rw [ho, if_pos rfl]
          rw [hnh]
          exact hu'
        · rw [g5, hLn]; omega
  | none =>
    have hX := hd.new hb
    have hfix : fix1 (isV v (W.ix v)) L = -1 := fix1_none fun j hj => hX _ (List.getElem_mem hj)
    have hD := hd.go (A := alg 3) (D := dds (prog0 es)) hr (b := W.now) (by rw [hb]; rfl) hX (Y := []) rfl (.inr ⟨hb, rfl, rfl⟩)
    have ho : r.over = false := by
      rw [← hr, hn hb]
      exact alg_first (by omega) _ _ _ _
    rw [ho, if_neg (by decide)] at hD g4
    rw [upd_id] at g4
    refine (ustep_new_go hu hv hv rfl hfix (by omega) hnow (show W.ix v < sn by omega) hsn' hpb' hqb' cp c0 c1 ho (by omega) (fun e => absurd e (by decide)) (fun e => absurd e (by decide)) ?hr (fun e => absurd e (by decide))).mono ?_
    case hr =>
      intro _ w' dv' h'
      have := umark_any h' hv hj hpcv.1 hpcv.2 hsz
      rw [← hr]
      exact this
    · rintro e w' ⟨rfl, ⟨gB', cB', dv', hu'⟩, hf⟩
      refine ⟨rfl, ⟨⟨gB', cB', dv', _, ?_, hD, ?_⟩, hpc', hle', h.uf.trans hf⟩, hf⟩
      · rw [g1, g2, g3, g4, g5]
        have hnh : r.nh = r.h := by unfold Rel.nh; rw [ho, if_neg (by decide)]
        rw [hnh]
        exact hu'
      · rw [g5, List.length_append]; simp; omega
theorem ustepA4 (h : UT 4 base bb gH cH nh (.slice PA nh pc) (prog0 es) W w0 w) (hz : base = w0.heap.size) (hP : RS w0 PA nh pc es) (hes : ∀ s ∈ es, s.n ≤ 4) (hok : Okay 4 (prog0 es) W) (hv : v < nh) (hnow : W.now ≤ 5000) (hi : W.ix v < (prog0 es v).length) :
    Calls Try.prog 19 #[jp bb, I v] w fun e w' => e = .returned (.bool true) ∧ UT 4 base bb gH cH nh (.slice PA nh pc) (prog0 es) (W.go (alg 4) (dds (prog0 es)) v) w0 w' ∧ UF base w w' := by
  obtain ⟨gB, cB, dv, L, hu, hd, hl⟩ := h.ub
  obtain ⟨hj, hn⟩ := hok v hi
  obtain ⟨pb, poff, rfl, hpb, hpc⟩ := hP.at_ (by omega)
  have hvl : v < es.length := by rw [hP.len]; exact hv
  have hcell := hpc v hv
  have hPv : prog0 es v = es[v].L := by unfold prog0; rw [List.getElem?_eq_getElem hvl]; rfl
  have hps := hP.each es[v] (List.getElem_mem hvl)
  have hsn := hes es[v] (List.getElem_mem hvl)
  obtain ⟨⟨sA, sn, sc, sL⟩, hs⟩ : ∃ s, es[v] = s := ⟨_, rfl⟩
  rw [hs] at hcell hPv hps hsn
  have hi' : W.ix v < sL.length := by rw [hPv] at hi; exact hi
  have hlen : sL.length = sn := PS.len hps
  obtain ⟨qb, qoff, hA, hqb, hq⟩ := PS.at_ hps (show 0 < sn by omega)
  have hA' : sA = some ⟨qb, qoff, none⟩ := hA
  subst hA'
  have hsn' : sn ≤ 4 := hsn
  obtain ⟨q0, q1⟩ := hq (W.ix v) (show W.ix v < sn by omega)
  have hdd : dds (prog0 es) v (W.ix v) = sL[W.ix v] := by unfold dds; rw [hPv, List.getElem?_eq_getElem hi']; rfl
  have hpb' : pb < base := by rw [hz]; exact hpb
  have hqb' : qb < base := by rw [hz]; exact hqb
  have cp : w.cell? ⟨pb, poff + v, none⟩ = some (.slice (some ⟨qb, qoff, none⟩) sn sc) := (h.uf.bl.cell (by exact hpb')).trans hcell
  have c0 : w.cell? ⟨qb, qoff + W.ix v * 2, none⟩ = some (I (dds (prog0 es) v (W.ix v)).1) := (h.uf.bl.cell (by exact hqb')).trans (by rw [hdd]; exact q0)
  have c1 : w.cell? ⟨qb, qoff + W.ix v * 2 + 1, none⟩ = some (I (dds (prog0 es) v (W.ix v)).2) := (h.uf.bl.cell (by exact hqb')).trans (by rw [hdd]; exact q1)
  obtain ⟨r, hr⟩ : ∃ r, (alg 4).step W.s W.lk (W.hs v) (dds (prog0 es) v (W.ix v)).1 (dds (prog0 es) v (W.ix v)).2 = r := ⟨_, rfl⟩
  obtain ⟨g1, g2, g3, g4, g5⟩ := go_parts hr
  have hpcv := h.pc.pc v
  have hsz : W.s.sz ≤ 10000 := by have := h.pc.sz; omega
  have hpc' := h.pc.go (al := 4) (P := prog0 es) hok hi
  have hle' := go_le (A := alg 4) (D := dds (prog0 es)) h.le hi
  cases hb : W.bg v with
  | some b =>
    obtain ⟨X, Y, rfl, hX, hY⟩ := hd.had hb
    have hfix : fix1 (isV v (W.ix v)) (X ++ (⟨v, W.ix v, b, -1, false⟩ : Dn) :: Y) = (X.length : Int) := by unfold fix1; rw [fix1_at X Y _ (isV_self _ _ _ _ _) hX]
    have hD := hd.go (A := alg 4) (D := dds (prog0 es)) hr (b := b) (by rw [hb]; rfl) hX hY (.inl ⟨hb, rfl⟩)
    have hLn : ∀ d : Dn, (X ++ d :: Y).length = (X ++ (⟨v, W.ix v, b, -1, false⟩ : Dn) :: Y).length := fun d => by simp
    cases ho : r.over with
    | false =>
      rw [ho, if_neg (by decide)] at hD g4
      rw [upd_id] at g4
      refine (ustep_had_go hu hv hv rfl hfix (by omega) hnow (show W.ix v < sn by omega) hsn' hpb' hqb' cp c0 c1 ho (by omega) (fun e => absurd e (by decide)) (fun e => absurd e (by decide)) (fun e => absurd e (by decide)) ?hr).mono ?_
      case hr =>
        intro _ w' dv' h'
        have := unaive_any h' hv hj hpcv.1 hpcv.2 hsz
        rw [← hr]
        exact this
      · rintro e w' ⟨rfl, ⟨gB', cB', dv', hu'⟩, hf⟩
        refine ⟨rfl, ⟨⟨gB', cB', dv', _, ?_, hD, ?_⟩, hpc', hle', h.uf.trans hf⟩, hf⟩
        · rw [g1, g2, g3, g4, g5]
          have hnh : r.nh = r.h := by unfold Rel.nh; rw [ho, if_neg (by decide)]
          rw [hnh]
          exact hu'
        · rw [g5]; omega
    | true =>
      rw [ho, if_pos rfl] at hD g4
      refine (ustep_had_over hu hv hv rfl hfix (by omega) hnow (show W.ix v < sn by omega) hsn' hpb' hqb' cp c0 c1 ho (by omega) (fun e => absurd e (by decide)) (fun e => absurd e (by decide)) (fun e => absurd e (by decide)) ?hr).mono ?_
      case hr =>
        intro _ w' dv' h'
        have := unaive_any h' hv hj hpcv.1 hpcv.2 hsz
        rw [← hr]
        exact this
      · rintro e w' ⟨rfl, ⟨gB', cB', dv', hu'⟩, hf⟩
        refine ⟨rfl, ⟨⟨gB', cB', dv', _, ?_, hD, ?_⟩, hpc', hle', h.uf.trans hf⟩, hf⟩
        · rw [g1, g2, g3, g4, g5]
          have hnh : r.nh = hd0 := by unfold Rel.nh; rw [ho, if_pos rfl]
          rw [hnh]
          exact hu'
        · rw [g5, hLn]; omega
  | none =>
    have hX := hd.new hb
    have hfix : fix1 (isV v (W.ix v)) L = -1 := fix1_none fun j hj => hX _ (List.getElem_mem hj)
    have hD := hd.go (A := alg 4) (D := dds (prog0 es)) hr (b := W.now) (by rw [hb]; rfl) hX (Y := []) rfl (.inr ⟨hb, rfl, rfl⟩)
    have ho : r.over = false := by
      rw [← hr, hn hb]
      exact alg_first (by omega) _ _ _ _
    rw [ho, if_neg (by decide)] at hD g4
    rw [upd_id] at g4
    refine (ustep_new_go hu hv hv rfl hfix (by omega) hnow (show W.ix v < sn by omega) hsn' hpb' hqb' cp c0 c1 ho (by omega) (fun e => absurd e (by decide)) (fun e => absurd e (by decide)) (fun e => absurd e (by decide)) ?hr).mono ?_
    case hr =>
      intro _ w' dv' h'
      have := unaive_any h' hv hj hpcv.1 hpcv.2 hsz
      rw [← hr]
      exact this
    · rintro e w' ⟨rfl, ⟨gB', cB', dv', hu'⟩, hf⟩
      refine ⟨rfl, ⟨⟨gB', cB', dv', _, ?_, hD, ?_⟩, hpc', hle', h.uf.trans hf⟩, hf⟩
      · rw [g1, g2, g3, g4, g5]
        have hnh : r.nh = r.h := by unfold Rel.nh; rw [ho, if_neg (by decide)]
        rw [hnh]
        exact hu'
      · rw [g5, List.length_append]; simp; omega
theorem ustep_any {al : Nat} (hal : al = 1 ∨ al = 2 ∨ al = 3 ∨ al = 4) (h : UT al base bb gH cH nh (.slice PA nh pc) (prog0 es) W w0 w) (hz : base = w0.heap.size) (hP : RS w0 PA nh pc es) (hes : ∀ s ∈ es, s.n ≤ 4) (hok : Okay al (prog0 es) W) (hv : v < nh) (hnow : W.now ≤ 5000) {b : Bool} (hb : decide (W.ix v < (prog0 es v).length) = b) :
    Calls Try.prog 19 #[jp bb, I v] w fun e w' => e = .returned (.bool b) ∧ UT al base bb gH cH nh (.slice PA nh pc) (prog0 es) (W.go1 (alg al) (dds (prog0 es)) (fun v => (prog0 es v).length) v) w0 w' ∧ UF base w w' := by
  unfold Wd.go1
  by_cases hi : W.ix v < (prog0 es v).length
  · rw [if_pos hi]
    obtain rfl : b = true := by rw [← hb]; simp [hi]
    rcases hal with rfl | rfl | rfl | rfl
    · exact ustepA1 h hz hP hes hok hv hnow hi
    · exact ustepA2 h hz hP hes hok hv hnow hi
    · exact ustepA3 h hz hP hes hok hv hnow hi
    · exact ustepA4 h hz hP hes hok hv hnow hi
  · rw [if_neg hi]
    obtain rfl : b = false := by rw [← hb]; simp [hi]
    obtain ⟨gB, cB, dv, L, hu, hd, hl⟩ := h.ub
    obtain ⟨pb, poff, rfl, hpb, hpc⟩ := hP.at_ (by omega)
    have hvl : v < es.length := by rw [hP.len]; exact hv
    have hcell := hpc v hv
    have hPv : prog0 es v = es[v].L := by unfold prog0; rw [List.getElem?_eq_getElem hvl]; rfl
    have hps := hP.each es[v] (List.getElem_mem hvl)
    obtain ⟨⟨sA, sn, sc, sL⟩, hs⟩ : ∃ s, es[v] = s := ⟨_, rfl⟩
    rw [hs] at hcell hPv hps
    have hlen : sL.length = sn := PS.len hps
    have hle := h.le v
    rw [hPv] at hi hle
    have hxn : W.ix v = sn := by have h1 : W.ix v ≤ sL.length := hle; have h2 : ¬ W.ix v < sL.length := hi; omega
    have hpb' : pb < base := by rw [hz]; exact hpb
    have cp : w.cell? ⟨pb, poff + v, none⟩ = some (.slice sA sn sc) := (h.uf.bl.cell (by exact hpb')).trans hcell
    refine (ustep_none hu hv hv hxn hpb' cp).mono ?_
    rintro e w' ⟨rfl, hu', hf⟩
    exact ⟨rfl, ⟨⟨gB, cB, dv, L, hu', hd, hl⟩, h.pc, h.le, h.uf.trans hf⟩, hf⟩
end
end Go.Proofs.Ytfmdpmebllepeaa
