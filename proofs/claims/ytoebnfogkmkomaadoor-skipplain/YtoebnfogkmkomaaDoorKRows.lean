/-
  skip.rowsOf, skip.Rows.
-/
import Derived.Test.YtoebnfogkmkomaaDoorKRowsOf
namespace Go.Proofs.YtoebnfogkmkomaaDoor
open Go.RowKit

theorem tw_tv {w w' : World} {base g g' t t' : Nat} {ts : List T3} {rows : Nat → List Int} (h : Tw w base g t (ts.map slV) rows) (hb : Below w.heap.size w w') (hh : w'.heap[g']? = some (.cells (ts.map slV).toArray t' (0, 0))) : Tv w' g' ts rows := by
  have hl : ts.length = 12 := by simpa using h.len
  refine ⟨hl, ?_, fun i hi => ?_, fun i hi => ?_⟩
  · rcases Nat.lt_or_ge g' w'.heap.size with hlt | hge
    · exact hlt
    · rw [Array.getElem?_eq_none hge] at hh; cases hh
  · simp [World.cell?, hh, tAt, List.getElem?_eq_getElem (show i < ts.length by omega)]
  · obtain ⟨A, c, e, h1, _⟩ := (h.own i hi).is_
    have e2 : rowAt (ts.map slV) i = slV (tAt ts i) := by simp [rowAt, tAt, List.getElem?_eq_getElem (show i < ts.length by omega)]
    rw [e2] at e
    injection e with e3 e4 e5
    rw [e3, e4, e5]
    exact h1.below hb
theorem own_ri {w w' : World} {g h base : Nat} {ts : List T3} {l : List Int} {v : Value} (hv : Tv w g ts (rowL l)) (hb : Below w.heap.size w w') (hh : hiR l = h) (ho : w'.ownsRow base 22 1 v h ((ts.take h).map slV)) : ∃ A m c, v = .slice A m c ∧ RI w' A m c (rowsL l) := by
  have h12 : h ≤ 12 := by rw [← hh]; exact hiR_le l
  have hl := hv.len
  rcases ho.2 with ⟨rfl, h0⟩ | ⟨g2, cap, cur, rfl, _, hg, hnc, _, hsz, htk⟩
  · refine ⟨none, 0, 0, rfl, ?_⟩
    have : rowsL l = [] := List.eq_nil_of_length_eq_zero (by rw [rowsL_len]; omega)
    rw [this]
    exact RI.none_
  · refine ⟨_, h, cap, rfl, by rw [rowsL_len]; exact hh, hnc, fun _ => ⟨g2, 0, rfl, ?_, fun i hi => ?_⟩⟩
    · rcases Nat.lt_or_ge g2 w'.heap.size with hlt | hge
      · exact hlt
      · rw [Array.getElem?_eq_none hge] at hg; cases hg
    · refine ⟨(tAt ts i).1, (tAt ts i).2.1, (tAt ts i).2.2, ?_, ?_⟩
      · rw [cell_of_row _ _ _ _ _ _ hg]
        have : ((ts.take h).map slV)[i]? = some (slV (tAt ts i)) := by
          simp [List.getElem?_take, hi, tAt, List.getElem?_eq_getElem (show i < ts.length by omega)]
        rw [← htk, List.getElem?_take, if_pos (by omega)] at this
        simpa using this
      · rw [rowsL_at l i (by omega)]
        exact (hv.is_ i (by omega)).below hb

theorem tower_len : Tryd.prog.arrayLen 64 = 12 := by kernel_rfl
theorem tower_under : Tryd.prog.underlying 64 = some (.array (Tryd.prog.arrayLen 64) (Tryd.prog.elem 64)) := by kernel_rfl
theorem tower_elem : Tryd.prog.elem 64 = 22 := by kernel_rfl
/-- t[:h] -/
theorem run_head (g h : Nat) (hh : h ≤ 12) (w : World) : (Instr.sliceAt 64 (.pointer (some ⟨g, 0, none⟩)) none (some (I h)) none).run Tryd.prog w = .ok (.slice (some ⟨g, 0, none⟩) h 12) w := by
  obtain ⟨i0, hi, hz0, hz1, hz2⟩ := info_parts row_info
  rw [run_sliceAt_array_h w 64 ⟨g, 0, none⟩ tower_under .i64 (h : Int) (by omega) (by rw [tower_len]; omega), tower_len, tower_elem]
  simp [sizeOf, typeInfo, hi, slicedAt, Addr.add]

set_option maxRecDepth 100000 in
set_option maxHeartbeats 2000000 in
theorem rowsOf_any (A : Option Addr) (n c : Nat) (l : List Int) (w : World) (h : IS w A n c l) (hn : n ≤ 1000) (hT : Tb w) :
    Calls Tryd.prog 30 #[.slice A n c] w (RetRows (rowsL l) w) := by
  have HC := Lib.hid (towerOf_any A n c l w h hn hT)
  have hll : l.length ≤ 1000 := by rw [h.len]; exact hn
  clear h hT
  go_enter Tryd.func30, Tryd.ntmps30
  go_wp2_with fail
  refine HC.out.mono ?_
  rintro e w1 ⟨vs, rfl, htw, hb1⟩
  obtain ⟨ts, hts, rfl⟩ := htw.slices
  obtain ⟨a0, a1, a2, a3, a4, a5, a6, a7, a8, a9, a10, a11, rfl⟩ := set12 ts hts
  have HTW := Lib.hid htw
  have HB1 := Lib.hid hb1
  clear htw hb1 HC
  simp only [List.map_cons, List.map_nil]
  go_wp2_with fail
  have htv : Tv (w1.alloc (.cells #[slV a0, slV a1, slV a2, slV a3, slV a4, slV a5, slV a6, slV a7, slV a8, slV a9, slV a10, slV a11] 64)) w1.heap.size [a0, a1, a2, a3, a4, a5, a6, a7, a8, a9, a10, a11] (rowL l) := tw_tv HTW.out ((Below.refl _ _).alloc (Nat.le_refl _) _) (heap_alloc_new _ _)
  have hb2 : Below w.heap.size w (w1.alloc (.cells #[slV a0, slV a1, slV a2, slV a3, slV a4, slV a5, slV a6, slV a7, slV a8, slV a9, slV a10, slV a11] 64)) := HB1.out.alloc HB1.out.size _
  generalize hg2 : w1.heap.size = g2 at htv ⊢
  generalize hw2 : w1.alloc _ = w2 at htv hb2 ⊢
  have HTV := Lib.hid htv
  have HB2 := Lib.hid hb2
  have HHI := Lib.hid (high_any g2 _ l w2 htv hll)
  clear htv hb2 HTW hg2 hw2
  refine HHI.out.mono ?_
  rintro e w3 ⟨rfl, hb3⟩
  obtain ⟨h, hh⟩ : ∃ h, hiR l = h := ⟨_, rfl⟩
  have h12 : h ≤ 12 := by rw [← hh]; exact hiR_le l
  rw [hh]
  have HH := Lib.hid hh
  have HTV3 := Lib.hid (HTV.out.below hb3)
  have HB3 := Lib.hid (HB2.out.trans (hb3.mono HB2.out.size))
  clear hb3 hh HHI
  have hsl := run_head g2 h h12
  go_wp2_with fail
  refine (cloneR_any g2 h _ _ w3 HTV3.out h12).mono ?_
  rintro e w4 ⟨v, rfl, hown, hb4⟩
  have HRI := Lib.hid (own_ri HTV3.out hb4 HH.out hown)
  have HB4 := Lib.hid (HB3.out.trans (hb4.mono HB3.out.size))
  clear hown hb4
  go_wp2
  go_ret
  obtain ⟨A', m, c', rfl, hri⟩ := HRI.out
  exact ⟨A', m, c', rfl, hri, HB4.out⟩

theorem err_ne {E : Int} (h : E ≠ 0) : (E != 0) = true := by simpa using h
set_option maxHeartbeats 1000000 in
theorem Rows_bad (A : Option Addr) (n c : Nat) (l : List Int) (w : World) (h : IS w A n c l) (hn : n ≤ 9223372036854775807) (E : Int) (hE : chkK l = E) (hE0 : E ≠ 0) :
    Calls Tryd.prog 9 #[.slice A n c] w fun e w' => e = .returned (.tuple #[.slice none 0 0, I E]) ∧ Below w.heap.size w w' := by
  have HC := Lib.hid (checkS_any A n c l w h hn)
  have hne := err_ne hE0
  rw [hE] at HC
  clear h hE
  go_enter Tryd.func9, Tryd.ntmps9
  go_wp2_with fail
  refine HC.out.mono ?_
  rintro e w1 ⟨rfl, hb1⟩
  have HB1 := Lib.hid hb1
  clear hb1
  go_wp2
  go_ret2
  exact ⟨rfl, HB1.out⟩
/-- rows in new memory, and no error -/
def RetRows2 (L : List (List Int)) (w : World) (e : Ending) (w' : World) : Prop := ∃ A m c, e = .returned (.tuple #[.slice A m c, I 0]) ∧ RI w' A m c L ∧ Below w.heap.size w w'
set_option maxHeartbeats 1000000 in
theorem Rows_ok (A : Option Addr) (n c : Nat) (l : List Int) (w : World) (h : IS w A n c l) (hR : Rise l) (hT : Tb w) :
    Calls Tryd.prog 9 #[.slice A n c] w (RetRows2 (rowsL l) w) := by
  have hn : n ≤ 200 := by rw [← h.len]; exact hR.len
  have HC := Lib.hid (checkS_any A n c l w h (by omega))
  rw [chkK_zero.2 hR] at HC
  have H := Lib.hid h
  have HT := Lib.hid hT
  clear h hT hR
  go_enter Tryd.func9, Tryd.ntmps9
  go_wp2_with fail
  refine HC.out.mono ?_
  rintro e w1 ⟨rfl, hb1⟩
  have HB1 := Lib.hid hb1
  have HO := Lib.hid (rowsOf_any A n c l w1 (H.out.below hb1) (by omega) (HT.out.next hb1))
  clear hb1
  go_wp2_with fail
  refine HO.out.mono ?_
  rintro e w2 ⟨A', m, c', rfl, hri, hb2⟩
  have HRI := Lib.hid hri
  have HB2 := Lib.hid (HB1.out.trans (hb2.mono HB1.out.size))
  clear hri hb2
  go_wp2
  go_ret2
  exact ⟨A', m, c', rfl, HRI.out, HB2.out⟩
end Go.Proofs.YtoebnfogkmkomaaDoor
