/-
  Joined texts: YtolgncaaffmmnaaDoorKRows0, YtolgncaaffmmnaaDoorKRowsOf, YtolgncaaffmmnaaDoorKRows.
-/
import Derived.Test.YtolgncaaffmmnaaDoorKTowerOf
import Derived.Test.YtolgncaaffmmnaaDoorCopy
/-
  ROWS AS THEY LIE: twelve slices in a block, a slice of rows. Nothing is walked here.
-/
namespace Go.Proofs.YtolgncaaffmmnaaDoor
open Go.RowKit

abbrev T3 := Option Addr × Nat × Nat
def tAt (ts : List T3) (i : Nat) : T3 := ts[i]?.getD (none, 0, 0)
/-- the block g has twelve slices that read as L -/
structure Tv (w : World) (g : Nat) (ts : List T3) (L : Nat → List Int) : Prop where
  len : ts.length = 12
  lt : g < w.heap.size
  cell : ∀ i, i < 12 → w.cell? ⟨g, i, none⟩ = some (slV (tAt ts i))
  is_ : ∀ i, i < 12 → IS w (tAt ts i).1 (tAt ts i).2.1 (tAt ts i).2.2 (L i)
theorem Tv.below {w w' : World} {g : Nat} {ts : List T3} {L : Nat → List Int} (h : Tv w g ts L) (hb : Below w.heap.size w w') : Tv w' g ts L :=
  ⟨h.len, Nat.lt_of_lt_of_le h.lt hb.size, fun i hi => (hb.cell (by exact h.lt)).trans (h.cell i hi), fun i hi => (h.is_ i hi).below hb⟩
/-- a slice of slices that reads as rows -/
structure RI (w : World) (A : Option Addr) (m c : Nat) (L : List (List Int)) : Prop where
  len : L.length = m
  cap : m ≤ c
  at_ : 0 < m → ∃ b off, A = some ⟨b, off, none⟩ ∧ b < w.heap.size ∧ ∀ i, i < m → ∃ A' n' c', w.cell? ⟨b, off + i, none⟩ = some (.slice A' n' c') ∧ IS w A' n' c' (L[i]?.getD [])
theorem RI.below {w w' : World} {A : Option Addr} {m c : Nat} {L : List (List Int)} (h : RI w A m c L) (hb : Below w.heap.size w w') : RI w' A m c L := by
  refine ⟨h.len, h.cap, fun h0 => ?_⟩
  obtain ⟨b, off, e, hlt, hc⟩ := h.at_ h0
  refine ⟨b, off, e, Nat.lt_of_lt_of_le hlt hb.size, fun i hi => ?_⟩
  obtain ⟨A', n', c', h1, h2⟩ := hc i hi
  exact ⟨A', n', c', (hb.cell (by exact hlt)).trans h1, h2.below hb⟩
theorem RI.none_ {w : World} : RI w none 0 0 [] := ⟨rfl, Nat.le_refl _, fun h => absurd h (by omega)⟩
/-- rows in new memory -/
def RetRows (L : List (List Int)) (w : World) (e : Ending) (w' : World) : Prop := ∃ A m c, e = .returned (.slice A m c) ∧ RI w' A m c L ∧ Below w.heap.size w w'

theorem hiR_is {l : List Int} {k : Nat} (hk : k ≤ 12) (h1 : ∀ i, i < k → rowL l i ≠ []) (h2 : k = 12 ∨ rowL l k = []) : hiR l = k := by
  rcases Nat.lt_trichotomy (hiR l) k with h | h | h
  · exact absurd (hiR_none l _ (Nat.le_refl _)) (h1 _ h)
  · exact h
  · have := hiR_le l
    rcases h2 with h2 | h2
    · omega
    · exact absurd h2 (hiR_some l k h)
theorem tw_tv {w w' : World} {base g g' t t' : Nat} {ts : List T3} {rows : Nat → List Int} (h : Tw w base g t (ts.map slV) rows) (hb : Below w.heap.size w w') (hh : w'.heap[g']? = some (.cells (ts.map slV).toArray t' (0, 0))) : Tv w' g' ts rows := by
  have hl : ts.length = 12 := by simpa using h.len
  refine ⟨hl, ?_, fun i hi => ?_, fun i hi => ?_⟩
  · rcases Nat.lt_or_ge g' w'.heap.size with hlt | hge
    · exact hlt
    · rw [Array.getElem?_eq_none hge] at hh; cases hh
  · simp [World.cell?, hh, tAt, List.getElem?_eq_getElem (show i < ts.length by omega)]
  · obtain ⟨A, c, e, h1, _⟩ := (h.own i hi).is_
    have e2 : rowAt (ts.map slV) i = slV (tAt ts i) := by simp [rowAt, tAt, List.getElem?_eq_getElem (show i < ts.length by omega)]
    rw [e2] at e
    injection e with e3 e4 e5
    rw [e3, e4, e5]
    exact h1.below hb
theorem err_ne {E : Int} (h : E ≠ 0) : (E != 0) = true := by simpa using h

end Go.Proofs.YtolgncaaffmmnaaDoor

/-
  (*tower).high, slices.Clone of rows.
-/
namespace Go.Proofs.YtolgncaaffmmnaaDoor
open Go.RowKit

set_option maxRecDepth 100000 in
set_option maxHeartbeats 1000000 in
theorem high_any (g : Nat) (ts : List T3) (l : List Int) (w : World) (h : Tv w g ts (rowL l)) (hl : l.length ≤ 1000) :
    Calls Tryd.prog 63 #[.pointer (some ⟨g, 0, none⟩)] w fun e w' => e = .returned (I (hiR l)) ∧ Below w.heap.size w w' := by
  have H := Lib.hid h
  clear h
  go_enter Tryd.func63, Tryd.ntmps63
  go_wp2
  go_loopw [3] (fun i wr => ∃ k : Nat, k ≤ 12 ∧ i = .int .i64 k ∧ (∀ i, i < k → rowL l i ≠ []) ∧ Below w.heap.size w wr) (fun i _ => 12 - (intOf i).toNat)
  case atStart => exact ⟨0, by omega, rfl, fun i hi => absurd hi (by omega), Below.refl _ _⟩
  case round =>
    obtain ⟨k, hk, rfl, hall, hnx⟩ := hrel
    by_cases hlt : k < 12
    · have hcell : wr.cell? ⟨g, k, none⟩ = some (slV (tAt ts k)) := (hnx.cell (by exact H.out.lt)).trans (H.out.cell k hlt)
      have hlen := (H.out.is_ k hlt).len
      obtain ⟨x, hx⟩ : ∃ x, tAt ts k = x := ⟨_, rfl⟩
      obtain ⟨A', m, c'⟩ := x
      rw [hx] at hcell hlen
      have hm : m ≤ 1000 := by have := rowL_len l k; simp only at hlen; omega
      by_cases h0 : 0 < m
      · have HA : Hid (∀ i, i < k + 1 → rowL l i ≠ []) := fun i hi => by
          rcases Nat.lt_or_ge i k with h1 | h1
          · exact hall i h1
          · obtain rfl : i = k := by omega
            intro e
            rw [e] at hlen
            simp at hlen
            omega
        clear hall hlen hx
        have hd : decide (0 < m) = true := by simpa using h0
        go_wp2
        go_roundw
        case rel => exact ⟨k + 1, by omega, by go_num, HA.out, by first | exact hnx | exact below_drewN hnx _⟩
        case measure => simp [intOf]; omega
      · have HF : Hid ((k : Int) = (hiR l : Int)) := by
          show (k : Int) = _
          rw [hiR_is hk hall (.inr (List.eq_nil_of_length_eq_zero (by simp only at hlen; omega)))]
        clear hall hlen hx
        obtain rfl : m = 0 := by omega
        go_wp2
        go_ret
        exact ⟨ret_int HF.out, by first | exact hnx | exact below_drewN hnx _⟩
    · have HF : Hid ((k : Int) = (hiR l : Int)) := by
        show (k : Int) = _
        rw [hiR_is hk hall (.inl (by omega))]
      clear hall
      go_wp2
      go_ret
      exact ⟨ret_int HF.out, by first | exact hnx | exact below_drewN hnx _⟩

theorem row_info : (Tryd.prog.info? 22).map (fun i => (i.zero, i.size, i.bytes)) = some (some (.slice none 0 0), 1, 24) := by kernel_rfl
theorem one_slV (ts : List T3) : ∀ u ∈ ts.map slV, u.oneCell' = true := by
  intro u hu
  obtain ⟨t, _, rfl⟩ := List.mem_map.1 hu
  rfl
set_option maxRecDepth 100000 in
set_option maxHeartbeats 1000000 in
theorem cloneR_any (g h : Nat) (ts : List T3) (L : Nat → List Int) (w : World) (hv : Tv w g ts L) (hh : h ≤ 12) :
    Calls Tryd.prog 62 #[.slice (some ⟨g, 0, none⟩) h 12] w fun e w' => ∃ v, e = .returned v ∧ w'.ownsRow w.heap.size 22 1 v h ((ts.take h).map slV) ∧ Below w.heap.size w w' := by
  have H := Lib.hid hv
  have hln : ((ts.take h).map slV).length = h * 1 := by simp [hv.len]; omega
  have HC : Hid (∀ j u, ((ts.take h).map slV)[j]? = some u → w.cell? ⟨g, j, none⟩ = some u) := fun j u hu => by
    rw [List.getElem?_map, List.getElem?_take] at hu
    by_cases hj : j < h
    · rw [if_pos hj] at hu
      rw [hv.cell j (by omega)]
      unfold tAt
      rw [List.getElem?_eq_getElem (by have := hv.len; omega)] at hu ⊢
      simpa using hu
    · rw [if_neg hj] at hu; cases hu
  have HLN := Lib.hid hln
  clear hv hln
  obtain ⟨i0, hi, hz0, hz1, hz2⟩ := info_parts row_info
  have HI := Lib.hid hi
  have HZ0 := Lib.hid hz0
  have HZ1 := Lib.hid hz1
  have HZ2 := Lib.hid hz2
  have hgl := H.out.lt
  clear hi hz0 hz1 hz2
  have heq := fun w => Lib.run_eql_slice_nil (P := Tryd.prog) w 61 22 (some ⟨g, 0, none⟩) h 12 0 0 Tryd.underlying61
  go_enter Tryd.func62, Tryd.ntmps62
  go_wp2_with (first
    | (at_builtin
       refine wpList_append_own_at _ rfl (.tmp 5) (.tmp 6) 61 rfl w.heap.size 22 i0 _ 1 24 Tryd.underlying61 HI.out HZ0.out HZ1.out HZ2.out rfl (by omega) (.slice (some ⟨w.heap.size, 0, none⟩) 0 0) 0 [] rfl (World.ownsRow_made w _ 0 (Nat.le_refl _) (by unfold maxLen; omega) (by simp)) ⟨g, 0, none⟩ h 12 ((ts.take h).map slV) rfl HLN.out (fun j u hu => ?_) (one_slV _) (by unfold maxLen; omega) (by omega) (by simp) ?_
       · rw [addn, Nat.zero_add]; exact (Below.cell ((Below.refl _ _).alloc (Nat.le_refl _) _) (by exact hgl)).trans (HC.out j u hu)
       intro v2 w2 hown2 hgrow2 _ hat2)
    | fail)
  go_ret
  exact ⟨v2, rfl, by simpa using hown2, Below.grown ((Below.refl _ _).alloc (Nat.le_refl _) _) hgrow2 (by simp) (by simp [Value.ownBlock])⟩
end Go.Proofs.YtolgncaaffmmnaaDoor

/-
  skip.rowsOf, skip.Rows.
-/
namespace Go.Proofs.YtolgncaaffmmnaaDoor
open Go.RowKit

theorem own_ri {w w' : World} {g h base : Nat} {ts : List T3} {l : List Int} {v : Value} (hv : Tv w g ts (rowL l)) (hb : Below w.heap.size w w') (hh : hiR l = h) (ho : w'.ownsRow base 22 1 v h ((ts.take h).map slV)) : ∃ A m c, v = .slice A m c ∧ RI w' A m c (rowsL l) := by
  have h12 : h ≤ 12 := by rw [← hh]; exact hiR_le l
  have hl := hv.len
  rcases ho.2 with ⟨rfl, h0⟩ | ⟨g2, cap, cur, rfl, _, hg, hnc, _, hsz, htk⟩
  · refine ⟨none, 0, 0, rfl, ?_⟩
    have : rowsL l = [] := List.eq_nil_of_length_eq_zero (by rw [rowsL_len]; omega)
    rw [this]
    exact RI.none_
  · refine ⟨_, h, cap, rfl, by rw [rowsL_len]; exact hh, hnc, fun _ => ⟨g2, 0, rfl, ?_, fun i hi => ?_⟩⟩
    · rcases Nat.lt_or_ge g2 w'.heap.size with hlt | hge
      · exact hlt
      · rw [Array.getElem?_eq_none hge] at hg; cases hg
    · refine ⟨(tAt ts i).1, (tAt ts i).2.1, (tAt ts i).2.2, ?_, ?_⟩
      · rw [cell_of_row _ _ _ _ _ _ hg]
        have : ((ts.take h).map slV)[i]? = some (slV (tAt ts i)) := by
          simp [List.getElem?_take, hi, tAt, List.getElem?_eq_getElem (show i < ts.length by omega)]
        rw [← htk, List.getElem?_take, if_pos (by omega)] at this
        simpa using this
      · rw [rowsL_at l i (by omega)]
        exact (hv.is_ i (by omega)).below hb

theorem tower_len : Tryd.prog.arrayLen 105 = 12 := by kernel_rfl
theorem tower_under : Tryd.prog.underlying 105 = some (.array (Tryd.prog.arrayLen 105) (Tryd.prog.elem 105)) := by kernel_rfl
theorem tower_elem : Tryd.prog.elem 105 = 22 := by kernel_rfl
/-- t[:h] -/
theorem run_head (g h : Nat) (hh : h ≤ 12) (w : World) : (Instr.sliceAt 105 (.pointer (some ⟨g, 0, none⟩)) none (some (I h)) none).run Tryd.prog w = .ok (.slice (some ⟨g, 0, none⟩) h 12) w := by
  obtain ⟨i0, hi, hz0, hz1, hz2⟩ := info_parts row_info
  rw [run_sliceAt_array_h w 105 ⟨g, 0, none⟩ tower_under .i64 (h : Int) (by omega) (by rw [tower_len]; omega), tower_len, tower_elem]
  simp [sizeOf, typeInfo, hi, slicedAt, Addr.add]

set_option maxRecDepth 100000 in
set_option maxHeartbeats 2000000 in
theorem rowsOf_any (A : Option Addr) (n c : Nat) (l : List Int) (w : World) (h : IS w A n c l) (hn : n ≤ 1000) (hT : Tb w) :
    Calls Tryd.prog 45 #[.slice A n c] w (RetRows (rowsL l) w) := by
  have HC := Lib.hid (towerOf_any A n c l w h hn hT)
  have hll : l.length ≤ 1000 := by rw [h.len]; exact hn
  clear h hT
  go_enter Tryd.func45, Tryd.ntmps45
  go_wp2_with fail
  refine HC.out.mono ?_
  rintro e w1 ⟨vs, rfl, htw, hb1⟩
  obtain ⟨ts, hts, rfl⟩ := htw.slices
  obtain ⟨a0, a1, a2, a3, a4, a5, a6, a7, a8, a9, a10, a11, rfl⟩ := set12 ts hts
  have HTW := Lib.hid htw
  have HB1 := Lib.hid hb1
  clear htw hb1 HC
  simp only [List.map_cons, List.map_nil]
  go_wp2_with fail
  have htv : Tv (w1.alloc (.cells #[slV a0, slV a1, slV a2, slV a3, slV a4, slV a5, slV a6, slV a7, slV a8, slV a9, slV a10, slV a11] 105)) w1.heap.size [a0, a1, a2, a3, a4, a5, a6, a7, a8, a9, a10, a11] (rowL l) := tw_tv HTW.out ((Below.refl _ _).alloc (Nat.le_refl _) _) (heap_alloc_new _ _)
  have hb2 : Below w.heap.size w (w1.alloc (.cells #[slV a0, slV a1, slV a2, slV a3, slV a4, slV a5, slV a6, slV a7, slV a8, slV a9, slV a10, slV a11] 105)) := HB1.out.alloc HB1.out.size _
  generalize hg2 : w1.heap.size = g2 at htv ⊢
  generalize hw2 : w1.alloc _ = w2 at htv hb2 ⊢
  have HTV := Lib.hid htv
  have HB2 := Lib.hid hb2
  have HHI := Lib.hid (high_any g2 _ l w2 htv hll)
  clear htv hb2 HTW hg2 hw2
  refine HHI.out.mono ?_
  rintro e w3 ⟨rfl, hb3⟩
  obtain ⟨h, hh⟩ : ∃ h, hiR l = h := ⟨_, rfl⟩
  have h12 : h ≤ 12 := by rw [← hh]; exact hiR_le l
  rw [hh]
  have HH := Lib.hid hh
  have HTV3 := Lib.hid (HTV.out.below hb3)
  have HB3 := Lib.hid (HB2.out.trans (hb3.mono HB2.out.size))
  clear hb3 hh HHI
  have hsl := run_head g2 h h12
  go_wp2_with fail
  refine (cloneR_any g2 h _ _ w3 HTV3.out h12).mono ?_
  rintro e w4 ⟨v, rfl, hown, hb4⟩
  have HRI := Lib.hid (own_ri HTV3.out hb4 HH.out hown)
  have HB4 := Lib.hid (HB3.out.trans (hb4.mono HB3.out.size))
  clear hown hb4
  go_wp2
  go_ret
  obtain ⟨A', m, c', rfl, hri⟩ := HRI.out
  exact ⟨A', m, c', rfl, hri, HB4.out⟩

set_option maxHeartbeats 1000000 in
theorem Rows_bad (A : Option Addr) (n c : Nat) (l : List Int) (w : World) (h : IS w A n c l) (hn : n ≤ 9223372036854775807) (E : Int) (hE : chkK l = E) (hE0 : E ≠ 0) :
    Calls Tryd.prog 27 #[.slice A n c] w fun e w' => e = .returned (.tuple #[.slice none 0 0, I E]) ∧ Below w.heap.size w w' := by
  have HC := Lib.hid (checkS_any A n c l w h hn)
  have hne := err_ne hE0
  rw [hE] at HC
  clear h hE
  go_enter Tryd.func27, Tryd.ntmps27
  go_wp2_with fail
  refine HC.out.mono ?_
  rintro e w1 ⟨rfl, hb1⟩
  have HB1 := Lib.hid hb1
  clear hb1
  go_wp2
  go_ret2
  exact ⟨rfl, HB1.out⟩
/-- rows in new memory, and no error -/
def RetRows2 (L : List (List Int)) (w : World) (e : Ending) (w' : World) : Prop := ∃ A m c, e = .returned (.tuple #[.slice A m c, I 0]) ∧ RI w' A m c L ∧ Below w.heap.size w w'
set_option maxHeartbeats 1000000 in
theorem Rows_ok (A : Option Addr) (n c : Nat) (l : List Int) (w : World) (h : IS w A n c l) (hR : Rise l) (hT : Tb w) :
    Calls Tryd.prog 27 #[.slice A n c] w (RetRows2 (rowsL l) w) := by
  have hn : n ≤ 200 := by rw [← h.len]; exact hR.len
  have HC := Lib.hid (checkS_any A n c l w h (by omega))
  rw [chkK_zero.2 hR] at HC
  have H := Lib.hid h
  have HT := Lib.hid hT
  clear h hT hR
  go_enter Tryd.func27, Tryd.ntmps27
  go_wp2_with fail
  refine HC.out.mono ?_
  rintro e w1 ⟨rfl, hb1⟩
  have HB1 := Lib.hid hb1
  have HO := Lib.hid (rowsOf_any A n c l w1 (H.out.below hb1) (by omega) (HT.out.next hb1))
  clear hb1
  go_wp2_with fail
  refine HO.out.mono ?_
  rintro e w2 ⟨A', m, c', rfl, hri, hb2⟩
  have HRI := Lib.hid hri
  have HB2 := Lib.hid (HB1.out.trans (hb2.mono HB1.out.size))
  clear hri hb2
  go_wp2
  go_ret2
  exact ⟨A', m, c', rfl, HRI.out, HB2.out⟩
end Go.Proofs.YtolgncaaffmmnaaDoor
