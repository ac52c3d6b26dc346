/-
  skip.towerOf.
-/
import Derived.Test.YtolgncaaffmmnaaDoorKTowAll
import Derived.Deep.AppendLies
namespace Go.Proofs.YtolgncaaffmmnaaDoor
open Go.RowKit

/-- the tower behind k keys -/
def Tow (w : World) (rows : Nat → List Int) (wr : World) : Prop :=
  ∃ vs, Tw wr (w.heap.size + 2) (w.heap.size + 1) 105 vs rows ∧ wr.heap[w.heap.size]? = some (.cells none12.toArray 105 (0, 0)) ∧ Below w.heap.size w wr
theorem Tow.congr {w wr : World} {rows rows' : Nat → List Int} (h : Tow w rows wr) (he : ∀ i, i < 12 → rows i = rows' i) : Tow w rows' wr := by
  obtain ⟨vs, h1, h2⟩ := h
  exact ⟨vs, h1.congr he, h2⟩
/-- what towerOf answers -/
def RetTw (l : List Int) (w : World) (e : Ending) (w' : World) : Prop := ∃ vs, e = .returned (.agg vs.toArray) ∧ Tw w' (w.heap.size + 2) (w.heap.size + 1) 105 vs (rowL l) ∧ Below w.heap.size w w'

theorem Tow.start (w : World) (l : List Int) : Tow w (rowL (l.take 0)) ((w.alloc (.cells none12.toArray 105)).alloc (.cells none12.toArray 105)) := by
  refine ⟨none12, Tw.congr (Tw.start (by omega) ?_) (fun i _ => by simp [rowL]), ?_, ((Below.refl _ _).alloc (Nat.le_refl _) _).alloc (by simp) _⟩
  · have := heap_alloc_new (w.alloc (.cells none12.toArray 105)) (.cells none12.toArray 105)
    simpa using this
  · rw [Below.heap_alloc _ _ _ (by simp)]
    exact heap_alloc_new w _
theorem Tow.step {w wr w2 : World} {rows : Nat → List Int} {vs : List Value} {r : Nat} {key : Int} {v' : Value} (h : Tw wr (w.heap.size + 2) (w.heap.size + 1) 105 vs rows) (h0 : wr.heap[w.heap.size]? = some (.cells none12.toArray 105 (0, 0))) (hb : Below w.heap.size w wr) (hr : r < 12)
    (hown : OwnI w2 (w.heap.size + 2) v' (rows r ++ [key])) (hg : wr.grownBy w2 (rowAt vs r).ownBlock) (hat : v'.ownBlock = (rowAt vs r).ownBlock ∨ v'.ownBlock = some wr.heap.size) :
    Tow w (fun i => if i = r then rows r ++ [key] else rows i) (w2.setCell ⟨w.heap.size + 1, r, none⟩ v') := by
  refine ⟨_, h.append hr hown hg hat, ?_, ?_⟩
  · rw [Below.heap_setCell _ _ _ _ (by simp), hg.block _ ?_ ?_]
    · exact h0
    · have := h.lt; omega
    · intro e
      have := own_ge1 (h.own r hr) _ e.symm
      omega
  · refine Below.setCell (hb.grown hg hb.size ?_) (by simp) _
    intro k hk
    have := own_ge1 (h.own r hr) k hk
    omega
theorem Tw.after {w w' : World} {base g t r : Nat} {vs : List Value} {rows : Nat → List Int} {v : Value} {o : Obj} (h : Tw w base g t vs rows) (hr : r < 12) (hv : rowAt vs r = v) (hg : (w.alloc o).grownBy w' v.ownBlock) :
    w'.cell? ⟨g, r, none⟩ = some v ∧ w'.frozen? ⟨g, r, none⟩ = false := by
  subst hv
  have h1 := h.alloc o
  have hb : w'.heap[g]? = some (.cells vs.toArray t (0, 0)) := by
    rw [hg.block g h1.lt ?_]
    · exact h1.blk
    · intro e
      have := own_ge1 (h.own r hr) g e.symm
      have := h.low
      omega
  have hl := h.len
  exact ⟨by simp [World.cell?, hb, rowAt, List.getElem?_eq_getElem (show r < vs.length by omega)], by simp [World.frozen?, hb]⟩
theorem res12 {w : World} {g t : Nat} (h : w.heap[g]? = some (.cells none12.toArray t (0, 0))) (i : Nat) (hi : i < 12) : w.cell? ⟨g, i, none⟩ = some (.slice none 0 0) ∧ w.frozen? ⟨g, i, none⟩ = false := by
  refine ⟨?_, by simp [World.frozen?, h]⟩
  have : none12[i]? = some (.slice none 0 0) := by unfold none12; rw [List.getElem?_replicate, if_pos hi]
  simpa [World.cell?, h] using this
theorem set12 {α : Type} (vs : List α) (h : vs.length = 12) : ∃ a b c d e f g i j k l m, vs = [a, b, c, d, e, f, g, i, j, k, l, m] := by
  match vs, h with
  | [a, b, c, d, e, f, g, i, j, k, l, m], _ => exact ⟨a, b, c, d, e, f, g, i, j, k, l, m, rfl⟩
/-- a slice, by its parts -/
abbrev slV (t : Option Addr × Nat × Nat) : Value := .slice t.1 t.2.1 t.2.2
theorem all_slices : ∀ vs : List Value, (∀ i, i < vs.length → ∃ A m c, rowAt vs i = .slice A m c) → ∃ ts : List (Option Addr × Nat × Nat), vs = ts.map slV
  | [], _ => ⟨[], rfl⟩
  | v :: t, h => by
    obtain ⟨A, m, c, h0⟩ := h 0 (by simp)
    obtain ⟨ts, hts⟩ := all_slices t fun i hi => by
      have := h (i + 1) (by simp; omega)
      simpa [rowAt] using this
    refine ⟨(A, m, c) :: ts, ?_⟩
    simp [rowAt] at h0
    simp [hts, h0]
theorem Tw.slices {w : World} {base g t : Nat} {vs : List Value} {rows : Nat → List Int} (h : Tw w base g t vs rows) : ∃ ts : List (Option Addr × Nat × Nat), ts.length = 12 ∧ vs = ts.map slV := by
  obtain ⟨ts, hts⟩ := all_slices vs fun i hi => by
    obtain ⟨A, c, e, _⟩ := (h.own i (by have := h.len; omega)).is_
    exact ⟨A, _, c, e⟩
  refine ⟨ts, ?_, hts⟩
  have := h.len
  rw [hts] at this
  simpa using this
theorem Tw.far {w : World} {base g t : Nat} {vs : List Value} {rows : Nat → List Int} (h : Tw w base g t vs rows) {p : Addr} (hp : p.block < base) (hg : g ≠ p.block) (u : Value) : Tw (w.setCell p u) base g t vs rows :=
  ⟨h.len, h.low, (Below.heap_setCell w p u g hg).trans h.blk, fun i hi => own_set (h.own i hi) hp u, h.ne⟩

/-- twelve cells are written -/
def st12 (w : World) (g : Nat) (a0 a1 a2 a3 a4 a5 a6 a7 a8 a9 a10 a11 : Value) : World := ((((((((((((w.setCell ⟨g, 0, none⟩ a0).setCell ⟨g, 1, none⟩ a1).setCell ⟨g, 2, none⟩ a2).setCell ⟨g, 3, none⟩ a3).setCell ⟨g, 4, none⟩ a4).setCell ⟨g, 5, none⟩ a5).setCell ⟨g, 6, none⟩ a6).setCell ⟨g, 7, none⟩ a7).setCell ⟨g, 8, none⟩ a8).setCell ⟨g, 9, none⟩ a9).setCell ⟨g, 10, none⟩ a10).setCell ⟨g, 11, none⟩ a11)
theorem st12_heap {w : World} {g t : Nat} (h : w.heap[g]? = some (.cells none12.toArray t (0, 0))) (a0 a1 a2 a3 a4 a5 a6 a7 a8 a9 a10 a11 : Value) : (st12 w g a0 a1 a2 a3 a4 a5 a6 a7 a8 a9 a10 a11).heap[g]? = some (.cells #[a0, a1, a2, a3, a4, a5, a6, a7, a8, a9, a10, a11] t (0, 0)) := (cells_set' (cells_set' (cells_set' (cells_set' (cells_set' (cells_set' (cells_set' (cells_set' (cells_set' (cells_set' (cells_set' (cells_set' h 0 a0) 1 a1) 2 a2) 3 a3) 4 a4) 5 a5) 6 a6) 7 a7) 8 a8) 9 a9) 10 a10) 11 a11)
theorem st12_below {w w0 : World} {g B : Nat} (h : Below B w0 w) (hg : B ≤ g) (a0 a1 a2 a3 a4 a5 a6 a7 a8 a9 a10 a11 : Value) : Below B w0 (st12 w g a0 a1 a2 a3 a4 a5 a6 a7 a8 a9 a10 a11) := (Below.setCell (Below.setCell (Below.setCell (Below.setCell (Below.setCell (Below.setCell (Below.setCell (Below.setCell (Below.setCell (Below.setCell (Below.setCell (Below.setCell h (by exact hg) a0) (by exact hg) a1) (by exact hg) a2) (by exact hg) a3) (by exact hg) a4) (by exact hg) a5) (by exact hg) a6) (by exact hg) a7) (by exact hg) a8) (by exact hg) a9) (by exact hg) a10) (by exact hg) a11)
theorem st12_tw {w : World} {base g t p : Nat} {vs : List Value} {rows : Nat → List Int} (h : Tw w base g t vs rows) (hp : p < base) (hg : g ≠ p) (a0 a1 a2 a3 a4 a5 a6 a7 a8 a9 a10 a11 : Value) : Tw (st12 w p a0 a1 a2 a3 a4 a5 a6 a7 a8 a9 a10 a11) base g t vs rows := (Tw.far (Tw.far (Tw.far (Tw.far (Tw.far (Tw.far (Tw.far (Tw.far (Tw.far (Tw.far (Tw.far (Tw.far h (by exact hp) (by exact hg) a0) (by exact hp) (by exact hg) a1) (by exact hp) (by exact hg) a2) (by exact hp) (by exact hg) a3) (by exact hp) (by exact hg) a4) (by exact hp) (by exact hg) a5) (by exact hp) (by exact hg) a6) (by exact hp) (by exact hg) a7) (by exact hp) (by exact hg) a8) (by exact hp) (by exact hg) a9) (by exact hp) (by exact hg) a10) (by exact hp) (by exact hg) a11)
theorem tower_array : ∃ e, Tryd.prog.underlying 105 = some (.array 12 e) := ⟨_, Tryd.underlying105⟩
theorem tower_size : (Tryd.prog.info? 105).map (·.size) = some 12 := by kernel_rfl

set_option maxRecDepth 100000 in
set_option maxHeartbeats 2000000 in
theorem towerOf_any (A : Option Addr) (n c : Nat) (l : List Int) (w : World) (h : IS w A n c l) (hn : n ≤ 1000) (hT : Tb w) :
    Calls Tryd.prog 61 #[.slice A n c] w (RetTw l w) := by
  have H := Lib.hid h
  have Hlen := Lib.hid h.len
  have HT := Lib.hid hT
  clear h hT
  obtain ⟨i0, hi, hz0, hz1, hz2⟩ := info_parts int_info
  have HI := Lib.hid hi
  have HZ0 := Lib.hid hz0
  have HZ1 := Lib.hid hz1
  have HZ2 := Lib.hid hz2
  clear hi hz0 hz1 hz2
  go_enter Tryd.func61, Tryd.ntmps61
  go_wp2
  go_loopw [9] (fun i wr => ∃ k : Nat, k ≤ n ∧ i = .int .i64 k ∧ Tow w (rowL (l.take k)) wr) (fun i _ => n - (intOf i).toNat)
  case atStart => exact ⟨0, Nat.zero_le _, rfl, Tow.start w l⟩
  case round =>
    obtain ⟨k, hk, rfl, hrow⟩ := hrel
    by_cases hlt : k < n
    · have hkl : k < l.length := by have := Hlen.out; omega
      obtain ⟨key, hkey⟩ : ∃ key, l[k] = key := ⟨_, rfl⟩
      have hbel : Below w.heap.size w wr := by obtain ⟨_, _, _, hb⟩ := hrow; exact hb
      obtain ⟨b, off, rfl, hb, hc⟩ := H.out.at_ (by omega)
      have hc0 : wr.cell? ⟨b, off + k, none⟩ = some (I key) := by rw [← hkey]; exact (hbel.cell (by exact hb)).trans (hc k hlt)
      have HTR := Lib.hid (HT.out.next hbel)
      have HH := Lib.hid (ht_le key)
      obtain ⟨m, hm⟩ : ∃ m, ht key = m := ⟨_, rfl⟩
      have hm12 : m ≤ 12 := by rw [← hm]; exact HH.out
      have HE : Hid (∀ i, rowsTo (l.take k) key m i = rowL (l.take (k + 1)) i) := fun i => by rw [← hm, ← hkey]; exact rowsTo_end l k hkl i
      have HL : Hid (∀ r i, (rowsTo (l.take k) key r i).length ≤ 1001) := fun r i => by
        have := rowsTo_len (l.take k) key r i
        rw [List.length_take] at this
        omega
      have HROW := Lib.hid hrow
      have HCALL := Lib.hid (show Calls Tryd.prog 75 #[I key] wr fun e w' => e = .returned (I m) ∧ w' = wr by rw [← hm]; exact Height_any key wr HTR.out)
      clear hc hkey hm hrow hbel
      go_wp2_with fail
      refine HCALL.out.mono ?_
      rintro e w1 ⟨rfl, rfl⟩
      go_wp2
      go_loopw [15] (fun i wr => ∃ r : Nat, r ≤ m ∧ i = .int .i64 r ∧ Tow w (rowsTo (l.take k) key r) wr) (fun i _ => m - (intOf i).toNat)
      case atStart => exact ⟨0, Nat.zero_le _, rfl, HROW.out.congr fun i _ => (rowsTo_zero _ _ i).symm⟩
      case round =>
        obtain ⟨r, hr, rfl, vs, htw, hres, hbl⟩ := hrel
        by_cases hrm : r < m
        · have hr12 : r < 12 := by omega
          have hcr := htw.cell r hr12
          have hsz := htw.lt
          have hz : w.heap.size + 2 ≤ wr.heap.size := by omega
          obtain ⟨v, hv⟩ : ∃ v, rowAt vs r = v := ⟨_, rfl⟩
          rw [hv] at hcr
          have hown := htw.own r hr12
          rw [hv] at hown
          have HOWN := Lib.hid hown
          have HTW := Lib.hid htw
          have HRES := Lib.hid hres
          have HBL := Lib.hid hbl
          have HV := Lib.hid hv
          obtain ⟨xs, hxs⟩ : ∃ xs, rowsTo (l.take k) key r r = xs := ⟨_, rfl⟩
          have hxl : xs.length ≤ 1001 := by rw [← hxs]; exact HL.out r r
          rw [hxs] at HOWN
          have HXS := Lib.hid hxs
          clear htw hres hbl hv hown hxs
          go_wp2_with (first
            | (at_builtin
               refine wpList_append_lies _ rfl (.tmp 21) (.tmp 23) 22 rfl (w.heap.size + 2) 3 i0 _ 1 8 Tryd.underlying22 HI.out HZ0.out HZ1.out HZ2.out rfl (by omega) v xs.length (xs.map I) rfl (own_below HOWN.out ((Below.refl _ _).alloc (Nat.le_refl _) _)) ⟨wr.heap.size, 0, none⟩ 1 1 [I key] rfl rfl (cell_one_new _ _ _) (one_I key) (by omega) (by unfold maxLen; omega) (by omega) (by simp; omega) (wr.heap.size + 1) (by simp) ?_
               intro g2 cap2 w2 hown2 hgrow2 hat2 hlt2
               obtain ⟨hcell2, hfz2⟩ := HTW.out.after hr12 HV.out hgrow2)
            | fail)
          go_roundw
          case rel =>
            have hown3 : OwnI w2 (w.heap.size + 2) (.slice (some ⟨g2, 0, none⟩) (xs.length + 1) cap2) (xs ++ [key]) := by
              unfold OwnI
              simpa using hown2
            have hst := Tow.step (w := w) (r := r) (key := key) (HTW.out.alloc _) ((Below.heap_alloc _ _ _ (by omega)).trans HRES.out) (HBL.out.alloc HBL.out.size _) hr12 (by rw [HXS.out]; exact hown3) (by rw [HV.out]; exact hgrow2) (by rw [HV.out]; rcases hat2 with e | e; exact .inl e.symm; exact .inr (by rw [e]; simp [Value.ownBlock]))
            exact ⟨r + 1, by omega, by go_num, hst.congr fun i _ => rowsTo_succ _ _ r i⟩
          case measure => simp [intOf]; omega
        · have htow : Tow w (rowL (l.take (k + 1))) wr := Tow.congr ⟨vs, htw, hres, hbl⟩ fun i _ => by rw [show r = m by omega]; exact HE.out i
          have HTOW := Lib.hid htow
          clear htw hres hbl htow
          go_wp2
          go_roundw
          case rel => exact ⟨k + 1, by omega, by go_num, HTOW.out⟩
          case measure => simp [intOf]; omega
    · obtain ⟨vs, htw, hres, hbl⟩ := hrow
      rw [List.take_of_length_le (by have := Hlen.out; omega)] at htw
      have HTW := Lib.hid htw
      have HRES := Lib.hid hres
      have HBL := Lib.hid hbl
      obtain ⟨ts, hts, rfl⟩ := htw.slices
      obtain ⟨a0, a1, a2, a3, a4, a5, a6, a7, a8, a9, a10, a11, rfl⟩ := set12 ts hts
      have c0 : wr.cell? ⟨w.heap.size + 1, 0, none⟩ = some (slV a0) := htw.cell 0 (by omega)
      have c1 : wr.cell? ⟨w.heap.size + 1, 1, none⟩ = some (slV a1) := htw.cell 1 (by omega)
      have c2 : wr.cell? ⟨w.heap.size + 1, 2, none⟩ = some (slV a2) := htw.cell 2 (by omega)
      have c3 : wr.cell? ⟨w.heap.size + 1, 3, none⟩ = some (slV a3) := htw.cell 3 (by omega)
      have c4 : wr.cell? ⟨w.heap.size + 1, 4, none⟩ = some (slV a4) := htw.cell 4 (by omega)
      have c5 : wr.cell? ⟨w.heap.size + 1, 5, none⟩ = some (slV a5) := htw.cell 5 (by omega)
      have c6 : wr.cell? ⟨w.heap.size + 1, 6, none⟩ = some (slV a6) := htw.cell 6 (by omega)
      have c7 : wr.cell? ⟨w.heap.size + 1, 7, none⟩ = some (slV a7) := htw.cell 7 (by omega)
      have c8 : wr.cell? ⟨w.heap.size + 1, 8, none⟩ = some (slV a8) := htw.cell 8 (by omega)
      have c9 : wr.cell? ⟨w.heap.size + 1, 9, none⟩ = some (slV a9) := htw.cell 9 (by omega)
      have c10 : wr.cell? ⟨w.heap.size + 1, 10, none⟩ = some (slV a10) := htw.cell 10 (by omega)
      have c11 : wr.cell? ⟨w.heap.size + 1, 11, none⟩ = some (slV a11) := htw.cell 11 (by omega)
      have d0 : wr.cell? ⟨w.heap.size, 0, none⟩ = some (.slice none 0 0) := (res12 hres 0 (by omega)).1
      have e0 : wr.frozen? ⟨w.heap.size, 0, none⟩ = false := (res12 hres 0 (by omega)).2
      have d1 : wr.cell? ⟨w.heap.size, 1, none⟩ = some (.slice none 0 0) := (res12 hres 1 (by omega)).1
      have e1 : wr.frozen? ⟨w.heap.size, 1, none⟩ = false := (res12 hres 1 (by omega)).2
      have d2 : wr.cell? ⟨w.heap.size, 2, none⟩ = some (.slice none 0 0) := (res12 hres 2 (by omega)).1
      have e2 : wr.frozen? ⟨w.heap.size, 2, none⟩ = false := (res12 hres 2 (by omega)).2
      have d3 : wr.cell? ⟨w.heap.size, 3, none⟩ = some (.slice none 0 0) := (res12 hres 3 (by omega)).1
      have e3 : wr.frozen? ⟨w.heap.size, 3, none⟩ = false := (res12 hres 3 (by omega)).2
      have d4 : wr.cell? ⟨w.heap.size, 4, none⟩ = some (.slice none 0 0) := (res12 hres 4 (by omega)).1
      have e4 : wr.frozen? ⟨w.heap.size, 4, none⟩ = false := (res12 hres 4 (by omega)).2
      have d5 : wr.cell? ⟨w.heap.size, 5, none⟩ = some (.slice none 0 0) := (res12 hres 5 (by omega)).1
      have e5 : wr.frozen? ⟨w.heap.size, 5, none⟩ = false := (res12 hres 5 (by omega)).2
      have d6 : wr.cell? ⟨w.heap.size, 6, none⟩ = some (.slice none 0 0) := (res12 hres 6 (by omega)).1
      have e6 : wr.frozen? ⟨w.heap.size, 6, none⟩ = false := (res12 hres 6 (by omega)).2
      have d7 : wr.cell? ⟨w.heap.size, 7, none⟩ = some (.slice none 0 0) := (res12 hres 7 (by omega)).1
      have e7 : wr.frozen? ⟨w.heap.size, 7, none⟩ = false := (res12 hres 7 (by omega)).2
      have d8 : wr.cell? ⟨w.heap.size, 8, none⟩ = some (.slice none 0 0) := (res12 hres 8 (by omega)).1
      have e8 : wr.frozen? ⟨w.heap.size, 8, none⟩ = false := (res12 hres 8 (by omega)).2
      have d9 : wr.cell? ⟨w.heap.size, 9, none⟩ = some (.slice none 0 0) := (res12 hres 9 (by omega)).1
      have e9 : wr.frozen? ⟨w.heap.size, 9, none⟩ = false := (res12 hres 9 (by omega)).2
      have d10 : wr.cell? ⟨w.heap.size, 10, none⟩ = some (.slice none 0 0) := (res12 hres 10 (by omega)).1
      have e10 : wr.frozen? ⟨w.heap.size, 10, none⟩ = false := (res12 hres 10 (by omega)).2
      have d11 : wr.cell? ⟨w.heap.size, 11, none⟩ = some (.slice none 0 0) := (res12 hres 11 (by omega)).1
      have e11 : wr.frozen? ⟨w.heap.size, 11, none⟩ = false := (res12 hres 11 (by omega)).2
      clear htw hres hbl
      go_wp2
      try simp only [Exit.inBlock, Exit.then]
      change bodyPost _ _ _ _ _ (st12 wr w.heap.size (slV a0) (slV a1) (slV a2) (slV a3) (slV a4) (slV a5) (slV a6) (slV a7) (slV a8) (slV a9) (slV a10) (slV a11))
      have hh := st12_heap HRES.out (slV a0) (slV a1) (slV a2) (slV a3) (slV a4) (slV a5) (slV a6) (slV a7) (slV a8) (slV a9) (slV a10) (slV a11)
      have hbb := st12_below HBL.out (Nat.le_refl _) (slV a0) (slV a1) (slV a2) (slV a3) (slV a4) (slV a5) (slV a6) (slV a7) (slV a8) (slV a9) (slV a10) (slV a11)
      have htt := st12_tw HTW.out (p := w.heap.size) (by omega) (by omega) (slV a0) (slV a1) (slV a2) (slV a3) (slV a4) (slV a5) (slV a6) (slV a7) (slV a8) (slV a9) (slV a10) (slV a11)
      generalize st12 wr w.heap.size (slV a0) (slV a1) (slV a2) (slV a3) (slV a4) (slV a5) (slV a6) (slV a7) (slV a8) (slV a9) (slV a10) (slV a11) = wf at hh hbb htt ⊢
      refine bodyPost_ret (v := .agg #[slV a0, slV a1, slV a2, slV a3, slV a4, slV a5, slV a6, slV a7, slV a8, slV a9, slV a10, slV a11]) ?_ rfl ?_
      · obtain ⟨ea, hea⟩ := tower_array
        have := run_loadVar_row (P := Tryd.prog) wf w.heap.size 105 105 #[slV a0, slV a1, slV a2, slV a3, slV a4, slV a5, slV a6, slV a7, slV a8, slV a9, slV a10, slV a11] (0, 0) _ hh hea rfl tower_size
        simp [results, Tryd.results61]
        exact this
      · exact ⟨_, rfl, htt, hbb⟩
end Go.Proofs.YtolgncaaffmmnaaDoor
