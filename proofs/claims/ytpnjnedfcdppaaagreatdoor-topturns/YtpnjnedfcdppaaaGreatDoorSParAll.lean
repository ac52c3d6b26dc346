/-
  Joined texts: YtpnjnedfcdppaaaGreatDoorKTowerOf, YtpnjnedfcdppaaaGreatDoorKRows0, YtpnjnedfcdppaaaGreatDoorSChk, YtpnjnedfcdppaaaGreatDoorSPar.
-/
import Derived.Test.YtpnjnedfcdppaaaGreatDoorKTowAll
import Derived.Deep.AppendLies
import Derived.Test.YtpnjnedfcdppaaaGreatDoorOwnAll
import Derived.Test.YtpnjnedfcdppaaaGreatDoorIntsAll
/-
  skip.towerOf.
-/
namespace Go.Proofs.YtpnjnedfcdppaaaGreatDoor
open Go.RowKit

/-- the tower behind k keys -/
def Tow (w : World) (rows : Nat → List Int) (wr : World) : Prop :=
  ∃ vs, Tw wr (w.heap.size + 2) (w.heap.size + 1) 192 vs rows ∧ wr.heap[w.heap.size]? = some (.cells none12.toArray 192 (0, 0)) ∧ Below w.heap.size w wr
theorem Tow.congr {w wr : World} {rows rows' : Nat → List Int} (h : Tow w rows wr) (he : ∀ i, i < 12 → rows i = rows' i) : Tow w rows' wr := by
  obtain ⟨vs, h1, h2⟩ := h
  exact ⟨vs, h1.congr he, h2⟩
/-- what towerOf answers -/
def RetTw (l : List Int) (w : World) (e : Ending) (w' : World) : Prop := ∃ vs, e = .returned (.agg vs.toArray) ∧ Tw w' (w.heap.size + 2) (w.heap.size + 1) 192 vs (rowL l) ∧ Below w.heap.size w w'

theorem Tow.start (w : World) (l : List Int) : Tow w (rowL (l.take 0)) ((w.alloc (.cells none12.toArray 192)).alloc (.cells none12.toArray 192)) := by
  refine ⟨none12, Tw.congr (Tw.start (by omega) ?_) (fun i _ => by simp [rowL]), ?_, ((Below.refl _ _).alloc (Nat.le_refl _) _).alloc (by simp) _⟩
  · have := heap_alloc_new (w.alloc (.cells none12.toArray 192)) (.cells none12.toArray 192)
    simpa using this
  · rw [Below.heap_alloc _ _ _ (by simp)]
    exact heap_alloc_new w _
theorem Tow.step {w wr w2 : World} {rows : Nat → List Int} {vs : List Value} {r : Nat} {key : Int} {v' : Value} (h : Tw wr (w.heap.size + 2) (w.heap.size + 1) 192 vs rows) (h0 : wr.heap[w.heap.size]? = some (.cells none12.toArray 192 (0, 0))) (hb : Below w.heap.size w wr) (hr : r < 12)
    (hown : OwnI w2 (w.heap.size + 2) v' (rows r ++ [key])) (hg : wr.grownBy w2 (rowAt vs r).ownBlock) (hat : v'.ownBlock = (rowAt vs r).ownBlock ∨ v'.ownBlock = some wr.heap.size) :
    Tow w (fun i => if i = r then rows r ++ [key] else rows i) (w2.setCell ⟨w.heap.size + 1, r, none⟩ v') := by
  refine ⟨_, h.append hr hown hg hat, ?_, ?_⟩
  · rw [Below.heap_setCell _ _ _ _ (by simp), hg.block _ ?_ ?_]
    · exact h0
    · have := h.lt; omega
    · intro e
      have := own_ge1 (h.own r hr) _ e.symm
      omega
  · refine Below.setCell (hb.grown hg hb.size ?_) (by simp) _
    intro k hk
    have := own_ge1 (h.own r hr) k hk
    omega
theorem Tw.after {w w' : World} {base g t r : Nat} {vs : List Value} {rows : Nat → List Int} {v : Value} {o : Obj} (h : Tw w base g t vs rows) (hr : r < 12) (hv : rowAt vs r = v) (hg : (w.alloc o).grownBy w' v.ownBlock) :
    w'.cell? ⟨g, r, none⟩ = some v ∧ w'.frozen? ⟨g, r, none⟩ = false := by
  subst hv
  have h1 := h.alloc o
  have hb : w'.heap[g]? = some (.cells vs.toArray t (0, 0)) := by
    rw [hg.block g h1.lt ?_]
    · exact h1.blk
    · intro e
      have := own_ge1 (h.own r hr) g e.symm
      have := h.low
      omega
  have hl := h.len
  exact ⟨by simp [World.cell?, hb, rowAt, List.getElem?_eq_getElem (show r < vs.length by omega)], by simp [World.frozen?, hb]⟩
theorem res12 {w : World} {g t : Nat} (h : w.heap[g]? = some (.cells none12.toArray t (0, 0))) (i : Nat) (hi : i < 12) : w.cell? ⟨g, i, none⟩ = some (.slice none 0 0) ∧ w.frozen? ⟨g, i, none⟩ = false := by
  refine ⟨?_, by simp [World.frozen?, h]⟩
  have : none12[i]? = some (.slice none 0 0) := by unfold none12; rw [List.getElem?_replicate, if_pos hi]
  simpa [World.cell?, h] using this
theorem set12 {α : Type} (vs : List α) (h : vs.length = 12) : ∃ a b c d e f g i j k l m, vs = [a, b, c, d, e, f, g, i, j, k, l, m] := by
  match vs, h with
  | [a, b, c, d, e, f, g, i, j, k, l, m], _ => exact ⟨a, b, c, d, e, f, g, i, j, k, l, m, rfl⟩
/-- a slice, by its parts -/
abbrev slV (t : Option Addr × Nat × Nat) : Value := .slice t.1 t.2.1 t.2.2
theorem all_slices : ∀ vs : List Value, (∀ i, i < vs.length → ∃ A m c, rowAt vs i = .slice A m c) → ∃ ts : List (Option Addr × Nat × Nat), vs = ts.map slV
  | [], _ => ⟨[], rfl⟩
  | v :: t, h => by
    obtain ⟨A, m, c, h0⟩ := h 0 (by simp)
    obtain ⟨ts, hts⟩ := all_slices t fun i hi => by
      have := h (i + 1) (by simp; omega)
      simpa [rowAt] using this
    refine ⟨(A, m, c) :: ts, ?_⟩
    simp [rowAt] at h0
    simp [hts, h0]
theorem Tw.slices {w : World} {base g t : Nat} {vs : List Value} {rows : Nat → List Int} (h : Tw w base g t vs rows) : ∃ ts : List (Option Addr × Nat × Nat), ts.length = 12 ∧ vs = ts.map slV := by
  obtain ⟨ts, hts⟩ := all_slices vs fun i hi => by
    obtain ⟨A, c, e, _⟩ := (h.own i (by have := h.len; omega)).is_
    exact ⟨A, _, c, e⟩
  refine ⟨ts, ?_, hts⟩
  have := h.len
  rw [hts] at this
  simpa using this
theorem Tw.far {w : World} {base g t : Nat} {vs : List Value} {rows : Nat → List Int} (h : Tw w base g t vs rows) {p : Addr} (hp : p.block < base) (hg : g ≠ p.block) (u : Value) : Tw (w.setCell p u) base g t vs rows :=
  ⟨h.len, h.low, (Below.heap_setCell w p u g hg).trans h.blk, fun i hi => own_set (h.own i hi) hp u, h.ne⟩

/-- twelve cells are written -/
def st12 (w : World) (g : Nat) (a0 a1 a2 a3 a4 a5 a6 a7 a8 a9 a10 a11 : Value) : World := ((((((((((((w.setCell ⟨g, 0, none⟩ a0).setCell ⟨g, 1, none⟩ a1).setCell ⟨g, 2, none⟩ a2).setCell ⟨g, 3, none⟩ a3).setCell ⟨g, 4, none⟩ a4).setCell ⟨g, 5, none⟩ a5).setCell ⟨g, 6, none⟩ a6).setCell ⟨g, 7, none⟩ a7).setCell ⟨g, 8, none⟩ a8).setCell ⟨g, 9, none⟩ a9).setCell ⟨g, 10, none⟩ a10).setCell ⟨g, 11, none⟩ a11)
theorem st12_heap {w : World} {g t : Nat} (h : w.heap[g]? = some (.cells none12.toArray t (0, 0))) (a0 a1 a2 a3 a4 a5 a6 a7 a8 a9 a10 a11 : Value) : (st12 w g a0 a1 a2 a3 a4 a5 a6 a7 a8 a9 a10 a11).heap[g]? = some (.cells #[a0, a1, a2, a3, a4, a5, a6, a7, a8, a9, a10, a11] t (0, 0)) := (cells_set' (cells_set' (cells_set' (cells_set' (cells_set' (cells_set' (cells_set' (cells_set' (cells_set' (cells_set' (cells_set' (cells_set' h 0 a0) 1 a1) 2 a2) 3 a3) 4 a4) 5 a5) 6 a6) 7 a7) 8 a8) 9 a9) 10 a10) 11 a11)
theorem st12_below {w w0 : World} {g B : Nat} (h : Below B w0 w) (hg : B ≤ g) (a0 a1 a2 a3 a4 a5 a6 a7 a8 a9 a10 a11 : Value) : Below B w0 (st12 w g a0 a1 a2 a3 a4 a5 a6 a7 a8 a9 a10 a11) := (Below.setCell (Below.setCell (Below.setCell (Below.setCell (Below.setCell (Below.setCell (Below.setCell (Below.setCell (Below.setCell (Below.setCell (Below.setCell (Below.setCell h (by exact hg) a0) (by exact hg) a1) (by exact hg) a2) (by exact hg) a3) (by exact hg) a4) (by exact hg) a5) (by exact hg) a6) (by exact hg) a7) (by exact hg) a8) (by exact hg) a9) (by exact hg) a10) (by exact hg) a11)
theorem st12_tw {w : World} {base g t p : Nat} {vs : List Value} {rows : Nat → List Int} (h : Tw w base g t vs rows) (hp : p < base) (hg : g ≠ p) (a0 a1 a2 a3 a4 a5 a6 a7 a8 a9 a10 a11 : Value) : Tw (st12 w p a0 a1 a2 a3 a4 a5 a6 a7 a8 a9 a10 a11) base g t vs rows := (Tw.far (Tw.far (Tw.far (Tw.far (Tw.far (Tw.far (Tw.far (Tw.far (Tw.far (Tw.far (Tw.far (Tw.far h (by exact hp) (by exact hg) a0) (by exact hp) (by exact hg) a1) (by exact hp) (by exact hg) a2) (by exact hp) (by exact hg) a3) (by exact hp) (by exact hg) a4) (by exact hp) (by exact hg) a5) (by exact hp) (by exact hg) a6) (by exact hp) (by exact hg) a7) (by exact hp) (by exact hg) a8) (by exact hp) (by exact hg) a9) (by exact hp) (by exact hg) a10) (by exact hp) (by exact hg) a11)
theorem tower_array : ∃ e, Tryz.prog.underlying 192 = some (.array 12 e) := ⟨_, Tryz.underlying192⟩
theorem tower_size : (Tryz.prog.info? 192).map (·.size) = some 12 := by kernel_rfl

set_option maxRecDepth 100000 in
set_option maxHeartbeats 2000000 in
theorem towerOf_any (A : Option Addr) (n c : Nat) (l : List Int) (w : World) (h : IS w A n c l) (hn : n ≤ 1000) (hT : Tb w) :
    Calls Tryz.prog 127 #[.slice A n c] w (RetTw l w) := by
  have H := Lib.hid h
  have Hlen := Lib.hid h.len
  have HT := Lib.hid hT
  clear h hT
  obtain ⟨i0, hi, hz0, hz1, hz2⟩ := info_parts int_info
  have HI := Lib.hid hi
  have HZ0 := Lib.hid hz0
  have HZ1 := Lib.hid hz1
  have HZ2 := Lib.hid hz2
  clear hi hz0 hz1 hz2
  go_enter Tryz.func127, Tryz.ntmps127
  go_wp2
  go_loopw [9] (fun i wr => ∃ k : Nat, k ≤ n ∧ i = .int .i64 k ∧ Tow w (rowL (l.take k)) wr) (fun i _ => n - (intOf i).toNat)
  case atStart => exact ⟨0, Nat.zero_le _, rfl, Tow.start w l⟩
  case round =>
    obtain ⟨k, hk, rfl, hrow⟩ := hrel
    by_cases hlt : k < n
    · have hkl : k < l.length := by have := Hlen.out; omega
      obtain ⟨key, hkey⟩ : ∃ key, l[k] = key := ⟨_, rfl⟩
      have hbel : Below w.heap.size w wr := by obtain ⟨_, _, _, hb⟩ := hrow; exact hb
      obtain ⟨b, off, rfl, hb, hc⟩ := H.out.at_ (by omega)
      have hc0 : wr.cell? ⟨b, off + k, none⟩ = some (I key) := by rw [← hkey]; exact (hbel.cell (by exact hb)).trans (hc k hlt)
      have HTR := Lib.hid (HT.out.next hbel)
      have HH := Lib.hid (ht_le key)
      obtain ⟨m, hm⟩ : ∃ m, ht key = m := ⟨_, rfl⟩
      have hm12 : m ≤ 12 := by rw [← hm]; exact HH.out
      have HE : Hid (∀ i, rowsTo (l.take k) key m i = rowL (l.take (k + 1)) i) := fun i => by rw [← hm, ← hkey]; exact rowsTo_end l k hkl i
      have HL : Hid (∀ r i, (rowsTo (l.take k) key r i).length ≤ 1001) := fun r i => by
        have := rowsTo_len (l.take k) key r i
        rw [List.length_take] at this
        omega
      have HROW := Lib.hid hrow
      have HCALL := Lib.hid (show Calls Tryz.prog 191 #[I key] wr fun e w' => e = .returned (I m) ∧ w' = wr by rw [← hm]; exact Height_any key wr HTR.out)
      clear hc hkey hm hrow hbel
      go_wp2_with fail
      refine HCALL.out.mono ?_
      rintro e w1 ⟨rfl, rfl⟩
      go_wp2
      go_loopw [15] (fun i wr => ∃ r : Nat, r ≤ m ∧ i = .int .i64 r ∧ Tow w (rowsTo (l.take k) key r) wr) (fun i _ => m - (intOf i).toNat)
      case atStart => exact ⟨0, Nat.zero_le _, rfl, HROW.out.congr fun i _ => (rowsTo_zero _ _ i).symm⟩
      case round =>
        obtain ⟨r, hr, rfl, vs, htw, hres, hbl⟩ := hrel
        by_cases hrm : r < m
        · have hr12 : r < 12 := by omega
          have hcr := htw.cell r hr12
          have hsz := htw.lt
          have hz : w.heap.size + 2 ≤ wr.heap.size := by omega
          obtain ⟨v, hv⟩ : ∃ v, rowAt vs r = v := ⟨_, rfl⟩
          rw [hv] at hcr
          have hown := htw.own r hr12
          rw [hv] at hown
          have HOWN := Lib.hid hown
          have HTW := Lib.hid htw
          have HRES := Lib.hid hres
          have HBL := Lib.hid hbl
          have HV := Lib.hid hv
          obtain ⟨xs, hxs⟩ : ∃ xs, rowsTo (l.take k) key r r = xs := ⟨_, rfl⟩
          have hxl : xs.length ≤ 1001 := by rw [← hxs]; exact HL.out r r
          rw [hxs] at HOWN
          have HXS := Lib.hid hxs
          clear htw hres hbl hv hown hxs
          go_wp2_with (first
            | (at_builtin
               refine wpList_append_lies _ rfl (.tmp 21) (.tmp 23) 46 rfl (w.heap.size + 2) 3 i0 _ 1 8 Tryz.underlying46 HI.out HZ0.out HZ1.out HZ2.out rfl (by omega) v xs.length (xs.map I) rfl (own_below HOWN.out ((Below.refl _ _).alloc (Nat.le_refl _) _)) ⟨wr.heap.size, 0, none⟩ 1 1 [I key] rfl rfl (cell_one_new _ _ _) (one_I key) (by omega) (by unfold maxLen; omega) (by omega) (by simp; omega) (wr.heap.size + 1) (by simp) ?_
               intro g2 cap2 w2 hown2 hgrow2 hat2 hlt2
               obtain ⟨hcell2, hfz2⟩ := HTW.out.after hr12 HV.out hgrow2)
            | fail)
          go_roundw
          case rel =>
            have hown3 : OwnI w2 (w.heap.size + 2) (.slice (some ⟨g2, 0, none⟩) (xs.length + 1) cap2) (xs ++ [key]) := by
              unfold OwnI
              simpa using hown2
            have hst := Tow.step (w := w) (r := r) (key := key) (HTW.out.alloc _) ((Below.heap_alloc _ _ _ (by omega)).trans HRES.out) (HBL.out.alloc HBL.out.size _) hr12 (by rw [HXS.out]; exact hown3) (by rw [HV.out]; exact hgrow2) (by rw [HV.out]; rcases hat2 with e | e; exact .inl e.symm; exact .inr (by rw [e]; simp [Value.ownBlock]))
            exact ⟨r + 1, by omega, by go_num, hst.congr fun i _ => rowsTo_succ _ _ r i⟩
          case measure => simp [intOf]; omega
        · have htow : Tow w (rowL (l.take (k + 1))) wr := Tow.congr ⟨vs, htw, hres, hbl⟩ fun i _ => by rw [show r = m by omega]; exact HE.out i
          have HTOW := Lib.hid htow
          clear htw hres hbl htow
          go_wp2
          go_roundw
          case rel => exact ⟨k + 1, by omega, by go_num, HTOW.out⟩
          case measure => simp [intOf]; omega
    · obtain ⟨vs, htw, hres, hbl⟩ := hrow
      rw [List.take_of_length_le (by have := Hlen.out; omega)] at htw
      have HTW := Lib.hid htw
      have HRES := Lib.hid hres
      have HBL := Lib.hid hbl
      obtain ⟨ts, hts, rfl⟩ := htw.slices
      obtain ⟨a0, a1, a2, a3, a4, a5, a6, a7, a8, a9, a10, a11, rfl⟩ := set12 ts hts
      have c0 : wr.cell? ⟨w.heap.size + 1, 0, none⟩ = some (slV a0) := htw.cell 0 (by omega)
      have c1 : wr.cell? ⟨w.heap.size + 1, 1, none⟩ = some (slV a1) := htw.cell 1 (by omega)
      have c2 : wr.cell? ⟨w.heap.size + 1, 2, none⟩ = some (slV a2) := htw.cell 2 (by omega)
      have c3 : wr.cell? ⟨w.heap.size + 1, 3, none⟩ = some (slV a3) := htw.cell 3 (by omega)
      have c4 : wr.cell? ⟨w.heap.size + 1, 4, none⟩ = some (slV a4) := htw.cell 4 (by omega)
      have c5 : wr.cell? ⟨w.heap.size + 1, 5, none⟩ = some (slV a5) := htw.cell 5 (by omega)
      have c6 : wr.cell? ⟨w.heap.size + 1, 6, none⟩ = some (slV a6) := htw.cell 6 (by omega)
      have c7 : wr.cell? ⟨w.heap.size + 1, 7, none⟩ = some (slV a7) := htw.cell 7 (by omega)
      have c8 : wr.cell? ⟨w.heap.size + 1, 8, none⟩ = some (slV a8) := htw.cell 8 (by omega)
      have c9 : wr.cell? ⟨w.heap.size + 1, 9, none⟩ = some (slV a9) := htw.cell 9 (by omega)
      have c10 : wr.cell? ⟨w.heap.size + 1, 10, none⟩ = some (slV a10) := htw.cell 10 (by omega)
      have c11 : wr.cell? ⟨w.heap.size + 1, 11, none⟩ = some (slV a11) := htw.cell 11 (by omega)
      have d0 : wr.cell? ⟨w.heap.size, 0, none⟩ = some (.slice none 0 0) := (res12 hres 0 (by omega)).1
      have e0 : wr.frozen? ⟨w.heap.size, 0, none⟩ = false := (res12 hres 0 (by omega)).2
      have d1 : wr.cell? ⟨w.heap.size, 1, none⟩ = some (.slice none 0 0) := (res12 hres 1 (by omega)).1
      have e1 : wr.frozen? ⟨w.heap.size, 1, none⟩ = false := (res12 hres 1 (by omega)).2
      have d2 : wr.cell? ⟨w.heap.size, 2, none⟩ = some (.slice none 0 0) := (res12 hres 2 (by omega)).1
      have e2 : wr.frozen? ⟨w.heap.size, 2, none⟩ = false := (res12 hres 2 (by omega)).2
      have d3 : wr.cell? ⟨w.heap.size, 3, none⟩ = some (.slice none 0 0) := (res12 hres 3 (by omega)).1
      have e3 : wr.frozen? ⟨w.heap.size, 3, none⟩ = false := (res12 hres 3 (by omega)).2
      have d4 : wr.cell? ⟨w.heap.size, 4, none⟩ = some (.slice none 0 0) := (res12 hres 4 (by omega)).1
      have e4 : wr.frozen? ⟨w.heap.size, 4, none⟩ = false := (res12 hres 4 (by omega)).2
      have d5 : wr.cell? ⟨w.heap.size, 5, none⟩ = some (.slice none 0 0) := (res12 hres 5 (by omega)).1
      have e5 : wr.frozen? ⟨w.heap.size, 5, none⟩ = false := (res12 hres 5 (by omega)).2
      have d6 : wr.cell? ⟨w.heap.size, 6, none⟩ = some (.slice none 0 0) := (res12 hres 6 (by omega)).1
      have e6 : wr.frozen? ⟨w.heap.size, 6, none⟩ = false := (res12 hres 6 (by omega)).2
      have d7 : wr.cell? ⟨w.heap.size, 7, none⟩ = some (.slice none 0 0) := (res12 hres 7 (by omega)).1
      have e7 : wr.frozen? ⟨w.heap.size, 7, none⟩ = false := (res12 hres 7 (by omega)).2
      have d8 : wr.cell? ⟨w.heap.size, 8, none⟩ = some (.slice none 0 0) := (res12 hres 8 (by omega)).1
      have e8 : wr.frozen? ⟨w.heap.size, 8, none⟩ = false := (res12 hres 8 (by omega)).2
      have d9 : wr.cell? ⟨w.heap.size, 9, none⟩ = some (.slice none 0 0) := (res12 hres 9 (by omega)).1
      have e9 : wr.frozen? ⟨w.heap.size, 9, none⟩ = false := (res12 hres 9 (by omega)).2
      have d10 : wr.cell? ⟨w.heap.size, 10, none⟩ = some (.slice none 0 0) := (res12 hres 10 (by omega)).1
      have e10 : wr.frozen? ⟨w.heap.size, 10, none⟩ = false := (res12 hres 10 (by omega)).2
      have d11 : wr.cell? ⟨w.heap.size, 11, none⟩ = some (.slice none 0 0) := (res12 hres 11 (by omega)).1
      have e11 : wr.frozen? ⟨w.heap.size, 11, none⟩ = false := (res12 hres 11 (by omega)).2
      clear htw hres hbl
      go_wp2
      try simp only [Exit.inBlock, Exit.then]
      change bodyPost _ _ _ _ _ (st12 wr w.heap.size (slV a0) (slV a1) (slV a2) (slV a3) (slV a4) (slV a5) (slV a6) (slV a7) (slV a8) (slV a9) (slV a10) (slV a11))
      have hh := st12_heap HRES.out (slV a0) (slV a1) (slV a2) (slV a3) (slV a4) (slV a5) (slV a6) (slV a7) (slV a8) (slV a9) (slV a10) (slV a11)
      have hbb := st12_below HBL.out (Nat.le_refl _) (slV a0) (slV a1) (slV a2) (slV a3) (slV a4) (slV a5) (slV a6) (slV a7) (slV a8) (slV a9) (slV a10) (slV a11)
      have htt := st12_tw HTW.out (p := w.heap.size) (by omega) (by omega) (slV a0) (slV a1) (slV a2) (slV a3) (slV a4) (slV a5) (slV a6) (slV a7) (slV a8) (slV a9) (slV a10) (slV a11)
      generalize st12 wr w.heap.size (slV a0) (slV a1) (slV a2) (slV a3) (slV a4) (slV a5) (slV a6) (slV a7) (slV a8) (slV a9) (slV a10) (slV a11) = wf at hh hbb htt ⊢
      refine bodyPost_ret (v := .agg #[slV a0, slV a1, slV a2, slV a3, slV a4, slV a5, slV a6, slV a7, slV a8, slV a9, slV a10, slV a11]) ?_ rfl ?_
      · obtain ⟨ea, hea⟩ := tower_array
        have := run_loadVar_row (P := Tryz.prog) wf w.heap.size 192 192 #[slV a0, slV a1, slV a2, slV a3, slV a4, slV a5, slV a6, slV a7, slV a8, slV a9, slV a10, slV a11] (0, 0) _ hh hea rfl tower_size
        simp [results, Tryz.results127]
        exact this
      · exact ⟨_, rfl, htt, hbb⟩
end Go.Proofs.YtpnjnedfcdppaaaGreatDoor

/-
  ROWS AS THEY LIE: twelve slices in a block, a slice of rows. Nothing is walked here.
-/
namespace Go.Proofs.YtpnjnedfcdppaaaGreatDoor
open Go.RowKit

abbrev T3 := Option Addr × Nat × Nat
def tAt (ts : List T3) (i : Nat) : T3 := ts[i]?.getD (none, 0, 0)
/-- the block g has twelve slices that read as L -/
structure Tv (w : World) (g : Nat) (ts : List T3) (L : Nat → List Int) : Prop where
  len : ts.length = 12
  lt : g < w.heap.size
  cell : ∀ i, i < 12 → w.cell? ⟨g, i, none⟩ = some (slV (tAt ts i))
  is_ : ∀ i, i < 12 → IS w (tAt ts i).1 (tAt ts i).2.1 (tAt ts i).2.2 (L i)
theorem Tv.below {w w' : World} {g : Nat} {ts : List T3} {L : Nat → List Int} (h : Tv w g ts L) (hb : Below w.heap.size w w') : Tv w' g ts L :=
  ⟨h.len, Nat.lt_of_lt_of_le h.lt hb.size, fun i hi => (hb.cell (by exact h.lt)).trans (h.cell i hi), fun i hi => (h.is_ i hi).below hb⟩
/-- a slice of slices that reads as rows -/
structure RI (w : World) (A : Option Addr) (m c : Nat) (L : List (List Int)) : Prop where
  len : L.length = m
  cap : m ≤ c
  at_ : 0 < m → ∃ b off, A = some ⟨b, off, none⟩ ∧ b < w.heap.size ∧ ∀ i, i < m → ∃ A' n' c', w.cell? ⟨b, off + i, none⟩ = some (.slice A' n' c') ∧ IS w A' n' c' (L[i]?.getD [])
theorem RI.below {w w' : World} {A : Option Addr} {m c : Nat} {L : List (List Int)} (h : RI w A m c L) (hb : Below w.heap.size w w') : RI w' A m c L := by
  refine ⟨h.len, h.cap, fun h0 => ?_⟩
  obtain ⟨b, off, e, hlt, hc⟩ := h.at_ h0
  refine ⟨b, off, e, Nat.lt_of_lt_of_le hlt hb.size, fun i hi => ?_⟩
  obtain ⟨A', n', c', h1, h2⟩ := hc i hi
  exact ⟨A', n', c', (hb.cell (by exact hlt)).trans h1, h2.below hb⟩
theorem RI.none_ {w : World} : RI w none 0 0 [] := ⟨rfl, Nat.le_refl _, fun h => absurd h (by omega)⟩
/-- rows in new memory -/
def RetRows (L : List (List Int)) (w : World) (e : Ending) (w' : World) : Prop := ∃ A m c, e = .returned (.slice A m c) ∧ RI w' A m c L ∧ Below w.heap.size w w'

theorem hiR_is {l : List Int} {k : Nat} (hk : k ≤ 12) (h1 : ∀ i, i < k → rowL l i ≠ []) (h2 : k = 12 ∨ rowL l k = []) : hiR l = k := by
  rcases Nat.lt_trichotomy (hiR l) k with h | h | h
  · exact absurd (hiR_none l _ (Nat.le_refl _)) (h1 _ h)
  · exact h
  · have := hiR_le l
    rcases h2 with h2 | h2
    · omega
    · exact absurd h2 (hiR_some l k h)
theorem tw_tv {w w' : World} {base g g' t t' : Nat} {ts : List T3} {rows : Nat → List Int} (h : Tw w base g t (ts.map slV) rows) (hb : Below w.heap.size w w') (hh : w'.heap[g']? = some (.cells (ts.map slV).toArray t' (0, 0))) : Tv w' g' ts rows := by
  have hl : ts.length = 12 := by simpa using h.len
  refine ⟨hl, ?_, fun i hi => ?_, fun i hi => ?_⟩
  · rcases Nat.lt_or_ge g' w'.heap.size with hlt | hge
    · exact hlt
    · rw [Array.getElem?_eq_none hge] at hh; cases hh
  · simp [World.cell?, hh, tAt, List.getElem?_eq_getElem (show i < ts.length by omega)]
  · obtain ⟨A, c, e, h1, _⟩ := (h.own i hi).is_
    have e2 : rowAt (ts.map slV) i = slV (tAt ts i) := by simp [rowAt, tAt, List.getElem?_eq_getElem (show i < ts.length by omega)]
    rw [e2] at e
    injection e with e3 e4 e5
    rw [e3, e4, e5]
    exact h1.below hb
theorem err_ne {E : Int} (h : E ≠ 0) : (E != 0) = true := by simpa using h

end Go.Proofs.YtpnjnedfcdppaaaGreatDoor

/-
  shape.Check, partOf, parentOf.
-/
namespace Go.Proofs.YtpnjnedfcdppaaaGreatDoor
open Go.RowKit

theorem upTo_succ {l : PL} {k : Nat} (h : upTo l k) (hk : 0 < k) (h1 : ky l (k - 1) < ky l k) : upTo l (k + 1) := by
  intro i hi
  rcases Nat.lt_or_ge (i + 1) k with h2 | h2
  · exact h i h2
  · obtain rfl : k = i + 1 := by omega
    simpa using h1

set_option maxRecDepth 100000 in
set_option maxHeartbeats 1000000 in
theorem CheckS_any (A : Option Addr) (n c : Nat) (l : PL) (w : World) (h : PS w A n c l) (hn : n ≤ 9223372036854775807) :
    Calls Tryz.prog 68 #[.slice A n c] w fun e w' => e = .returned (I (chkS l)) ∧ Below w.heap.size w w' := by
  have H := Lib.hid h
  have Hlen := Lib.hid h.len
  clear h
  by_cases h200 : 200 < n
  · have HF : Hid (chkS l = 2) := by show chkS l = 2; unfold chkS; rw [if_pos (by rw [Hlen.out]; exact h200)]
    go_enter Tryz.func68, Tryz.ntmps68
    go_wp2
    go_ret
    exact ⟨ret_int (by rw [HF.out]), Below.refl _ _⟩
  · go_enter Tryz.func68, Tryz.ntmps68
    go_wp2
    go_loopw [3] (fun i wr => ∃ k : Nat, 1 ≤ k ∧ (k ≤ n ∨ k = 1) ∧ i = .int .i64 k ∧ upTo l k ∧ Below w.heap.size w wr) (fun i _ => n - (intOf i).toNat)
    case atStart => exact ⟨1, Nat.le_refl _, .inr rfl, rfl, fun i hi => absurd hi (by omega), Below.refl _ _⟩
    case round =>
      obtain ⟨k, hk1, hk, rfl, hup, hnx⟩ := hrel
      have hsz := hnx.size
      by_cases hlt : k < n
      · obtain ⟨b, off, rfl, hb, hc⟩ := H.out.dat (by omega)
        have hc0 : wr.cell? ⟨b, off + k * 2, none⟩ = some (I (ky l k)) := (hnx.cell (by exact hb)).trans (hc k hlt).1
        have hp0 : wr.cell? ⟨b, off + (k - 1) * 2, none⟩ = some (I (ky l (k - 1))) := (hnx.cell (by exact hb)).trans (hc (k - 1) (by omega)).1
        clear hk hc
        by_cases hge : ky l k ≤ ky l (k - 1)
        · have HF : Hid (chkS l = 3) := by
            show chkS l = 3
            unfold chkS
            rw [if_neg (by rw [Hlen.out]; exact h200), if_neg]
            rintro ⟨ha, _⟩
            have := ha (k - 1) (by rw [Hlen.out]; omega)
            rw [show k - 1 + 1 = k by omega] at this
            omega
          clear hup
          go_wp2
          go_quiet (fail)
          go_wp2
          go_ret
          exact ⟨ret_int (by rw [HF.out]), below_drewN hnx _⟩
        · have HO := Lib.hid (upTo_succ hup hk1 (by omega))
          clear hup
          go_wp2
          go_quiet (fail)
          go_wp2
          go_roundw
          case rel => exact ⟨k + 1, by omega, .inl (by omega), by go_num, HO.out, below_drewN hnx _⟩
          case measure => simp [intOf]; omega
      · have hupn : upTo l l.length := by
          intro i hi
          rw [Hlen.out] at hi
          exact hup i (by omega)
        have hst := stands_any n A n c l 0 wr (H.out.below hnx) (Nat.le_refl _) (by omega) (by omega) (by omega)
        have HNX := Lib.hid hnx
        clear hup hk hnx
        cases hs : stB l 0 with
        | true =>
          have HF : Hid (chkS l = 0) := by
            show chkS l = 0
            unfold chkS
            rw [if_neg (by rw [Hlen.out]; exact h200), if_pos ⟨hupn, hs⟩]
          rw [hs] at hst
          have HST := Lib.hid hst
          clear hs hst hupn
          go_wp2_with fail
          refine HST.out.mono ?_
          rintro e w1 ⟨rfl, hb1⟩
          have HB1 := Lib.hid (HNX.out.trans (hb1.mono HNX.out.size))
          clear hb1
          go_wp2
          go_ret
          exact ⟨ret_int (by rw [HF.out]), HB1.out⟩
        | false =>
          have HF : Hid (chkS l = 3) := by
            show chkS l = 3
            unfold chkS
            rw [if_neg (by rw [Hlen.out]; exact h200), if_neg]
            rintro ⟨_, ha⟩
            rw [hs] at ha
            cases ha
          rw [hs] at hst
          have HST := Lib.hid hst
          clear hs hst hupn
          go_wp2_with fail
          refine HST.out.mono ?_
          rintro e w1 ⟨rfl, hb1⟩
          have HB1 := Lib.hid (HNX.out.trans (hb1.mono HNX.out.size))
          clear hb1
          go_wp2
          go_ret
          exact ⟨ret_int (by rw [HF.out]), HB1.out⟩
theorem CheckS_is (A : Option Addr) (n c : Nat) (l : PL) (w : World) (h : PS w A n c l) (hn : n ≤ 9223372036854775807) (E : Int) (hE : chkS l = E) :
    Calls Tryz.prog 68 #[.slice A n c] w fun e w' => e = .returned (I E) ∧ Below w.heap.size w w' := by
  subst hE; exact CheckS_any A n c l w h hn

theorem frA_go {l : PL} {d : Int} {f : Nat} (h : 0 < f) (hd : d < dp l (f - 1)) : frA l d (f - 1) = frA l d f := by
  obtain ⟨g, rfl⟩ : ∃ g, f = g + 1 := ⟨f - 1, by omega⟩
  rw [frA, if_pos (by simpa using hd)]
  simp
theorem frA_stop {l : PL} {d : Int} {f : Nat} (h : 0 < f → ¬ d < dp l (f - 1)) : frA l d f = f := by
  cases f with
  | zero => rfl
  | succ g => rw [frA, if_neg (by simpa using h (by omega))]
theorem toA_go {l : PL} {d : Int} {t n : Nat} (h : t < n) (hd : d < dp l t) : toA l d (n - (t + 1)) (t + 1) = toA l d (n - t) t := by
  rw [show n - t = n - (t + 1) + 1 by omega, toA, if_pos hd]
theorem toA_stop {l : PL} {d : Int} {t n : Nat} (h : t < n → ¬ d < dp l t) : toA l d (n - t) t = t := by
  rcases Nat.lt_or_ge t n with h1 | h1
  · rw [show n - t = n - (t + 1) + 1 by omega, toA, if_neg (h h1)]
  · rw [show n - t = 0 by omega, toA]

set_option maxRecDepth 100000 in
set_option maxHeartbeats 1000000 in
theorem partOf_any (A : Option Addr) (n c i : Nat) (l : PL) (w : World) (h : PS w A n c l) (hn : n ≤ 1000) (hi : i < n) :
    Calls Tryz.prog 83 #[.slice A n c, I i] w fun e w' => e = .returned (.tuple #[I (frR l i), I (toR l i)]) ∧ Below w.heap.size w w' := by
  have H := Lib.hid h
  have Hlen := Lib.hid h.len
  clear h
  obtain ⟨b, off, rfl, hb, hc⟩ := H.out.dat (by omega)
  have HC : Hid (∀ wr, Below w.heap.size w wr → ∀ j, j < n → wr.cell? ⟨b, off + j * 2 + 1, none⟩ = some (I (dp l j))) := fun wr hnx j hj => (hnx.cell (by exact hb)).trans (hc j hj).2
  clear hc
  go_enter Tryz.func83, Tryz.ntmps83
  go_wp2
  go_loopw [6] (fun x wr => ∃ f : Nat, f ≤ i ∧ x = .int .i64 f ∧ frA l (dp l i) f = frR l i ∧ Below w.heap.size w wr) (fun x _ => (intOf x).toNat)
  case atStart => exact ⟨i, Nat.le_refl _, rfl, rfl, Below.refl _ _⟩
  case round =>
    obtain ⟨f, hf, rfl, hfr, hnx⟩ := hrel
    have hci : wr.cell? ⟨b, off + i * 2 + 1, none⟩ = some (I (dp l i)) := HC.out wr hnx i hi
    by_cases hgo : 0 < f ∧ dp l i < dp l (f - 1)
    · obtain ⟨hf0, hd⟩ := hgo
      have hcf : wr.cell? ⟨b, off + (f - 1) * 2 + 1, none⟩ = some (I (dp l (f - 1))) := HC.out wr hnx (f - 1) (by omega)
      have HR : Hid (frA l (dp l i) (f - 1) = frR l i) := (frA_go hf0 hd).trans hfr
      clear hfr
      go_wp2
      go_quiet (fail)
      go_wp2
      go_roundw
      case rel => exact ⟨f - 1, by omega, by congr 1; omega, HR.out, below_drewN hnx _⟩
      case measure => simp [intOf]; omega
    · have HR : Hid (frR l i = f) := by
        show _ = _
        rw [← hfr]
        exact frA_stop (fun h0 hd => hgo ⟨h0, hd⟩)
      clear hfr
      have hb1 : ∀ q, Below w.heap.size w (wr.drewN q) := fun q => below_drewN hnx q
      have HB1 := Lib.hid hb1
      clear hb1
      by_cases hf0 : 0 < f
      · have hd : ¬ dp l i < dp l (f - 1) := fun h => hgo ⟨hf0, h⟩
        have hcf : wr.cell? ⟨b, off + (f - 1) * 2 + 1, none⟩ = some (I (dp l (f - 1))) := HC.out wr hnx (f - 1) (by omega)
        clear hgo
        go_wp2
        go_quiet (fail)
        go_wp2
        go_loopw [7] (fun x wz => ∃ t : Nat, i + 1 ≤ t ∧ t ≤ n ∧ x = .int .i64 t ∧ toA l (dp l i) (n - t) t = toR l i ∧ Below w.heap.size w wz) (fun x _ => n - (intOf x).toNat)
        case atStart => exact ⟨i + 1, Nat.le_refl _, by omega, by go_num, by unfold toR; rw [Hlen.out], HB1.out _⟩
        case round =>
          obtain ⟨t, ht1, ht2, rfl, hto, hnz⟩ := hrel
          have hci : wr.cell? ⟨b, off + i * 2 + 1, none⟩ = some (I (dp l i)) := HC.out wr hnz i hi
          by_cases hgo : t < n ∧ dp l i < dp l t
          · obtain ⟨htn, hd⟩ := hgo
            have hcf : wr.cell? ⟨b, off + t * 2 + 1, none⟩ = some (I (dp l t)) := HC.out wr hnz t htn
            have HT : Hid (toA l (dp l i) (n - (t + 1)) (t + 1) = toR l i) := (toA_go htn hd).trans hto
            clear hto
            go_wp2
            go_quiet (fail)
            go_wp2
            go_roundw
            case rel => exact ⟨t + 1, by omega, by omega, by go_num, HT.out, below_drewN hnz _⟩
            case measure => simp [intOf]; omega
          · have HT : Hid (toR l i = t) := by
              show _ = _
              rw [← hto]
              exact toA_stop (fun h0 hd => hgo ⟨h0, hd⟩)
            clear hto
            by_cases htn : t < n
            · have hd : ¬ dp l i < dp l t := fun h => hgo ⟨htn, h⟩
              have hcf : wr.cell? ⟨b, off + t * 2 + 1, none⟩ = some (I (dp l t)) := HC.out wr hnz t htn
              clear hgo
              go_wp2
              go_quiet (fail)
              go_wp2
              go_ret2
              exact ⟨by rw [HR.out, HT.out]; rfl, below_drewN hnz _⟩
            · have hd : decide (t < n) = false := by simpa using htn
              clear hgo
              go_wp2
              go_quiet (fail)
              go_wp2
              go_ret2
              exact ⟨by rw [HR.out, HT.out]; rfl, below_drewN hnz _⟩
      · have hd : decide (0 < f) = false := by simpa using hf0
        clear hgo
        go_wp2
        go_quiet (fail)
        go_wp2
        go_loopw [7] (fun x wz => ∃ t : Nat, i + 1 ≤ t ∧ t ≤ n ∧ x = .int .i64 t ∧ toA l (dp l i) (n - t) t = toR l i ∧ Below w.heap.size w wz) (fun x _ => n - (intOf x).toNat)
        case atStart => exact ⟨i + 1, Nat.le_refl _, by omega, by go_num, by unfold toR; rw [Hlen.out], HB1.out _⟩
        case round =>
          obtain ⟨t, ht1, ht2, rfl, hto, hnz⟩ := hrel
          have hci : wr.cell? ⟨b, off + i * 2 + 1, none⟩ = some (I (dp l i)) := HC.out wr hnz i hi
          by_cases hgo : t < n ∧ dp l i < dp l t
          · obtain ⟨htn, hd⟩ := hgo
            have hcf : wr.cell? ⟨b, off + t * 2 + 1, none⟩ = some (I (dp l t)) := HC.out wr hnz t htn
            have HT : Hid (toA l (dp l i) (n - (t + 1)) (t + 1) = toR l i) := (toA_go htn hd).trans hto
            clear hto
            go_wp2
            go_quiet (fail)
            go_wp2
            go_roundw
            case rel => exact ⟨t + 1, by omega, by omega, by go_num, HT.out, below_drewN hnz _⟩
            case measure => simp [intOf]; omega
          · have HT : Hid (toR l i = t) := by
              show _ = _
              rw [← hto]
              exact toA_stop (fun h0 hd => hgo ⟨h0, hd⟩)
            clear hto
            by_cases htn : t < n
            · have hd : ¬ dp l i < dp l t := fun h => hgo ⟨htn, h⟩
              have hcf : wr.cell? ⟨b, off + t * 2 + 1, none⟩ = some (I (dp l t)) := HC.out wr hnz t htn
              clear hgo
              go_wp2
              go_quiet (fail)
              go_wp2
              go_ret2
              exact ⟨by rw [HR.out, HT.out]; rfl, below_drewN hnz _⟩
            · have hd : decide (t < n) = false := by simpa using htn
              clear hgo
              go_wp2
              go_quiet (fail)
              go_wp2
              go_ret2
              exact ⟨by rw [HR.out, HT.out]; rfl, below_drewN hnz _⟩

theorem frR_le (l : PL) (i : Nat) : frR l i ≤ i := frA_le _ _ _
theorem toR_bd (l : PL) (i : Nat) (h : i < l.length) : i < toR l i ∧ toR l i ≤ l.length := by
  have := toA_le l (dp l i) (l.length - (i + 1)) (i + 1)
  unfold toR
  omega

set_option maxRecDepth 100000 in
set_option maxHeartbeats 1000000 in
theorem parentOf_any (A : Option Addr) (n c i : Nat) (l : PL) (w : World) (h : PS w A n c l) (hn : n ≤ 1000) (hi : i < n) :
    Calls Tryz.prog 82 #[.slice A n c, I i] w fun e w' => e = .returned (I (par l i)) ∧ Below w.heap.size w w' := by
  have H := Lib.hid h
  have Hlen := Lib.hid h.len
  have hpart := partOf_any A n c i l w h hn hi
  have hf := frR_le l i
  have ht := toR_bd l i (by rw [h.len]; exact hi)
  have HP : Hid (par l i = if toR l i = l.length then (frR l i : Int) - 1 else if frR l i = 0 ∨ dp l (frR l i - 1) < dp l (toR l i) then toR l i else (frR l i : Int) - 1) := rfl
  rw [h.len] at ht HP
  obtain ⟨b, off, rfl, hb, hc⟩ := H.out.dat (by omega)
  have HC : Hid (∀ wr, Below w.heap.size w wr → ∀ j, j < n → wr.cell? ⟨b, off + j * 2 + 1, none⟩ = some (I (dp l j))) := fun wr hnx j hj => (hnx.cell (by exact hb)).trans (hc j hj).2
  clear hc h
  generalize frR l i = f at *
  generalize toR l i = t at *
  have HPART := Lib.hid hpart
  clear hpart
  by_cases htn : t = n
  · have HF : Hid (par l i = (f : Int) - 1) := by show _ = _; rw [HP.out, if_pos htn]
    have hq : ((t : Int) == (n : Int)) = true := by simp [htn]
    clear HP htn
    go_enter Tryz.func82, Tryz.ntmps82
    go_wp2_with fail
    refine HPART.out.mono ?_
    rintro e w1 ⟨rfl, hb1⟩
    have HB1 := Lib.hid hb1
    clear hb1
    go_wp2
    go_ret
    exact ⟨ret_int (by rw [HF.out]), HB1.out⟩
  · have hq : ((t : Int) == (n : Int)) = false := by simp; omega
    have htl : t < n := by omega
    rw [if_neg htn] at HP
    clear htn
    by_cases hf0 : f = 0
    · have HF : Hid (par l i = t) := by show _ = _; rw [HP.out, if_pos (.inl hf0)]
      subst hf0
      clear HP
      go_enter Tryz.func82, Tryz.ntmps82
      go_wp2_with fail
      refine HPART.out.mono ?_
      rintro e w1 ⟨rfl, hb1⟩
      have HB1 := Lib.hid hb1
      clear hb1
      go_wp2
      go_quiet (fail)
      go_wp2
      go_ret
      exact ⟨ret_int (by rw [HF.out]), below_drewN HB1.out _⟩
    · by_cases hd : dp l (f - 1) < dp l t
      · have HF : Hid (par l i = t) := by show _ = _; rw [HP.out, if_pos (.inr hd)]
        have hfp : 0 < f := by omega
        have hg : decide ((f : Int) - 1 < 0) = false := by simp; omega
        clear HP hf0
        go_enter Tryz.func82, Tryz.ntmps82
        go_wp2_with fail
        refine HPART.out.mono ?_
        rintro e w1 ⟨rfl, hb1⟩
        have hx : w1.cell? ⟨b, off + (f - 1) * 2 + 1, none⟩ = some (I (dp l (f - 1))) := HC.out w1 hb1 _ (by omega)
        have hy : w1.cell? ⟨b, off + t * 2 + 1, none⟩ = some (I (dp l t)) := HC.out w1 hb1 _ htl
        have HB1 := Lib.hid hb1
        clear hb1
        go_wp2
        go_quiet (fail)
        go_wp2
        go_ret
        exact ⟨ret_int (by rw [HF.out]), below_drewN HB1.out _⟩
      · have HF : Hid (par l i = (f : Int) - 1) := by show _ = _; rw [HP.out, if_neg (by rintro (h | h); exact hf0 h; exact hd h)]
        have hfp : 0 < f := by omega
        have hg : decide ((f : Int) - 1 < 0) = false := by simp; omega
        clear HP hf0
        go_enter Tryz.func82, Tryz.ntmps82
        go_wp2_with fail
        refine HPART.out.mono ?_
        rintro e w1 ⟨rfl, hb1⟩
        have hx : w1.cell? ⟨b, off + (f - 1) * 2 + 1, none⟩ = some (I (dp l (f - 1))) := HC.out w1 hb1 _ (by omega)
        have hy : w1.cell? ⟨b, off + t * 2 + 1, none⟩ = some (I (dp l t)) := HC.out w1 hb1 _ htl
        have HB1 := Lib.hid hb1
        clear hb1
        go_wp2
        go_quiet (fail)
        go_wp2
        go_ret
        exact ⟨ret_int (by rw [HF.out]), below_drewN HB1.out _⟩

end Go.Proofs.YtpnjnedfcdppaaaGreatDoor

/-
  A row of numbers of the call's own; shape.Parents.
-/
namespace Go.Proofs.YtpnjnedfcdppaaaGreatDoor
open Go.RowKit

def parL (l : PL) : List Int := (List.range l.length).map (par l)
theorem parL_length (l : PL) : (parL l).length = l.length := by simp [parL]
theorem parL_at (l : PL) (i : Nat) (h : i < l.length) : (parL l)[i]? = some (par l i) := by simp [parL, h]
/-- the first k of them -/
def parTo (l : PL) (n k : Nat) : List Int := (List.range k).map (par l) ++ List.replicate (n - k) 0
theorem parTo_set (l : PL) (n k : Nat) (h : k < n) : (parTo l n k).set k (par l k) = parTo l n (k + 1) := by
  unfold parTo
  rw [List.set_append_right _ _ (by simp), List.range_succ, List.map_append]
  simp only [List.length_map, List.length_range, Nat.sub_self]
  rw [show n - k = n - (k + 1) + 1 by omega, List.replicate_succ]
  simp
theorem parTo_length (l : PL) (n k : Nat) (h : k ≤ n) : (parTo l n k).length = n := by simp [parTo]; omega

theorem Parents_bad (A : Option Addr) (n c : Nat) (l : PL) (w : World) (h : PS w A n c l) (hn : n ≤ 9223372036854775807) (E : Int) (hE : chkS l = E) (hE0 : E ≠ 0) :
    Calls Tryz.prog 196 #[.slice A n c] w fun e w' => e = .returned (.tuple #[.slice none 0 0, I E]) ∧ Below w.heap.size w w' := by
  have HCH := Lib.hid (CheckS_is A n c l w h hn E hE)
  have hq : (E != 0) = true := by simpa using hE0
  clear h hE hE0
  go_enter Tryz.func196, Tryz.ntmps196
  go_wp2_with fail
  refine HCH.out.mono ?_
  rintro e w1 ⟨rfl, hb1⟩
  have HB1 := Lib.hid hb1
  clear hb1
  go_wp2
  go_ret2
  exact ⟨rfl, HB1.out⟩

set_option maxRecDepth 100000 in
set_option maxHeartbeats 1000000 in
theorem Parents_ok (A : Option Addr) (n c : Nat) (l : PL) (w : World) (h : PS w A n c l) (hT : IsTree l) :
    Calls Tryz.prog 196 #[.slice A n c] w (RetIs (parL l) w) := by
  have hn : n ≤ 200 := by have := hT.1; rw [h.len] at this; exact this
  have H := Lib.hid h
  have Hlen := Lib.hid h.len
  have HCH := Lib.hid (CheckS_is A n c l w h (by omega) 0 (chkS_zero.2 hT))
  clear h hT
  have hmk := fun w => run_makeI (P := Tryz.prog) 46 3 Tryz.underlying46 int_info n n (Nat.le_refl _) (by omega) w
  go_enter Tryz.func196, Tryz.ntmps196
  go_wp2_with fail
  refine HCH.out.mono ?_
  rintro e w1 ⟨rfl, hb1⟩
  have HB1 := Lib.hid hb1
  have hz1 := hb1.size
  clear hb1
  go_wp2
  go_loopw [17] (fun i wr => ∃ k : Nat, k ≤ n ∧ i = .int .i64 k ∧ IB wr w1.heap.size 3 (parTo l n k) ∧ Below w.heap.size w wr) (fun i _ => n - (intOf i).toNat)
  case atStart => exact ⟨0, Nat.zero_le _, rfl, by have := IB.new w1 3 (List.replicate n 0); simpa [parTo] using this, HB1.out.alloc hz1 _⟩
  case round =>
    obtain ⟨k, hk, rfl, hib, hnx⟩ := hrel
    by_cases hlt : k < n
    · have hpar := parentOf_any A n c k l wr (H.out.below hnx) (by omega) hlt
      have HPAR := Lib.hid hpar
      have HIB := Lib.hid hib
      have HNX := Lib.hid hnx
      clear hpar hib hnx
      go_wp2_with fail
      refine HPAR.out.mono ?_
      rintro e w2 ⟨rfl, hb2⟩
      have hib2 : IB w2 w1.heap.size 3 (parTo l n k) := HIB.out.below hb2 HIB.out.lt
      have HB2 := Lib.hid (HNX.out.trans (hb2.mono HNX.out.size))
      have hl2 := parTo_length l n k (by omega)
      obtain ⟨old, hcell⟩ : ∃ old, w2.cell? ⟨w1.heap.size, k, none⟩ = some (I old) := ⟨_, by rw [hib2.cell, List.getElem?_eq_getElem (by omega)]; rfl⟩
      have hfz : w2.frozen? ⟨w1.heap.size, k, none⟩ = false := hib2.frozen k
      have HI3 : Hid (IB (w2.setCell ⟨w1.heap.size, k, none⟩ (I (par l k))) w1.heap.size 3 (parTo l n (k + 1))) := by
        show IB _ _ _ _
        rw [← parTo_set l n k hlt]
        exact hib2.set k _
      clear hb2 hib2 hl2
      go_wp2
      go_roundw
      case rel => exact ⟨k + 1, by omega, by go_num, HI3.out, HB2.out.setCell hz1 _⟩
      case measure => simp [intOf]; omega
    · have HIS : Hid (IS wr (some ⟨w1.heap.size, 0, none⟩) n n (parL l)) := by
        have e1 : parTo l n k = parL l := by
          unfold parTo parL
          rw [Hlen.out, show k = n by omega]
          simp
        rw [e1] at hib
        have hl := parL_length l
        rw [Hlen.out] at hl
        have := hib.is_ (c := n) (by omega)
        rw [hl] at this
        exact this
      have HNX := Lib.hid hnx
      clear hib hnx
      go_wp2
      go_ret2
      exact ⟨_, n, n, rfl, HIS.out, HNX.out, fun ad h => by cases h; exact hz1⟩

end Go.Proofs.YtpnjnedfcdppaaaGreatDoor
