/-
  Joined texts: YtjnkfpagaajfeaaDoorKRows0, YtjnkfpagaajfeaaDoorKPath1.
-/
import Derived.Test.YtjnkfpagaajfeaaDoorKTowerOf
import Derived.Test.YtjnkfpagaajfeaaDoorCopy
import Derived.Test.YtjnkfpagaajfeaaDoorKPath0
/-
  ROWS AS THEY LIE: twelve slices in a block, a slice of rows. Nothing is walked here.
-/
namespace Go.Proofs.YtjnkfpagaajfeaaDoor
open Go.RowKit

abbrev T3 := Option Addr × Nat × Nat
def tAt (ts : List T3) (i : Nat) : T3 := ts[i]?.getD (none, 0, 0)
/-- the block g has twelve slices that read as L -/
structure Tv (w : World) (g : Nat) (ts : List T3) (L : Nat → List Int) : Prop where
  len : ts.length = 12
  lt : g < w.heap.size
  cell : ∀ i, i < 12 → w.cell? ⟨g, i, none⟩ = some (slV (tAt ts i))
  is_ : ∀ i, i < 12 → IS w (tAt ts i).1 (tAt ts i).2.1 (tAt ts i).2.2 (L i)
theorem Tv.below {w w' : World} {g : Nat} {ts : List T3} {L : Nat → List Int} (h : Tv w g ts L) (hb : Below w.heap.size w w') : Tv w' g ts L :=
  ⟨h.len, Nat.lt_of_lt_of_le h.lt hb.size, fun i hi => (hb.cell (by exact h.lt)).trans (h.cell i hi), fun i hi => (h.is_ i hi).below hb⟩
/-- a slice of slices that reads as rows -/
structure RI (w : World) (A : Option Addr) (m c : Nat) (L : List (List Int)) : Prop where
  len : L.length = m
  cap : m ≤ c
  at_ : 0 < m → ∃ b off, A = some ⟨b, off, none⟩ ∧ b < w.heap.size ∧ ∀ i, i < m → ∃ A' n' c', w.cell? ⟨b, off + i, none⟩ = some (.slice A' n' c') ∧ IS w A' n' c' (L[i]?.getD [])
theorem RI.below {w w' : World} {A : Option Addr} {m c : Nat} {L : List (List Int)} (h : RI w A m c L) (hb : Below w.heap.size w w') : RI w' A m c L := by
  refine ⟨h.len, h.cap, fun h0 => ?_⟩
  obtain ⟨b, off, e, hlt, hc⟩ := h.at_ h0
  refine ⟨b, off, e, Nat.lt_of_lt_of_le hlt hb.size, fun i hi => ?_⟩
  obtain ⟨A', n', c', h1, h2⟩ := hc i hi
  exact ⟨A', n', c', (hb.cell (by exact hlt)).trans h1, h2.below hb⟩
theorem RI.none_ {w : World} : RI w none 0 0 [] := ⟨rfl, Nat.le_refl _, fun h => absurd h (by omega)⟩
/-- rows in new memory -/
def RetRows (L : List (List Int)) (w : World) (e : Ending) (w' : World) : Prop := ∃ A m c, e = .returned (.slice A m c) ∧ RI w' A m c L ∧ Below w.heap.size w w'

theorem hiR_is {l : List Int} {k : Nat} (hk : k ≤ 12) (h1 : ∀ i, i < k → rowL l i ≠ []) (h2 : k = 12 ∨ rowL l k = []) : hiR l = k := by
  rcases Nat.lt_trichotomy (hiR l) k with h | h | h
  · exact absurd (hiR_none l _ (Nat.le_refl _)) (h1 _ h)
  · exact h
  · have := hiR_le l
    rcases h2 with h2 | h2
    · omega
    · exact absurd h2 (hiR_some l k h)
theorem tw_tv {w w' : World} {base g g' t t' : Nat} {ts : List T3} {rows : Nat → List Int} (h : Tw w base g t (ts.map slV) rows) (hb : Below w.heap.size w w') (hh : w'.heap[g']? = some (.cells (ts.map slV).toArray t' (0, 0))) : Tv w' g' ts rows := by
  have hl : ts.length = 12 := by simpa using h.len
  refine ⟨hl, ?_, fun i hi => ?_, fun i hi => ?_⟩
  · rcases Nat.lt_or_ge g' w'.heap.size with hlt | hge
    · exact hlt
    · rw [Array.getElem?_eq_none hge] at hh; cases hh
  · simp [World.cell?, hh, tAt, List.getElem?_eq_getElem (show i < ts.length by omega)]
  · obtain ⟨A, c, e, h1, _⟩ := (h.own i hi).is_
    have e2 : rowAt (ts.map slV) i = slV (tAt ts i) := by simp [rowAt, tAt, List.getElem?_eq_getElem (show i < ts.length by omega)]
    rw [e2] at e
    injection e with e3 e4 e5
    rw [e3, e4, e5]
    exact h1.below hb
theorem err_ne {E : Int} (h : E ≠ 0) : (E != 0) = true := by simpa using h

end Go.Proofs.YtjnkfpagaajfeaaDoor

/-
  skip.Path$1.
-/
namespace Go.Proofs.YtjnkfpagaajfeaaDoor
open Go.RowKit

theorem stop_info : (Tryd.prog.info? 64).map (fun i => (i.zero, i.size, i.bytes)) = some (some (.agg #[I 0, I 0]), 2, 16) := by kernel_rfl
/-- the block q is a variable with a row of stops, which lies behind it -/
def Sv (w : World) (q : Nat) (p : PL) : Prop := ∃ A c, w.heap[q]? = some (.cells #[.slice A p.length c] 54 (0, 0)) ∧ w.ownsRow (q + 1) 64 2 (.slice A p.length c) p.length (flat p)

theorem two_new (w : World) (r k : Int) (t : Nat) : ∀ j u, [I r, I k][j]? = some u → (w.alloc (.cells #[I r, I k] t)).cell? ((⟨w.heap.size, 0, none⟩ : Addr).add j) = some u := by
  intro j u hu
  rw [addn, Nat.zero_add]
  have := heap_alloc_new w (.cells #[I r, I k] t)
  rw [cell_of_row _ _ _ _ _ _ this]
  simpa using hu
theorem two_one (r k : Int) : ∀ u ∈ [I r, I k], u.oneCell' = true := by
  intro u hu
  simp at hu
  rcases hu with rfl | rfl <;> rfl
theorem var_after {w w' : World} {q t : Nat} {v u : Value} {base e s n : Nat} {xs : List Value} {o : Obj} (h : w.heap[q]? = some (.cells #[v] t (0, 0))) (ho : w.ownsRow base e s u n xs) (hb : q < base) (hg : (w.alloc o).grownBy w' u.ownBlock) :
    w'.heap[q]? = some (.cells #[v] t (0, 0)) := by
  have hlt : q < w.heap.size := by
    rcases Nat.lt_or_ge q w.heap.size with hlt | hge
    · exact hlt
    · rw [Array.getElem?_eq_none hge] at h; cases h
  rw [hg.block q (by simp; omega) ?_, Below.heap_alloc _ _ _ hlt]
  · exact h
  · intro e2
    have := own_ge1 ho q e2.symm
    omega

set_option maxRecDepth 100000 in
set_option maxHeartbeats 1000000 in
theorem path1_any (r k : Int) (q : Nat) (p : PL) (w : World) (h : Sv w q p) (hp : p.length ≤ 10000) :
    Calls Tryd.prog 45 #[I r, I k, .pointer (some ⟨q, 0, none⟩)] w fun e w' => e = .returned (.tuple #[]) ∧ Below q w w' ∧ Sv w' q (p ++ [(r, k)]) := by
  obtain ⟨A, c, hq, hown⟩ := h
  obtain ⟨n, hn⟩ : ∃ n, p.length = n := ⟨_, rfl⟩
  rw [hn] at hq hown hp
  have HN := Lib.hid hn
  clear hn
  have hlt : q < w.heap.size := by
    rcases Nat.lt_or_ge q w.heap.size with hlt | hge
    · exact hlt
    · rw [Array.getElem?_eq_none hge] at hq; cases hq
  have hcell : w.cell? ⟨q, 0, none⟩ = some (.slice A n c) := by simp [World.cell?, hq]
  have HQ := Lib.hid hq
  have HOWN := Lib.hid hown
  obtain ⟨i0, hi, hz0, hz1, hz2⟩ := info_parts stop_info
  have HI := Lib.hid hi
  have HZ0 := Lib.hid hz0
  have HZ1 := Lib.hid hz1
  have HZ2 := Lib.hid hz2
  clear hi hz0 hz1 hz2 hq hown
  go_enter Tryd.func45, Tryd.ntmps45
  go_wp2_with (first
    | (at_builtin
       refine wpList_append_lies _ rfl (.tmp 5) (.tmp 9) 54 rfl (q + 1) 64 i0 _ 2 16 Tryd.underlying54 HI.out HZ0.out HZ1.out HZ2.out rfl (by omega) (.slice A n c) n (flat p) rfl (own_below HOWN.out ((Below.refl _ _).alloc (Nat.le_refl _) _)) ⟨w.heap.size, 0, none⟩ 1 1 [I r, I k] rfl rfl (two_new w r k _) (two_one r k) (by omega) (by unfold maxLen; omega) (by omega) (by simp; omega) (w.heap.size + 1) (by simp) ?_
       intro g2 cap2 w2 hown2 hgrow2 hat2 hlt2
       have hq2 := var_after HQ.out HOWN.out (by omega) hgrow2
       have hcell2 : w2.cell? ⟨q, 0, none⟩ = some (.slice A n c) := by simp [World.cell?, hq2]
       have hfz2 : w2.frozen? ⟨q, 0, none⟩ = false := by simp [World.frozen?, hq2]
       have HQ2 := Lib.hid hq2
       clear hq2)
    | fail)
  go_end0
  refine ⟨rfl, ?_, ?_⟩
  · refine Below.setCell (Below.grown ((Below.refl _ _).alloc (by omega) _) hgrow2 (by simp; omega) ?_) (by exact Nat.le_refl _) _
    intro k' hk'
    have := own_ge1 HOWN.out k' hk'
    omega
  · refine ⟨some ⟨g2, 0, none⟩, cap2, ?_, ?_⟩
    · have := cells_set' (cs := [.slice A n c]) HQ2.out 0 (.slice (some ⟨g2, 0, none⟩) (n + 1) cap2)
      simpa [HN.out] using this
    · have := own_set hown2 (p := ⟨q, 0, none⟩) (by show q < q + 1; omega) (.slice (some ⟨g2, 0, none⟩) (n + 1) cap2)
      rw [flat_append]
      simpa [HN.out, flat] using this
end Go.Proofs.YtjnkfpagaajfeaaDoor
