/-
  skip.Path$1.
-/
import Derived.Test.YtoebnfogkmkomaaDoorKPath0
import Derived.Test.YtoebnfogkmkomaaDoorKRows
namespace Go.Proofs.YtoebnfogkmkomaaDoor
open Go.RowKit

theorem stop_info : (Tryd.prog.info? 37).map (fun i => (i.zero, i.size, i.bytes)) = some (some (.agg #[I 0, I 0]), 2, 16) := by kernel_rfl
/-- the block q is a variable with a row of stops, which lies behind it -/
def Sv (w : World) (q : Nat) (p : PL) : Prop := ∃ A c, w.heap[q]? = some (.cells #[.slice A p.length c] 27 (0, 0)) ∧ w.ownsRow (q + 1) 37 2 (.slice A p.length c) p.length (flat p)

theorem two_new (w : World) (r k : Int) (t : Nat) : ∀ j u, [I r, I k][j]? = some u → (w.alloc (.cells #[I r, I k] t)).cell? ((⟨w.heap.size, 0, none⟩ : Addr).add j) = some u := by
  intro j u hu
  rw [addn, Nat.zero_add]
  have := heap_alloc_new w (.cells #[I r, I k] t)
  rw [cell_of_row _ _ _ _ _ _ this]
  simpa using hu
theorem two_one (r k : Int) : ∀ u ∈ [I r, I k], u.oneCell' = true := by
  intro u hu
  simp at hu
  rcases hu with rfl | rfl <;> rfl
theorem var_after {w w' : World} {q t : Nat} {v u : Value} {base e s n : Nat} {xs : List Value} {o : Obj} (h : w.heap[q]? = some (.cells #[v] t (0, 0))) (ho : w.ownsRow base e s u n xs) (hb : q < base) (hg : (w.alloc o).grownBy w' u.ownBlock) :
    w'.heap[q]? = some (.cells #[v] t (0, 0)) := by
  have hlt : q < w.heap.size := by
    rcases Nat.lt_or_ge q w.heap.size with hlt | hge
    · exact hlt
    · rw [Array.getElem?_eq_none hge] at h; cases h
  rw [hg.block q (by simp; omega) ?_, Below.heap_alloc _ _ _ hlt]
  · exact h
  · intro e2
    have := own_ge1 ho q e2.symm
    omega

set_option maxRecDepth 100000 in
set_option maxHeartbeats 1000000 in
theorem path1_any (r k : Int) (q : Nat) (p : PL) (w : World) (h : Sv w q p) (hp : p.length ≤ 10000) :
    Calls Tryd.prog 34 #[I r, I k, .pointer (some ⟨q, 0, none⟩)] w fun e w' => e = .returned (.tuple #[]) ∧ Below q w w' ∧ Sv w' q (p ++ [(r, k)]) := by
  obtain ⟨A, c, hq, hown⟩ := h
  obtain ⟨n, hn⟩ : ∃ n, p.length = n := ⟨_, rfl⟩
  rw [hn] at hq hown hp
  have HN := Lib.hid hn
  clear hn
  have hlt : q < w.heap.size := by
    rcases Nat.lt_or_ge q w.heap.size with hlt | hge
    · exact hlt
    · rw [Array.getElem?_eq_none hge] at hq; cases hq
  have hcell : w.cell? ⟨q, 0, none⟩ = some (.slice A n c) := by simp [World.cell?, hq]
  have HQ := Lib.hid hq
  have HOWN := Lib.hid hown
  obtain ⟨i0, hi, hz0, hz1, hz2⟩ := info_parts stop_info
  have HI := Lib.hid hi
  have HZ0 := Lib.hid hz0
  have HZ1 := Lib.hid hz1
  have HZ2 := Lib.hid hz2
  clear hi hz0 hz1 hz2 hq hown
  go_enter Tryd.func34, Tryd.ntmps34
  go_wp2_with (first
    | (at_builtin
       refine wpList_append_lies _ rfl (.tmp 5) (.tmp 9) 27 rfl (q + 1) 37 i0 _ 2 16 Tryd.underlying27 HI.out HZ0.out HZ1.out HZ2.out rfl (by omega) (.slice A n c) n (flat p) rfl (own_below HOWN.out ((Below.refl _ _).alloc (Nat.le_refl _) _)) ⟨w.heap.size, 0, none⟩ 1 1 [I r, I k] rfl rfl (two_new w r k _) (two_one r k) (by omega) (by unfold maxLen; omega) (by omega) (by simp; omega) (w.heap.size + 1) (by simp) ?_
       intro g2 cap2 w2 hown2 hgrow2 hat2 hlt2
       have hq2 := var_after HQ.out HOWN.out (by omega) hgrow2
       have hcell2 : w2.cell? ⟨q, 0, none⟩ = some (.slice A n c) := by simp [World.cell?, hq2]
       have hfz2 : w2.frozen? ⟨q, 0, none⟩ = false := by simp [World.frozen?, hq2]
       have HQ2 := Lib.hid hq2
       clear hq2)
    | fail)
  go_end0
  refine ⟨rfl, ?_, ?_⟩
  · refine Below.setCell (Below.grown ((Below.refl _ _).alloc (by omega) _) hgrow2 (by simp; omega) ?_) (by exact Nat.le_refl _) _
    intro k' hk'
    have := own_ge1 HOWN.out k' hk'
    omega
  · refine ⟨some ⟨g2, 0, none⟩, cap2, ?_, ?_⟩
    · have := cells_set' (cs := [.slice A n c]) HQ2.out 0 (.slice (some ⟨g2, 0, none⟩) (n + 1) cap2)
      simpa [HN.out] using this
    · have := own_set hown2 (p := ⟨q, 0, none⟩) (by show q < q + 1; omega) (.slice (some ⟨g2, 0, none⟩) (n + 1) cap2)
      rw [flat_append]
      simpa [HN.out, flat] using this
end Go.Proofs.YtoebnfogkmkomaaDoor
