/-
  ROWS OF NUMBERS: n slices of the call's own in one block. Nothing is walked here.
-/
import Derived.Test.YtconegligedniaaInts
namespace Go.Proofs.Ytconegligedniaa
open Go.RowKit

def brAt (vs : List Value) (i : Nat) : Value := vs[i]?.getD (.slice none 0 0)
/-- the block g has n rows of numbers, each of the call's own, none on another -/
structure Tn (n : Nat) (w : World) (base g t : Nat) (vs : List Value) (rows : Nat → List Int) : Prop where
  len : vs.length = n
  low : g < base
  blk : w.heap[g]? = some (.cells vs.toArray t (0, 0))
  own : ∀ i, i < n → OwnI w base (brAt vs i) (rows i)
  ne : ∀ i j b, i < n → j < n → (brAt vs i).ownBlock = some b → (brAt vs j).ownBlock = some b → i = j
theorem Tn.lt {n : Nat} {w : World} {base g t : Nat} {vs : List Value} {rows : Nat → List Int} (h : Tn n w base g t vs rows) : g < w.heap.size := by
  rcases Nat.lt_or_ge g w.heap.size with hlt | hge
  · exact hlt
  · have := h.blk; rw [Array.getElem?_eq_none hge] at this; cases this
theorem Tn.cell {n : Nat} {w : World} {base g t : Nat} {vs : List Value} {rows : Nat → List Int} (h : Tn n w base g t vs rows) (i : Nat) (hi : i < n) : w.cell? ⟨g, i, none⟩ = some (brAt vs i) := by
  have hl := h.len
  simp [World.cell?, h.blk, brAt, List.getElem?_eq_getElem (show i < vs.length by omega)]
theorem Tn.frozen {n : Nat} {w : World} {base g t : Nat} {vs : List Value} {rows : Nat → List Int} (h : Tn n w base g t vs rows) (i : Nat) : w.frozen? ⟨g, i, none⟩ = false := by
  simp [World.frozen?, h.blk]
theorem Tn.below {n : Nat} {w w' : World} {base g t : Nat} {vs : List Value} {rows : Nat → List Int} (h : Tn n w base g t vs rows) (hb : Below w.heap.size w w') : Tn n w' base g t vs rows :=
  ⟨h.len, h.low, (hb.block g h.lt).trans h.blk, fun i hi => own_below (h.own i hi) hb, h.ne⟩
theorem Tn.alloc {n : Nat} {w : World} {base g t : Nat} {vs : List Value} {rows : Nat → List Int} (h : Tn n w base g t vs rows) (o : Obj) : Tn n (w.alloc o) base g t vs rows := h.below ((Below.refl _ _).alloc (Nat.le_refl _) o)
theorem Tn.congr {n : Nat} {w : World} {base g t : Nat} {vs : List Value} {rows rows' : Nat → List Int} (h : Tn n w base g t vs rows) (he : ∀ i, i < n → rows i = rows' i) : Tn n w base g t vs rows' :=
  ⟨h.len, h.low, h.blk, fun i hi => he i hi ▸ h.own i hi, h.ne⟩

theorem bown_set {w : World} {base e s n : Nat} {v : Value} {xs : List Value} (h : w.ownsRow base e s v n xs) {p : Addr} (hp : p.block < base) (u : Value) : (w.setCell p u).ownsRow base e s v n xs := by
  refine ⟨h.1, ?_⟩
  rcases h.2 with h0 | ⟨g, cap, cur, h1, h2, h3, h4⟩
  · exact .inl h0
  · exact .inr ⟨g, cap, cur, h1, h2, (Below.heap_setCell w p u g (by omega)).trans h3, h4⟩
theorem bown_lt1 {w : World} {base e s n : Nat} {v : Value} {xs : List Value} (h : w.ownsRow base e s v n xs) : ∀ g, v.ownBlock = some g → g < w.heap.size := fun g hg => (h.lt g hg).2
theorem brAt_set (vs : List Value) (r i : Nat) (v : Value) (hr : r < vs.length) : brAt (vs.set r v) i = if i = r then v else brAt vs i := by
  unfold brAt
  rw [List.getElem?_set]
  by_cases h : r = i
  · subst h; simp [hr]
  · simp [h, Ne.symm h]
theorem bcells_set' {w : World} {g t : Nat} {cs : List Value} (h : w.heap[g]? = some (.cells cs.toArray t (0, 0))) (i : Nat) (v : Value) : (w.setCell ⟨g, i, none⟩ v).heap[g]? = some (.cells (cs.set i v).toArray t (0, 0)) := by
  rw [setCell_eq_setRow w g i _ t (0, 0) v h, setRow_heap w g _ _ t (0, 0) h]
  simp
/-- a key is appended onto one row -/
theorem Tn.append {n : Nat} {w w' : World} {base g t r : Nat} {vs : List Value} {rows : Nat → List Int} {v' : Value} {key : Int} (h : Tn n w base g t vs rows) (hr : r < n)
    (hown : OwnI w' base v' (rows r ++ [key])) (hg : w.grownBy w' (brAt vs r).ownBlock) (hat : v'.ownBlock = (brAt vs r).ownBlock ∨ v'.ownBlock = some w.heap.size) :
    Tn n (w'.setCell ⟨g, r, none⟩ v') base g t (vs.set r v') (fun i => if i = r then rows r ++ [key] else rows i) := by
  have hl := h.len
  have hlow := h.low
  have keep : ∀ i, i < n → i ≠ r → OwnI w' base (brAt vs i) (rows i) := fun i hi hne => by
    refine World.ownsRow.kept (h.own i hi) hg ?_
    cases hb : (brAt vs i).ownBlock with
    | none => exact .inl rfl
    | some b =>
      right
      intro e
      exact hne (h.ne i r b hi hr hb e.symm)
  have hgb : w'.heap[g]? = some (.cells vs.toArray t (0, 0)) := by
    rw [hg.block g h.lt ?_]
    · exact h.blk
    · intro e
      have := own_ge1 (h.own r hr) g e.symm
      omega
  refine ⟨by simp [hl], hlow, bcells_set' hgb r v', fun i hi => ?_, fun i j b hi hj h1 h2 => ?_⟩
  · rw [brAt_set vs r i v' (by omega)]
    by_cases he : i = r
    · subst he
      simp only [if_true]
      exact bown_set hown (by exact hlow) v'
    · rw [if_neg he, if_neg he]
      exact bown_set (keep i hi he) (by exact hlow) v'
  · rw [brAt_set vs r i v' (by omega)] at h1
    rw [brAt_set vs r j v' (by omega)] at h2
    have new : ∀ i, i < n → i ≠ r → (brAt vs i).ownBlock = some b → v'.ownBlock = some b → False := fun i hi hne e1 e2 => by
      rcases hat with e | e
      · rw [e] at e2
        exact hne (h.ne i r b hi hr e1 e2)
      · rw [e] at e2
        injection e2 with e2
        have := bown_lt1 (h.own i hi) b e1
        omega
    by_cases hi' : i = r
    · by_cases hj' : j = r
      · omega
      · rw [if_pos hi'] at h1
        rw [if_neg hj'] at h2
        exact (new j hj hj' h2 h1).elim
    · by_cases hj' : j = r
      · rw [if_neg hi'] at h1
        rw [if_pos hj'] at h2
        exact (new i hi hi' h1 h2).elim
      · rw [if_neg hi'] at h1
        rw [if_neg hj'] at h2
        exact h.ne i j b hi hj h1 h2

/-- n rows without numbers -/
def noneN (n : Nat) : List Value := List.replicate n (.slice none 0 0)
theorem brAt_none (n i : Nat) : brAt (noneN n) i = .slice none 0 0 := by
  unfold brAt noneN
  rw [List.getElem?_replicate]
  split <;> rfl
theorem Tn.start {n : Nat} {w : World} {base g t : Nat} (hg : g < base) (hb : w.heap[g]? = some (.cells (noneN n).toArray t (0, 0))) : Tn n w base g t (noneN n) (fun _ => []) :=
  ⟨by simp [noneN], hg, hb, fun i _ => by rw [brAt_none]; exact World.ownsRow_nil w base _ 1, fun i j b _ _ h => by rw [brAt_none] at h; cases h⟩

/-- a new row, without numbers, in the place of one that had none -/
theorem Tn.fresh {n : Nat} {w w' : World} {base g t r : Nat} {vs : List Value} {rows : Nat → List Int} {v' : Value} (h : Tn n w base g t vs rows) (hr : r < n) (hb : Below w.heap.size w w')
    (hown : OwnI w' base v' []) (hnew : ∀ b, v'.ownBlock = some b → w.heap.size ≤ b) (h0 : rows r = []) : Tn n (w'.setCell ⟨g, r, none⟩ v') base g t (vs.set r v') rows := by
  have hl := h.len
  have hlow := h.low
  have hbw := h.below hb
  refine ⟨by simp [hl], hlow, bcells_set' hbw.blk r v', fun i hi => ?_, fun i j b hi hj h1 h2 => ?_⟩
  · rw [brAt_set vs r i v' (by omega)]
    by_cases he : i = r
    · subst he
      rw [if_pos rfl, h0]
      exact bown_set hown (by exact hlow) v'
    · rw [if_neg he]
      exact bown_set (hbw.own i hi) (by exact hlow) v'
  · rw [brAt_set vs r i v' (by omega)] at h1
    rw [brAt_set vs r j v' (by omega)] at h2
    have new : ∀ i, i < n → (brAt vs i).ownBlock = some b → v'.ownBlock = some b → False := fun i hi e1 e2 => by
      have := bown_lt1 (h.own i hi) b e1
      have := hnew b e2
      omega
    by_cases hi' : i = r
    · by_cases hj' : j = r
      · omega
      · rw [if_pos hi'] at h1
        rw [if_neg hj'] at h2
        exact (new j hj h2 h1).elim
    · by_cases hj' : j = r
      · rw [if_neg hi'] at h1
        rw [if_pos hj'] at h2
        exact (new i hi h1 h2).elim
      · rw [if_neg hi'] at h1
        rw [if_neg hj'] at h2
        exact h.ne i j b hi hj h1 h2

theorem Tn.after {n : Nat} {w w' : World} {base g t r : Nat} {vs : List Value} {rows : Nat → List Int} {v : Value} {o : Obj} (h : Tn n w base g t vs rows) (hr : r < n) (hv : brAt vs r = v) (hg : (w.alloc o).grownBy w' v.ownBlock) :
    w'.cell? ⟨g, r, none⟩ = some v ∧ w'.frozen? ⟨g, r, none⟩ = false := by
  subst hv
  have h1 := h.alloc o
  have hb : w'.heap[g]? = some (.cells vs.toArray t (0, 0)) := by
    rw [hg.block g h1.lt ?_]
    · exact h1.blk
    · intro e
      have := own_ge1 (h.own r hr) g e.symm
      have := h.low
      omega
  have hl := h.len
  exact ⟨by simp [World.cell?, hb, brAt, List.getElem?_eq_getElem (show r < vs.length by omega)], by simp [World.frozen?, hb]⟩

end Go.Proofs.Ytconegligedniaa
