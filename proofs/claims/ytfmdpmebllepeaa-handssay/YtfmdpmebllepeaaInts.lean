/-
  ROWS OF NUMBERS of the call's own; hedgkeep.ok.
-/
import Derived.Test.YtfmdpmebllepeaaEqInt
import Derived.Maps.AppendAt
import Derived.OwnWalk
namespace Go.Proofs.Ytfmdpmebllepeaa
open Go.RowKit

def IB (w : World) (g t : Nat) (L : List Int) : Prop := w.heap[g]? = some (.cells (L.map I).toArray t (0, 0))
theorem IB.lt {w : World} {g t : Nat} {L : List Int} (h : IB w g t L) : g < w.heap.size := by
  rcases Nat.lt_or_ge g w.heap.size with hlt | hge
  · exact hlt
  · unfold IB at h; rw [Array.getElem?_eq_none hge] at h; cases h
theorem IB.cell {w : World} {g t : Nat} {L : List Int} (h : IB w g t L) (i : Nat) : w.cell? ⟨g, i, none⟩ = L[i]?.map I := by
  unfold IB at h
  simp [World.cell?, h]
theorem IB.frozen {w : World} {g t : Nat} {L : List Int} (h : IB w g t L) (i : Nat) : w.frozen? ⟨g, i, none⟩ = false := by
  unfold IB at h
  simp [World.frozen?, h]
theorem IB.is_ {w : World} {g t c : Nat} {L : List Int} (h : IB w g t L) (hc : L.length ≤ c) : IS w (some ⟨g, 0, none⟩) L.length c L := by
  refine ⟨rfl, hc, fun _ => ⟨g, 0, rfl, h.lt, fun i hi j hj => ?_⟩⟩
  obtain rfl : j = 0 := by omega
  rw [h.cell]
  simp [List.getElem?_eq_getElem hi]
theorem IB.below {w w' : World} {g t B : Nat} {L : List Int} (h : IB w g t L) (hb : Below B w w') (hg : g < B) : IB w' g t L := (hb.block g hg).trans h
theorem IB.new (w : World) (t : Nat) (L : List Int) : IB (w.alloc (.cells (L.map I).toArray t)) w.heap.size t L := heap_alloc_new w _
theorem IB.set {w : World} {g t : Nat} {L : List Int} (h : IB w g t L) (i : Nat) (v : Int) : IB (w.setCell ⟨g, i, none⟩ (I v)) g t (L.set i v) := by
  unfold IB at *
  rw [setCell_eq_setRow w g i _ t (0, 0) (I v) h, setRow_heap w g _ _ t (0, 0) h]
  simp [List.map_set]
theorem int_info : (Try.prog.info? 3).map (fun i => (i.zero, i.size, i.bytes)) = some (some (I 0), 1, 8) := by kernel_rfl
def OwnI (w : World) (base : Nat) (v : Value) (L : List Int) : Prop := w.ownsRow base 3 1 v L.length (L.map I)
theorem own_below {w w' : World} {base e s n : Nat} {v : Value} {xs : List Value} (h : w.ownsRow base e s v n xs) (hb : Below w.heap.size w w') : w'.ownsRow base e s v n xs := by
  refine ⟨h.1, ?_⟩
  rcases h.2 with h0 | ⟨g, cap, cur, h1, h2, h3, h4⟩
  · exact .inl h0
  · refine .inr ⟨g, cap, cur, h1, h2, ?_, h4⟩
    rw [hb.block g ?_]
    · exact h3
    · rcases Nat.lt_or_ge g w.heap.size with hlt | hge
      · exact hlt
      · rw [Array.getElem?_eq_none hge] at h3; cases h3
theorem own_ge1 {w : World} {base e s n : Nat} {v : Value} {xs : List Value} (h : w.ownsRow base e s v n xs) : ∀ g, v.ownBlock = some g → base ≤ g := by
  intro g hg
  rcases h.2 with ⟨rfl, _⟩ | ⟨g', cap, cur, rfl, hb, _⟩
  · simp [Value.ownBlock] at hg
  · simp [Value.ownBlock] at hg; omega
theorem own_mono1 {w : World} {B B' e s n : Nat} {v : Value} {xs : List Value} (h : w.ownsRow B e s v n xs) (hB : B' ≤ B) : w.ownsRow B' e s v n xs := by
  refine ⟨h.1, ?_⟩
  rcases h.2 with h0 | ⟨g, cap, cur, h1, h2, h3⟩
  · exact .inl h0
  · exact .inr ⟨g, cap, cur, h1, by omega, h3⟩
theorem OwnI.is_ {w : World} {base : Nat} {v : Value} {L : List Int} (h : OwnI w base v L) : ∃ A c, v = .slice A L.length c ∧ IS w A L.length c L ∧ ∀ ad, A = some ad → base ≤ ad.block := by
  rcases h.2 with ⟨rfl, h0⟩ | ⟨g, cap, cur, rfl, hb, hg, hnc, _, hsz, htk⟩
  · have hl : L = [] := List.eq_nil_of_length_eq_zero h0
    subst hl
    exact ⟨none, 0, rfl, ⟨rfl, Rd.none_⟩, fun _ h => by cases h⟩
  · refine ⟨_, cap, rfl, ⟨rfl, hnc, fun _ => ⟨g, 0, rfl, ?_, fun i hi j hj => ?_⟩⟩, fun ad h => by cases h; exact hb⟩
    · rcases Nat.lt_or_ge g w.heap.size with hlt | hge
      · exact hlt
      · rw [Array.getElem?_eq_none hge] at hg; cases hg
    · obtain rfl : j = 0 := by omega
      rw [cell_of_row _ _ _ _ _ _ hg]
      have : (L.map I)[i]? = some (I L[i]) := by simp [List.getElem?_eq_getElem hi]
      rw [← htk, List.getElem?_take, if_pos (by omega)] at this
      simpa [List.getElem?_eq_getElem hi] using this
theorem IS.drop {w : World} {n c c' : Nat} {A : Option Addr} {l : List Int} (h : IS w A n c l) (k : Nat) (hk : k ≤ n) (sp : Option Addr) (hs : k < n → ∀ b off, A = some ⟨b, off, none⟩ → sp = some ⟨b, off + k, none⟩) (hc' : n - k ≤ c') : IS w sp (n - k) c' (l.drop k) := by
  refine ⟨by simp [h.len], hc', fun h0 => ?_⟩
  obtain ⟨b, off, e, hb, hc⟩ := h.rd.2 (by omega)
  refine ⟨b, off + k, hs (by omega) b off e, hb, fun i hi j hj => ?_⟩
  have := hc (k + i) (by omega) j hj
  rw [show off + ((k + i) * 1 + j) = off + k + (i * 1 + j) by omega] at this
  rw [this]
  simp [List.getElem?_drop]
theorem IS.take {w : World} {n c : Nat} {A : Option Addr} {l : List Int} (h : IS w A n c l) (k : Nat) (hk : k ≤ n) : IS w A k c (l.take k) := by
  refine ⟨by simp [h.len]; omega, by have := h.rd.1; omega, fun h0 => ?_⟩
  obtain ⟨b, off, e, hb, hc⟩ := h.rd.2 (by omega)
  refine ⟨b, off, e, hb, fun i hi j hj => ?_⟩
  rw [hc i (by omega) j hj]
  simp [List.getElem?_take, hi]
theorem IS.alloc {w : World} {n c : Nat} {A : Option Addr} {l : List Int} (h : IS w A n c l) (o : Obj) : IS (w.alloc o) A n c l := h.below ((Below.refl _ _).alloc (Nat.le_refl _) o)

theorem one_I (k : Int) : ∀ u ∈ [I k], u.oneCell' = true := by
  intro u hu
  simp at hu
  subst hu
  rfl

end Go.Proofs.Ytfmdpmebllepeaa
