/-
  PAIRS IN A ROW OF THE CALL'S OWN: what make and copy do to it. Nothing of the program.
-/
import Derived.Test.YtfmdpmebllepeaaSPureAll
import Derived.Laws.CopyOwn
import Derived.Laws.MakeOwn
namespace Go.Proofs.Ytfmdpmebllepeaa
open Go.RowKit

def flat : PL → List Value
  | [] => []
  | p :: t => I p.1 :: I p.2 :: flat t
theorem flat_length (l : PL) : (flat l).length = l.length * 2 := by induction l <;> simp [flat, *]; omega
theorem flat_at (l : PL) (i : Nat) (h : i < l.length) : (flat l)[i * 2]? = some (I l[i].1) ∧ (flat l)[i * 2 + 1]? = some (I l[i].2) := by
  induction l generalizing i with
  | nil => simp at h
  | cons p t ih => cases i with
    | zero => simp [flat]
    | succ i =>
      rw [show (i + 1) * 2 = i * 2 + 1 + 1 by omega]
      have := ih i (by simpa using h)
      simpa [flat] using this
def PB (w : World) (g t : Nat) (L : PL) : Prop := w.heap[g]? = some (.cells (flat L).toArray t (0, 0))
theorem PB.lt {w : World} {g t : Nat} {L : PL} (h : PB w g t L) : g < w.heap.size := by
  rcases Nat.lt_or_ge g w.heap.size with hlt | hge
  · exact hlt
  · unfold PB at h; rw [Array.getElem?_eq_none hge] at h; cases h
theorem PB.cell {w : World} {g t : Nat} {L : PL} (h : PB w g t L) (i : Nat) : w.cell? ⟨g, i, none⟩ = (flat L)[i]? := by
  unfold PB at h
  simp [World.cell?, h]
theorem PB.frozen {w : World} {g t : Nat} {L : PL} (h : PB w g t L) (i : Nat) : w.frozen? ⟨g, i, none⟩ = false := by
  unfold PB at h
  simp [World.frozen?, h]
theorem PB.ps {w : World} {g t c : Nat} {L : PL} (h : PB w g t L) (hc : L.length ≤ c) : PS w (some ⟨g, 0, none⟩) L.length c L := by
  refine ⟨rfl, hc, fun _ => ⟨g, 0, rfl, h.lt, fun i hi j hj => ?_⟩⟩
  rw [h.cell]
  have := flat_at L i hi
  have hl : L[i]?.getD (0, 0) = L[i] := by simp [List.getElem?_eq_getElem hi]
  rcases (show j = 0 ∨ j = 1 by omega) with rfl | rfl
  · simpa [pf, hl] using this.1
  · simpa [pf, hl] using this.2
theorem PB.below {w w' : World} {g t B : Nat} {L : PL} (h : PB w g t L) (hb : Below B w w') (hg : g < B) : PB w' g t L := (hb.block g hg).trans h
theorem PB.new (w : World) (t : Nat) (L : PL) : PB (w.alloc (.cells (flat L).toArray t)) w.heap.size t L := heap_alloc_new w _
theorem PB.far {w : World} {g t : Nat} {L : PL} (h : PB w g t L) {p : Addr} (hp : p.block ≠ g) (u : Value) : PB (w.setCell p u) g t L := (Below.heap_setCell w p u g (fun e => hp e.symm)).trans h
def Src (w : World) (sp : Option Addr) (m : Nat) (xs : PL) : Prop := xs.length = m ∧ (0 < m → ∃ ad, sp = some ad ∧ ∀ j v, (flat xs)[j]? = some v → w.cell? (ad.add j) = some v)
theorem addn (b off n : Nat) : (⟨b, off, none⟩ : Addr).add n = ⟨b, off + n, none⟩ := by unfold Addr.add; split <;> simp_all
theorem PS.cells {w : World} {n c : Nat} {A : Option Addr} {l : PL} (h : PS w A n c l) (hn : 0 < n) : ∃ b off, A = some ⟨b, off, none⟩ ∧ b < w.heap.size ∧ ∀ j v, (flat l)[j]? = some v → w.cell? ⟨b, off + j, none⟩ = some v := by
  obtain ⟨b, off, e, hb, hc⟩ := h.rd.2 hn
  refine ⟨b, off, e, hb, fun j v hv => ?_⟩
  have hj : j < l.length * 2 := by
    rcases Nat.lt_or_ge j (l.length * 2) with h1 | h1
    · exact h1
    · rw [List.getElem?_eq_none (by rw [flat_length]; exact h1)] at hv; cases hv
  have hl := h.len
  have hi : j / 2 < l.length := by omega
  have hf := flat_at l (j / 2) hi
  have hx := hc (j / 2) (by omega) (j % 2) (by omega)
  rw [show j / 2 * 2 + j % 2 = j by omega] at hx
  rw [hx, ← hv]
  have hg : l[j / 2]?.getD (0, 0) = l[j / 2] := by simp [List.getElem?_eq_getElem hi]
  rcases (show j % 2 = 0 ∨ j % 2 = 1 by omega) with h2 | h2
  · rw [show j = j / 2 * 2 by omega, hf.1, show j / 2 * 2 / 2 = j / 2 by omega, show j / 2 * 2 % 2 = 0 by omega]; simp [pf, hg]
  · rw [show j = j / 2 * 2 + 1 by omega, hf.2, show (j / 2 * 2 + 1) / 2 = j / 2 by omega, show (j / 2 * 2 + 1) % 2 = 1 by omega]; simp [pf, hg]
theorem PS.src {w : World} {n c : Nat} {A : Option Addr} {l : PL} (h : PS w A n c l) : Src w A n l := by
  refine ⟨h.len, fun hn => ?_⟩
  obtain ⟨b, off, e, _, hc⟩ := h.cells hn
  exact ⟨_, e, fun j v hv => by rw [addn]; exact hc j v hv⟩
theorem Src.below {w w' : World} {sp : Option Addr} {m : Nat} {xs : PL} (h : Src w sp m xs) (hb : Below w.heap.size w w') (hlt : ∀ ad, sp = some ad → ad.block < w.heap.size) : Src w' sp m xs :=
  ⟨h.1, fun hm => by
    obtain ⟨ad, e, hc⟩ := h.2 hm
    refine ⟨ad, e, fun j v hv => (hb.cell ?_).trans (hc j v hv)⟩
    have := hlt ad e
    unfold Addr.add
    split <;> exact this⟩

end Go.Proofs.Ytfmdpmebllepeaa
