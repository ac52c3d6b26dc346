/-
  ANSWERS IN A ROW OF THE CALL'S OWN; a slice of ops. Nothing of the program.
-/
import Derived.Test.YtolfpjleckckiaaEqAns
import Derived.Laws.MakeOwn
import Derived.Laws.CopyOwn
namespace Go.Proofs.Ytolfpjleckckiaa
open Go.RowKit

def flatA : List An → List Value
  | [] => []
  | a :: t => I a.e :: I a.k :: I a.v :: .bool a.b :: flatA t
theorem flatA_length (l : List An) : (flatA l).length = l.length * 4 := by induction l <;> simp [flatA, *]; omega
theorem flatA_append (l m : List An) : flatA (l ++ m) = flatA l ++ flatA m := by induction l <;> simp [flatA, *]
theorem flatA_at (l : List An) (i : Nat) (h : i < l.length) : (flatA l)[i * 4]? = some (I l[i].e) ∧ (flatA l)[i * 4 + 1]? = some (I l[i].k) ∧ (flatA l)[i * 4 + 2]? = some (I l[i].v) ∧ (flatA l)[i * 4 + 3]? = some (.bool l[i].b) := by
  induction l generalizing i with
  | nil => simp at h
  | cons p t ih => cases i with
    | zero => simp [flatA]
    | succ i =>
      rw [show (i + 1) * 4 = i * 4 + 1 + 1 + 1 + 1 by omega]
      have := ih i (by simpa using h)
      simpa [flatA] using this
theorem flatA_set (l : List An) (i : Nat) (a : An) (h : i < l.length) : ((((flatA l).set (i * 4) (I a.e)).set (i * 4 + 1) (I a.k)).set (i * 4 + 2) (I a.v)).set (i * 4 + 3) (.bool a.b) = flatA (l.set i a) := by
  induction l generalizing i with
  | nil => simp at h
  | cons p t ih => cases i with
    | zero => simp [flatA]
    | succ i =>
      rw [show (i + 1) * 4 + 3 = i * 4 + 3 + 1 + 1 + 1 + 1 by omega, show (i + 1) * 4 + 2 = i * 4 + 2 + 1 + 1 + 1 + 1 by omega, show (i + 1) * 4 + 1 = i * 4 + 1 + 1 + 1 + 1 + 1 by omega, show (i + 1) * 4 = i * 4 + 1 + 1 + 1 + 1 by omega]
      have := ih i (by simpa using h)
      simp [flatA, this]
theorem flatA_made (n : Nat) : madeCells #[I 0, I 0, I 0, .bool false] (n * 4) = (flatA (List.replicate n an0)).toArray := by
  apply Array.ext
  · simp [size_madeCells, flatA_length]
  · intro k h1 h2
    simp only [size_madeCells] at h1
    have hb : k / 4 < (List.replicate n an0).length := by simp; omega
    have hf := flatA_at (List.replicate n an0) (k / 4) hb
    simp only [List.getElem_replicate] at hf
    have h3 : k < (flatA (List.replicate n an0)).length := by simpa using h2
    have hk : (flatA (List.replicate n an0))[k]? = some ((madeCells #[I 0, I 0, I 0, .bool false] (n * 4))[k]'(by rw [size_madeCells]; exact h1)) := by
      have : k % 4 = 0 ∨ k % 4 = 1 ∨ k % 4 = 2 ∨ k % 4 = 3 := by omega
      rcases this with h | h | h | h
      · have e : k = k / 4 * 4 := by omega
        rw [show (flatA (List.replicate n an0))[k]? = (flatA (List.replicate n an0))[k / 4 * 4]? by rw [← e], hf.1]; simp [madeCells, h]
      · have e : k = k / 4 * 4 + 1 := by omega
        rw [show (flatA (List.replicate n an0))[k]? = (flatA (List.replicate n an0))[k / 4 * 4 + 1]? by rw [← e], hf.2.1]; simp [madeCells, h]
      · have e : k = k / 4 * 4 + 2 := by omega
        rw [show (flatA (List.replicate n an0))[k]? = (flatA (List.replicate n an0))[k / 4 * 4 + 2]? by rw [← e], hf.2.2.1]; simp [madeCells, h]
      · have e : k = k / 4 * 4 + 3 := by omega
        rw [show (flatA (List.replicate n an0))[k]? = (flatA (List.replicate n an0))[k / 4 * 4 + 3]? by rw [← e], hf.2.2.2]; simp [madeCells, h]
    rw [List.getElem?_eq_getElem h3] at hk
    have := Option.some.inj hk
    simpa using this.symm

/-- block g is just the answers L -/
def QB (w : World) (g t : Nat) (L : List An) : Prop := w.heap[g]? = some (.cells (flatA L).toArray t (0, 0))
theorem QB.lt {w : World} {g t : Nat} {L : List An} (h : QB w g t L) : g < w.heap.size := by
  rcases Nat.lt_or_ge g w.heap.size with hlt | hge
  · exact hlt
  · unfold QB at h; rw [Array.getElem?_eq_none hge] at h; cases h
theorem QB.cell {w : World} {g t : Nat} {L : List An} (h : QB w g t L) (i : Nat) : w.cell? ⟨g, i, none⟩ = (flatA L)[i]? := by
  unfold QB at h
  simp [World.cell?, h]
theorem QB.frozen {w : World} {g t : Nat} {L : List An} (h : QB w g t L) (i : Nat) : w.frozen? ⟨g, i, none⟩ = false := by
  unfold QB at h
  simp [World.frozen?, h]
theorem QB.as_ {w : World} {g t c : Nat} {L : List An} (h : QB w g t L) (hc : L.length ≤ c) : AS w (some ⟨g, 0, none⟩) L.length c L := by
  refine ⟨rfl, hc, fun _ => ⟨g, 0, rfl, h.lt, fun i hi j hj => ?_⟩⟩
  rw [h.cell]
  have := flatA_at L i hi
  have hl : L[i]?.getD an0 = L[i] := by simp [List.getElem?_eq_getElem hi]
  rcases (show j = 0 ∨ j = 1 ∨ j = 2 ∨ j = 3 by omega) with rfl | rfl | rfl | rfl
  · simpa [af, hl] using this.1
  · simpa [af, hl] using this.2.1
  · simpa [af, hl] using this.2.2.1
  · simpa [af, hl] using this.2.2.2
theorem QB.below {w w' : World} {g t B : Nat} {L : List An} (h : QB w g t L) (hb : Below B w w') (hg : g < B) : QB w' g t L := (hb.block g hg).trans h
theorem QB.new (w : World) (t : Nat) (L : List An) : QB (w.alloc (.cells (flatA L).toArray t)) w.heap.size t L := heap_alloc_new w _
theorem QB.alloc {w : World} {g t : Nat} {L : List An} (h : QB w g t L) (o : Obj) : QB (w.alloc o) g t L := (Below.heap_alloc w o g h.lt).trans h
theorem cells_set {w : World} {g t : Nat} {cs : List Value} (h : w.heap[g]? = some (.cells cs.toArray t (0, 0))) (i : Nat) (v : Value) : (w.setCell ⟨g, i, none⟩ v).heap[g]? = some (.cells (cs.set i v).toArray t (0, 0)) := by
  rw [setCell_eq_setRow w g i _ t (0, 0) v h, setRow_heap w g _ _ t (0, 0) h]
  simp
theorem QB.set {w : World} {g t : Nat} {L : List An} (h : QB w g t L) (i : Nat) (a : An) (hi : i < L.length) :
    QB ((((w.setCell ⟨g, i * 4, none⟩ (I a.e)).setCell ⟨g, i * 4 + 1, none⟩ (I a.k)).setCell ⟨g, i * 4 + 2, none⟩ (I a.v)).setCell ⟨g, i * 4 + 3, none⟩ (.bool a.b)) g t (L.set i a) := by
  unfold QB
  rw [← flatA_set L i a hi]
  exact cells_set (cells_set (cells_set (cells_set h _ _) _ _) _ _) _ _

theorem run_makeA {P : Program} (t e : TypeId) (ht : P.underlying t = some (.slice e)) (hi : (P.info? e).map (fun i => (i.zero, i.size, i.bytes)) = some (some (.agg #[I 0, I 0, I 0, .bool false]), 4, 32)) (n : Nat) (hn : n ≤ 1000000) (w : World) :
    (Instr.makeSlice t (.int .i64 (n : Int)) (.int .i64 (n : Int))).run P w = .ok (.slice (some ⟨w.heap.size, 0, none⟩) n n) (w.alloc (.cells (flatA (List.replicate n an0)).toArray e)) := by
  obtain ⟨i, h1, hz, hs, hb⟩ := info_parts hi
  have := run_make (P := P) w t e i _ ht h1 hz .i64 .i64 n n (by omega) (by omega) (by rw [hb]; omega) (by omega)
  rw [this, hs]
  simp only [Int.toNat_natCast, Value.cells]
  rw [flatA_made]

/-- ops -/
abbrev OP := Int × Int × Int
def of_ (l : List OP) (i j : Nat) : Value := I (if j = 0 then (l[i]?.getD (0, 0, 0)).1 else if j = 1 then (l[i]?.getD (0, 0, 0)).2.1 else (l[i]?.getD (0, 0, 0)).2.2)
structure OS (w : World) (A : Option Addr) (n c : Nat) (l : List OP) : Prop where
  len : l.length = n
  rd : Rd w w.heap.size 3 A n c (of_ l)
theorem OS.below {w w' : World} {n c : Nat} {A : Option Addr} {l : List OP} (h : OS w A n c l) (hb : Below w.heap.size w w') : OS w' A n c l := ⟨h.len, h.rd.below hb⟩
theorem OS.at_ {w : World} {n c : Nat} {A : Option Addr} {l : List OP} (h : OS w A n c l) (hn : 0 < n) :
    ∃ b off, A = some ⟨b, off, none⟩ ∧ b < w.heap.size ∧ ∀ i (hi : i < n), w.cell? ⟨b, off + i * 3, none⟩ = some (I (l[i]'(by rw [h.len]; exact hi)).1) ∧ w.cell? ⟨b, off + (i * 3 + 1), none⟩ = some (I (l[i]'(by rw [h.len]; exact hi)).2.1) ∧
      w.cell? ⟨b, off + (i * 3 + 2), none⟩ = some (I (l[i]'(by rw [h.len]; exact hi)).2.2) := by
  obtain ⟨b, off, e, hb, hc⟩ := h.rd.2 hn
  refine ⟨b, off, e, hb, fun i hi => ?_⟩
  have hl : i < l.length := by rw [h.len]; exact hi
  have h0 := hc i hi 0 (by omega)
  have h1 := hc i hi 1 (by omega)
  have h2 := hc i hi 2 (by omega)
  simp [of_, List.getElem?_eq_getElem hl] at h0 h1 h2
  exact ⟨h0, h1, h2⟩

end Go.Proofs.Ytolfpjleckckiaa
