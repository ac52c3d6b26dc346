/-
  PAIRS IN A ROW OF THE CALL'S OWN: what make and copy do to it. Nothing of the program.
-/
import Derived.Test.YtpnjnedfcdppaaaGreatDoorOSpotsAll
import Derived.Laws.CopyOwn
import Derived.Laws.MakeOwn
namespace Go.Proofs.YtpnjnedfcdppaaaGreatDoor
open Go.RowKit

def flat : PL → List Value
  | [] => []
  | p :: t => I p.1 :: I p.2 :: flat t
theorem flat_length (l : PL) : (flat l).length = l.length * 2 := by induction l <;> simp [flat, *]; omega
theorem flat_append (l m : PL) : flat (l ++ m) = flat l ++ flat m := by induction l <;> simp [flat, *]
theorem flat_take (l : PL) (k : Nat) : (flat l).take (k * 2) = flat (l.take k) := by
  induction l generalizing k with
  | nil => simp [flat]
  | cons p t ih => cases k with
    | zero => simp [flat]
    | succ k => rw [show (k + 1) * 2 = k * 2 + 1 + 1 by omega]; simp [flat, ih]
theorem flat_drop (l : PL) (k : Nat) : (flat l).drop (k * 2) = flat (l.drop k) := by
  induction l generalizing k with
  | nil => simp [flat]
  | cons p t ih => cases k with
    | zero => simp [flat]
    | succ k => rw [show (k + 1) * 2 = k * 2 + 1 + 1 by omega]; simp [flat, ih]
theorem flat_at (l : PL) (i : Nat) (h : i < l.length) : (flat l)[i * 2]? = some (I l[i].1) ∧ (flat l)[i * 2 + 1]? = some (I l[i].2) := by
  induction l generalizing i with
  | nil => simp at h
  | cons p t ih => cases i with
    | zero => simp [flat]
    | succ i =>
      rw [show (i + 1) * 2 = i * 2 + 1 + 1 by omega]
      have := ih i (by simpa using h)
      simpa [flat] using this
theorem flat_one (l : PL) : ∀ v ∈ flat l, v.oneCell' = true := by
  induction l with
  | nil => simp [flat]
  | cons p t ih =>
    intro v hv
    simp [flat] at hv
    rcases hv with rfl | rfl | hv
    · rfl
    · rfl
    · exact ih v hv
theorem flat_made (n : Nat) : madeCells #[I 0, I 0] (n * 2) = (flat (List.replicate n (0, 0))).toArray := by
  apply Array.ext
  · simp [size_madeCells, flat_length]
  · intro k h1 h2
    simp only [size_madeCells] at h1
    have hb : k / 2 < (List.replicate n ((0 : Int), (0 : Int))).length := by simp; omega
    have hf := flat_at (List.replicate n (0, 0)) (k / 2) hb
    simp only [List.getElem_replicate] at hf
    have hz : (madeCells #[I 0, I 0] (n * 2))[k] = I 0 := by
      have : k % 2 = 0 ∨ k % 2 = 1 := by omega
      rcases this with h | h <;> simp [madeCells, h]
    rw [hz]
    have hk : (flat (List.replicate n (0, 0)))[k]? = some (I 0) := by
      have : k % 2 = 0 ∨ k % 2 = 1 := by omega
      rcases this with h | h
      · rw [show k = k / 2 * 2 by omega]; exact hf.1
      · rw [show k = k / 2 * 2 + 1 by omega]; exact hf.2
    have h3 : k < (flat (List.replicate n (0, 0))).length := by simpa using h2
    rw [List.getElem?_eq_getElem h3] at hk
    have := Option.some.inj hk
    simpa using this.symm
theorem flat_set1 (l : PL) (i : Nat) (v : Int) (h : i < l.length) : (flat l).set (i * 2 + 1) (I v) = flat (l.set i (l[i].1, v)) := by
  induction l generalizing i with
  | nil => simp at h
  | cons p t ih => cases i with
    | zero => simp [flat]
    | succ i =>
      rw [show (i + 1) * 2 + 1 = i * 2 + 1 + 1 + 1 by omega]
      have := ih i (by simpa using h)
      simp [flat, this]
theorem flat_set2 (l : PL) (i : Nat) (k v : Int) (h : i < l.length) : ((flat l).set (i * 2) (I k)).set (i * 2 + 1) (I v) = flat (l.set i (k, v)) := by
  induction l generalizing i with
  | nil => simp at h
  | cons p t ih => cases i with
    | zero => simp [flat]
    | succ i =>
      rw [show (i + 1) * 2 + 1 = i * 2 + 1 + 1 + 1 by omega, show (i + 1) * 2 = i * 2 + 1 + 1 by omega]
      have := ih i (by simpa using h)
      simp [flat, this]

def PB (w : World) (g t : Nat) (L : PL) : Prop := w.heap[g]? = some (.cells (flat L).toArray t (0, 0))
theorem PB.lt {w : World} {g t : Nat} {L : PL} (h : PB w g t L) : g < w.heap.size := by
  rcases Nat.lt_or_ge g w.heap.size with hlt | hge
  · exact hlt
  · unfold PB at h; rw [Array.getElem?_eq_none hge] at h; cases h
theorem PB.cell {w : World} {g t : Nat} {L : PL} (h : PB w g t L) (i : Nat) : w.cell? ⟨g, i, none⟩ = (flat L)[i]? := by
  unfold PB at h
  simp [World.cell?, h]
theorem PB.frozen {w : World} {g t : Nat} {L : PL} (h : PB w g t L) (i : Nat) : w.frozen? ⟨g, i, none⟩ = false := by
  unfold PB at h
  simp [World.frozen?, h]
theorem PB.ps {w : World} {g t c : Nat} {L : PL} (h : PB w g t L) (hc : L.length ≤ c) : PS w (some ⟨g, 0, none⟩) L.length c L := by
  refine ⟨rfl, hc, fun _ => ⟨g, 0, rfl, h.lt, fun i hi j hj => ?_⟩⟩
  rw [h.cell]
  have := flat_at L i hi
  have hl : L[i]?.getD (0, 0) = L[i] := by simp [List.getElem?_eq_getElem hi]
  rcases (show j = 0 ∨ j = 1 by omega) with rfl | rfl
  · simpa [pf, hl] using this.1
  · simpa [pf, hl] using this.2
theorem PB.below {w w' : World} {g t B : Nat} {L : PL} (h : PB w g t L) (hb : Below B w w') (hg : g < B) : PB w' g t L := (hb.block g hg).trans h
theorem PB.new (w : World) (t : Nat) (L : PL) : PB (w.alloc (.cells (flat L).toArray t)) w.heap.size t L := heap_alloc_new w _
theorem PB.set2 {w : World} {g t : Nat} {L : PL} (h : PB w g t L) (i : Nat) (k v : Int) (hi : i < L.length) : PB ((w.setCell ⟨g, i * 2, none⟩ (I k)).setCell ⟨g, i * 2 + 1, none⟩ (I v)) g t (L.set i (k, v)) := by
  have h1 := setCell_eq_setRow w g (i * 2) _ t (0, 0) (I k) h
  have h2 := setRow_heap w g _ ((flat L).toArray.setIfInBounds (i * 2) (I k)) t (0, 0) h
  rw [h1]
  have h3 := setCell_eq_setRow (w.setRow g ((flat L).toArray.setIfInBounds (i * 2) (I k))) g (i * 2 + 1) _ t (0, 0) (I v) h2
  rw [h3]
  have h4 := setRow_heap (w.setRow g ((flat L).toArray.setIfInBounds (i * 2) (I k))) g _ (((flat L).toArray.setIfInBounds (i * 2) (I k)).setIfInBounds (i * 2 + 1) (I v)) t (0, 0) h2
  unfold PB
  rw [h4, ← flat_set2 L i k v hi]
  simp
theorem PB.set1 {w : World} {g t : Nat} {L : PL} (h : PB w g t L) (i : Nat) (v : Int) (hi : i < L.length) : PB (w.setCell ⟨g, i * 2 + 1, none⟩ (I v)) g t (L.set i (L[i].1, v)) := by
  have h1 := setCell_eq_setRow w g (i * 2 + 1) _ t (0, 0) (I v) h
  rw [h1]
  have h4 := setRow_heap w g _ ((flat L).toArray.setIfInBounds (i * 2 + 1) (I v)) t (0, 0) h
  unfold PB
  rw [h4, ← flat_set1 L i v hi]
  simp

theorem PB.far {w : World} {g t : Nat} {L : PL} (h : PB w g t L) {p : Addr} (hp : p.block ≠ g) (u : Value) : PB (w.setCell p u) g t L := (Below.heap_setCell w p u g (fun e => hp e.symm)).trans h
def Src (w : World) (sp : Option Addr) (m : Nat) (xs : PL) : Prop := xs.length = m ∧ (0 < m → ∃ ad, sp = some ad ∧ ∀ j v, (flat xs)[j]? = some v → w.cell? (ad.add j) = some v)
theorem addn (b off n : Nat) : (⟨b, off, none⟩ : Addr).add n = ⟨b, off + n, none⟩ := by unfold Addr.add; split <;> simp_all
theorem PS.cells {w : World} {n c : Nat} {A : Option Addr} {l : PL} (h : PS w A n c l) (hn : 0 < n) : ∃ b off, A = some ⟨b, off, none⟩ ∧ b < w.heap.size ∧ ∀ j v, (flat l)[j]? = some v → w.cell? ⟨b, off + j, none⟩ = some v := by
  obtain ⟨b, off, e, hb, hc⟩ := h.rd.2 hn
  refine ⟨b, off, e, hb, fun j v hv => ?_⟩
  have hj : j < l.length * 2 := by
    rcases Nat.lt_or_ge j (l.length * 2) with h1 | h1
    · exact h1
    · rw [List.getElem?_eq_none (by rw [flat_length]; exact h1)] at hv; cases hv
  have hl := h.len
  have hi : j / 2 < l.length := by omega
  have hf := flat_at l (j / 2) hi
  have hx := hc (j / 2) (by omega) (j % 2) (by omega)
  rw [show j / 2 * 2 + j % 2 = j by omega] at hx
  rw [hx, ← hv]
  have hg : l[j / 2]?.getD (0, 0) = l[j / 2] := by simp [List.getElem?_eq_getElem hi]
  rcases (show j % 2 = 0 ∨ j % 2 = 1 by omega) with h2 | h2
  · rw [show j = j / 2 * 2 by omega, hf.1, show j / 2 * 2 / 2 = j / 2 by omega, show j / 2 * 2 % 2 = 0 by omega]; simp [pf, hg]
  · rw [show j = j / 2 * 2 + 1 by omega, hf.2, show (j / 2 * 2 + 1) / 2 = j / 2 by omega, show (j / 2 * 2 + 1) % 2 = 1 by omega]; simp [pf, hg]
theorem PS.src {w : World} {n c : Nat} {A : Option Addr} {l : PL} (h : PS w A n c l) : Src w A n l := by
  refine ⟨h.len, fun hn => ?_⟩
  obtain ⟨b, off, e, _, hc⟩ := h.cells hn
  exact ⟨_, e, fun j v hv => by rw [addn]; exact hc j v hv⟩
theorem PS.srcTake {w : World} {n c : Nat} {A : Option Addr} {l : PL} (h : PS w A n c l) (k : Nat) (hk : k ≤ n) : Src w A k (l.take k) := by
  refine ⟨by simp [h.len]; omega, fun hn => ?_⟩
  obtain ⟨b, off, e, _, hc⟩ := h.cells (by omega)
  refine ⟨_, e, fun j v hv => ?_⟩
  rw [addn]
  refine hc j v ?_
  rw [← flat_take, List.getElem?_take] at hv
  split at hv
  · exact hv
  · cases hv
theorem PS.srcDrop {w : World} {n c : Nat} {A : Option Addr} {l : PL} (h : PS w A n c l) (k : Nat) (hk : k ≤ n) (sp : Option Addr) (hs : k < n → ∀ b off, A = some ⟨b, off, none⟩ → sp = some ⟨b, off + k * 2, none⟩) : Src w sp (n - k) (l.drop k) := by
  refine ⟨by simp [h.len], fun hn => ?_⟩
  obtain ⟨b, off, e, _, hc⟩ := h.cells (by omega)
  refine ⟨_, hs (by omega) b off e, fun j v hv => ?_⟩
  rw [addn, Nat.add_assoc]
  refine hc _ v ?_
  rw [← flat_drop, List.getElem?_drop] at hv
  exact hv
theorem Src.below {w w' : World} {sp : Option Addr} {m : Nat} {xs : PL} (h : Src w sp m xs) (hb : Below w.heap.size w w') (hlt : ∀ ad, sp = some ad → ad.block < w.heap.size) : Src w' sp m xs :=
  ⟨h.1, fun hm => by
    obtain ⟨ad, e, hc⟩ := h.2 hm
    refine ⟨ad, e, fun j v hv => (hb.cell ?_).trans (hc j v hv)⟩
    have := hlt ad e
    unfold Addr.add
    split <;> exact this⟩

def cop (L : PL) (k : Nat) (xs : PL) (m : Nat) : PL := L.take k ++ (xs.take m ++ L.drop (k + m))

theorem run_copyP {P : Program} (w : World) (T ty elem : TypeId) (hu : P.underlying T = some (.slice elem)) (hsz : (P.info? elem).map (·.size) = some 2)
    (dp sp : Option Addr) (dLen dCap sLen sCap g k t : Nat) (L xs : PL) (hg : PB w g t L) (hx : Src w sp sLen xs) (hfit : k + dLen ≤ L.length) (hdp : 0 < dLen → dp = some ⟨g, k * 2, none⟩) :
    ∃ w', (Builtin.copy_ #[T, T] ty #[.slice dp dLen dCap, .slice sp sLen sCap]).run P w = .ok (goInt (Nat.min sLen dLen)) w' ∧ PB w' g t (cop L k xs (Nat.min sLen dLen)) ∧
      (∀ B, B ≤ g → Below B w w') := by
  cases hq : P.info? elem with
  | none => simp [hq] at hsz
  | some i =>
    have hi : i.size = 2 := by simpa [hq] using hsz
    by_cases hm : Nat.min sLen dLen = 0
    · refine ⟨w, ?_, ?_, fun B _ => Below.refl _ _⟩
      · have hl : ∀ (x : Addr), (loadCells x 0).run P w = .ok #[] w := fun x => by simpa using run_loadCells_list (P := P) w x [] (by simp)
        cases dp <;> cases sp <;> simp [Builtin.copy_, run_underlying hu, Builtin.lenOf, Builtin.firstCells, sizeOf, typeInfo, hq, hm, storeCells, hl]
      · rw [hm]; unfold PB at *; simpa [cop] using hg
    · have hs0 : 0 < sLen := by rcases Nat.eq_zero_or_pos sLen with h | h; · simp [h] at hm
                                · exact h
      have hd0 : 0 < dLen := by rcases Nat.eq_zero_or_pos dLen with h | h; · simp [h] at hm
                                · exact h
      obtain rfl := hdp hd0
      obtain ⟨ad, rfl, hc⟩ := hx.2 hs0
      have hmin : Nat.min sLen dLen ≤ sLen ∧ Nat.min sLen dLen ≤ dLen := ⟨Nat.min_le_left _ _, Nat.min_le_right _ _⟩
      generalize hmm : Nat.min sLen dLen = m at *
      have hcl : (flat (xs.take m)).length = m * 2 := by rw [flat_length, List.length_take, hx.1]; congr 1; omega
      have hl := run_loadCells_list (P := P) w ad (flat (xs.take m)) (fun j v hv => hc j v (by
        rw [← flat_take, List.getElem?_take] at hv
        split at hv
        · exact hv
        · cases hv))
      have hsize : k * 2 + (m * 2) ≤ (flat L).toArray.size := by simp [flat_length]; omega
      have hst := run_storeCells_at P g (k * 2) t (flat (xs.take m)) 0 (flat L).toArray w hg (by rw [hcl]; simpa using hsize) (flat_one _)
      rw [hcl] at hl hst
      have hrow : (flat L).toArray.toList.take (k * 2 + 0) ++ flat (xs.take m) ++ (flat L).toArray.toList.drop (k * 2 + 0 + m * 2) = flat (cop L k xs m) := by
        simp only [Nat.add_zero, ← Nat.add_mul, flat_take, flat_drop, cop, flat_append, List.append_assoc]
      rw [hrow] at hst
      refine ⟨w.setRow g (flat (cop L k xs m)).toArray, ?_, ?_, ?_⟩
      · simp [Builtin.copy_, run_underlying hu, Builtin.lenOf, Builtin.firstCells, sizeOf, typeInfo, hq, hi, hmm, hl, hst]
      · exact setRow_heap w g _ _ t _ hg
      · intro B hB
        exact below_setRow (Below.refl _ _) hB _


theorem wp_copyP {P : Program} {w : World} {o : Oper} {a : Act} {K : Act → World → Prop} {Q : Exit → Act → World → Prop} (d s : Operand) (T : TypeId)
    (ho : o.op = .call { callee := .builtin .copy, args := #[d, s], argTypes := #[T, T] }) (elem : TypeId) (hu : P.underlying T = some (.slice elem)) (hsz : (P.info? elem).map (·.size) = some 2)
    (dp sp : Option Addr) (dLen dCap sLen sCap : Nat) (hd : a.eval d = .slice dp dLen dCap) (hs : a.eval s = .slice sp sLen sCap)
    (g k t : Nat) (L xs : PL) (hg : PB w g t L) (hx : Src w sp sLen xs) (hfit : k + dLen ≤ L.length) (hdp : 0 < dLen → dp = some ⟨g, k * 2, none⟩)
    (h : ∀ w', PB w' g t (cop L k xs (Nat.min sLen dLen)) → (∀ B, B ≤ g → Below B w w') → K (a.put o.dst (goInt (Nat.min sLen dLen))) w') : o.wp P a w K Q := by
  obtain ⟨w', hrun, h1, h2⟩ := run_copyP (P := P) w T o.type elem hu hsz dp sp dLen dCap sLen sCap g k t L xs hg hx hfit hdp
  unfold Oper.wp
  simp only [execOp, ho, resolve, invoke, builtin, Sem.run_bind, Sem.run_pure, Result.andThen_ok, List.map_toArray, List.map_cons, List.map_nil, hd, hs, hrun]
  exact h w' h1 h2

theorem wpList_copyP {P : Program} {w : World} {ops : Array Oper} {rest : List Oper} {o : Oper} {a : Act} {Q : Exit → Act → World → Prop} (hgd : o.guard = none) (d s : Operand) (T : TypeId)
    (ho : o.op = .call { callee := .builtin .copy, args := #[d, s], argTypes := #[T, T] }) (elem : TypeId) (hu : P.underlying T = some (.slice elem)) (hsz : (P.info? elem).map (·.size) = some 2)
    (dp sp : Option Addr) (dLen dCap sLen sCap : Nat) (hd : a.eval d = .slice dp dLen dCap) (hs : a.eval s = .slice sp sLen sCap)
    (g k t : Nat) (L xs : PL) (hg : PB w g t L) (hx : Src w sp sLen xs) (hfit : k + dLen ≤ L.length) (hdp : 0 < dLen → dp = some ⟨g, k * 2, none⟩)
    (h : ∀ w', PB w' g t (cop L k xs (Nat.min sLen dLen)) → (∀ B, B ≤ g → Below B w w') → wpList P ops Q rest (a.put o.dst (goInt (Nat.min sLen dLen))) w') : wpList P ops Q (o :: rest) a w :=
  wpList_plain hgd fun _ hK => wp_copyP d s T ho elem hu hsz dp sp dLen dCap sLen sCap hd hs g k t L xs hg hx hfit hdp fun w' h1 h2 => hK _ _ (h w' h1 h2)

theorem run_makeP {P : Program} (t e : TypeId) (ht : P.underlying t = some (.slice e)) (hi : (P.info? e).map (fun i => (i.zero, i.size, i.bytes)) = some (some (.agg #[I 0, I 0]), 2, 16)) (n : Nat) (hn : n ≤ 1000000) (w : World) :
    (Instr.makeSlice t (.int .i64 (n : Int)) (.int .i64 (n : Int))).run P w = .ok (.slice (some ⟨w.heap.size, 0, none⟩) n n) (w.alloc (.cells (flat (List.replicate n (0, 0))).toArray e)) := by
  obtain ⟨i, h1, hz, hs, hb⟩ := info_parts hi
  have := run_make (P := P) w t e i _ ht h1 hz .i64 .i64 n n (by omega) (by omega) (by rw [hb]; omega) (by omega)
  rw [this, hs]
  simp only [Int.toNat_natCast, Value.cells]
  rw [flat_made]

end Go.Proofs.YtpnjnedfcdppaaaGreatDoor
