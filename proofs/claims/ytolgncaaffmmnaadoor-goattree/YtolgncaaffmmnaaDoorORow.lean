/-
  A ROW OF SPOTS WITH SPARE ROOM: what a copy, an append in place, a clear do to it, cell by cell. Nothing of the program.
-/
import Derived.Test.YtolgncaaffmmnaaDoorSRow
import Derived.Lib.AppendZerosOnto
import Derived.Lib.Overlaps
namespace Go.Proofs.YtolgncaaffmmnaaDoor
open Go.RowKit

/-- block g is a row with room for cap pairs; it begins with L -/
def RB (w : World) (g t cap : Nat) (L : PL) : Prop := ∃ cur, w.heap[g]? = some (.cells cur t (0, 0)) ∧ cur.size = cap * 2 ∧ L.length ≤ cap ∧ cur.toList.take (L.length * 2) = flat L
theorem RB.sb {w : World} {g t cap : Nat} {L : PL} (h : RB w g t cap L) : SB w g t L := by
  obtain ⟨cur, h1, _, _, h2⟩ := h
  exact ⟨cur, h1, h2⟩
theorem RB.lt {w : World} {g t cap : Nat} {L : PL} (h : RB w g t cap L) : g < w.heap.size := h.sb.lt
theorem RB.le {w : World} {g t cap : Nat} {L : PL} (h : RB w g t cap L) : L.length ≤ cap := by
  obtain ⟨cur, _, _, h2, _⟩ := h
  exact h2
theorem RB.ps {w : World} {g t cap : Nat} {L : PL} (h : RB w g t cap L) : PS w (some ⟨g, 0, none⟩) L.length cap L := h.sb.ps h.le
theorem RB.below {w w' : World} {g t cap B : Nat} {L : PL} (h : RB w g t cap L) (hb : Below B w w') (hg : g < B) : RB w' g t cap L := by
  obtain ⟨cur, h1, h2⟩ := h
  exact ⟨cur, (hb.block g hg).trans h1, h2⟩
theorem RB.far {w : World} {g t cap : Nat} {L : PL} (h : RB w g t cap L) {p : Addr} (hp : p.block ≠ g) (u : Value) : RB (w.setCell p u) g t cap L := by
  obtain ⟨cur, h1, h2⟩ := h
  exact ⟨cur, (Below.heap_setCell w p u g (fun e => hp e.symm)).trans h1, h2⟩
theorem RB.set1 {w : World} {g t cap : Nat} {L : PL} (h : RB w g t cap L) (i : Nat) (v : Int) (hi : i < L.length) : RB (w.setCell ⟨g, i * 2 + 1, none⟩ (I v)) g t cap (L.set i (ky L i, v)) := by
  obtain ⟨cur, h1, h2, h3, h4⟩ := h
  refine ⟨cur.setIfInBounds (i * 2 + 1) (I v), ?_, by simpa using h2, by simpa using h3, ?_⟩
  · rw [setCell_eq_setRow w g (i * 2 + 1) _ t (0, 0) (I v) h1, setRow_heap w g _ _ t (0, 0) h1]
  · rw [ky_in hi, ← flat_set1 L i v hi, ← h4, List.length_set]
    simp [List.take_set]
theorem oflat_set0 (l : PL) (i : Nat) (v : Int) (h : i < l.length) : (flat l).set (i * 2) (I v) = flat (l.set i (v, l[i].2)) := by
  induction l generalizing i with
  | nil => simp at h
  | cons p t ih => cases i with
    | zero => simp [flat]
    | succ i =>
      rw [show (i + 1) * 2 = i * 2 + 1 + 1 by omega]
      have := ih i (by simpa using h)
      simp [flat, this]
theorem RB.set0 {w : World} {g t cap : Nat} {L : PL} (h : RB w g t cap L) (i : Nat) (v : Int) (hi : i < L.length) : RB (w.setCell ⟨g, i * 2, none⟩ (I v)) g t cap (L.set i (v, dp L i)) := by
  obtain ⟨cur, h1, h2, h3, h4⟩ := h
  refine ⟨cur.setIfInBounds (i * 2) (I v), ?_, by simpa using h2, by simpa using h3, ?_⟩
  · rw [setCell_eq_setRow w g (i * 2) _ t (0, 0) (I v) h1, setRow_heap w g _ _ t (0, 0) h1]
  · rw [dp_in hi, ← oflat_set0 L i v hi, ← h4, List.length_set]
    simp [List.take_set]
theorem RB.own {w : World} {g t cap base : Nat} {L : PL} (h : RB w g t cap L) (hb : base ≤ g) (hm : cap ≤ maxLen) : OwnR w base t (.slice (some ⟨g, 0, none⟩) L.length cap) L := by
  obtain ⟨cur, h1, h2, h3, h4⟩ := h
  exact ⟨flat_length L, .inr ⟨g, cap, cur, rfl, hb, h1, h3, hm, h2, h4⟩⟩
theorem OwnR.rb {w : World} {base t : Nat} {v : Value} {L : PL} (h : OwnR w base t v L) : (v = .slice none 0 0 ∧ L = []) ∨ ∃ g cap, v = .slice (some ⟨g, 0, none⟩) L.length cap ∧ base ≤ g ∧ cap ≤ maxLen ∧ RB w g t cap L := by
  rcases h.2 with ⟨h1, h2⟩ | ⟨g, cap, cur, h1, h2, h3, h4, h5, h6, h7⟩
  · exact .inl ⟨h1, List.eq_nil_of_length_eq_zero h2⟩
  · exact .inr ⟨g, cap, h1, h2, h5, cur, h3, h6, h4, h7⟩
theorem PB.rb {w : World} {g t : Nat} {L : PL} (h : PB w g t L) : RB w g t L.length L :=
  ⟨(flat L).toArray, h, by simp [flat_length], Nat.le_refl _, by rw [List.take_of_length_le (by simp [flat_length])]⟩

/-- what a copy leaves -/
def rput (cur : Array Value) (k : Nat) (xs : PL) : Array Value := (cur.toList.take (k * 2) ++ flat xs ++ cur.toList.drop (k * 2 + (flat xs).length)).toArray
theorem rput_size (cur : Array Value) (k : Nat) (xs : PL) (h : (k + xs.length) * 2 ≤ cur.size) : (rput cur k xs).size = cur.size := by
  simp [rput, flat_length]
  omega
theorem run_copyR {P : Program} (w : World) (T ty elem : TypeId) (hu : P.underlying T = some (.slice elem)) (hsz : (P.info? elem).map (·.size) = some 2)
    (g k t dLen dCap sLen sCap : Nat) (ad : Addr) (cur : Array Value) (xs : PL) (hg : w.heap[g]? = some (.cells cur t (0, 0))) (hm : xs.length = Nat.min sLen dLen) (h0 : 0 < xs.length) (hc : ∀ j v, (flat xs)[j]? = some v → w.cell? (ad.add j) = some v) (hfit : (k + xs.length) * 2 ≤ cur.size) :
    (Builtin.copy_ #[T, T] ty #[.slice (some ⟨g, k * 2, none⟩) dLen dCap, .slice (some ad) sLen sCap]).run P w = .ok (goInt xs.length) (w.setRow g (rput cur k xs)) := by
  cases hq : P.info? elem with
  | none => simp [hq] at hsz
  | some i =>
    have hi : i.size = 2 := by simpa [hq] using hsz
    have hl := run_loadCells_list (P := P) w ad (flat xs) hc
    have hst := run_storeCells_at P g (k * 2) t (flat xs) 0 cur w hg (by rw [flat_length]; omega) (flat_one _)
    rw [flat_length] at hl
    simp only [Nat.add_zero] at hst
    rw [hm] at hl
    simp [Builtin.copy_, run_underlying hu, Builtin.lenOf, Builtin.firstCells, sizeOf, typeInfo, hq, hi, hl, hst, rput, hm]
theorem wpList_runC {P : Program} {w : World} {ops : Array Oper} {rest : List Oper} {o : Oper} {a : Act} {Q : Exit → Act → World → Prop} (hgd : o.guard = none) (b : Builtin) (s x : Operand) (T U : TypeId)
    (ho : o.op = .call { callee := .builtin b, args := #[s, x], argTypes := #[T, U] }) (v u : Value) (hs : a.eval s = v) (hx : a.eval x = u) (v' : Value) (w' : World)
    (hb : b = .copy) (hr : (Builtin.copy_ #[T, U] o.type #[v, u]).run P w = .ok v' w') (h : wpList P ops Q rest (a.put o.dst v') w') : wpList P ops Q (o :: rest) a w := by
  subst hb
  refine wpList_plain hgd fun K hK => ?_
  unfold Oper.wp execOp
  simp only [ho, resolve, invoke, builtin, Sem.run_bind, Sem.run_pure, Result.andThen_ok, List.map_toArray, List.map_cons, List.map_nil, hs, hx, hr]
  exact hK _ _ h
theorem step_runC {P : Program} {w : World} {ops : Array Oper} {o : Oper} {a : Act} {K : Act → World → Prop} {Q : Exit → Act → World → Prop} {E : Prop} (hgd : o.guard = none) (s x : Operand) (T U : TypeId)
    (ho : o.op = .call { callee := .builtin .copy, args := #[s, x], argTypes := #[T, U] }) (v u : Value) (hs : a.eval s = v) (hx : a.eval x = u) (v' : Value) (w' : World)
    (hr : (Builtin.copy_ #[T, U] o.type #[v, u]).run P w = .ok v' w') (h : K (a.put o.dst v') w') : if Region.wanted o (yielded ops a.tmps) = true then Oper.wp P o a w K Q else E := by
  have hw : Region.wanted o (yielded ops a.tmps) = true := by simp [Region.wanted, hgd]
  rw [if_pos hw]
  unfold Oper.wp execOp
  simp only [ho, resolve, invoke, builtin, Sem.run_bind, Sem.run_pure, Result.andThen_ok, List.map_toArray, List.map_cons, List.map_nil, hs, hx, hr]
  exact h
theorem step_runA {P : Program} {w : World} {ops : Array Oper} {o : Oper} {a : Act} {K : Act → World → Prop} {Q : Exit → Act → World → Prop} {E : Prop} (hgd : o.guard = none) (s x : Operand) (T U : TypeId)
    (ho : o.op = .call { callee := .builtin .append, args := #[s, x], argTypes := #[T, U] }) (v u : Value) (hs : a.eval s = v) (hx : a.eval x = u) (v' : Value) (w' : World)
    (hr : (Builtin.append_ #[T, U] o.type #[v, u]).run P w = .ok v' w') (h : K (a.put o.dst v') w') : if Region.wanted o (yielded ops a.tmps) = true then Oper.wp P o a w K Q else E := by
  have hw : Region.wanted o (yielded ops a.tmps) = true := by simp [Region.wanted, hgd]
  rw [if_pos hw]
  unfold Oper.wp execOp
  simp only [ho, resolve, invoke, builtin, Sem.run_bind, Sem.run_pure, Result.andThen_ok, List.map_toArray, List.map_cons, List.map_nil, hs, hx, hr]
  exact h
/-- append in place of what stands behind, or of nothing -/
theorem run_appR {P : Program} (w : World) (T ty elem : TypeId) (hu : P.underlying T = some (.slice elem)) (hsz : (P.info? elem).map (·.size) = some 2)
    (g k cap m c : Nat) (sp : Option Addr) (cur : Array Value) (xs : PL) (hg : w.heap[g]? = some (.cells cur elem (0, 0))) (hm : xs.length = m) (hc : 0 < m → ∃ ad, sp = some ad ∧ ∀ j v, (flat xs)[j]? = some v → w.cell? (ad.add j) = some v) (hroom : k + m ≤ cap) (hfit : (k + m) * 2 ≤ cur.size) :
    (Builtin.append_ #[T, T] ty #[.slice (some ⟨g, 0, none⟩) k cap, .slice sp m c]).run P w = .ok (.slice (some ⟨g, 0, none⟩) (k + m) cap) (w.setRow g (rput cur k xs)) := by
  cases hq : P.info? elem with
  | none => simp [hq] at hsz
  | some i =>
    have hi : i.size = 2 := by simpa [hq] using hsz
    rcases Nat.eq_zero_or_pos m with h0 | h0
    · subst h0
      have hx : xs = [] := List.eq_nil_of_length_eq_zero hm
      subst hx
      have hr : rput cur k [] = cur := by simp [rput, flat]
      rw [hr, setRow_self w g cur elem (0, 0) hg]
      have hkc : k ≤ cap := by omega
      have hst := run_storeCells_at P g (k * 2) elem [] 0 cur w hg (by simp; omega) (by simp)
      simp only [Nat.add_zero, List.append_nil, List.length_nil, List.take_append_drop, Array.toArray_toList, setRow_self w g cur elem (0, 0) hg] at hst
      cases sp with
      | none => simp [Builtin.append_, run_underlying hu, sizeOf, typeInfo, hq, hi, Builtin.lenOf, Builtin.firstCells, hkc, hst, addn]
      | some ad => simp [Builtin.append_, run_underlying hu, sizeOf, typeInfo, hq, hi, Builtin.lenOf, Builtin.firstCells, loadCells, loadCellsFrom, hkc, hst, addn]
    · obtain ⟨ad, rfl, hcc⟩ := hc h0
      have := run_append_room (P := P) w T ty elem i hu hq g k cap cur hg ad m c (flat xs) (by rw [flat_length, hm, hi]) hcc (flat_one _) hroom (by rw [flat_length, hm, hi]; omega)
      rw [this, hi]
      rfl
/-- clear of one -/
theorem run_clearR {P : Program} (w : World) (T ty elem : TypeId) (hu : P.underlying T = some (.slice elem)) (hi : (P.info? elem).map (fun i => (i.zero, i.size, i.bytes)) = some (some (.agg #[I 0, I 0]), 2, 16))
    (g k c t : Nat) (cur : Array Value) (hg : w.heap[g]? = some (.cells cur t (0, 0))) (hfit : (k + 1) * 2 ≤ cur.size) :
    (Builtin.clear_ #[T] ty #[.slice (some ⟨g, k * 2, none⟩) 1 c]).run P w = .ok (.tuple #[]) (w.setRow g (rput cur k [(0, 0)])) := by
  obtain ⟨i, h1, hz, hs, hb⟩ := info_parts hi
  have hzc : (Builtin.zeroCells (Value.agg #[I 0, I 0]).cells 1).toList = flat [(0, 0)] := by kernel_rfl
  have hst := run_storeCells_at P g (k * 2) t (flat [(0, 0)]) 0 cur w hg (by simp [flat]; omega) (flat_one _)
  simp only [Nat.add_zero] at hst
  simp [Builtin.clear_, run_underlying hu, zeroValue, typeInfo, h1, hz, hzc, hst, rput]
theorem row_lay (w : World) (g t : Nat) (cur new : Array Value) (h : w.heap[g]? = some (.cells cur t (0, 0))) : (w.setRow g new).heap[g]? = some (.cells new t (0, 0)) := setRow_heap w g _ _ t (0, 0) h

end Go.Proofs.YtolgncaaffmmnaaDoor
