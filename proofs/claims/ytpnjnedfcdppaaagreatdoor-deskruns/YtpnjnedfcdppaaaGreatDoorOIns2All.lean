/-
  Joined texts: YtpnjnedfcdppaaaGreatDoorORow, YtpnjnedfcdppaaaGreatDoorOIns, YtpnjnedfcdppaaaGreatDoorOIns2.
-/
import Derived.Test.YtpnjnedfcdppaaaGreatDoorSOrdAll
import Derived.Lib.AppendZerosOnto
import Derived.Lib.Overlaps
import Derived.Test.YtpnjnedfcdppaaaGreatDoorSChkAll
import Derived.Deep.RegionLaw
/-
  A ROW OF SPOTS WITH SPARE ROOM: what a copy, an append in place, a clear do to it, cell by cell. Nothing of the program.
-/
namespace Go.Proofs.YtpnjnedfcdppaaaGreatDoor
open Go.RowKit

def RB (w : World) (g t cap : Nat) (L : PL) : Prop := ∃ cur, w.heap[g]? = some (.cells cur t (0, 0)) ∧ cur.size = cap * 2 ∧ L.length ≤ cap ∧ cur.toList.take (L.length * 2) = flat L
theorem RB.sb {w : World} {g t cap : Nat} {L : PL} (h : RB w g t cap L) : SB w g t L := by
  obtain ⟨cur, h1, _, _, h2⟩ := h
  exact ⟨cur, h1, h2⟩
theorem RB.lt {w : World} {g t cap : Nat} {L : PL} (h : RB w g t cap L) : g < w.heap.size := h.sb.lt
theorem RB.le {w : World} {g t cap : Nat} {L : PL} (h : RB w g t cap L) : L.length ≤ cap := by
  obtain ⟨cur, _, _, h2, _⟩ := h
  exact h2
theorem RB.ps {w : World} {g t cap : Nat} {L : PL} (h : RB w g t cap L) : PS w (some ⟨g, 0, none⟩) L.length cap L := h.sb.ps h.le
theorem RB.below {w w' : World} {g t cap B : Nat} {L : PL} (h : RB w g t cap L) (hb : Below B w w') (hg : g < B) : RB w' g t cap L := by
  obtain ⟨cur, h1, h2⟩ := h
  exact ⟨cur, (hb.block g hg).trans h1, h2⟩
theorem RB.far {w : World} {g t cap : Nat} {L : PL} (h : RB w g t cap L) {p : Addr} (hp : p.block ≠ g) (u : Value) : RB (w.setCell p u) g t cap L := by
  obtain ⟨cur, h1, h2⟩ := h
  exact ⟨cur, (Below.heap_setCell w p u g (fun e => hp e.symm)).trans h1, h2⟩
theorem RB.set1 {w : World} {g t cap : Nat} {L : PL} (h : RB w g t cap L) (i : Nat) (v : Int) (hi : i < L.length) : RB (w.setCell ⟨g, i * 2 + 1, none⟩ (I v)) g t cap (L.set i (ky L i, v)) := by
  obtain ⟨cur, h1, h2, h3, h4⟩ := h
  refine ⟨cur.setIfInBounds (i * 2 + 1) (I v), ?_, by simpa using h2, by simpa using h3, ?_⟩
  · rw [setCell_eq_setRow w g (i * 2 + 1) _ t (0, 0) (I v) h1, setRow_heap w g _ _ t (0, 0) h1]
  · rw [ky_in hi, ← flat_set1 L i v hi, ← h4, List.length_set]
    simp [List.take_set]
theorem oflat_set0 (l : PL) (i : Nat) (v : Int) (h : i < l.length) : (flat l).set (i * 2) (I v) = flat (l.set i (v, l[i].2)) := by
  induction l generalizing i with
  | nil => simp at h
  | cons p t ih => cases i with
    | zero => simp [flat]
    | succ i =>
      rw [show (i + 1) * 2 = i * 2 + 1 + 1 by omega]
      have := ih i (by simpa using h)
      simp [flat, this]
theorem RB.set0 {w : World} {g t cap : Nat} {L : PL} (h : RB w g t cap L) (i : Nat) (v : Int) (hi : i < L.length) : RB (w.setCell ⟨g, i * 2, none⟩ (I v)) g t cap (L.set i (v, dp L i)) := by
  obtain ⟨cur, h1, h2, h3, h4⟩ := h
  refine ⟨cur.setIfInBounds (i * 2) (I v), ?_, by simpa using h2, by simpa using h3, ?_⟩
  · rw [setCell_eq_setRow w g (i * 2) _ t (0, 0) (I v) h1, setRow_heap w g _ _ t (0, 0) h1]
  · rw [dp_in hi, ← oflat_set0 L i v hi, ← h4, List.length_set]
    simp [List.take_set]
theorem RB.own {w : World} {g t cap base : Nat} {L : PL} (h : RB w g t cap L) (hb : base ≤ g) (hm : cap ≤ maxLen) : OwnR w base t (.slice (some ⟨g, 0, none⟩) L.length cap) L := by
  obtain ⟨cur, h1, h2, h3, h4⟩ := h
  exact ⟨flat_length L, .inr ⟨g, cap, cur, rfl, hb, h1, h3, hm, h2, h4⟩⟩
theorem OwnR.rb {w : World} {base t : Nat} {v : Value} {L : PL} (h : OwnR w base t v L) : (v = .slice none 0 0 ∧ L = []) ∨ ∃ g cap, v = .slice (some ⟨g, 0, none⟩) L.length cap ∧ base ≤ g ∧ cap ≤ maxLen ∧ RB w g t cap L := by
  rcases h.2 with ⟨h1, h2⟩ | ⟨g, cap, cur, h1, h2, h3, h4, h5, h6, h7⟩
  · exact .inl ⟨h1, List.eq_nil_of_length_eq_zero h2⟩
  · exact .inr ⟨g, cap, h1, h2, h5, cur, h3, h6, h4, h7⟩
theorem PB.rb {w : World} {g t : Nat} {L : PL} (h : PB w g t L) : RB w g t L.length L :=
  ⟨(flat L).toArray, h, by simp [flat_length], Nat.le_refl _, by rw [List.take_of_length_le (by simp [flat_length])]⟩

def rput (cur : Array Value) (k : Nat) (xs : PL) : Array Value := (cur.toList.take (k * 2) ++ flat xs ++ cur.toList.drop (k * 2 + (flat xs).length)).toArray
theorem rput_size (cur : Array Value) (k : Nat) (xs : PL) (h : (k + xs.length) * 2 ≤ cur.size) : (rput cur k xs).size = cur.size := by
  simp [rput, flat_length]
  omega
theorem run_copyR {P : Program} (w : World) (T ty elem : TypeId) (hu : P.underlying T = some (.slice elem)) (hsz : (P.info? elem).map (·.size) = some 2)
    (g k t dLen dCap sLen sCap : Nat) (ad : Addr) (cur : Array Value) (xs : PL) (hg : w.heap[g]? = some (.cells cur t (0, 0))) (hm : xs.length = Nat.min sLen dLen) (h0 : 0 < xs.length) (hc : ∀ j v, (flat xs)[j]? = some v → w.cell? (ad.add j) = some v) (hfit : (k + xs.length) * 2 ≤ cur.size) :
    (Builtin.copy_ #[T, T] ty #[.slice (some ⟨g, k * 2, none⟩) dLen dCap, .slice (some ad) sLen sCap]).run P w = .ok (goInt xs.length) (w.setRow g (rput cur k xs)) := by
  cases hq : P.info? elem with
  | none => simp [hq] at hsz
  | some i =>
    have hi : i.size = 2 := by simpa [hq] using hsz
    have hl := run_loadCells_list (P := P) w ad (flat xs) hc
    have hst := run_storeCells_at P g (k * 2) t (flat xs) 0 cur w hg (by rw [flat_length]; omega) (flat_one _)
    rw [flat_length] at hl
    simp only [Nat.add_zero] at hst
    rw [hm] at hl
    simp [Builtin.copy_, run_underlying hu, Builtin.lenOf, Builtin.firstCells, sizeOf, typeInfo, hq, hi, hl, hst, rput, hm]
theorem wpList_runC {P : Program} {w : World} {ops : Array Oper} {rest : List Oper} {o : Oper} {a : Act} {Q : Exit → Act → World → Prop} (hgd : o.guard = none) (b : Builtin) (s x : Operand) (T U : TypeId)
    (ho : o.op = .call { callee := .builtin b, args := #[s, x], argTypes := #[T, U] }) (v u : Value) (hs : a.eval s = v) (hx : a.eval x = u) (v' : Value) (w' : World)
    (hb : b = .copy) (hr : (Builtin.copy_ #[T, U] o.type #[v, u]).run P w = .ok v' w') (h : wpList P ops Q rest (a.put o.dst v') w') : wpList P ops Q (o :: rest) a w := by
  subst hb
  refine wpList_plain hgd fun K hK => ?_
  unfold Oper.wp execOp
  simp only [ho, resolve, invoke, builtin, Sem.run_bind, Sem.run_pure, Result.andThen_ok, List.map_toArray, List.map_cons, List.map_nil, hs, hx, hr]
  exact hK _ _ h
theorem step_runC {P : Program} {w : World} {ops : Array Oper} {o : Oper} {a : Act} {K : Act → World → Prop} {Q : Exit → Act → World → Prop} {E : Prop} (hgd : o.guard = none) (s x : Operand) (T U : TypeId)
    (ho : o.op = .call { callee := .builtin .copy, args := #[s, x], argTypes := #[T, U] }) (v u : Value) (hs : a.eval s = v) (hx : a.eval x = u) (v' : Value) (w' : World)
    (hr : (Builtin.copy_ #[T, U] o.type #[v, u]).run P w = .ok v' w') (h : K (a.put o.dst v') w') : if Region.wanted o (yielded ops a.tmps) = true then Oper.wp P o a w K Q else E := by
  have hw : Region.wanted o (yielded ops a.tmps) = true := by simp [Region.wanted, hgd]
  rw [if_pos hw]
  unfold Oper.wp execOp
  simp only [ho, resolve, invoke, builtin, Sem.run_bind, Sem.run_pure, Result.andThen_ok, List.map_toArray, List.map_cons, List.map_nil, hs, hx, hr]
  exact h
theorem step_runA {P : Program} {w : World} {ops : Array Oper} {o : Oper} {a : Act} {K : Act → World → Prop} {Q : Exit → Act → World → Prop} {E : Prop} (hgd : o.guard = none) (s x : Operand) (T U : TypeId)
    (ho : o.op = .call { callee := .builtin .append, args := #[s, x], argTypes := #[T, U] }) (v u : Value) (hs : a.eval s = v) (hx : a.eval x = u) (v' : Value) (w' : World)
    (hr : (Builtin.append_ #[T, U] o.type #[v, u]).run P w = .ok v' w') (h : K (a.put o.dst v') w') : if Region.wanted o (yielded ops a.tmps) = true then Oper.wp P o a w K Q else E := by
  have hw : Region.wanted o (yielded ops a.tmps) = true := by simp [Region.wanted, hgd]
  rw [if_pos hw]
  unfold Oper.wp execOp
  simp only [ho, resolve, invoke, builtin, Sem.run_bind, Sem.run_pure, Result.andThen_ok, List.map_toArray, List.map_cons, List.map_nil, hs, hx, hr]
  exact h
theorem run_appR {P : Program} (w : World) (T ty elem : TypeId) (hu : P.underlying T = some (.slice elem)) (hsz : (P.info? elem).map (·.size) = some 2)
    (g k cap m c : Nat) (sp : Option Addr) (cur : Array Value) (xs : PL) (hg : w.heap[g]? = some (.cells cur elem (0, 0))) (hm : xs.length = m) (hc : 0 < m → ∃ ad, sp = some ad ∧ ∀ j v, (flat xs)[j]? = some v → w.cell? (ad.add j) = some v) (hroom : k + m ≤ cap) (hfit : (k + m) * 2 ≤ cur.size) :
    (Builtin.append_ #[T, T] ty #[.slice (some ⟨g, 0, none⟩) k cap, .slice sp m c]).run P w = .ok (.slice (some ⟨g, 0, none⟩) (k + m) cap) (w.setRow g (rput cur k xs)) := by
  cases hq : P.info? elem with
  | none => simp [hq] at hsz
  | some i =>
    have hi : i.size = 2 := by simpa [hq] using hsz
    rcases Nat.eq_zero_or_pos m with h0 | h0
    · subst h0
      have hx : xs = [] := List.eq_nil_of_length_eq_zero hm
      subst hx
      have hr : rput cur k [] = cur := by simp [rput, flat]
      rw [hr, setRow_self w g cur elem (0, 0) hg]
      have hkc : k ≤ cap := by omega
      have hst := run_storeCells_at P g (k * 2) elem [] 0 cur w hg (by simp; omega) (by simp)
      simp only [Nat.add_zero, List.append_nil, List.length_nil, List.take_append_drop, Array.toArray_toList, setRow_self w g cur elem (0, 0) hg] at hst
      cases sp with
      | none => simp [Builtin.append_, run_underlying hu, sizeOf, typeInfo, hq, hi, Builtin.lenOf, Builtin.firstCells, hkc, hst, addn]
      | some ad => simp [Builtin.append_, run_underlying hu, sizeOf, typeInfo, hq, hi, Builtin.lenOf, Builtin.firstCells, loadCells, loadCellsFrom, hkc, hst, addn]
    · obtain ⟨ad, rfl, hcc⟩ := hc h0
      have := run_append_room (P := P) w T ty elem i hu hq g k cap cur hg ad m c (flat xs) (by rw [flat_length, hm, hi]) hcc (flat_one _) hroom (by rw [flat_length, hm, hi]; omega)
      rw [this, hi]
      rfl
theorem run_clearR {P : Program} (w : World) (T ty elem : TypeId) (hu : P.underlying T = some (.slice elem)) (hi : (P.info? elem).map (fun i => (i.zero, i.size, i.bytes)) = some (some (.agg #[I 0, I 0]), 2, 16))
    (g k c t : Nat) (cur : Array Value) (hg : w.heap[g]? = some (.cells cur t (0, 0))) (hfit : (k + 1) * 2 ≤ cur.size) :
    (Builtin.clear_ #[T] ty #[.slice (some ⟨g, k * 2, none⟩) 1 c]).run P w = .ok (.tuple #[]) (w.setRow g (rput cur k [(0, 0)])) := by
  obtain ⟨i, h1, hz, hs, hb⟩ := info_parts hi
  have hzc : (Builtin.zeroCells (Value.agg #[I 0, I 0]).cells 1).toList = flat [(0, 0)] := by kernel_rfl
  have hst := run_storeCells_at P g (k * 2) t (flat [(0, 0)]) 0 cur w hg (by simp [flat]; omega) (flat_one _)
  simp only [Nat.add_zero] at hst
  simp [Builtin.clear_, run_underlying hu, zeroValue, typeInfo, h1, hz, hzc, hst, rput]
theorem row_lay (w : World) (g t : Nat) (cur new : Array Value) (h : w.heap[g]? = some (.cells cur t (0, 0))) : (w.setRow g new).heap[g]? = some (.cells new t (0, 0)) := setRow_heap w g _ _ t (0, 0) h

end Go.Proofs.YtpnjnedfcdppaaaGreatDoor

/-
  slices.Insert, slices.Delete at spots, of one: a row of the call's own.
-/
namespace Go.Proofs.YtpnjnedfcdppaaaGreatDoor
open Go.RowKit

theorem ospot_size : (Tryz.prog.info? 82).map (·.size) = some 2 := by kernel_rfl
theorem ospot_zero (w : World) : (Go.sizeOf 82).run Tryz.prog w = .ok 2 w := by
  obtain ⟨i, h1, hz, hs, hb⟩ := info_parts gspot_info
  simp [sizeOf, typeInfo, h1, hs]

def insP (L : PL) (p : Nat) (x d : Int) : PL := L.take p ++ (x, d) :: L.drop p
theorem insP_length (L : PL) (p : Nat) (x d : Int) (h : p ≤ L.length) : (insP L p x d).length = L.length + 1 := by simp [insP]; omega
theorem insP_end (L : PL) (x d : Int) : insP L L.length x d = L ++ [(x, d)] := by simp [insP]

theorem put_shift (cur : Array Value) (L : PL) (p : Nat) (x d : Int) (hp : p ≤ L.length) (hc : (L.length + 1) * 2 ≤ cur.size) (ht : cur.toList.take (L.length * 2) = flat L) :
    (rput (rput cur (p + 1) (L.drop p)) p [(x, d)]).toList.take ((L.length + 1) * 2) = flat (insP L p x d) := by
  have hcl : cur.toList.length = cur.size := by simp
  have hX : (flat (L.take p)).length = p * 2 := by rw [flat_length, List.length_take]; congr 1; omega
  have hY : (flat (L.drop p)).length = (L.length - p) * 2 := by rw [flat_length, List.length_drop]
  have e0 : cur.toList = flat (L.take p) ++ (flat (L.drop p) ++ cur.toList.drop (L.length * 2)) := by
    conv => lhs; rw [← List.take_append_drop (L.length * 2) cur.toList]
    rw [ht, ← List.append_assoc, ← flat_append, List.take_append_drop]
  have e1 : (rput cur (p + 1) (L.drop p)).toList = flat (L.take p) ++ (cur.toList.drop (p * 2)).take 2 ++ flat (L.drop p) ++ cur.toList.drop ((p + 1) * 2 + (flat (L.drop p)).length) := by
    unfold rput
    congr 2
    have : cur.toList.take ((p + 1) * 2) = cur.toList.take (p * 2) ++ (cur.toList.drop (p * 2)).take 2 := by
      rw [show (p + 1) * 2 = p * 2 + 2 by omega, List.take_add]
    rw [this]
    congr 1
    rw [e0, List.take_left' hX]
  have hZ : ((cur.toList.drop (p * 2)).take 2).length = 2 := by simp; omega
  generalize (cur.toList.drop (p * 2)).take 2 = Z at *
  generalize cur.toList.drop ((p + 1) * 2 + (flat (L.drop p)).length) = R at *
  have e2 : (rput (rput cur (p + 1) (L.drop p)) p [(x, d)]).toList = flat (L.take p) ++ flat [(x, d)] ++ (flat (L.drop p) ++ R) := by
    have hq : (rput (rput cur (p + 1) (L.drop p)) p [(x, d)]).toList = (rput cur (p + 1) (L.drop p)).toList.take (p * 2) ++ flat [(x, d)] ++ (rput cur (p + 1) (L.drop p)).toList.drop (p * 2 + 2) := rfl
    rw [hq, e1]
    have t1 : (flat (L.take p) ++ Z ++ flat (L.drop p) ++ R).take (p * 2) = flat (L.take p) := by rw [List.append_assoc, List.append_assoc, List.take_left' hX]
    have t2 : (flat (L.take p) ++ Z ++ flat (L.drop p) ++ R).drop (p * 2 + 2) = flat (L.drop p) ++ R := by
      rw [List.append_assoc, List.drop_left' (by rw [List.length_append, hX, hZ])]
    rw [t1, t2]
  rw [e2]
  have e3 : flat (L.take p) ++ flat [(x, d)] ++ (flat (L.drop p) ++ R) = flat (insP L p x d) ++ R := by
    unfold insP
    rw [flat_append, show (x, d) :: L.drop p = [(x, d)] ++ L.drop p from rfl, flat_append]
    simp only [List.append_assoc]
  rw [e3, List.take_left' (by rw [flat_length, insP_length L p x d hp])]
theorem put_fresh (cur : Array Value) (L : PL) (p : Nat) (x d : Int) (hp : p ≤ L.length) (hc : (L.length + 1) * 2 ≤ cur.size) (ht : cur.toList.take (p * 2) = flat (L.take p)) :
    (rput (rput cur p [(x, d)]) (p + 1) (L.drop p)).toList.take ((L.length + 1) * 2) = flat (insP L p x d) := by
  have hX : (flat (L.take p)).length = p * 2 := by rw [flat_length, List.length_take]; congr 1; omega
  have e1 : (rput cur p [(x, d)]).toList = flat (L.take p ++ [(x, d)]) ++ cur.toList.drop (p * 2 + 2) := by
    have hq : (rput cur p [(x, d)]).toList = cur.toList.take (p * 2) ++ flat [(x, d)] ++ cur.toList.drop (p * 2 + 2) := rfl
    rw [hq, ht, flat_append]
  have hq : (rput (rput cur p [(x, d)]) (p + 1) (L.drop p)).toList = (rput cur p [(x, d)]).toList.take ((p + 1) * 2) ++ flat (L.drop p) ++ (rput cur p [(x, d)]).toList.drop ((p + 1) * 2 + (flat (L.drop p)).length) := rfl
  have h2 : (flat (L.take p ++ [(x, d)])).length = (p + 1) * 2 := by rw [flat_length]; simp; omega
  rw [hq, e1, List.take_left' h2]
  have e3 : flat (L.take p ++ [(x, d)]) ++ flat (L.drop p) = flat (insP L p x d) := by
    rw [← flat_append]
    congr 1
    simp [insP]
  rw [e3, List.take_left' (by rw [flat_length, insP_length L p x d hp])]

def SPT (w : World) (h : Nat) (x d : Int) : Prop := w.heap[h]? = some (.cells #[I x, I d] 82 (0, 0))
theorem SPT.src {w : World} {h : Nat} {x d : Int} (hs : SPT w h x d) : ∀ j v, (flat [(x, d)])[j]? = some v → w.cell? ((⟨h, 0, none⟩ : Addr).add j) = some v := by
  intro j v hv
  have hs' : w.heap[h]? = some (.cells #[I x, I d] 82 (0, 0)) := hs
  rw [addn]
  match j with
  | 0 => simp [flat] at hv; simp [World.cell?, hs', ← hv]
  | 1 => simp [flat] at hv; simp [World.cell?, hs', ← hv]
  | j + 2 => simp [flat] at hv
theorem SPT.lt {w : World} {h : Nat} {x d : Int} (hs : SPT w h x d) : h < w.heap.size := (Array.getElem?_eq_some_iff.1 hs).1

def RetIns (L : PL) (base : Nat) (w : World) (e : Ending) (w' : World) : Prop := ∃ v, e = .returned v ∧ OwnR w' base 82 v L ∧ Below base w w'

set_option maxRecDepth 100000 in
set_option maxHeartbeats 2000000 in
theorem oins_end (base n h : Nat) (A : Option Addr) (c : Nat) (L : PL) (x d : Int) (w : World) (ho : OwnR w base 82 (.slice A n c) L) (hl : L.length = n) (hn : n ≤ 1000) (hs : SPT w h x d) (hb : base ≤ w.heap.size) :
    Calls Tryz.prog 135 #[.slice A n c, I n, .slice (some ⟨h, 0, none⟩) 1 1] w (RetIns (L ++ [(x, d)]) base w) := by
  have HO := Lib.hid ho
  have HS : Hid (Src w (some ⟨h, 0, none⟩) 1 [(x, d)]) := ⟨rfl, fun _ => ⟨_, rfl, hs.src⟩⟩
  obtain ⟨A', c', e', hps, _⟩ := OwnR.ps ho
  rw [hl] at e' hps
  cases e'
  have hcap : n ≤ c := hps.rd.1
  have hll : L.length + 1 ≤ 1000000 := by omega
  clear ho hs hps
  go_enter Tryz.func135, Tryz.ntmps135
  go_wp2_with (first
    | (at_builtin
       refine wpList_app2 rfl (.tmp 23) (.tmp 24) 41 rfl 82 Tryz.underlying41 gspot_info base _ L [(x, d)] (some ⟨h, 0, none⟩) 1 1 rfl rfl HO.out HS.out hll hb ?_
       intro v2 w9 hown2 hgrow2 _)
    | fail)
  all_goals go_ret
  all_goals exact ⟨v2, rfl, hown2, Below.grown (Below.refl _ _) hgrow2 hb (OwnR.ge HO.out)⟩

set_option maxRecDepth 100000 in
set_option maxHeartbeats 4000000 in
theorem oins_room (base n h g cap p : Nat) (L : PL) (x d : Int) (w : World) (hr : RB w g 82 cap L) (hm : cap ≤ maxLen) (hl : L.length = n) (hn : n ≤ 1000) (hp : p < n) (hroom : n + 1 ≤ cap) (hs : SPT w h x d) (hne : h ≠ g) (hb : base ≤ g) :
    Calls Tryz.prog 135 #[.slice (some ⟨g, 0, none⟩) n cap, I p, .slice (some ⟨h, 0, none⟩) 1 1] w (RetIns (insP L p x d) base w) := by
  have HR := Lib.hid hr
  obtain ⟨cur, h1, h2, h3, h4⟩ := hr
  rw [hl] at h4
  have hcm : cap ≤ 9223372036854775807 := by unfold maxLen at hm; omega
  have hd1 : (L.drop p).length = n - p := by simp [hl]
  have HFIN := Lib.hid (put_shift cur L p x d (by omega) (by omega) (by rw [hl]; exact h4))
  have hsrc : ∀ j v, (flat (L.drop p))[j]? = some v → w.drew.cell? ((⟨g, p * 2, none⟩ : Addr).add j) = some v := fun j v hv => by
    rw [addn]
    have := cell_of_row w g (p * 2 + j) _ _ _ h1
    rw [show w.drew.cell? ⟨g, p * 2 + j, none⟩ = w.cell? ⟨g, p * 2 + j, none⟩ from rfl, this]
    rw [← flat_drop, ← h4, List.getElem?_drop, List.getElem?_take] at hv
    split at hv
    · simpa using hv
    · cases hv
  have hov : ∀ lb cb, (callFunc 194 #[.slice (some ⟨h, 0, none⟩) 1 1, .slice (some ⟨g, (p + 1) * 2, none⟩) lb cb]).run Tryz.prog w = .ok (.value (.bool false)) w := fun lb cb => by
    rw [run_callFunc_extern Tryz.func194 (by kernel_rfl) (by kernel_rfl) (by kernel_rfl) (e := Extern.SlicesOverlaps.overlaps #[41, 41] #[4]) (by kernel_rfl),
      Lib.run_overlaps_apart w 41 4 82 Tryz.underlying41 2 ospot_zero ⟨h, 0, none⟩ ⟨g, (p + 1) * 2, none⟩ 1 1 lb cb hne 82 82 2 cur.size (by have : w.heap[h]? = _ := hs; simp [World.shape?, this]) (by simp [World.shape?, h1]) (by omega) (by have : w.heap[h]? = _ := hs; simp [World.frozen?, this]) (by have : w.heap[h]? = _ := hs; simp [World.frozen?, this])]
    rfl
  have hcp1 : ∀ ty dc sc, (Builtin.copy_ #[41, 41] ty #[.slice (some ⟨g, (p + 1) * 2, none⟩) (n - p) dc, .slice (some ⟨g, p * 2, none⟩) (n + 1 - p) sc]).run Tryz.prog w.drew = .ok (goInt (L.drop p).length) (w.drew.setRow g (rput cur (p + 1) (L.drop p))) := fun ty dc sc =>
    run_copyR w.drew _ ty 82 Tryz.underlying41 ospot_size g (p + 1) 82 _ dc _ sc ⟨g, p * 2, none⟩ cur (L.drop p) h1 (by rw [hd1]; simp only [Nat.min_def]; split <;> omega) (by omega) hsrc (by rw [hd1, h2]; omega)
  obtain ⟨W1, hW1⟩ : ∃ W1, W1 = w.drew.setRow g (rput cur (p + 1) (L.drop p)) := ⟨_, rfl⟩
  have hB1 : Below g w W1 := by rw [hW1]; exact below_setRow (Below.refl _ _).drew (Nat.le_refl _) _
  have hg1 : W1.heap[g]? = some (.cells (rput cur (p + 1) (L.drop p)) 82 (0, 0)) := by rw [hW1]; exact row_lay w.drew g _ cur _ h1
  have hs1 : SPT W1 h x d := by
    show W1.heap[h]? = _
    rw [hW1, setRow_other w.drew g h _ hne]
    exact hs
  have hz1 : (rput cur (p + 1) (L.drop p)).size = cap * 2 := by rw [rput_size _ _ _ (by rw [hd1, h2]; omega), h2]
  have hcp2 : ∀ ty dc, (Builtin.copy_ #[41, 41] ty #[.slice (some ⟨g, p * 2, none⟩) (n + 1 - p) dc, .slice (some ⟨h, 0, none⟩) 1 1]).run Tryz.prog W1 = .ok (goInt [(x, d)].length) (W1.setRow g (rput (rput cur (p + 1) (L.drop p)) p [(x, d)])) := fun ty dc =>
    run_copyR W1 _ ty 82 Tryz.underlying41 ospot_size g p 82 _ dc 1 1 ⟨h, 0, none⟩ _ [(x, d)] hg1 (by simp only [Nat.min_def, List.length_singleton]; split <;> omega) (by simp) hs1.src (by rw [hz1]; simp only [List.length_singleton]; omega)
  have HEND : Hid (RetIns (insP L p x d) base w (.returned (.slice (some ⟨g, 0, none⟩) (n + 1) cap)) (W1.setRow g (rput (rput cur (p + 1) (L.drop p)) p [(x, d)]))) := by
    have hil : (insP L p x d).length = n + 1 := by rw [insP_length L p x d (by omega), hl]
    refine ⟨_, rfl, ?_, ?_⟩
    · have : RB (W1.setRow g (rput (rput cur (p + 1) (L.drop p)) p [(x, d)])) g 82 cap (insP L p x d) := by
        refine ⟨_, row_lay W1 g _ _ _ hg1, ?_, by rw [hil]; exact hroom, ?_⟩
        · rw [rput_size _ _ _ (by rw [hz1]; simp only [List.length_singleton]; omega), hz1]
        · rw [hil, ← hl]
          exact HFIN.out
      have := this.own hb hm
      rw [hil] at this
      exact this
    · exact (below_setRow hB1 (Nat.le_refl _) _).mono hb
  rw [← hW1] at hcp1
  have hw1 : IntKind.i64.wrap ((p : Int) + 1) = (p : Int) + 1 := by rw [IntKind.wrap_i64]; omega
  have hb1 : (0 : Int) ≤ (p : Int) + 1 := by omega
  have hin : p ≤ n := by omega
  have htn : ((p : Int) + 1).toNat = p + 1 := by omega
  have hb2 : ¬ (cap = p + 1) := by omega
  have hb3 : (p : Int) ≤ (n : Int) + 1 := by omega
  have hb4 : ¬ (cap = p) := by omega
  have hz2 : ¬ ((p : Int) = (n : Int)) := by omega
  have hz3 : ¬ ((cap : Int) < (n : Int) + 1) := by omega
  clear h1 h2 h3 h4 HFIN hsrc hs hs1 hg1 hz1 hd1 hl hW1
  go_enter Tryz.func135, Tryz.ntmps135
  go_wp2_with (simp only [hov])
  go_region_law (refine step_runC rfl (.tmp 73) (.tmp 76) 41 41 rfl _ _ (by simp [Act.eval, Act.put]) (by simp [Act.eval, Act.put]) _ _ (hcp1 _ _ _) ?_)
  go_wp2_with (at_builtin; refine wpList_runC rfl .copy (.tmp 80) (.tmp 81) 41 41 rfl _ _ rfl rfl _ _ rfl (hcp2 _ _) ?_)
  go_ret
  exact HEND.out

end Go.Proofs.YtpnjnedfcdppaaaGreatDoor

/-
  slices.Insert where there is no room; slices.Delete of one.
-/
namespace Go.Proofs.YtpnjnedfcdppaaaGreatDoor
open Go.RowKit

theorem zero_size (n : Nat) : (Builtin.zeroCells (Value.agg #[I 0, I 0]).cells n).size = n * 2 := by simp [Builtin.zeroCells, Value.cells]

set_option maxRecDepth 100000 in
set_option maxHeartbeats 4000000 in
theorem oins_grow (base n h g cap p : Nat) (L : PL) (x d : Int) (w : World) (hr : RB w g 82 cap L) (hl : L.length = n) (hn : n ≤ 1000) (hp : p < n) (hroom : cap < n + 1) (hs : SPT w h x d) (hb : base ≤ w.heap.size) :
    Calls Tryz.prog 135 #[.slice (some ⟨g, 0, none⟩) n cap, I p, .slice (some ⟨h, 0, none⟩) 1 1] w (RetIns (insP L p x d) base w) := by
  have hnc : n ≤ cap := by have := hr.le; omega
  have hps := hr.ps
  have hgw := hr.lt
  have hhw := hs.lt
  rw [hl] at hps
  have hd1 : (L.drop p).length = n - p := by simp [hl]
  obtain ⟨i, hi1, hiz, his, hib⟩ := info_parts gspot_info
  have hold : (Builtin.firstCells i.size p (.slice (some ⟨g, 0, none⟩) p cap)).run Tryz.prog w.drew = .ok (flat (L.take p)).toArray w.drew := by
    rw [his]
    refine run_firstCells_some w.drew 2 p ⟨g, 0, none⟩ p cap (flat (L.take p)) (by rw [flat_length, List.length_take]; congr 1; omega) (fun j v hv => ?_)
    obtain ⟨b', off', e', _, hc⟩ := hps.cells (by omega)
    cases e'
    rw [addn]
    refine hc j v ?_
    rw [← flat_take, List.getElem?_take] at hv
    split at hv
    · exact hv
    · cases hv
  have hik : p + (n + 1 - p) = n + 1 := by omega
  have hkk : (n : Int) + 1 - (p : Int) = ((n + 1 - p : Nat) : Int) := by omega
  obtain ⟨C, hC⟩ : ∃ C, grownCap w (n + 1) cap 82 = C := ⟨_, rfl⟩
  have hCge : n + 1 ≤ C := by rw [← hC]; exact grownCap_ge w _ _ _
  have hCm : C ≤ maxLen := by rw [← hC]; exact grownCap_le_maxLen w _ _ _ (by unfold maxLen; omega)
  obtain ⟨ROW, hROW⟩ : ∃ ROW : Array Value, ROW = (flat (L.take p)).toArray ++ Builtin.zeroCells (Value.agg #[I 0, I 0]).cells (n + 1 - p) ++ Builtin.zeroCells (Value.agg #[I 0, I 0]).cells (C - (n + 1)) := ⟨_, rfl⟩
  have hfl : (flat (L.take p)).length = p * 2 := by rw [flat_length, List.length_take]; congr 1; omega
  have hRz : ROW.size = C * 2 := by
    rw [hROW, Array.size_append, Array.size_append, zero_size, zero_size, List.size_toArray, hfl]
    omega
  have hRt : ROW.toList.take (p * 2) = flat (L.take p) := by
    rw [hROW, Array.toList_append, Array.toList_append, List.append_assoc, List.take_left' hfl]
  obtain ⟨W1, hW1⟩ : ∃ W1, W1 = w.drew.alloc (.cells ROW 82) := ⟨_, rfl⟩
  obtain ⟨G, hG⟩ : ∃ G, G = w.heap.size := ⟨_, rfl⟩
  have hrz : ∀ ty, (Builtin.append_ #[41, 3] ty #[.slice (some ⟨g, 0, none⟩) p cap, .int .i64 ((n : Int) + 1 - (p : Int))]).run Tryz.prog w = .ok (.slice (some ⟨G, 0, none⟩) (n + 1) C) W1 := fun ty => by
    have h1 := Lib.run_append_grow_zeros w 41 3 ty 82 i _ .i64 .i64 Tryz.underlying41 Tryz.underlying3 hi1 hiz (some ⟨g, 0, none⟩) p cap (flat (L.take p)) hold (n + 1 - p) (by omega) (by omega) (by omega) (by omega) (by rw [hib]; omega) (by rw [hib, hik]; exact growslice_fits hroom (by omega))
    rw [hik, hC, ← hROW, ← hW1, ← hG] at h1
    rw [hkk]
    exact h1
  have hg1 : W1.heap[G]? = some (.cells ROW 82 (0, 0)) := by rw [hW1, hG]; exact heap_alloc_new w.drew _
  have hB1 : Below G w W1 := by rw [hW1, hG]; exact (Below.refl _ _).drew.alloc (Nat.le_refl _) _
  have hs1 : SPT W1 h x d := (hB1.block h (by omega)).trans hs
  have hps1 : PS W1 (some ⟨g, 0, none⟩) n cap L := hps.below (by rw [← hG]; exact hB1)
  have hcpA : ∀ ty dc, (Builtin.copy_ #[41, 41] ty #[.slice (some ⟨G, p * 2, none⟩) (n + 1 - p) dc, .slice (some ⟨h, 0, none⟩) 1 1]).run Tryz.prog W1 = .ok (goInt [(x, d)].length) (W1.setRow G (rput ROW p [(x, d)])) := fun ty dc =>
    run_copyR W1 _ ty 82 Tryz.underlying41 ospot_size G p 82 _ dc 1 1 ⟨h, 0, none⟩ _ [(x, d)] hg1 (by simp only [Nat.min_def, List.length_singleton]; split <;> omega) (by simp) hs1.src (by rw [hRz]; simp only [List.length_singleton]; omega)
  have hz2 : (rput ROW p [(x, d)]).size = C * 2 := by rw [rput_size _ _ _ (by rw [hRz]; simp only [List.length_singleton]; omega), hRz]
  obtain ⟨W2, hW2⟩ : ∃ W2, W2 = W1.setRow G (rput ROW p [(x, d)]) := ⟨_, rfl⟩
  have hg2 : W2.heap[G]? = some (.cells (rput ROW p [(x, d)]) 82 (0, 0)) := by rw [hW2]; exact row_lay W1 G _ _ _ hg1
  have hB2 : Below G w W2 := by rw [hW2]; exact below_setRow hB1 (Nat.le_refl _) _
  have hps2 : PS W2 (some ⟨g, 0, none⟩) n cap L := hps.below (by rw [← hG]; exact hB2)
  rw [← hW2] at hcpA
  have hcpB : ∀ ty dc sc, (Builtin.copy_ #[41, 41] ty #[.slice (some ⟨G, (p + 1) * 2, none⟩) (n - p) dc, .slice (some ⟨g, p * 2, none⟩) (n - p) sc]).run Tryz.prog W2.drew = .ok (goInt (L.drop p).length) (W2.drew.setRow G (rput (rput ROW p [(x, d)]) (p + 1) (L.drop p))) := fun ty dc sc =>
    run_copyR W2.drew _ ty 82 Tryz.underlying41 ospot_size G (p + 1) 82 _ dc _ sc ⟨g, p * 2, none⟩ _ (L.drop p) hg2 (by rw [hd1]; simp only [Nat.min_def]; split <;> omega) (by omega) (fun j v hv => by
      obtain ⟨b', off', e', _, hc⟩ := hps2.cells (by omega)
      cases e'
      rw [addn]
      have := hc (p * 2 + j) v (by rw [← flat_drop, List.getElem?_drop] at hv; exact hv)
      rw [Nat.zero_add] at this
      exact this) (by rw [hd1, hz2]; omega)
  have HEND : Hid (RetIns (insP L p x d) base w (.returned (.slice (some ⟨G, 0, none⟩) (n + 1) C)) (W2.drew.setRow G (rput (rput ROW p [(x, d)]) (p + 1) (L.drop p)))) := by
    have hil : (insP L p x d).length = n + 1 := by rw [insP_length L p x d (by omega), hl]
    refine ⟨_, rfl, ?_, ?_⟩
    · have : RB (W2.drew.setRow G (rput (rput ROW p [(x, d)]) (p + 1) (L.drop p))) G 82 C (insP L p x d) := by
        refine ⟨_, row_lay W2.drew G _ _ _ hg2, ?_, by rw [hil]; exact hCge, ?_⟩
        · rw [rput_size _ _ _ (by rw [hd1, hz2]; omega), hz2]
        · rw [hil, ← hl]
          exact put_fresh ROW L p x d (by omega) (by rw [hl, hRz]; omega) hRt
      have := this.own (base := base) (by omega) hCm
      rw [hil] at this
      exact this
    · exact (below_setRow hB2.drew (Nat.le_refl _) _).mono (by omega)
  obtain ⟨W3, hW3⟩ : ∃ W3, W3 = W2.drew.setRow G (rput (rput ROW p [(x, d)]) (p + 1) (L.drop p)) := ⟨_, rfl⟩
  rw [← hW3] at hcpB HEND
  have hw1 : IntKind.i64.wrap ((p : Int) + 1) = (p : Int) + 1 := by rw [IntKind.wrap_i64]; omega
  have hb1 : (0 : Int) ≤ (p : Int) + 1 := by omega
  have hin : p ≤ n := by omega
  have htn : ((p : Int) + 1).toNat = p + 1 := by omega
  have hb2 : ¬ (C = p + 1) := by omega
  have hb3 : ¬ (C = p) := by omega
  have hb4 : ¬ (cap = p) := by omega
  have hz4 : ¬ ((p : Int) = (n : Int)) := by omega
  have hz3 : (cap : Int) < (n : Int) + 1 := by omega
  have hCm' : C ≤ 9223372036854775807 := by unfold maxLen at hCm; omega
  clear hps hps1 hps2 hd1 hold hik hkk hC hROW hfl hRz hRt hW1 hg1 hB1 hs1 hz2 hW2 hg2 hB2 hW3 hG hs hr hl hCm hi1 hiz his hib
  go_enter Tryz.func135, Tryz.ntmps135
  go_wp2_with (first
    | (at_builtin; refine Lib.wpList_append_run _ rfl _ _ _ _ rfl _ _ rfl rfl _ _ (hrz _) ?_)
    | (at_builtin; refine wpList_runC rfl .copy (.tmp 43) (.tmp 44) 41 41 rfl _ _ rfl rfl _ _ rfl (hcpA _ _) ?_))
  go_region_law (refine step_runC rfl (.tmp 50) (.tmp 53) 41 41 rfl _ _ (by simp [Act.eval, Act.put]) (by simp [Act.eval, Act.put]) _ _ (hcpB _ _ _) ?_)
  go_wp2
  go_ret
  exact HEND.out

theorem oins_any (base n h : Nat) (A : Option Addr) (c p : Nat) (L : PL) (x d : Int) (w : World) (ho : OwnR w base 82 (.slice A n c) L) (hl : L.length = n) (hn : n ≤ 1000) (hp : p ≤ n) (hs : SPT w h x d) (hne : ∀ ad, A = some ad → h ≠ ad.block) (hb : base ≤ w.heap.size) :
    Calls Tryz.prog 135 #[.slice A n c, I p, .slice (some ⟨h, 0, none⟩) 1 1] w (RetIns (insP L p x d) base w) := by
  by_cases hpn : p = n
  · subst hpn
    rw [← hl, insP_end, hl]
    exact oins_end base p h A c L x d w ho hl hn hs hb
  · rcases OwnR.rb ho with ⟨_, e⟩ | ⟨g, cap, e, hbg, hm, hr⟩
    · subst e
      simp at hl
      omega
    · rw [hl] at e
      cases e
      by_cases hroom : n + 1 ≤ c
      · exact oins_room base n h g c p L x d w hr hm hl hn (by omega) hroom hs (hne _ rfl) hbg
      · exact oins_grow base n h g c p L x d w hr hl hn (by omega) (by omega) hs hb

theorem put_del (cur : Array Value) (L : PL) (p : Nat) (hp : p < L.length) (hc : L.length * 2 ≤ cur.size) (ht : cur.toList.take (L.length * 2) = flat L) :
    (rput (rput cur p (L.drop (p + 1))) (L.length - 1) [(0, 0)]).toList.take ((L.length - 1) * 2) = flat (L.take p ++ L.drop (p + 1)) := by
  have hX : (flat (L.take p)).length = p * 2 := by rw [flat_length, List.length_take]; congr 1; omega
  have h1 : cur.toList.take (p * 2) = flat (L.take p) := by
    rw [← flat_take, ← ht, List.take_take]
    congr 1
    omega
  have hlen : (flat (L.take p ++ L.drop (p + 1))).length = (L.length - 1) * 2 := by
    rw [flat_length]
    simp
    omega
  have hq : (rput cur p (L.drop (p + 1))).toList = cur.toList.take (p * 2) ++ flat (L.drop (p + 1)) ++ cur.toList.drop (p * 2 + (flat (L.drop (p + 1))).length) := rfl
  have hq2 : (rput (rput cur p (L.drop (p + 1))) (L.length - 1) [(0, 0)]).toList = (rput cur p (L.drop (p + 1))).toList.take ((L.length - 1) * 2) ++ flat [(0, 0)] ++ (rput cur p (L.drop (p + 1))).toList.drop ((L.length - 1) * 2 + 2) := rfl
  rw [hq2, hq, h1, ← flat_append, List.take_left' hlen, List.append_assoc, List.take_left' hlen]

theorem put_last (cur : Array Value) (L : PL) (k : Nat) (hl : L.length = k + 1) (ht : cur.toList.take (L.length * 2) = flat L) (hc : L.length * 2 ≤ cur.size) : (rput cur k [(0, 0)]).toList.take (k * 2) = flat (L.take k) := by
  have h1 : cur.toList.take (k * 2) = flat (L.take k) := by
    rw [← flat_take, ← ht, List.take_take]
    congr 1
    omega
  have hq : (rput cur k [(0, 0)]).toList = cur.toList.take (k * 2) ++ flat [(0, 0)] ++ cur.toList.drop (k * 2 + 2) := rfl
  rw [hq, h1, List.append_assoc, List.take_left' (by rw [flat_length, List.length_take, hl]; congr 1; omega)]
set_option maxRecDepth 100000 in
set_option maxHeartbeats 4000000 in
theorem odel_tight (base k g : Nat) (L : PL) (w : World) (hr : RB w g 82 (k + 1) L) (hl : L.length = k + 1) (hn : k ≤ 1000) (hb : base ≤ g) :
    Calls Tryz.prog 198 #[.slice (some ⟨g, 0, none⟩) ((k + 1 : Nat)) (k + 1), I k, I ((k : Int) + 1)] w fun e w' => e = .returned (.slice (some ⟨g, 0, none⟩) k (k + 1)) ∧ RB w' g 82 (k + 1) (L.take k ++ L.drop (k + 1)) ∧ Below g w w' := by
  obtain ⟨cur, h1, h2, h3, h4⟩ := hr
  obtain ⟨W2, hW2⟩ : ∃ W2, W2 = w.drew.setRow g (rput cur k [(0, 0)]) := ⟨_, rfl⟩
  have hcl : ∀ ty c', (Builtin.clear_ #[41] ty #[.slice (some ⟨g, k * 2, none⟩) 1 c']).run Tryz.prog w.drew = .ok (.tuple #[]) W2 := fun ty c' => by
    rw [hW2]
    exact run_clearR w.drew 41 ty 82 Tryz.underlying41 gspot_info g k c' 82 _ h1 (by rw [h2]; omega)
  have HEND : Hid (RB W2 g 82 (k + 1) (L.take k ++ L.drop (k + 1)) ∧ Below g w W2) := by
    have hdr : L.take k ++ L.drop (k + 1) = L.take k := by rw [List.drop_eq_nil_of_le (by omega), List.append_nil]
    rw [hdr]
    have hil : (L.take k).length = k := by simp [hl]
    constructor
    · rw [hW2]
      refine ⟨_, row_lay w.drew g _ _ _ h1, ?_, by rw [hil]; omega, ?_⟩
      · rw [rput_size _ _ _ (by rw [h2]; simp), h2]
      · rw [hil]
        exact put_last cur L k hl h4 (by rw [hl, h2]; omega)
    · rw [hW2]
      exact below_setRow (Below.refl _ _).drew (Nat.le_refl _) _
  have hw1 : IntKind.i64.wrap ((k : Int) + 1) = (k : Int) + 1 := by rw [IntKind.wrap_i64]; omega
  have hb1 : (0 : Int) ≤ (k : Int) + 1 := by omega
  have htn : ((k : Int) + 1).toNat = k + 1 := by omega
  have hz4 : ¬ ((k : Int) = (k : Int) + 1) := by omega
  have hz5 : ((k : Int) == (k : Int) + 1) = false := by simpa using hz4
  have hi3 : (k : Int) ≤ (k : Int) + 1 := by omega
  clear h1 h2 h3 h4 hW2 hl
  go_enter Tryz.func198, Tryz.ntmps198
  go_wp2
  go_region
  go_wp2
  go_ret
  exact ⟨rfl, HEND.out.1, HEND.out.2⟩

set_option maxRecDepth 100000 in
set_option maxHeartbeats 4000000 in
theorem odel_any (base k g cap p : Nat) (L : PL) (w : World) (hr : RB w g 82 cap L) (hl : L.length = k + 1) (hm : cap ≤ maxLen) (hn : k ≤ 1000) (hp : p ≤ k) (hb : base ≤ g) :
    Calls Tryz.prog 198 #[.slice (some ⟨g, 0, none⟩) ((k + 1 : Nat)) cap, I p, I ((p : Int) + 1)] w fun e w' => e = .returned (.slice (some ⟨g, 0, none⟩) k cap) ∧ RB w' g 82 cap (L.take p ++ L.drop (p + 1)) ∧ Below g w w' := by
  have hnc : k + 1 ≤ cap := by have := hr.le; omega
  have HRB := Lib.hid hr
  have HL := Lib.hid hl
  have hps := hr.ps
  rw [hl] at hps
  obtain ⟨cur, h1, h2, h3, h4⟩ := hr
  have hd1 : (L.drop (p + 1)).length = k - p := by simp [hl]
  have hsrc : ∀ sp : Option Addr, (cap = p + 1 ∨ sp = some ⟨g, (p + 1) * 2, none⟩) → (0 < k - p → ∃ ad, sp = some ad ∧ ∀ j v, (flat (L.drop (p + 1)))[j]? = some v → w.drew.cell? (ad.add j) = some v) := by
    intro sp hsp h0
    rcases hsp with hsp | rfl
    · omega
    · refine ⟨_, rfl, fun j v hv => ?_⟩
      obtain ⟨b', off', e', _, hc⟩ := hps.cells (by omega)
      cases e'
      rw [addn]
      have := hc ((p + 1) * 2 + j) v (by rw [← flat_drop, List.getElem?_drop] at hv; exact hv)
      rw [Nat.zero_add] at this
      exact this
  obtain ⟨W1, hW1⟩ : ∃ W1, W1 = w.drew.setRow g (rput cur p (L.drop (p + 1))) := ⟨_, rfl⟩
  have hap : ∀ (ty : TypeId) (sp : Option Addr) (c' : Nat), (cap = p + 1 ∨ sp = some ⟨g, (p + 1) * 2, none⟩) → (Builtin.append_ #[41, 41] ty #[.slice (some ⟨g, 0, none⟩) p cap, .slice sp (k - p) c']).run Tryz.prog w.drew = .ok (.slice (some ⟨g, 0, none⟩) k cap) W1 := fun ty sp c' hsp => by
    have := run_appR w.drew 41 ty 82 Tryz.underlying41 ospot_size g p cap (k - p) c' sp cur (L.drop (p + 1)) h1 hd1 (hsrc sp hsp) (by omega) (by rw [h2]; omega)
    rw [show p + (k - p) = k by omega, ← hW1] at this
    exact this
  have hg1 : W1.heap[g]? = some (.cells (rput cur p (L.drop (p + 1))) 82 (0, 0)) := by rw [hW1]; exact row_lay w.drew g _ _ _ h1
  have hB1 : Below g w W1 := by rw [hW1]; exact below_setRow (Below.refl _ _).drew (Nat.le_refl _) _
  have hz1 : (rput cur p (L.drop (p + 1))).size = cap * 2 := by rw [rput_size _ _ _ (by rw [hd1, h2]; omega), h2]
  obtain ⟨W2, hW2⟩ : ∃ W2, W2 = W1.setRow g (rput (rput cur p (L.drop (p + 1))) k [(0, 0)]) := ⟨_, rfl⟩
  have hcl : ∀ ty c', (Builtin.clear_ #[41] ty #[.slice (some ⟨g, k * 2, none⟩) 1 c']).run Tryz.prog W1 = .ok (.tuple #[]) W2 := fun ty c' => by
    rw [hW2]
    exact run_clearR W1 41 ty 82 Tryz.underlying41 gspot_info g k c' 82 _ hg1 (by rw [hz1]; omega)
  have HEND : Hid (RB W2 g 82 cap (L.take p ++ L.drop (p + 1)) ∧ Below g w W2) := by
    have hil : (L.take p ++ L.drop (p + 1)).length = k := by simp [hl]; omega
    constructor
    · rw [hW2]
      refine ⟨_, row_lay W1 g _ _ _ hg1, ?_, by rw [hil]; omega, ?_⟩
      · rw [rput_size _ _ _ (by rw [hz1]; simp only [List.length_singleton]; omega), hz1]
      · have := put_del cur L p (by omega) (by rw [hl, h2]; omega) h4
        rw [hl, Nat.add_sub_cancel] at this
        rw [hil]
        exact this
    · rw [hW2]
      exact below_setRow hB1 (Nat.le_refl _) _
  have hcm : cap ≤ 9223372036854775807 := by unfold maxLen at hm; omega
  have hw1 : IntKind.i64.wrap ((p : Int) + 1) = (p : Int) + 1 := by rw [IntKind.wrap_i64]; omega
  have hb1 : (0 : Int) ≤ (p : Int) + 1 := by omega
  have htn : ((p : Int) + 1).toNat = p + 1 := by omega
  have hb4 : ¬ (cap = k) := by omega
  have hz4 : ¬ ((p : Int) = (p : Int) + 1) := by omega
  have hz5 : ((p : Int) == (p : Int) + 1) = false := by simpa using hz4
  have hpk : p ≤ k + 1 := by omega
  have hkc : k ≤ cap := by omega
  have hi1 : (p : Int) ≤ (k : Int) + 1 := by omega
  have hi2 : (p : Int) + 1 ≤ (k : Int) + 1 := by omega
  have hpc : p ≤ cap := by omega
  have hi3 : (p : Int) ≤ (p : Int) + 1 := by omega
  clear hps h1 h2 h3 h4 hd1 hsrc hW1 hg1 hB1 hz1 hW2 hl hm
  by_cases hcp : cap = p + 1
  · obtain rfl : k = p := by omega
    subst hcp
    exact odel_tight base k g L w HRB.out HL.out hn hb
  · have HAP : ∀ (ty : TypeId), (Builtin.append_ #[41, 41] ty #[.slice (some ⟨g, 0, none⟩) p cap, .slice (some ⟨g, (p + 1) * 2, none⟩) (k - p) (cap - (p + 1))]).run Tryz.prog w.drew = .ok (.slice (some ⟨g, 0, none⟩) k cap) W1 := fun ty => hap ty _ _ (.inr rfl)
    clear hap
    go_enter Tryz.func198, Tryz.ntmps198
    go_wp2
    go_region_law (refine step_runA rfl (.tmp 22) (.tmp 25) 41 41 rfl (.slice (some ⟨g, 0, none⟩) p cap) (.slice (some ⟨g, (p + 1) * 2, none⟩) (k - p) (cap - (p + 1))) (by simp [Act.eval, Act.put]) (by simp [Act.eval, Act.put]) (.slice (some ⟨g, 0, none⟩) k cap) W1 (HAP _) ?_)
    go_wp2
    go_ret
    exact ⟨rfl, HEND.out.1, HEND.out.2⟩

end Go.Proofs.YtpnjnedfcdppaaaGreatDoor
