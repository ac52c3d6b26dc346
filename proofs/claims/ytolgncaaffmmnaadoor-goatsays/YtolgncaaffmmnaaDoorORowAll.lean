/-
  Joined texts: YtolgncaaffmmnaaDoorGRefU, YtolgncaaffmmnaaDoorORow.
-/
import Derived.Test.YtolgncaaffmmnaaDoorGRefT
import Derived.Test.YtolgncaaffmmnaaDoorSRow
import Derived.Lib.AppendZerosOnto
import Derived.Lib.Overlaps
/-
  hedgref.Least, Unleafed: a tree without a key.
-/
namespace Go.Proofs.YtolgncaaffmmnaaDoor
open Go.RowKit

set_option maxHeartbeats 1000000 in
theorem Least_any (t : Tr) (q : Option Addr) (w : World) (h : RT w q t) (hne : t ≠ .nil) : Calls Tryd.prog 58 #[.pointer q] w fun e w' => e = .returned (I t.least) ∧ w = w' := by
  have H := Lib.hid h
  have HN := Lib.hid hne
  clear h hne
  go_enter Tryd.func58, Tryd.ntmps58
  go_wp2
  go_loopg [0] (t.size) (fun n p wr => wr = w ∧ ∃ (q1 : Option Addr) (s : Tr), p = .pointer q1 ∧ RT w q1 s ∧ s ≠ .nil ∧ s.least = t.least ∧ s.size ≤ n)
  case atStart => exact ⟨rfl, q, t, rfl, H.out, HN.out, rfl, Nat.le_refl _⟩
  case round =>
    obtain ⟨rfl, q1, s, rfl, hR, hs, hl, hsz⟩ := hrel
    cases s with
    | nil => exact absurd rfl hs
    | node a k b =>
      obtain ⟨g, qa, qb, rfl, hg, ha, hb⟩ := hR
      obtain ⟨hlt, c0, c1, c2⟩ := tree_cells hg
      have HA := Lib.hid ha
      have HL := Lib.hid hl
      clear hg ha hb hs hl
      cases a with
      | nil =>
        obtain rfl : qa = none := HA.out
        have HK : Hid (t.least = k) := by show _ = _; rw [← HL.out]; simp [Tr.least, Tr.isNil]
        go_wp2
        go_ret
        exact ⟨by rw [HK.out]; rfl, rfl⟩
      | node a' k' b' =>
        obtain ⟨g', qa', qb', rfl, _⟩ := HA.out
        go_wp2
        go_roundg ((Tr.node a' k' b').size)
        case measure => simp only [Tr.size] at hsz ⊢; omega
        case rel => exact ⟨rfl, _, .node a' k' b', rfl, HA.out, by simp, by rw [← HL.out]; simp [Tr.least, Tr.isNil], Nat.le_refl _⟩

set_option maxRecDepth 100000 in
set_option maxHeartbeats 4000000 in
theorem Unleafed_any (t : Tr) : ∀ (x : Int) (q : Option Addr) (w : World), RT w q t → Calls Tryd.prog 39 #[.pointer q, I x] w (RetT (t.del x) w) := by
  induction t with
  | nil =>
    intro x q w h
    obtain rfl : q = none := h
    go_enter Tryd.func39, Tryd.ntmps39
    go_wp2
    go_ret
    exact ⟨none, rfl, rfl, Below.refl _ _⟩
  | node a k b iha ihb =>
    intro x q w h
    obtain ⟨g, qa, qb, rfl, hg, ha, hb⟩ := h
    obtain ⟨hlt, c0, c1, c2⟩ := tree_cells hg
    have HA := Lib.hid ha
    have HB := Lib.hid hb
    have IHA := Lib.hid iha
    have IHB := Lib.hid ihb
    clear hg iha ihb
    rcases Int.lt_trichotomy x k with hx | hx | hx
    · have HE := Lib.hid (show (Tr.node a k b).del x = .node (a.del x) k b by rw [Tr.del, if_pos hx])
      rw [HE.out]
      clear ha hb
      go_enter Tryd.func39, Tryd.ntmps39
      go_wp2
      go_region_held3 (fun W => W.cell? ⟨g, 0, none⟩ = some (I k) ∧ W.cell? ⟨g, 1, none⟩ = some (.pointer qa) ∧ W.cell? ⟨g, 2, none⟩ = some (.pointer qb))
        (first
          | exact ⟨d0, d1, d2⟩
          | exact ⟨ck d0 _, ck d1 _, ck d2 _⟩
          | exact ⟨c0, c1, c2⟩)
        (first
          | (go_at_call 39
             refine (IHA.out x qa _ HA.out.drew).mono ?_
             rintro e w2 ⟨q2, rfl, hr2, hb2⟩
             have d0 : w2.cell? ⟨g, 0, none⟩ = some (I k) := (hb2.cell (by exact hlt)).trans c0
             have d1 : w2.cell? ⟨g, 1, none⟩ = some (.pointer qa) := (hb2.cell (by exact hlt)).trans c1
             have d2 : w2.cell? ⟨g, 2, none⟩ = some (.pointer qb) := (hb2.cell (by exact hlt)).trans c2
             have HR2 := Lib.hid hr2
             have HB2 : Hid (Below w.heap.size w w2) := (Below.refl _ _).drew.trans hb2
             clear hr2 hb2))
      all_goals go_wp2
      all_goals go_ret
      all_goals exact ⟨_, rfl, RT.box k HR2.out (HB.out.below HB2.out), HB2.out.alloc HB2.out.size _⟩
    · subst hx
      cases a with
      | nil =>
        obtain rfl : qa = none := ha
        have HE := Lib.hid (show (Tr.node .nil x b).del x = b by rw [Tr.del, if_neg (Int.lt_irrefl _), if_neg (Int.lt_irrefl _), if_pos (show Tr.nil.isNil = true from rfl)])
        rw [HE.out]
        clear hb
        go_enter Tryd.func39, Tryd.ntmps39
        go_wp2
        go_ret
        exact ⟨_, rfl, HB.out, Below.refl _ _⟩
      | node a' k' b' =>
        obtain ⟨g', qa', qb', rfl, _⟩ := ha
        cases b with
        | nil =>
          obtain rfl : qb = none := hb
          have HE := Lib.hid (show (Tr.node (.node a' k' b') x .nil).del x = .node a' k' b' by rw [Tr.del, if_neg (Int.lt_irrefl _), if_neg (Int.lt_irrefl _), if_neg (by simp [Tr.isNil]), if_pos (show Tr.nil.isNil = true from rfl)])
          rw [HE.out]
          go_enter Tryd.func39, Tryd.ntmps39
          go_wp2
          go_ret
          exact ⟨_, rfl, HA.out, Below.refl _ _⟩
        | node a2 k2 b2 =>
          obtain ⟨g2, qa2, qb2, rfl, _⟩ := hb
          have HE := Lib.hid (show (Tr.node (.node a' k' b') x (.node a2 k2 b2)).del x = .node (.node a' k' b') (Tr.node a2 k2 b2).least ((Tr.node a2 k2 b2).del (Tr.node a2 k2 b2).least) by rw [Tr.del, if_neg (Int.lt_irrefl _), if_neg (Int.lt_irrefl _), if_neg (by simp [Tr.isNil]), if_neg (by simp [Tr.isNil])])
          rw [HE.out]
          have HLE := Lib.hid (Least_any (.node a2 k2 b2) (some ⟨g2, 0, none⟩) w HB.out (by simp))
          generalize (Tr.node a2 k2 b2).least = mn at *
          go_enter Tryd.func39, Tryd.ntmps39
          go_wp2_with fail
          refine HLE.out.mono ?_
          rintro e w1 ⟨rfl, rfl⟩
          go_wp2
          go_region_held3 (fun W => W.cell? ⟨g, 0, none⟩ = some (I x) ∧ W.cell? ⟨g, 1, none⟩ = some (.pointer (some ⟨g', 0, none⟩)) ∧ W.cell? ⟨g, 2, none⟩ = some (.pointer (some ⟨g2, 0, none⟩)))
            (first
              | exact ⟨d0, d1, d2⟩
              | exact ⟨ck d0 _, ck d1 _, ck d2 _⟩
              | exact ⟨c0, c1, c2⟩)
            (first
              | (go_at_call 39
                 refine (IHB.out mn (some ⟨g2, 0, none⟩) _ HB.out.drew).mono ?_
                 rintro e w2 ⟨q2, rfl, hr2, hb2⟩
                 have d0 : w2.cell? ⟨g, 0, none⟩ = some (I x) := (hb2.cell (by exact hlt)).trans c0
                 have d1 : w2.cell? ⟨g, 1, none⟩ = some (.pointer (some ⟨g', 0, none⟩)) := (hb2.cell (by exact hlt)).trans c1
                 have d2 : w2.cell? ⟨g, 2, none⟩ = some (.pointer (some ⟨g2, 0, none⟩)) := (hb2.cell (by exact hlt)).trans c2
                 have HR2 := Lib.hid hr2
                 have HB2 : Hid (Below w.heap.size w w2) := (Below.refl _ _).drew.trans hb2
                 clear hr2 hb2))
          all_goals go_wp2
          all_goals go_ret
          all_goals exact ⟨_, rfl, RT.box mn (HA.out.below HB2.out) HR2.out, HB2.out.alloc HB2.out.size _⟩
    · have HE := Lib.hid (show (Tr.node a k b).del x = .node a k (b.del x) by rw [Tr.del, if_neg (by omega), if_pos hx])
      rw [HE.out]
      have hnl : ¬ x < k := by omega
      clear ha hb
      go_enter Tryd.func39, Tryd.ntmps39
      go_wp2
      go_region_held3 (fun W => W.cell? ⟨g, 0, none⟩ = some (I k) ∧ W.cell? ⟨g, 1, none⟩ = some (.pointer qa) ∧ W.cell? ⟨g, 2, none⟩ = some (.pointer qb))
        (first
          | exact ⟨d0, d1, d2⟩
          | exact ⟨ck d0 _, ck d1 _, ck d2 _⟩
          | exact ⟨c0, c1, c2⟩)
        (first
          | (go_at_call 39
             refine (IHB.out x qb _ HB.out.drew).mono ?_
             rintro e w2 ⟨q2, rfl, hr2, hb2⟩
             have d0 : w2.cell? ⟨g, 0, none⟩ = some (I k) := (hb2.cell (by exact hlt)).trans c0
             have d1 : w2.cell? ⟨g, 1, none⟩ = some (.pointer qa) := (hb2.cell (by exact hlt)).trans c1
             have d2 : w2.cell? ⟨g, 2, none⟩ = some (.pointer qb) := (hb2.cell (by exact hlt)).trans c2
             have HR2 := Lib.hid hr2
             have HB2 : Hid (Below w.heap.size w w2) := (Below.refl _ _).drew.trans hb2
             clear hr2 hb2))
      all_goals go_wp2
      all_goals go_ret
      all_goals exact ⟨_, rfl, RT.box k (HA.out.below HB2.out) HR2.out, HB2.out.alloc HB2.out.size _⟩

end Go.Proofs.YtolgncaaffmmnaaDoor

/-
  A ROW OF SPOTS WITH SPARE ROOM: what a copy, an append in place, a clear do to it, cell by cell. Nothing of the program.
-/
namespace Go.Proofs.YtolgncaaffmmnaaDoor
open Go.RowKit

/-- block g is a row with room for cap pairs; it begins with L -/
def RB (w : World) (g t cap : Nat) (L : PL) : Prop := ∃ cur, w.heap[g]? = some (.cells cur t (0, 0)) ∧ cur.size = cap * 2 ∧ L.length ≤ cap ∧ cur.toList.take (L.length * 2) = flat L
theorem RB.sb {w : World} {g t cap : Nat} {L : PL} (h : RB w g t cap L) : SB w g t L := by
  obtain ⟨cur, h1, _, _, h2⟩ := h
  exact ⟨cur, h1, h2⟩
theorem RB.lt {w : World} {g t cap : Nat} {L : PL} (h : RB w g t cap L) : g < w.heap.size := h.sb.lt
theorem RB.le {w : World} {g t cap : Nat} {L : PL} (h : RB w g t cap L) : L.length ≤ cap := by
  obtain ⟨cur, _, _, h2, _⟩ := h
  exact h2
theorem RB.ps {w : World} {g t cap : Nat} {L : PL} (h : RB w g t cap L) : PS w (some ⟨g, 0, none⟩) L.length cap L := h.sb.ps h.le
theorem RB.below {w w' : World} {g t cap B : Nat} {L : PL} (h : RB w g t cap L) (hb : Below B w w') (hg : g < B) : RB w' g t cap L := by
  obtain ⟨cur, h1, h2⟩ := h
  exact ⟨cur, (hb.block g hg).trans h1, h2⟩
theorem RB.far {w : World} {g t cap : Nat} {L : PL} (h : RB w g t cap L) {p : Addr} (hp : p.block ≠ g) (u : Value) : RB (w.setCell p u) g t cap L := by
  obtain ⟨cur, h1, h2⟩ := h
  exact ⟨cur, (Below.heap_setCell w p u g (fun e => hp e.symm)).trans h1, h2⟩
theorem RB.set1 {w : World} {g t cap : Nat} {L : PL} (h : RB w g t cap L) (i : Nat) (v : Int) (hi : i < L.length) : RB (w.setCell ⟨g, i * 2 + 1, none⟩ (I v)) g t cap (L.set i (ky L i, v)) := by
  obtain ⟨cur, h1, h2, h3, h4⟩ := h
  refine ⟨cur.setIfInBounds (i * 2 + 1) (I v), ?_, by simpa using h2, by simpa using h3, ?_⟩
  · rw [setCell_eq_setRow w g (i * 2 + 1) _ t (0, 0) (I v) h1, setRow_heap w g _ _ t (0, 0) h1]
  · rw [ky_in hi, ← flat_set1 L i v hi, ← h4, List.length_set]
    simp [List.take_set]
theorem oflat_set0 (l : PL) (i : Nat) (v : Int) (h : i < l.length) : (flat l).set (i * 2) (I v) = flat (l.set i (v, l[i].2)) := by
  induction l generalizing i with
  | nil => simp at h
  | cons p t ih => cases i with
    | zero => simp [flat]
    | succ i =>
      rw [show (i + 1) * 2 = i * 2 + 1 + 1 by omega]
      have := ih i (by simpa using h)
      simp [flat, this]
theorem RB.set0 {w : World} {g t cap : Nat} {L : PL} (h : RB w g t cap L) (i : Nat) (v : Int) (hi : i < L.length) : RB (w.setCell ⟨g, i * 2, none⟩ (I v)) g t cap (L.set i (v, dp L i)) := by
  obtain ⟨cur, h1, h2, h3, h4⟩ := h
  refine ⟨cur.setIfInBounds (i * 2) (I v), ?_, by simpa using h2, by simpa using h3, ?_⟩
  · rw [setCell_eq_setRow w g (i * 2) _ t (0, 0) (I v) h1, setRow_heap w g _ _ t (0, 0) h1]
  · rw [dp_in hi, ← oflat_set0 L i v hi, ← h4, List.length_set]
    simp [List.take_set]
theorem RB.own {w : World} {g t cap base : Nat} {L : PL} (h : RB w g t cap L) (hb : base ≤ g) (hm : cap ≤ maxLen) : OwnR w base t (.slice (some ⟨g, 0, none⟩) L.length cap) L := by
  obtain ⟨cur, h1, h2, h3, h4⟩ := h
  exact ⟨flat_length L, .inr ⟨g, cap, cur, rfl, hb, h1, h3, hm, h2, h4⟩⟩
theorem OwnR.rb {w : World} {base t : Nat} {v : Value} {L : PL} (h : OwnR w base t v L) : (v = .slice none 0 0 ∧ L = []) ∨ ∃ g cap, v = .slice (some ⟨g, 0, none⟩) L.length cap ∧ base ≤ g ∧ cap ≤ maxLen ∧ RB w g t cap L := by
  rcases h.2 with ⟨h1, h2⟩ | ⟨g, cap, cur, h1, h2, h3, h4, h5, h6, h7⟩
  · exact .inl ⟨h1, List.eq_nil_of_length_eq_zero h2⟩
  · exact .inr ⟨g, cap, h1, h2, h5, cur, h3, h6, h4, h7⟩
theorem PB.rb {w : World} {g t : Nat} {L : PL} (h : PB w g t L) : RB w g t L.length L :=
  ⟨(flat L).toArray, h, by simp [flat_length], Nat.le_refl _, by rw [List.take_of_length_le (by simp [flat_length])]⟩

/-- what a copy leaves -/
def rput (cur : Array Value) (k : Nat) (xs : PL) : Array Value := (cur.toList.take (k * 2) ++ flat xs ++ cur.toList.drop (k * 2 + (flat xs).length)).toArray
theorem rput_size (cur : Array Value) (k : Nat) (xs : PL) (h : (k + xs.length) * 2 ≤ cur.size) : (rput cur k xs).size = cur.size := by
  simp [rput, flat_length]
  omega
theorem run_copyR {P : Program} (w : World) (T ty elem : TypeId) (hu : P.underlying T = some (.slice elem)) (hsz : (P.info? elem).map (·.size) = some 2)
    (g k t dLen dCap sLen sCap : Nat) (ad : Addr) (cur : Array Value) (xs : PL) (hg : w.heap[g]? = some (.cells cur t (0, 0))) (hm : xs.length = Nat.min sLen dLen) (h0 : 0 < xs.length) (hc : ∀ j v, (flat xs)[j]? = some v → w.cell? (ad.add j) = some v) (hfit : (k + xs.length) * 2 ≤ cur.size) :
    (Builtin.copy_ #[T, T] ty #[.slice (some ⟨g, k * 2, none⟩) dLen dCap, .slice (some ad) sLen sCap]).run P w = .ok (goInt xs.length) (w.setRow g (rput cur k xs)) := by
  cases hq : P.info? elem with
  | none => simp [hq] at hsz
  | some i =>
    have hi : i.size = 2 := by simpa [hq] using hsz
    have hl := run_loadCells_list (P := P) w ad (flat xs) hc
    have hst := run_storeCells_at P g (k * 2) t (flat xs) 0 cur w hg (by rw [flat_length]; omega) (flat_one _)
    rw [flat_length] at hl
    simp only [Nat.add_zero] at hst
    rw [hm] at hl
    simp [Builtin.copy_, run_underlying hu, Builtin.lenOf, Builtin.firstCells, sizeOf, typeInfo, hq, hi, hl, hst, rput, hm]
theorem wpList_runC {P : Program} {w : World} {ops : Array Oper} {rest : List Oper} {o : Oper} {a : Act} {Q : Exit → Act → World → Prop} (hgd : o.guard = none) (b : Builtin) (s x : Operand) (T U : TypeId)
    (ho : o.op = .call { callee := .builtin b, args := #[s, x], argTypes := #[T, U] }) (v u : Value) (hs : a.eval s = v) (hx : a.eval x = u) (v' : Value) (w' : World)
    (hb : b = .copy) (hr : (Builtin.copy_ #[T, U] o.type #[v, u]).run P w = .ok v' w') (h : wpList P ops Q rest (a.put o.dst v') w') : wpList P ops Q (o :: rest) a w := by
  subst hb
  refine wpList_plain hgd fun K hK => ?_
  unfold Oper.wp execOp
  simp only [ho, resolve, invoke, builtin, Sem.run_bind, Sem.run_pure, Result.andThen_ok, List.map_toArray, List.map_cons, List.map_nil, hs, hx, hr]
  exact hK _ _ h
theorem step_runC {P : Program} {w : World} {ops : Array Oper} {o : Oper} {a : Act} {K : Act → World → Prop} {Q : Exit → Act → World → Prop} {E : Prop} (hgd : o.guard = none) (s x : Operand) (T U : TypeId)
    (ho : o.op = .call { callee := .builtin .copy, args := #[s, x], argTypes := #[T, U] }) (v u : Value) (hs : a.eval s = v) (hx : a.eval x = u) (v' : Value) (w' : World)
    (hr : (Builtin.copy_ #[T, U] o.type #[v, u]).run P w = .ok v' w') (h : K (a.put o.dst v') w') : if Region.wanted o (yielded ops a.tmps) = true then Oper.wp P o a w K Q else E := by
  have hw : Region.wanted o (yielded ops a.tmps) = true := by simp [Region.wanted, hgd]
  rw [if_pos hw]
  unfold Oper.wp execOp
  simp only [ho, resolve, invoke, builtin, Sem.run_bind, Sem.run_pure, Result.andThen_ok, List.map_toArray, List.map_cons, List.map_nil, hs, hx, hr]
  exact h
theorem step_runA {P : Program} {w : World} {ops : Array Oper} {o : Oper} {a : Act} {K : Act → World → Prop} {Q : Exit → Act → World → Prop} {E : Prop} (hgd : o.guard = none) (s x : Operand) (T U : TypeId)
    (ho : o.op = .call { callee := .builtin .append, args := #[s, x], argTypes := #[T, U] }) (v u : Value) (hs : a.eval s = v) (hx : a.eval x = u) (v' : Value) (w' : World)
    (hr : (Builtin.append_ #[T, U] o.type #[v, u]).run P w = .ok v' w') (h : K (a.put o.dst v') w') : if Region.wanted o (yielded ops a.tmps) = true then Oper.wp P o a w K Q else E := by
  have hw : Region.wanted o (yielded ops a.tmps) = true := by simp [Region.wanted, hgd]
  rw [if_pos hw]
  unfold Oper.wp execOp
  simp only [ho, resolve, invoke, builtin, Sem.run_bind, Sem.run_pure, Result.andThen_ok, List.map_toArray, List.map_cons, List.map_nil, hs, hx, hr]
  exact h
/-- append in place of what stands behind, or of nothing -/
theorem run_appR {P : Program} (w : World) (T ty elem : TypeId) (hu : P.underlying T = some (.slice elem)) (hsz : (P.info? elem).map (·.size) = some 2)
    (g k cap m c : Nat) (sp : Option Addr) (cur : Array Value) (xs : PL) (hg : w.heap[g]? = some (.cells cur elem (0, 0))) (hm : xs.length = m) (hc : 0 < m → ∃ ad, sp = some ad ∧ ∀ j v, (flat xs)[j]? = some v → w.cell? (ad.add j) = some v) (hroom : k + m ≤ cap) (hfit : (k + m) * 2 ≤ cur.size) :
    (Builtin.append_ #[T, T] ty #[.slice (some ⟨g, 0, none⟩) k cap, .slice sp m c]).run P w = .ok (.slice (some ⟨g, 0, none⟩) (k + m) cap) (w.setRow g (rput cur k xs)) := by
  cases hq : P.info? elem with
  | none => simp [hq] at hsz
  | some i =>
    have hi : i.size = 2 := by simpa [hq] using hsz
    rcases Nat.eq_zero_or_pos m with h0 | h0
    · subst h0
      have hx : xs = [] := List.eq_nil_of_length_eq_zero hm
      subst hx
      have hr : rput cur k [] = cur := by simp [rput, flat]
      rw [hr, setRow_self w g cur elem (0, 0) hg]
      have hkc : k ≤ cap := by omega
      have hst := run_storeCells_at P g (k * 2) elem [] 0 cur w hg (by simp; omega) (by simp)
      simp only [Nat.add_zero, List.append_nil, List.length_nil, List.take_append_drop, Array.toArray_toList, setRow_self w g cur elem (0, 0) hg] at hst
      cases sp with
      | none => simp [Builtin.append_, run_underlying hu, sizeOf, typeInfo, hq, hi, Builtin.lenOf, Builtin.firstCells, hkc, hst, addn]
      | some ad => simp [Builtin.append_, run_underlying hu, sizeOf, typeInfo, hq, hi, Builtin.lenOf, Builtin.firstCells, loadCells, loadCellsFrom, hkc, hst, addn]
    · obtain ⟨ad, rfl, hcc⟩ := hc h0
      have := run_append_room (P := P) w T ty elem i hu hq g k cap cur hg ad m c (flat xs) (by rw [flat_length, hm, hi]) hcc (flat_one _) hroom (by rw [flat_length, hm, hi]; omega)
      rw [this, hi]
      rfl
/-- clear of one -/
theorem run_clearR {P : Program} (w : World) (T ty elem : TypeId) (hu : P.underlying T = some (.slice elem)) (hi : (P.info? elem).map (fun i => (i.zero, i.size, i.bytes)) = some (some (.agg #[I 0, I 0]), 2, 16))
    (g k c t : Nat) (cur : Array Value) (hg : w.heap[g]? = some (.cells cur t (0, 0))) (hfit : (k + 1) * 2 ≤ cur.size) :
    (Builtin.clear_ #[T] ty #[.slice (some ⟨g, k * 2, none⟩) 1 c]).run P w = .ok (.tuple #[]) (w.setRow g (rput cur k [(0, 0)])) := by
  obtain ⟨i, h1, hz, hs, hb⟩ := info_parts hi
  have hzc : (Builtin.zeroCells (Value.agg #[I 0, I 0]).cells 1).toList = flat [(0, 0)] := by kernel_rfl
  have hst := run_storeCells_at P g (k * 2) t (flat [(0, 0)]) 0 cur w hg (by simp [flat]; omega) (flat_one _)
  simp only [Nat.add_zero] at hst
  simp [Builtin.clear_, run_underlying hu, zeroValue, typeInfo, h1, hz, hzc, hst, rput]
theorem row_lay (w : World) (g t : Nat) (cur new : Array Value) (h : w.heap[g]? = some (.cells cur t (0, 0))) : (w.setRow g new).heap[g]? = some (.cells new t (0, 0)) := setRow_heap w g _ _ t (0, 0) h

end Go.Proofs.YtolgncaaffmmnaaDoor
