/-
  What the desk answers: plain.
-/
import Derived.Test.YtpnjnedfcdppaaaGreatDoorDDesk
import Derived.Test.YtpnjnedfcdppaaaGreatDoorRanksAll
import Derived.Test.YtpnjnedfcdppaaaGreatDoorZStand
import Derived.Test.YtpnjnedfcdppaaaGreatDoorKRef1All
import Derived.Test.YtpnjnedfcdppaaaGreatDoorKRef4All
import Derived.Test.YtpnjnedfcdppaaaGreatDoorSOrdAll
import Derived.Test.YtpnjnedfcdppaaaGreatDoorKOne0
namespace Go.Proofs.YtpnjnedfcdppaaaGreatDoor

def spM : PL → Option (PL × (Int × Int) × PL)
  | [] => none
  | p :: t => match spM t with
    | none => some ([], p, [])
    | some (la, q, lb) => if p.2 < q.2 then some (p :: la, q, lb) else some ([], p, t)
def zTF : Nat → PL → Tr
  | 0, _ => .nil
  | n + 1, l => match spM l with
    | none => .nil
    | some (la, q, lb) => .node (zTF n la) q.1 (zTF n lb)
def zT (ks : List Int) : Tr := zTF ks.length (zpl ks)
theorem spM_none : ∀ {l : PL}, spM l = none → l = []
  | [], _ => rfl
  | p :: t, h => by
    unfold spM at h
    split at h
    · cases h
    · split at h <;> cases h
theorem spM_some : ∀ {l la lb : PL} {q : Int × Int}, spM l = some (la, q, lb) → l = la ++ q :: lb ∧ (∀ p ∈ la, p.2 < q.2) ∧ (∀ p ∈ lb, p.2 ≤ q.2)
  | [], la, lb, q, h => by cases h
  | p :: t, la, lb, q, h => by
    unfold spM at h
    cases hs : spM t with
    | none =>
      rw [hs] at h
      cases h
      have := spM_none hs
      subst this
      exact ⟨rfl, by simp, by simp⟩
    | some x =>
      obtain ⟨la', q', lb'⟩ := x
      rw [hs] at h
      obtain ⟨e, h1, h2⟩ := spM_some hs
      by_cases hlt : p.2 < q'.2
      · simp only [hlt, if_true, Option.some.injEq, Prod.mk.injEq] at h
        obtain ⟨rfl, rfl, rfl⟩ := h
        refine ⟨by rw [e]; rfl, fun r hr => ?_, h2⟩
        rcases List.mem_cons.mp hr with rfl | hr
        · exact hlt
        · exact h1 r hr
      · simp only [hlt, if_false, Option.some.injEq, Prod.mk.injEq] at h
        obtain ⟨rfl, rfl, rfl⟩ := h
        refine ⟨rfl, by simp, fun r hr => ?_⟩
        rw [e] at hr
        rcases List.mem_append.mp hr with hr | hr
        · have := h1 r hr; omega
        · rcases List.mem_cons.mp hr with rfl | hr
          · omega
          · have := h2 r hr; omega
theorem zTF_hp : ∀ (n : Nat) (l : PL), l.length ≤ n → Hp (zTF n l) l
  | 0, l, h => List.eq_nil_of_length_eq_zero (by omega)
  | n + 1, l, h => by
    unfold zTF
    cases hs : spM l with
    | none => exact spM_none hs
    | some x =>
      obtain ⟨la, q, lb⟩ := x
      obtain ⟨e, h1, h2⟩ := spM_some hs
      have hl : la.length + lb.length + 1 = l.length := by rw [e]; simp; omega
      exact ⟨la, q.2, lb, e, zTF_hp n la (by omega), zTF_hp n lb (by omega), h1, h2⟩
theorem zT_hp (ks : List Int) : Hp (zT ks) (zpl ks) := zTF_hp _ _ (by rw [zpl_length]; exact Nat.le_refl _)

def dTree (ops : List OP) (x : List UInt8) : Option Tr :=
  if x = [103, 114, 111, 119] then some (grT ops)
  else if x = [122, 105, 112] then some (zT (kys (runR ops).1))
  else if x = [103, 111, 97, 116] then some (goT ops).t
  else if x = [101, 118, 101, 110] then some (ev (kys (runR ops).1))
  else none
def rowsT (rs : List (List Int)) : List UInt8 := Lib.join (rs.map jnd) [124]
def deepT (t : Tr) : List UInt8 := if t.tall = 0 then [110, 111, 110, 101] else dg (t.tall - 1)
def e1T : List UInt8 := errT 1
/- dAns by parts -/
def pathR (ops : List OP) : Option (List Nat) → List UInt8 × List OP
  | some [k] => (if kyB (k : Int) then orN (jnd ((stops (kys (runR ops).1) k).map Prod.snd)) else e1T, ops)
  | _ => (e1T, ops)
def ordR (ops : List OP) : List (List UInt8) → List UInt8 × List OP
  | [x] => (match dTree ops x with | some t => orN (jnd t.pre) | none => e1T, ops)
  | _ => (e1T, ops)
def deepR (ops : List OP) : List (List UInt8) → List UInt8 × List OP
  | [x] => (match dTree ops x with | some t => deepT t | none => e1T, ops)
  | _ => (e1T, ops)
def opR (ops : List OP) : Option (Int × Int × Int) → List UInt8 × List OP
  | none => (e1T, ops)
  | some (k, a, b) => if (doA (runR ops).1 k a).e ≠ 0 then (errT (doA (runR ops).1 k a).e.toNat, ops) else (dTold k (doA (runR ops).1 k a), ops ++ [(k, a, b)])
theorem pathR_t {ops : List OP} {k : Nat} (h : kyB (k : Int) = true) : pathR ops (some [k]) = (orN (jnd ((stops (kys (runR ops).1) k).map Prod.snd)), ops) := by
  show ((if kyB (k : Int) = true then _ else _), ops) = _
  rw [if_pos h]
theorem pathR_f {ops : List OP} {k : Nat} (h : kyB (k : Int) = false) : pathR ops (some [k]) = (e1T, ops) := by
  show ((if kyB (k : Int) = true then _ else _), ops) = _
  rw [if_neg (by rw [h]; decide)]
theorem ordR_some {ops : List OP} {x : List UInt8} {t : Tr} (h : dTree ops x = some t) : ordR ops [x] = (orN (jnd t.pre), ops) := by
  show ((match dTree ops x with | some t => orN (jnd t.pre) | none => e1T), ops) = _
  rw [h]
theorem ordR_none {ops : List OP} {x : List UInt8} (h : dTree ops x = none) : ordR ops [x] = (e1T, ops) := by
  show ((match dTree ops x with | some t => orN (jnd t.pre) | none => e1T), ops) = _
  rw [h]
theorem deepR_some {ops : List OP} {x : List UInt8} {t : Tr} (h : dTree ops x = some t) : deepR ops [x] = (deepT t, ops) := by
  show ((match dTree ops x with | some t => deepT t | none => e1T), ops) = _
  rw [h]
theorem deepR_none {ops : List OP} {x : List UInt8} (h : dTree ops x = none) : deepR ops [x] = (e1T, ops) := by
  show ((match dTree ops x with | some t => deepT t | none => e1T), ops) = _
  rw [h]
def dAns (ops : List OP) : List (List UInt8) → List UInt8 × List OP
  | [] => ([], ops)
  | first :: rest =>
    if kindB first ≠ 0 then opR ops (dOp (kindB first) rest)
    else if first = [112, 97, 116, 104] then pathR ops (nms 1 rest)
    else if first = [114, 111, 119, 115] then (if rest.length = 0 then orN (rowsT (rowsL (kys (runR ops).1))) else e1T, ops)
    else if first = [116, 114, 101, 101] then ordR ops rest
    else if first = [100, 101, 101, 112] then deepR ops rest
    else (e1T, ops)
def dRunL : List OP → List (List (List UInt8)) → List UInt8
  | _, [] => []
  | ops, w :: r => (dAns ops w).1 ++ [10] ++ dRunL (dAns ops w).2 r
def deskP (text : List UInt8) : List UInt8 :=
  if 8192 < text.length then errT 2 ++ [10] else if 100 < (dln text).length then errT 2 ++ [10] else dRunL [] (dln text)

/- what holds of all ops that were done -/
structure OB2 (ops : List OP) : Prop where
  each : ∀ o ∈ ops, 0 ≤ o.2.1 ∧ o.2.1 < 100000000 ∧ 0 ≤ o.2.2 ∧ o.2.2 < 100000000
theorem doL_vals {l : PL} {kind key val : Int} (hl : ∀ p ∈ l, 0 ≤ p.2 ∧ p.2 < 100000000) (hv : 0 ≤ val ∧ val < 100000000) : ∀ p ∈ doL l kind key val, 0 ≤ p.2 ∧ p.2 < 100000000 := by
  intro p hp
  unfold doL at hp
  repeat' split at hp
  · cases hp
  · exact hl p hp
  · unfold putL at hp
    repeat' split at hp
    · rcases List.mem_or_eq_of_mem_set hp with h | rfl
      · exact hl p h
      · exact hv
    · exact hl p hp
    · rcases List.mem_append.mp hp with h | h
      · exact hl p (List.mem_of_mem_take h)
      · rcases List.mem_cons.mp h with rfl | h
        · exact hv
        · exact hl p (List.mem_of_mem_drop h)
  · unfold cutL at hp
    split at hp
    · rcases List.mem_append.mp hp with h | h
      · exact hl p (List.mem_of_mem_take h)
      · exact hl p (List.mem_of_mem_drop h)
    · exact hl p hp
  · exact hl p hp
theorem runR_snoc (ops : List OP) (o : OP) : (runR (ops ++ [o])).1 = doL (runR ops).1 o.1 o.2.1 o.2.2 := by
  unfold runR
  rw [List.foldl_append]
  rfl
theorem runR_vals : ∀ (n : Nat) (ops : List OP), ops.length = n → OB2 ops → ∀ p ∈ (runR ops).1, 0 ≤ p.2 ∧ p.2 < 100000000 := by
  intro n
  induction n with
  | zero =>
    intro ops h _ p hp
    have : ops = [] := List.eq_nil_of_length_eq_zero h
    subst this
    cases hp
  | succ n ih =>
    intro ops h hb
    obtain ⟨ops', o, rfl⟩ : ∃ a o, ops = a ++ [o] := by
      rcases List.eq_nil_or_concat ops with e | ⟨a, o, e⟩
      · subst e; cases h
      · exact ⟨a, o, by rw [e]; simp⟩
    rw [runR_snoc]
    refine doL_vals (ih ops' (by simp at h; exact h) ⟨fun x hx => hb.each x (List.mem_append_left _ hx)⟩) ?_
    have := hb.each o (by simp)
    exact ⟨this.2.2.1, this.2.2.2⟩
theorem getD_mem {l : PL} {i : Nat} (h : i < l.length) : l[i]?.getD (0, 0) ∈ l := by
  rw [List.getElem?_eq_getElem h]
  exact List.getElem_mem h
theorem pairA_bd {l : PL} {p : Int} (hl : ∀ q ∈ l, (0 ≤ q.1 ∧ q.1 < 100000000) ∧ 0 ≤ q.2 ∧ q.2 < 100000000) : 0 ≤ (pairA l p).k ∧ (pairA l p).k < 100000000 ∧ 0 ≤ (pairA l p).v ∧ (pairA l p).v < 100000000 := by
  unfold pairA
  split
  · next h =>
    have := hl _ (getD_mem (l := l) (i := p.toNat) (by omega))
    exact ⟨this.1.1, this.1.2, this.2.1, this.2.2⟩
  · exact ⟨by decide, by decide, by decide, by decide⟩
theorem getA_bd {l : PL} {key : Int} (hl : ∀ q ∈ l, (0 ≤ q.1 ∧ q.1 < 100000000) ∧ 0 ≤ q.2 ∧ q.2 < 100000000) : 0 ≤ (getA l key).k ∧ (getA l key).k < 100000000 ∧ 0 ≤ (getA l key).v ∧ (getA l key).v < 100000000 := by
  unfold getA
  split
  · next h =>
    have := hl _ (getD_mem (l := l) (hasB_lt h))
    exact ⟨Int.le_refl 0, (by decide : (0 : Int) < 100000000), this.2.1, this.2.2⟩
  · exact ⟨by decide, by decide, by decide, by decide⟩
theorem doA_bd {l : PL} {kind key : Int} (hc : chk l = 0) (hl : ∀ q ∈ l, 0 ≤ q.2 ∧ q.2 < 100000000) : 0 ≤ (doA l kind key).k ∧ (doA l kind key).k < 100000000 ∧ 0 ≤ (doA l kind key).v ∧ (doA l kind key).v < 100000000 := by
  have hk : ∀ q ∈ l, (0 ≤ q.1 ∧ q.1 < 100000000) ∧ 0 ≤ q.2 ∧ q.2 < 100000000 := fun q hq => by
    have := (rise_kys hc).bd q.1 (List.mem_map.mpr ⟨q, hq, rfl⟩)
    exact ⟨by omega, hl q hq⟩
  have h200 := chk_len hc
  unfold doA
  rw [if_neg (by rw [hc]; decide)]
  split
  · exact ⟨by decide, by decide, by decide, by decide⟩
  · split
    · unfold putA
      repeat' split
      all_goals exact ⟨by decide, by decide, by decide, by decide⟩
    · split
      · exact getA_bd hk
      · unfold lookA
        split
        · exact getA_bd hk
        · split
          · exact pairA_bd hk
          · split
            · exact pairA_bd hk
            · split
              · have := cnt_le l key
                exact ⟨Int.le_refl 0, (by decide : (0 : Int) < 100000000), by show (0 : Int) ≤ (cnt l key : Nat); omega, by show ((cnt l key : Nat) : Int) < _; omega⟩
              · exact pairA_bd hk
theorem dTree_ks {ops : List OP} {x : List UInt8} {t : Tr} (h : dTree ops x = some t) : t.ks = kys (runR ops).1 := by
  unfold dTree at h
  repeat' split at h
  · cases h; exact (grT_same ops).ks
  · cases h
    rw [hp_ks (zT_hp _)]
    unfold zpl
    rw [List.map_map]
    have e : (Prod.fst ∘ fun k : Int => (k, (ht k : Int))) = id := rfl
    rw [e, List.map_id]
  · cases h; exact (go_inv ops).same.ks
  · cases h; exact ev_ks _ _ (Nat.le_refl _)
  · cases h
theorem dTree_tree {ops : List OP} {x : List UInt8} {t : Tr} (h : dTree ops x = some t) : IsTree (t.sp 0) ∧ t.size ≤ 200 := by
  have hk := dTree_ks h
  have hs : t.size ≤ 200 := by
    rw [← ks_length, hk, kys_len]
    exact chk_len (chk_runR ops)
  refine ⟨istree_of ?_ hs, hs⟩
  rw [hk]
  exact srt_up ((chk_zero _).1 (chk_runR ops)).2
end Go.Proofs.YtpnjnedfcdppaaaGreatDoor
