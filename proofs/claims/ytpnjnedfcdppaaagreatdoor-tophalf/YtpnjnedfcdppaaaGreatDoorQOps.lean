/-
  OP BY OP over the keys that are there (stage 10): what is answered, what is left: plain mathematics. Nothing of the program.
-/
import Derived.Test.YtpnjnedfcdppaaaGreatDoorQNear
namespace Go.Proofs.YtpnjnedfcdppaaaGreatDoor

/-- may this op come? -/
def hok (o : Int × Int × Int) : Prop := 1 ≤ o.1 ∧ o.1 ≤ 5 ∧ 0 ≤ o.2.1 ∧ o.2.1 ≤ 65535
instance (o : Int × Int × Int) : Decidable (hok o) := by unfold hok; infer_instance
def hanO (r : Option Int) : An := match r with | some y => ⟨0, y, 0, true⟩ | none => ⟨0, 0, 0, false⟩
/-- the answer to one op -/
def hA (l : List Int) (o : Int × Int × Int) : An :=
  if ¬ (1 ≤ o.1 ∧ o.1 ≤ 5) then ⟨3, 0, 0, false⟩
  else if ¬ (0 ≤ o.2.1 ∧ o.2.1 ≤ 65535) then ⟨1, 0, 0, false⟩
  else if o.1 = 4 then hanO (qnx o.2.1 l) else if o.1 = 5 then hanO (qpv o.2.1 l) else ⟨0, 0, 0, decide (o.2.1 ∈ l)⟩
/-- the keys behind it -/
def hL (l : List Int) (o : Int × Int × Int) : List Int := if hok o then (if o.1 = 1 then qins o.2.1 l else if o.1 = 3 then qdel o.2.1 l else l) else l
def hS (s : List Int × List An) (o : Int × Int × Int) : List Int × List An := (hL s.1 o, s.2 ++ [hA s.1 o])
def hR (ops : List (Int × Int × Int)) : List Int × List An := ops.foldl hS ([], [])
theorem hR_nil : hR [] = ([], []) := rfl
theorem hR_snoc (ops : List (Int × Int × Int)) (o : Int × Int × Int) : hR (ops ++ [o]) = hS (hR ops) o := by simp [hR]
theorem hR_succ (ops : List (Int × Int × Int)) (k : Nat) (h : k < ops.length) : hR (ops.take (k + 1)) = hS (hR (ops.take k)) ops[k] := by
  rw [List.take_succ_eq_append_getElem h, hR_snoc]
/-- the keys, and the answers, from a list of keys on -/
def hK (l : List Int) (ops : List (Int × Int × Int)) : List Int := ops.foldl hL l
def hAs : List Int → List (Int × Int × Int) → List An
  | _, [] => []
  | l, o :: ops => hA l o :: hAs (hL l o) ops
theorem hfold (ops : List (Int × Int × Int)) : ∀ s : List Int × List An, ops.foldl hS s = (hK s.1 ops, s.2 ++ hAs s.1 ops) := by
  induction ops with
  | nil => intro s; simp [hK, hAs]
  | cons o ops ih => intro s; rw [List.foldl_cons, ih]; simp [hS, hK, hAs]
theorem hR_is (ops : List (Int × Int × Int)) : hR ops = (hK [] ops, hAs [] ops) := by
  unfold hR
  rw [hfold]
  simp
theorem hK_app (l : List Int) (a b : List (Int × Int × Int)) : hK l (a ++ b) = hK (hK l a) b := by simp [hK]
theorem hAs_app : ∀ (a b : List (Int × Int × Int)) (l : List Int), hAs l (a ++ b) = hAs l a ++ hAs (hK l a) b
  | [], b, l => by simp [hAs, hK]
  | o :: a, b, l => by simp only [List.cons_append, hAs, hAs_app a b, hK, List.foldl_cons]
theorem hAs_len : ∀ (a : List (Int × Int × Int)) (l : List Int), (hAs l a).length = a.length
  | [], _ => rfl
  | o :: a, l => by simp [hAs, hAs_len a]
theorem hR_len (ops : List (Int × Int × Int)) : (hR ops).2.length = ops.length := by rw [hR_is]; exact hAs_len ops []
/-- the keys rise, are such as may be, and are no more than the ops -/
def Hk (l : List Int) : Prop := Up l ∧ ∀ x ∈ l, 0 ≤ x ∧ x ≤ 65535
theorem Hk.nil : Hk [] := ⟨by simp [Up], fun x h => by cases h⟩
theorem Hk.step {l : List Int} (h : Hk l) (o : Int × Int × Int) : Hk (hL l o) := by
  unfold hL
  split
  · rename_i ho
    split
    · refine ⟨up_qins h.1, fun x hx => ?_⟩
      rcases mem_qins.1 hx with e | e
      · rw [e]; exact ⟨ho.2.2.1, ho.2.2.2⟩
      · exact h.2 x e
    · split
      · exact ⟨up_qdel h.1, fun x hx => h.2 x (mem_qdel.1 hx).1⟩
      · exact h
  · exact h
theorem Hk.fold : ∀ (ops : List (Int × Int × Int)) {l : List Int}, Hk l → Hk (hK l ops)
  | [], _, h => h
  | o :: ops, l, h => Hk.fold ops (h.step o)
theorem qins_le {k : Int} {l : List Int} (h : Up l) : (qins k l).length ≤ l.length + 1 := by
  by_cases hk : k ∈ l
  · rw [qins_mem h hk]; omega
  · rw [qins_length hk]; omega
theorem hL_len {l : List Int} (h : Up l) (o : Int × Int × Int) : (hL l o).length ≤ l.length + 1 := by
  unfold hL
  split
  · split
    · exact qins_le h
    · split
      · have : (qdel o.2.1 l).length ≤ l.length := List.length_filter_le _ _
        omega
      · omega
  · omega
theorem hK_len : ∀ (ops : List (Int × Int × Int)) {l : List Int}, Hk l → (hK l ops).length ≤ l.length + ops.length
  | [], l, _ => by simp [hK]
  | o :: ops, l, h => by
    have h1 := hK_len ops (h.step o)
    have h2 := hL_len h.1 o
    have e : hK l (o :: ops) = hK (hL l o) ops := rfl
    rw [e, List.length_cons]
    omega
theorem hR_up (ops : List (Int × Int × Int)) : Hk (hR ops).1 := by rw [hR_is]; exact Hk.fold ops Hk.nil
theorem hR_le (ops : List (Int × Int × Int)) : (hR ops).1.length ≤ ops.length := by
  rw [hR_is]
  have := hK_len ops Hk.nil
  simpa using this

/-! from one key to the next one -/
def asksOf (l : List Int) : List (Int × Int × Int) := l.flatMap fun k => [(4, k, 0), (5, k, 0)]
theorem asksOf_len (l : List Int) : (asksOf l).length = 2 * l.length := by
  induction l with
  | nil => rfl
  | cons k l ih => simp only [asksOf, List.flatMap_cons, List.length_append, List.length_cons, List.length_nil] at ih ⊢; omega
theorem hL_ask {l : List Int} {o : Int × Int × Int} (h : o.1 = 4 ∨ o.1 = 5) : hL l o = l := by
  unfold hL
  split
  · rw [if_neg (by omega), if_neg (by omega)]
  · rfl
theorem hK_asks (l : List Int) : ∀ m : List Int, hK l (asksOf m) = l
  | [] => rfl
  | k :: m => by
    have e : asksOf (k :: m) = [(4, k, 0), (5, k, 0)] ++ asksOf m := rfl
    rw [e, hK_app]
    have e2 : hK l [(4, k, 0), (5, k, 0)] = l := by
      show hL (hL l (4, k, 0)) (5, k, 0) = l
      have e4 : hL l (4, k, 0) = l := hL_ask (.inl rfl)
      have e5 : hL l (5, k, 0) = l := hL_ask (.inr rfl)
      rw [e4, e5]
    rw [e2, hK_asks l m]
theorem hAs_asks (l : List Int) : ∀ m : List Int, hAs l (asksOf m) = m.flatMap fun k => [hA l (4, k, 0), hA l (5, k, 0)]
  | [] => rfl
  | k :: m => by
    have e : asksOf (k :: m) = (4, k, 0) :: (5, k, 0) :: asksOf m := rfl
    have e4 : hL l (4, k, 0) = l := hL_ask (.inl rfl)
    have e5 : hL l (5, k, 0) = l := hL_ask (.inr rfl)
    rw [e, hAs, hAs, e4, e5, hAs_asks l m]
    rfl
theorem pairs_at {α : Type} (f g : Int → α) : ∀ (m : List Int) (k : Nat) (h : k < m.length), (m.flatMap fun x => [f x, g x])[2 * k]? = some (f m[k]) ∧ (m.flatMap fun x => [f x, g x])[2 * k + 1]? = some (g m[k])
  | x :: m, 0, _ => by simp [List.flatMap_cons]
  | x :: m, k + 1, h => by
    have := pairs_at f g m k (by simpa using h)
    rw [List.flatMap_cons, show 2 * (k + 1) = 2 * k + 2 by omega]
    simpa using this
theorem walk_at {l : List Int} (h : Hk l) {k : Nat} (hk : k < l.length) : hA l (4, l[k], 0) = hanO l[k + 1]? ∧ hA l (5, l[k], 0) = hanO (if k = 0 then none else l[k - 1]?) := by
  have hb := h.2 _ (List.getElem_mem hk)
  refine ⟨?_, ?_⟩
  · unfold hA
    rw [if_neg (by simp), if_neg (by simp; omega), if_pos rfl]
    show hanO (qnx l[k] l) = _
    rw [qnx_at h.1 hk]
  · unfold hA
    rw [if_neg (by simp), if_neg (by simp; omega), if_neg (by simp), if_pos rfl]
    show hanO (qpv l[k] l) = _
    rw [qpv_at h.1 hk]
/-! put, and taken away; put twice -/
theorem cut_after {l : List Int} (h : Hk l) {key : Int} (h0 : 0 ≤ key) (h1 : key ≤ 65535) (hk : key ∉ l) :
    hK l [(1, key, 0), (3, key, 0)] = l ∧ hAs l [(1, key, 0), (3, key, 0)] = [⟨0, 0, 0, false⟩, ⟨0, 0, 0, true⟩] := by
  have o1 : hok (1, key, 0) := ⟨by simp, by simp, h0, h1⟩
  have o3 : hok (3, key, 0) := ⟨by simp, by simp, h0, h1⟩
  have e1 : hL l (1, key, 0) = qins key l := by unfold hL; rw [if_pos o1, if_pos rfl]
  have e3 : ∀ m, hL m (3, key, 0) = qdel key m := fun m => by unfold hL; rw [if_pos o3, if_neg (by simp), if_pos rfl]
  have a : ∀ (m : List Int) (q : Int), (q = 1 ∨ q = 3) → hA m (q, key, 0) = ⟨0, 0, 0, decide (key ∈ m)⟩ := fun m q hq => by
    unfold hA
    rw [if_neg (by simp; omega), if_neg (by simp; omega), if_neg (by simp; omega), if_neg (by simp; omega)]
  refine ⟨?_, ?_⟩
  · show hL (hL l (1, key, 0)) (3, key, 0) = l
    rw [e1, e3, qdel_qins h.1 hk]
  · show [hA l (1, key, 0), hA (hL l (1, key, 0)) (3, key, 0)] = _
    rw [a _ _ (.inl rfl), a _ _ (.inr rfl), e1, decide_eq_false hk, decide_eq_true (mem_qins.2 (.inl rfl))]
theorem put_twice {l : List Int} (h : Hk l) {key : Int} (h0 : 0 ≤ key) (h1 : key ≤ 65535) :
    hK l [(1, key, 0), (1, key, 0)] = qins key l ∧ hAs l [(1, key, 0), (1, key, 0)] = [⟨0, 0, 0, decide (key ∈ l)⟩, ⟨0, 0, 0, true⟩] := by
  have o1 : hok (1, key, 0) := ⟨by simp, by simp, h0, h1⟩
  have e1 : ∀ m, hL m (1, key, 0) = qins key m := fun m => by unfold hL; rw [if_pos o1, if_pos rfl]
  have a : ∀ (m : List Int), hA m (1, key, 0) = ⟨0, 0, 0, decide (key ∈ m)⟩ := fun m => by
    unfold hA
    rw [if_neg (by simp), if_neg (by simp; omega), if_neg (by simp), if_neg (by simp)]
  refine ⟨?_, ?_⟩
  · show hL (hL l (1, key, 0)) (1, key, 0) = _
    rw [e1, e1, qins_twice h.1]
  · show [hA l (1, key, 0), hA (hL l (1, key, 0)) (1, key, 0)] = _
    rw [a, a, e1, decide_eq_true (mem_qins.2 (.inl rfl) : key ∈ qins key l)]
/-- all that were put -/
theorem hK_puts (ks : List Int) (hb : ∀ x ∈ ks, 0 ≤ x ∧ x ≤ 65535) (v : Int) : hK [] (ks.map fun k => (1, k, v)) = qall ks := by
  have : ∀ (ks : List Int) (l : List Int), (∀ x ∈ ks, 0 ≤ x ∧ x ≤ 65535) → hK l (ks.map fun k => (1, k, v)) = ks.foldl (fun l k => qins k l) l := by
    intro ks
    induction ks with
    | nil => intro l _; rfl
    | cons k ks ih =>
      intro l hb
      have hk := hb k (by simp)
      have e : hL l (1, k, v) = qins k l := by
        unfold hL
        rw [if_pos ⟨by simp, by simp, hk.1, hk.2⟩, if_pos rfl]
      show hK (hL l (1, k, v)) (ks.map fun k => (1, k, v)) = _
      rw [e, ih _ (fun x hx => hb x (by simp [hx]))]
      rfl
  exact this ks [] hb

end Go.Proofs.YtpnjnedfcdppaaaGreatDoor
