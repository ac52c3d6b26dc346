/-
  The desk's answers have no line feed of their own: plain. No program is walked.
-/
import Derived.Test.YtpnjnedfcdppaaaGreatDoorDLivesAll
namespace Go.Proofs.YtpnjnedfcdppaaaGreatDoor

def nn (l : List UInt8) : Prop := ∀ b ∈ l, b ≠ 10
instance (l : List UInt8) : Decidable (nn l) := by unfold nn; infer_instance
theorem nn_app {a b : List UInt8} (ha : nn a) (hb : nn b) : nn (a ++ b) := fun x hx => (List.mem_append.1 hx).elim (ha x) (hb x)
theorem nn_nil : nn [] := fun b h => by cases h
theorem nn_digit (n : Nat) (h : n < 10) : nn [UInt8.ofNat (48 + n)] := by
  intro b hb
  rw [List.mem_singleton.1 hb]
  intro e
  have h2 := congrArg UInt8.toNat e
  simp at h2
  omega
theorem nn_dgF : ∀ f n, nn (dgF f n)
  | 0, n => nn_nil
  | f + 1, n => by
    rw [dgF]
    split
    · next h => exact nn_digit n h
    · exact nn_app (nn_dgF f _) (nn_digit _ (Nat.mod_lt _ (by omega)))
theorem nn_dg (n : Nat) : nn (dg n) := nn_dgF 20 n
theorem nn_joinTail {sep : List UInt8} (hs : nn sep) : ∀ {r : List (List UInt8)}, (∀ x ∈ r, nn x) → nn (Lib.joinTail sep r)
  | [], _ => nn_nil
  | x :: r, h => by
    show nn (sep ++ x ++ Lib.joinTail sep r)
    exact nn_app (nn_app hs (h x (by simp))) (nn_joinTail hs fun y hy => h y (by simp [hy]))
theorem nn_join {sep : List UInt8} (hs : nn sep) {xs : List (List UInt8)} (h : ∀ x ∈ xs, nn x) : nn (Lib.join xs sep) := by
  cases xs with
  | nil => exact nn_nil
  | cons x r =>
    rw [Lib.join_cons]
    exact nn_app (h x (by simp)) (nn_joinTail hs fun y hy => h y (by simp [hy]))
theorem nn_jnd (l : List Int) : nn (jnd l) := nn_join (by decide) fun x hx => by
  obtain ⟨k, _, rfl⟩ := List.mem_map.1 hx
  exact nn_dg _
theorem nn_orN {l : List UInt8} (h : nn l) : nn (orN l) := by
  unfold orN
  split
  · decide
  · exact h
theorem nn_errT (e : Nat) : nn (errT e) := nn_app (by decide) (nn_dg e)
theorem nn_rowsT (rs : List (List Int)) : nn (rowsT rs) := nn_join (by decide) fun x hx => by
  obtain ⟨k, _, rfl⟩ := List.mem_map.1 hx
  exact nn_jnd k
theorem nn_told (kind : Int) (a : An) : nn (dTold kind a) := by
  unfold dTold
  repeat' split
  · decide
  · decide
  · decide
  · exact nn_jnd _
  · exact nn_dg _
theorem nn_deep (t : Tr) : nn (deepT t) := by
  unfold deepT
  split
  · decide
  · exact nn_dg _
theorem nn_ans (ops : List OP) (ws : List (List UInt8)) : nn (dAns ops ws).1 := by
  have he := nn_errT 1
  cases ws with
  | nil => exact nn_nil
  | cons first rest =>
    show nn (if kindB first ≠ 0 then opR ops (dOp (kindB first) rest)
    else if first = [112, 97, 116, 104] then pathR ops (nms 1 rest)
    else if first = [114, 111, 119, 115] then (if rest.length = 0 then orN (rowsT (rowsL (kys (runR ops).1))) else e1T, ops)
    else if first = [116, 114, 101, 101] then ordR ops rest
    else if first = [100, 101, 101, 112] then deepR ops rest
    else (e1T, ops)).1
    split
    · cases dOp (kindB first) rest with
      | none => exact he
      | some o =>
        obtain ⟨k, a, b⟩ := o
        show nn (if _ then _ else _ : List UInt8 × List OP).1
        split
        · exact nn_errT _
        · exact nn_told _ _
    · split
      · cases nms 1 rest with
        | none => exact he
        | some ks =>
          match ks with
          | [] => exact he
          | [k] =>
            show nn (if _ then _ else _ : List UInt8)
            split
            · exact nn_orN (nn_jnd _)
            · exact he
          | _ :: _ :: _ => exact he
      · split
        · show nn (if _ then _ else _ : List UInt8)
          split
          · exact nn_orN (nn_rowsT _)
          · exact he
        · split
          · match rest with
            | [] => exact he
            | [x] =>
              cases hd : dTree ops x with
              | none => rw [ordR_none hd]; exact he
              | some t => rw [ordR_some hd]; exact nn_orN (nn_jnd _)
            | _ :: _ :: _ => exact he
          · split
            · match rest with
              | [] => exact he
              | [x] =>
                cases hd : dTree ops x with
                | none => rw [deepR_none hd]; exact he
                | some t => rw [deepR_some hd]; exact nn_deep t
              | _ :: _ :: _ => exact he
            · exact he
theorem nn_count {l : List UInt8} (h : nn l) : l.count 10 = 0 := List.count_eq_zero.2 fun hm => h 10 hm rfl
theorem dRunL_count : ∀ (Ls : List (List (List UInt8))) (ops : List OP), (dRunL ops Ls).count 10 = Ls.length
  | [], ops => rfl
  | w :: r, ops => by
    show ((dAns ops w).1 ++ [10] ++ dRunL (dAns ops w).2 r).count 10 = r.length + 1
    rw [List.count_append, List.count_append, nn_count (nn_ans ops w), dRunL_count r]
    simp
    omega
theorem dRunL_end : ∀ (Ls : List (List (List UInt8))) (ops : List OP), dRunL ops Ls = [] ∨ Lib.hasSuffix (dRunL ops Ls) [10] = true
  | [], ops => .inl rfl
  | w :: r, ops => .inr (by
    show Lib.hasSuffix ((dAns ops w).1 ++ [10] ++ dRunL (dAns ops w).2 r) [10] = true
    unfold Lib.hasSuffix
    rw [List.isSuffixOf_iff_suffix]
    rcases dRunL_end r (dAns ops w).2 with h | h
    · rw [h, List.append_nil]
      exact List.suffix_append _ _
    · unfold Lib.hasSuffix at h
      rw [List.isSuffixOf_iff_suffix] at h
      exact h.trans (List.suffix_append _ _))
end Go.Proofs.YtpnjnedfcdppaaaGreatDoor
