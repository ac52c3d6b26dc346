/-
  KEYS THAT ARE THERE, as a rising list: put, cut, next and prev: plain mathematics, for what is kept by halves of bits. Nothing of the program.
-/
import Derived.Test.YtpnjnedfcdppaaaGreatDoorStepsAll
namespace Go.Proofs.YtpnjnedfcdppaaaGreatDoor

/-- a key is put -/
def qins (k : Int) : List Int → List Int
  | [] => [k]
  | x :: l => if k < x then k :: x :: l else if x < k then x :: qins k l else x :: l
/-- a key is taken away -/
def qdel (k : Int) (l : List Int) : List Int := l.filter fun x => x != k
/-- the least one that is more -/
def qnx (k : Int) (l : List Int) : Option Int := (l.filter fun x => k < x).head?
/-- the greatest one that is less -/
def qpv (k : Int) (l : List Int) : Option Int := (l.filter fun x => x < k).getLast?
theorem mem_qins {k : Int} : ∀ {l : List Int} {x : Int}, x ∈ qins k l ↔ x = k ∨ x ∈ l
  | [], x => by simp [qins]
  | y :: l, x => by
    unfold qins
    split
    · simp
    · split
      · rw [List.mem_cons, mem_qins, List.mem_cons]
        constructor
        · rintro (h | h | h)
          · exact .inr (.inl h)
          · exact .inl h
          · exact .inr (.inr h)
        · rintro (h | h | h)
          · exact .inr (.inl h)
          · exact .inl h
          · exact .inr (.inr h)
      · have : k = y := by omega
        subst this
        simp
theorem up_qins {k : Int} : ∀ {l : List Int}, Up l → Up (qins k l)
  | [], _ => by simp [qins, Up]
  | y :: l, h => by
    have h' := h
    rw [Up, List.pairwise_cons] at h'
    unfold qins
    split
    · rename_i h1
      rw [Up, List.pairwise_cons]
      refine ⟨fun x hx => ?_, h⟩
      rcases List.mem_cons.1 hx with e | e
      · omega
      · have := h'.1 x e
        omega
    · split
      · rename_i h1 h2
        rw [Up, List.pairwise_cons]
        refine ⟨fun x hx => ?_, up_qins h'.2⟩
        rcases mem_qins.1 hx with e | e
        · omega
        · exact h'.1 x e
      · exact h
theorem mem_qdel {k x : Int} {l : List Int} : x ∈ qdel k l ↔ x ∈ l ∧ x ≠ k := by simp [qdel]
theorem up_qdel {k : Int} {l : List Int} (h : Up l) : Up (qdel k l) := List.Pairwise.filter _ h
/-- put and taken away it is as it was -/
theorem qdel_qins {k : Int} {l : List Int} (h : Up l) (hk : k ∉ l) : qdel k (qins k l) = l := by
  refine up_ext (up_qdel (up_qins h)) h fun x => ?_
  rw [mem_qdel, mem_qins]
  constructor
  · rintro ⟨e | e, hne⟩
    · exact absurd e hne
    · exact e
  · intro hx
    exact ⟨.inr hx, fun e => hk (e ▸ hx)⟩
theorem qins_mem {k : Int} {l : List Int} (h : Up l) (hk : k ∈ l) : qins k l = l := by
  refine up_ext (up_qins h) h fun x => ?_
  rw [mem_qins]
  constructor
  · rintro (e | e)
    · exact e ▸ hk
    · exact e
  · exact .inr
theorem qins_twice {k : Int} {l : List Int} (h : Up l) : qins k (qins k l) = qins k l := qins_mem (up_qins h) (mem_qins.2 (.inl rfl))
theorem qins_length {k : Int} : ∀ {l : List Int}, k ∉ l → (qins k l).length = l.length + 1
  | [], _ => rfl
  | y :: l, hk => by
    unfold qins
    split
    · rfl
    · split
      · have hk2 : k ∉ l := fun h => hk (List.mem_cons.2 (.inr h))
        rw [List.length_cons, qins_length hk2, List.length_cons]
      · have e : k = y := by omega
        exact absurd (List.mem_cons.2 (.inl e)) hk
/-- the one behind, and the one ahead -/
theorem up_parts {l : List Int} {i : Nat} (h : Up l) (hi : i < l.length) : (l.filter fun x => l[i] < x) = l.drop (i + 1) ∧ (l.filter fun x => x < l[i]) = l.take i := by
  have hs : l = l.take i ++ l[i] :: l.drop (i + 1) := by
    conv => lhs; rw [← List.take_append_drop i l]
    rw [List.drop_eq_getElem_cons hi]
  have h' : Up (l.take i ++ l[i] :: l.drop (i + 1)) := by rw [← hs]; exact h
  rw [Up, List.pairwise_append] at h'
  obtain ⟨_, h2, h3⟩ := h'
  rw [List.pairwise_cons] at h2
  generalize l[i] = v at *
  generalize l.take i = a at *
  generalize l.drop (i + 1) = b at *
  subst hs
  constructor
  · rw [List.filter_append, List.filter_cons]
    have e1 : a.filter (fun x => decide (v < x)) = [] := List.filter_eq_nil_iff.2 fun x hx => by have := h3 x hx v (by simp); simp; omega
    have e2 : b.filter (fun x => decide (v < x)) = b := List.filter_eq_self.2 fun x hx => by simpa using h2.1 x hx
    simp [e1, e2]
  · rw [List.filter_append, List.filter_cons]
    have e1 : b.filter (fun x => decide (x < v)) = [] := List.filter_eq_nil_iff.2 fun x hx => by have := h2.1 x hx; simp; omega
    have e2 : a.filter (fun x => decide (x < v)) = a := List.filter_eq_self.2 fun x hx => by simpa using h3 x hx v (by simp)
    simp [e1, e2]
theorem qnx_at {l : List Int} {i : Nat} (h : Up l) (hi : i < l.length) : qnx l[i] l = l[i + 1]? := by
  unfold qnx
  rw [(up_parts h hi).1, List.head?_drop]
theorem qpv_at {l : List Int} {i : Nat} (h : Up l) (hi : i < l.length) : qpv l[i] l = if i = 0 then none else l[i - 1]? := by
  unfold qpv
  rw [(up_parts h hi).2]
  split
  · rename_i h0
    subst h0
    simp
  · rename_i h0
    rw [List.getLast?_take]
    simp [h0, List.getElem?_eq_getElem (show i - 1 < l.length by omega)]
/-- all that were put -/
def qall (ks : List Int) : List Int := ks.foldl (fun l k => qins k l) []
theorem qfold_mem : ∀ (ks l : List Int) (x : Int), x ∈ ks.foldl (fun l k => qins k l) l ↔ x ∈ l ∨ x ∈ ks
  | [], l, x => by simp
  | k :: ks, l, x => by
    rw [List.foldl_cons, qfold_mem ks, mem_qins, List.mem_cons]
    constructor
    · rintro ((h | h) | h)
      · exact .inr (.inl h)
      · exact .inl h
      · exact .inr (.inr h)
    · rintro (h | h | h)
      · exact .inl (.inr h)
      · exact .inl (.inl h)
      · exact .inr h
theorem qfold_up : ∀ (ks l : List Int), Up l → Up (ks.foldl (fun l k => qins k l) l)
  | [], _, h => h
  | k :: ks, l, h => qfold_up ks _ (up_qins h)
theorem mem_qall (ks : List Int) (x : Int) : x ∈ qall ks ↔ x ∈ ks := by unfold qall; rw [qfold_mem]; simp
theorem up_qall (ks : List Int) : Up (qall ks) := qfold_up ks [] (by simp [Up])
/-- the first is the least, the last is the greatest -/
theorem qall_ends {ks : List Int} {lo hi : Int} (h1 : lo ∈ ks) (h2 : ∀ x ∈ ks, lo ≤ x) (h3 : hi ∈ ks) (h4 : ∀ x ∈ ks, x ≤ hi) : (qall ks).head? = some lo ∧ (qall ks).getLast? = some hi := by
  have hu := up_qall ks
  have hm := mem_qall ks
  generalize qall ks = l at *
  have hne : l ≠ [] := fun e => by
    have := (hm lo).2 h1
    rw [e] at this
    simp at this
  constructor
  · cases l with
    | nil => exact absurd rfl hne
    | cons y m =>
      rw [Up, List.pairwise_cons] at hu
      have a := h2 y ((hm y).1 (by simp))
      rcases List.mem_cons.1 ((hm lo).2 h1) with e | e
      · simp [e]
      · have := hu.1 lo e
        omega
  · rw [List.getLast?_eq_some_getLast hne]
    have hs := List.dropLast_concat_getLast hne
    have a := h4 _ ((hm _).1 (List.getLast_mem hne))
    have hu' : Up (l.dropLast ++ [l.getLast hne]) := by rw [hs]; exact hu
    rw [Up, List.pairwise_append] at hu'
    have hx := (hm hi).2 h3
    rw [← hs] at hx
    rcases List.mem_append.1 hx with e | e
    · have := hu'.2.2 hi e (l.getLast hne) (by simp)
      omega
    · simp at e
      rw [e]

end Go.Proofs.YtpnjnedfcdppaaaGreatDoor
