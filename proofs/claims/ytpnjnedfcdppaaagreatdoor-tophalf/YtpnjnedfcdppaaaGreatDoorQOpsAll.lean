/-
  Joined texts: YtpnjnedfcdppaaaGreatDoorQPure, YtpnjnedfcdppaaaGreatDoorQNear, YtpnjnedfcdppaaaGreatDoorQHalf, YtpnjnedfcdppaaaGreatDoorQOps.
-/
import Derived.Test.YtpnjnedfcdppaaaGreatDoorOSpotsAll
/-
  KEYS THAT ARE THERE, as a rising list: put, cut, next and prev: plain mathematics, for what is kept by halves of bits. Nothing of the program.
-/
namespace Go.Proofs.YtpnjnedfcdppaaaGreatDoor

/-- a key is put -/
def qins (k : Int) : List Int → List Int
  | [] => [k]
  | x :: l => if k < x then k :: x :: l else if x < k then x :: qins k l else x :: l
/-- a key is taken away -/
def qdel (k : Int) (l : List Int) : List Int := l.filter fun x => x != k
/-- the least one that is more -/
def qnx (k : Int) (l : List Int) : Option Int := (l.filter fun x => k < x).head?
/-- the greatest one that is less -/
def qpv (k : Int) (l : List Int) : Option Int := (l.filter fun x => x < k).getLast?
theorem mem_qins {k : Int} : ∀ {l : List Int} {x : Int}, x ∈ qins k l ↔ x = k ∨ x ∈ l
  | [], x => by simp [qins]
  | y :: l, x => by
    unfold qins
    split
    · simp
    · split
      · rw [List.mem_cons, mem_qins, List.mem_cons]
        constructor
        · rintro (h | h | h)
          · exact .inr (.inl h)
          · exact .inl h
          · exact .inr (.inr h)
        · rintro (h | h | h)
          · exact .inr (.inl h)
          · exact .inl h
          · exact .inr (.inr h)
      · have : k = y := by omega
        subst this
        simp
theorem up_qins {k : Int} : ∀ {l : List Int}, Up l → Up (qins k l)
  | [], _ => by simp [qins, Up]
  | y :: l, h => by
    have h' := h
    rw [Up, List.pairwise_cons] at h'
    unfold qins
    split
    · rename_i h1
      rw [Up, List.pairwise_cons]
      refine ⟨fun x hx => ?_, h⟩
      rcases List.mem_cons.1 hx with e | e
      · omega
      · have := h'.1 x e
        omega
    · split
      · rename_i h1 h2
        rw [Up, List.pairwise_cons]
        refine ⟨fun x hx => ?_, up_qins h'.2⟩
        rcases mem_qins.1 hx with e | e
        · omega
        · exact h'.1 x e
      · exact h
theorem mem_qdel {k x : Int} {l : List Int} : x ∈ qdel k l ↔ x ∈ l ∧ x ≠ k := by simp [qdel]
theorem up_qdel {k : Int} {l : List Int} (h : Up l) : Up (qdel k l) := List.Pairwise.filter _ h
/-- put and taken away it is as it was -/
theorem qdel_qins {k : Int} {l : List Int} (h : Up l) (hk : k ∉ l) : qdel k (qins k l) = l := by
  refine up_ext (up_qdel (up_qins h)) h fun x => ?_
  rw [mem_qdel, mem_qins]
  constructor
  · rintro ⟨e | e, hne⟩
    · exact absurd e hne
    · exact e
  · intro hx
    exact ⟨.inr hx, fun e => hk (e ▸ hx)⟩
theorem qins_mem {k : Int} {l : List Int} (h : Up l) (hk : k ∈ l) : qins k l = l := by
  refine up_ext (up_qins h) h fun x => ?_
  rw [mem_qins]
  constructor
  · rintro (e | e)
    · exact e ▸ hk
    · exact e
  · exact .inr
theorem qins_twice {k : Int} {l : List Int} (h : Up l) : qins k (qins k l) = qins k l := qins_mem (up_qins h) (mem_qins.2 (.inl rfl))
theorem qins_length {k : Int} : ∀ {l : List Int}, k ∉ l → (qins k l).length = l.length + 1
  | [], _ => rfl
  | y :: l, hk => by
    unfold qins
    split
    · rfl
    · split
      · have hk2 : k ∉ l := fun h => hk (List.mem_cons.2 (.inr h))
        rw [List.length_cons, qins_length hk2, List.length_cons]
      · have e : k = y := by omega
        exact absurd (List.mem_cons.2 (.inl e)) hk
/-- the one behind, and the one ahead -/
theorem up_parts {l : List Int} {i : Nat} (h : Up l) (hi : i < l.length) : (l.filter fun x => l[i] < x) = l.drop (i + 1) ∧ (l.filter fun x => x < l[i]) = l.take i := by
  have hs : l = l.take i ++ l[i] :: l.drop (i + 1) := by
    conv => lhs; rw [← List.take_append_drop i l]
    rw [List.drop_eq_getElem_cons hi]
  have h' : Up (l.take i ++ l[i] :: l.drop (i + 1)) := by rw [← hs]; exact h
  rw [Up, List.pairwise_append] at h'
  obtain ⟨_, h2, h3⟩ := h'
  rw [List.pairwise_cons] at h2
  generalize l[i] = v at *
  generalize l.take i = a at *
  generalize l.drop (i + 1) = b at *
  subst hs
  constructor
  · rw [List.filter_append, List.filter_cons]
    have e1 : a.filter (fun x => decide (v < x)) = [] := List.filter_eq_nil_iff.2 fun x hx => by have := h3 x hx v (by simp); simp; omega
    have e2 : b.filter (fun x => decide (v < x)) = b := List.filter_eq_self.2 fun x hx => by simpa using h2.1 x hx
    simp [e1, e2]
  · rw [List.filter_append, List.filter_cons]
    have e1 : b.filter (fun x => decide (x < v)) = [] := List.filter_eq_nil_iff.2 fun x hx => by have := h2.1 x hx; simp; omega
    have e2 : a.filter (fun x => decide (x < v)) = a := List.filter_eq_self.2 fun x hx => by simpa using h3 x hx v (by simp)
    simp [e1, e2]
theorem qnx_at {l : List Int} {i : Nat} (h : Up l) (hi : i < l.length) : qnx l[i] l = l[i + 1]? := by
  unfold qnx
  rw [(up_parts h hi).1, List.head?_drop]
theorem qpv_at {l : List Int} {i : Nat} (h : Up l) (hi : i < l.length) : qpv l[i] l = if i = 0 then none else l[i - 1]? := by
  unfold qpv
  rw [(up_parts h hi).2]
  split
  · rename_i h0
    subst h0
    simp
  · rename_i h0
    rw [List.getLast?_take]
    simp [h0, List.getElem?_eq_getElem (show i - 1 < l.length by omega)]
/-- all that were put -/
def qall (ks : List Int) : List Int := ks.foldl (fun l k => qins k l) []
theorem qfold_mem : ∀ (ks l : List Int) (x : Int), x ∈ ks.foldl (fun l k => qins k l) l ↔ x ∈ l ∨ x ∈ ks
  | [], l, x => by simp
  | k :: ks, l, x => by
    rw [List.foldl_cons, qfold_mem ks, mem_qins, List.mem_cons]
    constructor
    · rintro ((h | h) | h)
      · exact .inr (.inl h)
      · exact .inl h
      · exact .inr (.inr h)
    · rintro (h | h | h)
      · exact .inl (.inr h)
      · exact .inl (.inl h)
      · exact .inr h
theorem qfold_up : ∀ (ks l : List Int), Up l → Up (ks.foldl (fun l k => qins k l) l)
  | [], _, h => h
  | k :: ks, l, h => qfold_up ks _ (up_qins h)
theorem mem_qall (ks : List Int) (x : Int) : x ∈ qall ks ↔ x ∈ ks := by unfold qall; rw [qfold_mem]; simp
theorem up_qall (ks : List Int) : Up (qall ks) := qfold_up ks [] (by simp [Up])
/-- the first is the least, the last is the greatest -/
theorem qall_ends {ks : List Int} {lo hi : Int} (h1 : lo ∈ ks) (h2 : ∀ x ∈ ks, lo ≤ x) (h3 : hi ∈ ks) (h4 : ∀ x ∈ ks, x ≤ hi) : (qall ks).head? = some lo ∧ (qall ks).getLast? = some hi := by
  have hu := up_qall ks
  have hm := mem_qall ks
  generalize qall ks = l at *
  have hne : l ≠ [] := fun e => by
    have := (hm lo).2 h1
    rw [e] at this
    simp at this
  constructor
  · cases l with
    | nil => exact absurd rfl hne
    | cons y m =>
      rw [Up, List.pairwise_cons] at hu
      have a := h2 y ((hm y).1 (by simp))
      rcases List.mem_cons.1 ((hm lo).2 h1) with e | e
      · simp [e]
      · have := hu.1 lo e
        omega
  · rw [List.getLast?_eq_some_getLast hne]
    have hs := List.dropLast_concat_getLast hne
    have a := h4 _ ((hm _).1 (List.getLast_mem hne))
    have hu' : Up (l.dropLast ++ [l.getLast hne]) := by rw [hs]; exact hu
    rw [Up, List.pairwise_append] at hu'
    have hx := (hm hi).2 h3
    rw [← hs] at hx
    rcases List.mem_append.1 hx with e | e
    · have := hu'.2.2 hi e (l.getLast hne) (by simp)
      omega
    · simp at e
      rw [e]

end Go.Proofs.YtpnjnedfcdppaaaGreatDoor

/-
  NEXT AND PREV, told by what they are; by halves; and found by looking at all keys in whatever order: plain mathematics. Nothing of the program.
-/
namespace Go.Proofs.YtpnjnedfcdppaaaGreatDoor

/-- y is the next one behind k among those of P -/
def NxP (P : Int → Prop) (k y : Int) : Prop := P y ∧ k < y ∧ ∀ z, P z → k < z → y ≤ z
/-- y is the next one ahead of k -/
def PvP (P : Int → Prop) (k y : Int) : Prop := P y ∧ y < k ∧ ∀ z, P z → z < k → z ≤ y
theorem NxP.one {P : Int → Prop} {k y y' : Int} (h : NxP P k y) (h' : NxP P k y') : y = y' := by
  have a := h.2.2 y' h'.1 h'.2.1
  have b := h'.2.2 y h.1 h.2.1
  omega
theorem PvP.one {P : Int → Prop} {k y y' : Int} (h : PvP P k y) (h' : PvP P k y') : y = y' := by
  have a := h.2.2 y' h'.1 h'.2.1
  have b := h'.2.2 y h.1 h.2.1
  omega
theorem qnx_none {l : List Int} {k : Int} : qnx k l = none ↔ ∀ z ∈ l, ¬ k < z := by
  unfold qnx
  rw [List.head?_eq_none_iff, List.filter_eq_nil_iff]
  simp
theorem qpv_none {l : List Int} {k : Int} : qpv k l = none ↔ ∀ z ∈ l, ¬ z < k := by
  unfold qpv
  rw [List.getLast?_eq_none_iff, List.filter_eq_nil_iff]
  simp
theorem qnx_some {l : List Int} {k y : Int} (h : Up l) (hy : qnx k l = some y) : NxP (· ∈ l) k y := by
  unfold qnx at hy
  have hu : Up (l.filter fun x => decide (k < x)) := List.Pairwise.filter _ h
  have hm : ∀ z, z ∈ (l.filter fun x => decide (k < x)) ↔ z ∈ l ∧ k < z := fun z => by simp
  generalize (l.filter fun x => decide (k < x)) = m at *
  cases m with
  | nil => simp at hy
  | cons a t =>
    simp at hy
    subst hy
    have ha := (hm a).1 (by simp)
    rw [Up, List.pairwise_cons] at hu
    refine ⟨ha.1, ha.2, fun z hz hkz => ?_⟩
    rcases List.mem_cons.1 ((hm z).2 ⟨hz, hkz⟩) with e | e
    · omega
    · have := hu.1 z e
      omega
theorem qpv_some {l : List Int} {k y : Int} (h : Up l) (hy : qpv k l = some y) : PvP (· ∈ l) k y := by
  unfold qpv at hy
  have hu : Up (l.filter fun x => decide (x < k)) := List.Pairwise.filter _ h
  have hm : ∀ z, z ∈ (l.filter fun x => decide (x < k)) ↔ z ∈ l ∧ z < k := fun z => by simp
  generalize (l.filter fun x => decide (x < k)) = m at *
  have hne : m ≠ [] := by rintro rfl; simp at hy
  rw [List.getLast?_eq_some_getLast hne] at hy
  injection hy with hy
  have hs := List.dropLast_concat_getLast hne
  rw [hy] at hs
  have ha := (hm y).1 (by rw [← hs]; simp)
  refine ⟨ha.1, ha.2, fun z hz hkz => ?_⟩
  have hz2 := (hm z).2 ⟨hz, hkz⟩
  rw [← hs, Up, List.pairwise_append] at hu
  rw [← hs, List.mem_append] at hz2
  rcases hz2 with e | e
  · have := hu.2.2 z e y (by simp)
    omega
  · simp at e
    omega
theorem qnx_is {l : List Int} {k y : Int} (h : Up l) (hy : NxP (· ∈ l) k y) : qnx k l = some y := by
  cases he : qnx k l with
  | none => exact absurd hy.2.1 (qnx_none.1 he y hy.1)
  | some z => rw [(qnx_some h he).one hy]
theorem qpv_is {l : List Int} {k y : Int} (h : Up l) (hy : PvP (· ∈ l) k y) : qpv k l = some y := by
  cases he : qpv k l with
  | none => exact absurd hy.2.1 (qpv_none.1 he y hy.1)
  | some z => rw [(qpv_some h he).one hy]

/-! by halves: q is how many a part has room for -/
theorem half_lt {q a b : Int} (hq : 0 < q) (h : a / q < b / q) : a < b := by
  apply Classical.byContradiction
  intro hn
  have := Int.ediv_le_ediv hq (show b ≤ a by omega)
  omega
/-- in the same part there is one -/
theorem nx_in {P : Int → Prop} {q k y : Int} (hq : 0 < q) (hp : P y) (hh : y / q = k / q) (hk : k < y) (hl : ∀ z, P z → z / q = k / q → k < z → y ≤ z) : NxP P k y := by
  refine ⟨hp, hk, fun z hz hkz => ?_⟩
  rcases Int.lt_trichotomy (z / q) (k / q) with h | h | h
  · have := half_lt hq h
    omega
  · exact hl z hz h hkz
  · exact Int.le_of_lt (half_lt hq (by omega))
/-- in the same part there is none: the least of the next part that has one -/
theorem nx_out {P : Int → Prop} {q k y : Int} (hq : 0 < q) (hno : ∀ z, P z → z / q = k / q → ¬ k < z) (hp : P y) (hk : k / q < y / q) (hn : ∀ z, P z → k / q < z / q → y / q ≤ z / q) (hl : ∀ z, P z → z / q = y / q → y ≤ z) : NxP P k y := by
  refine ⟨hp, half_lt hq hk, fun z hz hkz => ?_⟩
  rcases Int.lt_trichotomy (z / q) (k / q) with h | h | h
  · have := half_lt hq h
    omega
  · exact absurd hkz (hno z hz h)
  · have h1 := hn z hz h
    rcases Int.lt_trichotomy (y / q) (z / q) with h2 | h2 | h2
    · exact Int.le_of_lt (half_lt hq h2)
    · exact hl z hz h2.symm
    · omega
theorem pv_in {P : Int → Prop} {q k y : Int} (hq : 0 < q) (hp : P y) (hh : y / q = k / q) (hk : y < k) (hl : ∀ z, P z → z / q = k / q → z < k → z ≤ y) : PvP P k y := by
  refine ⟨hp, hk, fun z hz hkz => ?_⟩
  rcases Int.lt_trichotomy (z / q) (k / q) with h | h | h
  · exact Int.le_of_lt (half_lt hq (by omega))
  · exact hl z hz h hkz
  · have := half_lt hq h
    omega
theorem pv_out {P : Int → Prop} {q k y : Int} (hq : 0 < q) (hno : ∀ z, P z → z / q = k / q → ¬ z < k) (hp : P y) (hk : y / q < k / q) (hn : ∀ z, P z → z / q < k / q → z / q ≤ y / q) (hl : ∀ z, P z → z / q = y / q → z ≤ y) : PvP P k y := by
  refine ⟨hp, half_lt hq hk, fun z hz hkz => ?_⟩
  rcases Int.lt_trichotomy (z / q) (k / q) with h | h | h
  · have h1 := hn z hz h
    rcases Int.lt_trichotomy (z / q) (y / q) with h2 | h2 | h2
    · exact Int.le_of_lt (half_lt hq h2)
    · exact hl z hz h2
    · omega
  · exact absurd hkz (hno z hz h)
  · have := half_lt hq h
    omega
/-- a key by its halves, and back -/
theorem halves {q x : Int} (hq : 0 < q) : x / q * q + x % q = x ∧ 0 ≤ x % q ∧ x % q < q := by
  have h1 := Int.emod_add_mul_ediv x q
  have h2 : q * (x / q) = x / q * q := Int.mul_comm _ _
  exact ⟨by omega, Int.emod_nonneg x (by omega), Int.emod_lt_of_pos x hq⟩
theorem halves_of {q h lo : Int} (hq : 0 < q) (h0 : 0 ≤ lo) (h1 : lo < q) : (h * q + lo) / q = h ∧ (h * q + lo) % q = lo := by
  refine ⟨?_, ?_⟩
  · rw [Int.add_comm, Int.add_mul_ediv_right _ _ (by omega), Int.ediv_eq_zero_of_lt h0 h1, Int.zero_add]
  · rw [Int.add_comm, Int.add_mul_emod_self_right, Int.emod_eq_of_lt h0 h1]

/-! looked for among all, in whatever order -/
/-- one key is looked at: step 1 upwards, -1 downwards -/
def nst (key step : Int) (st : Int × Bool) (k : Int) : Int × Bool := if 0 < (k - key) * step ∧ (st.2 = false ∨ 0 < (st.1 - k) * step) then (k, true) else st
theorem nst_up (key : Int) : ∀ (ks seen : List Int) (st : Int × Bool), (st = (0, false) ∧ (∀ z ∈ seen, ¬ key < z)) ∨ (st.2 = true ∧ NxP (· ∈ seen) key st.1) →
    (ks.foldl (nst key 1) st = (0, false) ∧ ∀ z ∈ seen ++ ks, ¬ key < z) ∨ ((ks.foldl (nst key 1) st).2 = true ∧ NxP (· ∈ seen ++ ks) key (ks.foldl (nst key 1) st).1)
  | [], seen, st, h => by rw [List.append_nil]; exact h
  | k :: ks, seen, st, h => by
    rw [List.foldl_cons]
    have e : seen ++ k :: ks = (seen ++ [k]) ++ ks := by simp
    rw [e]
    refine nst_up key ks (seen ++ [k]) _ ?_
    unfold nst
    rw [Int.mul_one, Int.mul_one]
    split
    · rename_i hc
      refine .inr ⟨rfl, by simp, by show key < k; omega, fun z hz hkz => ?_⟩
      show k ≤ z
      rcases List.mem_append.1 hz with h1 | h1
      · rcases h with ⟨rfl, hno⟩ | ⟨ht, hn⟩
        · exact absurd hkz (hno z h1)
        · have := hn.2.2 z h1 hkz
          rcases hc.2 with h2 | h2
          · rw [ht] at h2; cases h2
          · omega
      · simp at h1; omega
    · rename_i hc
      rcases h with ⟨rfl, hno⟩ | ⟨ht, hn⟩
      · refine .inl ⟨rfl, fun z hz hkz => ?_⟩
        rcases List.mem_append.1 hz with h1 | h1
        · exact hno z h1 hkz
        · simp at h1
          subst h1
          exact hc ⟨by omega, .inl rfl⟩
      · refine .inr ⟨ht, List.mem_append.2 (.inl hn.1), hn.2.1, fun z hz hkz => ?_⟩
        rcases List.mem_append.1 hz with h1 | h1
        · exact hn.2.2 z h1 hkz
        · simp at h1
          subst h1
          apply Classical.byContradiction
          intro hlt
          exact hc ⟨by omega, .inr (by omega)⟩
theorem nst_down (key : Int) : ∀ (ks seen : List Int) (st : Int × Bool), (st = (0, false) ∧ (∀ z ∈ seen, ¬ z < key)) ∨ (st.2 = true ∧ PvP (· ∈ seen) key st.1) →
    (ks.foldl (nst key (-1)) st = (0, false) ∧ ∀ z ∈ seen ++ ks, ¬ z < key) ∨ ((ks.foldl (nst key (-1)) st).2 = true ∧ PvP (· ∈ seen ++ ks) key (ks.foldl (nst key (-1)) st).1)
  | [], seen, st, h => by rw [List.append_nil]; exact h
  | k :: ks, seen, st, h => by
    rw [List.foldl_cons]
    have e : seen ++ k :: ks = (seen ++ [k]) ++ ks := by simp
    rw [e]
    refine nst_down key ks (seen ++ [k]) _ ?_
    unfold nst
    have m1 : ∀ x : Int, x * (-1) = -x := fun x => by omega
    rw [m1, m1]
    split
    · rename_i hc
      refine .inr ⟨rfl, by simp, by show k < key; omega, fun z hz hkz => ?_⟩
      show z ≤ k
      rcases List.mem_append.1 hz with h1 | h1
      · rcases h with ⟨rfl, hno⟩ | ⟨ht, hn⟩
        · exact absurd hkz (hno z h1)
        · have := hn.2.2 z h1 hkz
          rcases hc.2 with h2 | h2
          · rw [ht] at h2; cases h2
          · omega
      · simp at h1; omega
    · rename_i hc
      rcases h with ⟨rfl, hno⟩ | ⟨ht, hn⟩
      · refine .inl ⟨rfl, fun z hz hkz => ?_⟩
        rcases List.mem_append.1 hz with h1 | h1
        · exact hno z h1 hkz
        · simp at h1
          subst h1
          exact hc ⟨by omega, .inl rfl⟩
      · refine .inr ⟨ht, List.mem_append.2 (.inl hn.1), hn.2.1, fun z hz hkz => ?_⟩
        rcases List.mem_append.1 hz with h1 | h1
        · exact hn.2.2 z h1 hkz
        · simp at h1
          subst h1
          apply Classical.byContradiction
          intro hlt
          exact hc ⟨by omega, .inr (by omega)⟩
/-- in whatever order all keys are looked at: it is the next one -/
theorem near_up {key : Int} {ks l : List Int} (hu : Up l) (hm : ∀ z, z ∈ ks ↔ z ∈ l) : ks.foldl (nst key 1) (0, false) = match qnx key l with | some y => (y, true) | none => (0, false) := by
  have h := nst_up key ks [] (0, false) (.inl ⟨rfl, fun z hz => by cases hz⟩)
  rw [List.nil_append] at h
  generalize ks.foldl (nst key 1) (0, false) = st at *
  rcases h with ⟨h1, h2⟩ | ⟨h1, h2⟩
  · rw [qnx_none.2 (fun z hz => h2 z ((hm z).2 hz))]
    exact h1
  · have hy : NxP (· ∈ l) key st.1 := ⟨(hm _).1 h2.1, h2.2.1, fun z hz hk => h2.2.2 z ((hm z).2 hz) hk⟩
    rw [qnx_is hu hy]
    exact Prod.ext rfl h1
theorem near_down {key : Int} {ks l : List Int} (hu : Up l) (hm : ∀ z, z ∈ ks ↔ z ∈ l) : ks.foldl (nst key (-1)) (0, false) = match qpv key l with | some y => (y, true) | none => (0, false) := by
  have h := nst_down key ks [] (0, false) (.inl ⟨rfl, fun z hz => by cases hz⟩)
  rw [List.nil_append] at h
  generalize ks.foldl (nst key (-1)) (0, false) = st at *
  rcases h with ⟨h1, h2⟩ | ⟨h1, h2⟩
  · rw [qpv_none.2 (fun z hz => h2 z ((hm z).2 hz))]
    exact h1
  · have hy : PvP (· ∈ l) key st.1 := ⟨(hm _).1 h2.1, h2.2.1, fun z hz hk => h2.2.2 z ((hm z).2 hz) hk⟩
    rw [qpv_is hu hy]
    exact Prod.ext rfl h1

end Go.Proofs.YtpnjnedfcdppaaaGreatDoor

/-
  KEYS BY HALVES: what a set of keys is by its ends, its highs and its parts; put and cut: plain mathematics. Nothing of the program.
-/
namespace Go.Proofs.YtpnjnedfcdppaaaGreatDoor

/-- how many keys a set of level n has room for -/
def qq : Nat → Int
  | 0 => 2
  | n + 1 => qq n * qq n
/-- how many bits a key of level n has -/
def qbt : Nat → Nat
  | 0 => 1
  | n + 1 => 2 * qbt n
/-- how many bits each half has -/
def qhb : Nat → Nat
  | 0 => 0
  | n + 1 => qbt n
theorem qq_two : ∀ n, 2 ≤ qq n
  | 0 => by decide
  | n + 1 => by
    have := qq_two n
    show 2 ≤ qq n * qq n
    have h2 : 2 * 2 ≤ qq n * qq n := Int.mul_le_mul this this (by omega) (by omega)
    omega
theorem qq_pos (n : Nat) : 0 < qq n := by have := qq_two n; omega
theorem qq4 : qq 4 = 65536 := by decide
theorem qbt4 : qbt 4 = 16 := by decide
theorem qq_le {n : Nat} (h : n ≤ 3) : qq n ≤ 256 := by
  match n, h with
  | 0, _ => decide
  | 1, _ => decide
  | 2, _ => decide
  | 3, _ => decide
theorem qq_le4 {n : Nat} (h : n ≤ 4) : qq n ≤ 65536 := by
  match n, h with
  | 0, _ => decide
  | 1, _ => decide
  | 2, _ => decide
  | 3, _ => decide
  | 4, _ => decide
theorem qhb_half (n : Nat) : qbt n / 2 = qhb n := by
  cases n with
  | zero => rfl
  | succ n => show 2 * qbt n / 2 = qbt n; omega
theorem qbt_le {n : Nat} (h : n ≤ 4) : qbt n ≤ 16 := by
  match n, h with
  | 0, _ => decide
  | 1, _ => decide
  | 2, _ => decide
  | 3, _ => decide
  | 4, _ => decide
theorem qbt_pos : ∀ n, 1 ≤ qbt n
  | 0 => Nat.le_refl _
  | n + 1 => by have := qbt_pos n; show 1 ≤ 2 * qbt n; omega

abbrev KS := Int → Prop
def QPut (S : KS) (k : Int) : KS := fun x => S x ∨ x = k
def QCut (S : KS) (k : Int) : KS := fun x => S x ∧ x ≠ k
def QEnds (S : KS) (lo hi : Int) : Prop := S lo ∧ S hi ∧ ∀ x, S x → lo ≤ x ∧ x ≤ hi
def QHi (q : Int) (R : KS) : KS := fun h => ∃ x, R x ∧ x / q = h
def QLo (q : Int) (R : KS) (h : Int) : KS := fun l => ∃ x, R x ∧ x / q = h ∧ x % q = l
def QBd (q : Int) (S : KS) : Prop := ∀ x, S x → 0 ≤ x ∧ x < q
theorem ks_ext {S S' : KS} (h : ∀ x, S x ↔ S' x) : S = S' := funext fun x => propext (h x)

theorem qsame {q x y : Int} (h1 : x / q = y / q) (h2 : x % q = y % q) : x = y := by
  have a := Int.emod_add_mul_ediv x q
  have b := Int.emod_add_mul_ediv y q
  rw [h1, h2] at a
  exact a.symm.trans b
theorem qlo_iff {q : Int} {R : KS} {x : Int} : QLo q R (x / q) (x % q) ↔ R x := by
  constructor
  · rintro ⟨y, hy, h1, h2⟩
    rw [← qsame h1 h2]
    exact hy
  · exact fun h => ⟨x, h, rfl, rfl⟩
theorem qlo_bd {q : Int} (hq : 0 < q) {R : KS} (h : Int) : QBd q (QLo q R h) := by
  rintro l ⟨x, _, _, rfl⟩
  exact ⟨Int.emod_nonneg x (by omega), Int.emod_lt_of_pos x hq⟩
theorem qdiv_bd {q x : Int} (hq : 0 < q) (h0 : 0 ≤ x) (h1 : x < q * q) : 0 ≤ x / q ∧ x / q < q :=
  ⟨Int.ediv_nonneg h0 (by omega), (Int.ediv_lt_iff_lt_mul hq).2 h1⟩
theorem qmod_bd {q : Int} (hq : 0 < q) (x : Int) : 0 ≤ x % q ∧ x % q < q := ⟨Int.emod_nonneg x (by omega), Int.emod_lt_of_pos x hq⟩
theorem qhi_bd {q : Int} (hq : 0 < q) {R : KS} (hR : QBd (q * q) R) : QBd q (QHi q R) := by
  rintro h ⟨x, hx, rfl⟩
  exact qdiv_bd hq (hR x hx).1 (hR x hx).2
/-- a key from its halves -/
theorem qlo_key {q : Int} (hq : 0 < q) {R : KS} {h l : Int} (hl : QLo q R h l) : R (h * q + l) ∧ (h * q + l) / q = h ∧ (h * q + l) % q = l := by
  obtain ⟨x, hx, h1, h2⟩ := hl
  have hb := qmod_bd hq x
  have e := halves_of (q := q) (h := h) (lo := l) hq (by omega) (by omega)
  have : h * q + l = x := qsame (e.1.trans h1.symm) (e.2.trans h2.symm)
  exact ⟨this ▸ hx, e⟩
theorem qhi_lo {q : Int} {R : KS} {h : Int} : QHi q R h ↔ ∃ l, QLo q R h l := by
  constructor
  · rintro ⟨x, hx, h1⟩
    exact ⟨x % q, x, hx, h1, rfl⟩
  · rintro ⟨l, x, hx, h1, _⟩
    exact ⟨x, hx, h1⟩
/-! put -/
theorem qput_bd {q : Int} {S : KS} (h : QBd q S) {k : Int} (h0 : 0 ≤ k) (h1 : k < q) : QBd q (QPut S k) := by
  rintro x (hx | rfl)
  · exact h x hx
  · exact ⟨h0, h1⟩
theorem qput_mem {S : KS} {k : Int} (h : S k) : QPut S k = S := ks_ext fun x => ⟨fun hx => by rcases hx with hx | rfl <;> assumption, .inl⟩
theorem qhi_put {q : Int} {R : KS} {k : Int} : QHi q (QPut R k) = QPut (QHi q R) (k / q) := by
  refine ks_ext fun h => ⟨?_, ?_⟩
  · rintro ⟨x, hx | rfl, rfl⟩
    · exact .inl ⟨x, hx, rfl⟩
    · exact .inr rfl
  · rintro (⟨x, hx, rfl⟩ | rfl)
    · exact ⟨x, .inl hx, rfl⟩
    · exact ⟨k, .inr rfl, rfl⟩
theorem qlo_put {q : Int} {R : KS} {k : Int} : QLo q (QPut R k) (k / q) = QPut (QLo q R (k / q)) (k % q) := by
  refine ks_ext fun l => ⟨?_, ?_⟩
  · rintro ⟨x, hx | rfl, h1, rfl⟩
    · exact .inl ⟨x, hx, h1, rfl⟩
    · exact .inr rfl
  · rintro (⟨x, hx, h1, rfl⟩ | rfl)
    · exact ⟨x, .inl hx, h1, rfl⟩
    · exact ⟨k, .inr rfl, rfl, rfl⟩
theorem qlo_put_ne {q : Int} {R : KS} {k h : Int} (hne : h ≠ k / q) : QLo q (QPut R k) h = QLo q R h := by
  refine ks_ext fun l => ⟨?_, ?_⟩
  · rintro ⟨x, hx | rfl, h1, rfl⟩
    · exact ⟨x, hx, h1, rfl⟩
    · exact absurd h1.symm hne
  · rintro ⟨x, hx, h1, rfl⟩
    exact ⟨x, .inl hx, h1, rfl⟩
/-! cut -/
theorem qcut_bd {q : Int} {S : KS} (h : QBd q S) {k : Int} : QBd q (QCut S k) := fun x hx => h x hx.1
theorem qlo_cut {q : Int} {R : KS} {k : Int} : QLo q (QCut R k) (k / q) = QCut (QLo q R (k / q)) (k % q) := by
  refine ks_ext fun l => ⟨?_, ?_⟩
  · rintro ⟨x, ⟨hx, hne⟩, h1, rfl⟩
    exact ⟨⟨x, hx, h1, rfl⟩, fun e => hne (qsame h1 e)⟩
  · rintro ⟨⟨x, hx, h1, rfl⟩, hne⟩
    exact ⟨x, ⟨hx, fun e => hne (by rw [e])⟩, h1, rfl⟩
theorem qlo_cut_ne {q : Int} {R : KS} {k h : Int} (hne : h ≠ k / q) : QLo q (QCut R k) h = QLo q R h := by
  refine ks_ext fun l => ⟨?_, ?_⟩
  · rintro ⟨x, ⟨hx, _⟩, h1, rfl⟩
    exact ⟨x, hx, h1, rfl⟩
  · rintro ⟨x, hx, h1, rfl⟩
    exact ⟨x, ⟨hx, fun e => hne (by rw [← h1, e])⟩, h1, rfl⟩
/-- there is another one with these high bits: the highs stay -/
theorem qhi_cut_some {q : Int} {R : KS} {k l : Int} (h : QCut (QLo q R (k / q)) (k % q) l) : QHi q (QCut R k) = QHi q R := by
  rw [← qlo_cut] at h
  refine ks_ext fun y => ⟨?_, ?_⟩
  · rintro ⟨x, ⟨hx, _⟩, rfl⟩
    exact ⟨x, hx, rfl⟩
  · rintro ⟨x, hx, rfl⟩
    by_cases hk : x = k
    · subst hk
      exact qhi_lo.2 ⟨l, h⟩
    · exact ⟨x, ⟨hx, hk⟩, rfl⟩
theorem qhi_cut_none {q : Int} {R : KS} {k : Int} (h : ∀ l, ¬ QCut (QLo q R (k / q)) (k % q) l) : QHi q (QCut R k) = QCut (QHi q R) (k / q) := by
  have h' : ∀ l, ¬ QLo q (QCut R k) (k / q) l := fun l => by rw [qlo_cut]; exact h l
  refine ks_ext fun y => ⟨?_, ?_⟩
  · rintro ⟨x, hx, rfl⟩
    refine ⟨⟨x, hx.1, rfl⟩, fun e => ?_⟩
    exact h' (x % q) ⟨x, hx, e, rfl⟩
  · rintro ⟨⟨x, hx, rfl⟩, hne⟩
    exact ⟨x, ⟨hx, fun e => hne (by rw [e])⟩, rfl⟩
/-! ends and the rest -/
theorem qends_one {S : KS} {lo hi lo' hi' : Int} (h : QEnds S lo hi) (h' : QEnds S lo' hi') : lo = lo' ∧ hi = hi' := by
  have a := h.2.2 _ h'.1
  have b := h'.2.2 _ h.1
  have c := h.2.2 _ h'.2.1
  have d := h'.2.2 _ h.2.1
  omega
/-- put below all -/
theorem qput_low {S : KS} {lo hi k : Int} (h : QEnds S lo hi) (hk : k < lo) : QEnds (QPut S k) k hi ∧ QCut (QPut S k) k = QPut (QCut S lo) lo := by
  have h1 := h.2.2 _ h.2.1
  refine ⟨⟨.inr rfl, .inl h.2.1, ?_⟩, ks_ext fun x => ⟨?_, ?_⟩⟩
  · rintro x (hx | rfl)
    · have := h.2.2 x hx; omega
    · omega
  · rintro ⟨hx | rfl, hne⟩
    · by_cases e : x = lo
      · exact .inr e
      · exact .inl ⟨hx, e⟩
    · exact absurd rfl hne
  · rintro (⟨hx, _⟩ | rfl)
    · have := h.2.2 x hx
      exact ⟨.inl hx, by omega⟩
    · exact ⟨.inl h.1, by omega⟩
/-- put among the rest -/
theorem qput_high {S : KS} {lo hi k : Int} (h : QEnds S lo hi) (hk : lo < k) : QEnds (QPut S k) lo (if hi < k then k else hi) ∧ QCut (QPut S k) lo = QPut (QCut S lo) k := by
  refine ⟨⟨.inl h.1, ?_, ?_⟩, ks_ext fun x => ⟨?_, ?_⟩⟩
  · split
    · exact .inr rfl
    · exact .inl h.2.1
  · rintro x (hx | rfl)
    · have := h.2.2 x hx; split <;> omega
    · split <;> omega
  · rintro ⟨hx | rfl, hne⟩
    · exact .inl ⟨hx, hne⟩
    · exact .inr rfl
  · rintro (⟨hx, hne⟩ | rfl)
    · exact ⟨.inl hx, hne⟩
    · exact ⟨.inr rfl, by omega⟩
theorem qput_new (k : Int) {S : KS} (h : ∀ x, ¬ S x) : QEnds (QPut S k) k k ∧ ∀ x, ¬ QCut (QPut S k) k x := by
  refine ⟨⟨.inr rfl, .inr rfl, ?_⟩, ?_⟩
  · rintro x (hx | rfl)
    · exact absurd hx (h x)
    · omega
  · rintro x ⟨hx | rfl, hne⟩
    · exact h x hx
    · exact hne rfl
/-- the least one goes, the least of the rest comes up -/
theorem qcut_low {S : KS} {lo hi y : Int} (h : QEnds S lo hi) {z : Int} (hy : QEnds (QCut S lo) y z) : QEnds (QCut S lo) y hi ∧ z = hi ∧ QCut (QCut S lo) y = QCut (QCut S lo) y := by
  have h1 := h.2.2 _ hy.1.1
  have hne : lo ≠ hi := fun e => hy.1.2 (by omega)
  have h2 : QCut S lo hi := ⟨h.2.1, fun e => hne e.symm⟩
  have h3 := hy.2.2 hi h2
  have h4 := h.2.2 z hy.2.1.1
  exact ⟨⟨hy.1, h2, fun x hx => ⟨(hy.2.2 x hx).1, (h.2.2 x hx.1).2⟩⟩, by omega, rfl⟩
theorem qcut_rest {S : KS} {lo k : Int} : QCut (QCut S k) lo = QCut (QCut S lo) k := ks_ext fun x => ⟨fun h => ⟨⟨h.1.1, h.2⟩, h.1.2⟩, fun h => ⟨⟨h.1.1, h.2⟩, h.1.2⟩⟩
/-- one of the rest goes that isn't the greatest one -/
theorem qcut_mid {S : KS} {lo hi k : Int} (h : QEnds S lo hi) (h1 : k ≠ lo) (h2 : k ≠ hi) : QEnds (QCut S k) lo hi := ⟨⟨h.1, fun e => h1 e.symm⟩, ⟨h.2.1, fun e => h2 e.symm⟩, fun x hx => h.2.2 x hx.1⟩
/-- the greatest one goes, the rest has none: what is left is the least one -/
theorem qcut_none {S : KS} {lo hi k : Int} (h : QEnds S lo hi) (h1 : k ≠ lo) (h2 : ∀ x, ¬ QCut (QCut S lo) k x) : QEnds (QCut S k) lo lo := by
  refine ⟨⟨h.1, fun e => h1 e.symm⟩, ⟨h.1, fun e => h1 e.symm⟩, fun x hx => ?_⟩
  have : x = lo := Classical.byContradiction fun e => h2 x ⟨⟨hx.1, e⟩, hx.2⟩
  omega
theorem qcut_some {S : KS} {lo hi k y z : Int} (h : QEnds S lo hi) (h1 : k ≠ lo) (h2 : QEnds (QCut (QCut S lo) k) y z) : QEnds (QCut S k) lo z := by
  refine ⟨⟨h.1, fun e => h1 e.symm⟩, ⟨h2.2.1.1.1, h2.2.1.2⟩, fun x hx => ?_⟩
  refine ⟨(h.2.2 x hx.1).1, ?_⟩
  by_cases e : x = lo
  · have := h.2.2 z h2.2.1.1.1
    omega
  · exact (h2.2.2 x ⟨⟨hx.1, e⟩, hx.2⟩).2
/-- the ends of the rest, by its highs and the parts -/
theorem qrest_low {q : Int} (hq : 0 < q) {R : KS} {h1 h2 l1 l2 : Int} (hh : QEnds (QHi q R) h1 h2) (hl : QEnds (QLo q R h1) l1 l2) : R (h1 * q + l1) ∧ ∀ x, R x → h1 * q + l1 ≤ x := by
  obtain ⟨a, b, c⟩ := qlo_key hq hl.1
  refine ⟨a, fun x hx => ?_⟩
  have e1 := (hh.2.2 (x / q) ⟨x, hx, rfl⟩).1
  have hx2 := halves (q := q) (x := x) hq
  by_cases e : x / q = h1
  · have := (hl.2.2 (x % q) ⟨x, hx, e, rfl⟩).1
    rw [e] at hx2
    omega
  · have : h1 * q + l1 < x := half_lt hq (by rw [b]; omega)
    omega
theorem qrest_high {q : Int} (hq : 0 < q) {R : KS} {h1 h2 l1 l2 : Int} (hh : QEnds (QHi q R) h1 h2) (hl : QEnds (QLo q R h2) l1 l2) : R (h2 * q + l2) ∧ ∀ x, R x → x ≤ h2 * q + l2 := by
  obtain ⟨a, b, c⟩ := qlo_key hq hl.2.1
  refine ⟨a, fun x hx => ?_⟩
  have e1 := (hh.2.2 (x / q) ⟨x, hx, rfl⟩).2
  have hx2 := halves (q := q) (x := x) hq
  by_cases e : x / q = h2
  · have := (hl.2.2 (x % q) ⟨x, hx, e, rfl⟩).2
    rw [e] at hx2
    omega
  · have : x < h2 * q + l2 := half_lt hq (by rw [b]; omega)
    omega
theorem qhi_none {q : Int} {R : KS} (h : ∀ y, ¬ QHi q R y) : ∀ x, ¬ R x := fun x hx => h (x / q) ⟨x, hx, rfl⟩

/-! next -/
/-- among a set of bits -/
theorem qnx_bit {S : KS} {lo hi k : Int} (h : QEnds S lo hi) (hb : QBd 2 S) (h1 : lo ≤ k) (h2 : k < hi) : NxP S k hi := by
  have a := hb lo h.1
  have b := hb hi h.2.1
  exact ⟨h.2.1, h2, fun z hz hk => by have := hb z hz; omega⟩
theorem qpv_bit {S : KS} {lo hi k : Int} (h : QEnds S lo hi) (hb : QBd 2 S) (h1 : lo < k) (h2 : k ≤ hi) : PvP S k lo := by
  have a := hb lo h.1
  have b := hb hi h.2.1
  exact ⟨h.1, h1, fun z hz hk => by have := hb z hz; omega⟩
theorem qnx_below {S : KS} {lo hi k : Int} (h : QEnds S lo hi) (h1 : k < lo) : NxP S k lo := ⟨h.1, h1, fun z hz _ => (h.2.2 z hz).1⟩
theorem qpv_above {S : KS} {lo hi k : Int} (h : QEnds S lo hi) (h1 : hi < k) : PvP S k hi := ⟨h.2.1, h1, fun z hz _ => (h.2.2 z hz).2⟩
theorem qnx_over {S : KS} {lo hi k : Int} (h : QEnds S lo hi) (h1 : hi ≤ k) : ∀ z, S z → ¬ k < z := fun z hz => by have := h.2.2 z hz; omega
theorem qpv_under {S : KS} {lo hi k : Int} (h : QEnds S lo hi) (h1 : k ≤ lo) : ∀ z, S z → ¬ z < k := fun z hz => by have := h.2.2 z hz; omega
/-- in the same part -/
theorem qnx_part {q : Int} (hq : 0 < q) {S : KS} {lo hi k l : Int} (h : QEnds S lo hi) (h1 : lo ≤ k) (hn : NxP (QLo q (QCut S lo) (k / q)) (k % q) l) : NxP S k (k / q * q + l) := by
  obtain ⟨a, b, c⟩ := qlo_key hq hn.1
  have hx := halves (q := q) (x := k) hq
  have hl := hn.2.1
  refine nx_in hq a.1 b (by omega) fun z hz hzq hkz => ?_
  have hz2 := halves (q := q) (x := z) hq
  have := hn.2.2 (z % q) ⟨z, ⟨hz, by omega⟩, hzq, rfl⟩ (by rw [hzq] at hz2; omega)
  rw [hzq] at hz2
  omega
theorem qpv_part {q : Int} (hq : 0 < q) {S : KS} {lo hi k l : Int} (h : QEnds S lo hi) (hn : PvP (QLo q (QCut S lo) (k / q)) (k % q) l) : PvP S k (k / q * q + l) := by
  obtain ⟨a, b, c⟩ := qlo_key hq hn.1
  have hx := halves (q := q) (x := k) hq
  have hl := hn.2.1
  refine pv_in hq a.1 b (by omega) fun z hz hzq hkz => ?_
  have hz2 := halves (q := q) (x := z) hq
  by_cases e : z = lo
  · have := (h.2.2 _ a.1).1
    omega
  · have := hn.2.2 (z % q) ⟨z, ⟨hz, e⟩, hzq, rfl⟩ (by rw [hzq] at hz2; omega)
    rw [hzq] at hz2
    omega
/-- in the next part: there is one -/
theorem qnx_has {q : Int} (hq : 0 < q) {S : KS} {lo hi k : Int} (h : QEnds S lo hi) (h1 : lo ≤ k) (h2 : k < hi) (hn : ∀ z, QLo q (QCut S lo) (k / q) z → ¬ k % q < z) : QHi q (QCut S lo) (hi / q) ∧ k / q < hi / q := by
  have hr : QCut S lo hi := ⟨h.2.1, by omega⟩
  refine ⟨⟨hi, hr, rfl⟩, ?_⟩
  have h3 : k / q ≤ hi / q := Int.ediv_le_ediv hq (by omega)
  have hne : k / q ≠ hi / q := fun e => by
    have := hn (hi % q) ⟨hi, hr, e.symm, rfl⟩
    have a := halves (q := q) (x := k) hq
    have b := halves (q := q) (x := hi) hq
    rw [← e] at b
    omega
  omega
theorem qnx_far {q : Int} (hq : 0 < q) {S : KS} {lo k y l1 l2 : Int} (h1 : lo ≤ k) (hn : ∀ z, QLo q (QCut S lo) (k / q) z → ¬ k % q < z) (hy : NxP (QHi q (QCut S lo)) (k / q) y) (hl : QEnds (QLo q (QCut S lo) y) l1 l2) : NxP S k (y * q + l1) := by
  obtain ⟨a, b, c⟩ := qlo_key hq hl.1
  refine nx_out hq (fun z hz e hkz => ?_) a.1 (by rw [b]; exact hy.2.1) (fun z hz hkz => ?_) (fun z hz e => ?_)
  · refine hn (z % q) ⟨z, ⟨hz, by omega⟩, e, rfl⟩ ?_
    have a := halves (q := q) (x := k) hq
    have b := halves (q := q) (x := z) hq
    rw [e] at b
    omega
  · rw [b]
    have h3 := half_lt hq hkz
    exact hy.2.2 (z / q) ⟨z, ⟨hz, by omega⟩, rfl⟩ hkz
  · rw [b] at e
    have h3 : k < z := half_lt hq (by rw [e]; exact hy.2.1)
    have h2 := (hl.2.2 (z % q) ⟨z, ⟨hz, by omega⟩, e, rfl⟩).1
    have b := halves (q := q) (x := z) hq
    rw [e] at b
    omega
theorem qpv_far {q : Int} (hq : 0 < q) {S : KS} {lo hi k y l1 l2 : Int} (h : QEnds S lo hi) (hn : ∀ z, QLo q (QCut S lo) (k / q) z → ¬ z < k % q) (hy : PvP (QHi q (QCut S lo)) (k / q) y) (hl : QEnds (QLo q (QCut S lo) y) l1 l2) : PvP S k (y * q + l2) := by
  obtain ⟨a, b, c⟩ := qlo_key hq hl.2.1
  have hlt : y * q + l2 < k := half_lt hq (by rw [b]; exact hy.2.1)
  refine ⟨a.1, hlt, fun z hz hkz => ?_⟩
  by_cases e : z = lo
  · rw [e]; exact (h.2.2 _ a.1).1
  · have hzr : QCut S lo z := ⟨hz, e⟩
    have hzk : z / q ≤ k / q := Int.ediv_le_ediv hq (by omega)
    have hz2 := halves (q := q) (x := z) hq
    have hk2 := halves (q := q) (x := k) hq
    by_cases e2 : z / q = k / q
    · have := hn (z % q) ⟨z, hzr, e2, rfl⟩
      rw [e2] at hz2
      omega
    · have h3 := hy.2.2 (z / q) ⟨z, hzr, rfl⟩ (by omega)
      by_cases e3 : z / q = y
      · have := (hl.2.2 (z % q) ⟨z, hzr, e3, rfl⟩).2
        rw [e3] at hz2
        omega
      · exact Int.le_of_lt (half_lt hq (by rw [b]; omega))
theorem qpv_last {q : Int} (hq : 0 < q) {S : KS} {lo hi k : Int} (h : QEnds S lo hi) (h1 : lo < k) (hn : ∀ z, QLo q (QCut S lo) (k / q) z → ¬ z < k % q) (hy : ∀ z, QHi q (QCut S lo) z → ¬ z < k / q) : PvP S k lo := by
  refine ⟨h.1, h1, fun z hz hkz => ?_⟩
  apply Classical.byContradiction
  intro hlt
  have hzr : QCut S lo z := ⟨hz, by omega⟩
  have hzk : z / q ≤ k / q := Int.ediv_le_ediv hq (by omega)
  have a := hy (z / q) ⟨z, hzr, rfl⟩
  have e : z / q = k / q := by omega
  have := hn (z % q) ⟨z, hzr, e, rfl⟩
  have hz2 := halves (q := q) (x := z) hq
  have hk2 := halves (q := q) (x := k) hq
  rw [e] at hz2
  omega

end Go.Proofs.YtpnjnedfcdppaaaGreatDoor

/-
  OP BY OP over the keys that are there (stage 10): what is answered, what is left: plain mathematics. Nothing of the program.
-/
namespace Go.Proofs.YtpnjnedfcdppaaaGreatDoor

/-- may this op come? -/
def hok (o : Int × Int × Int) : Prop := 1 ≤ o.1 ∧ o.1 ≤ 5 ∧ 0 ≤ o.2.1 ∧ o.2.1 ≤ 65535
instance (o : Int × Int × Int) : Decidable (hok o) := by unfold hok; infer_instance
def hanO (r : Option Int) : An := match r with | some y => ⟨0, y, 0, true⟩ | none => ⟨0, 0, 0, false⟩
/-- the answer to one op -/
def hA (l : List Int) (o : Int × Int × Int) : An :=
  if ¬ (1 ≤ o.1 ∧ o.1 ≤ 5) then ⟨3, 0, 0, false⟩
  else if ¬ (0 ≤ o.2.1 ∧ o.2.1 ≤ 65535) then ⟨1, 0, 0, false⟩
  else if o.1 = 4 then hanO (qnx o.2.1 l) else if o.1 = 5 then hanO (qpv o.2.1 l) else ⟨0, 0, 0, decide (o.2.1 ∈ l)⟩
/-- the keys behind it -/
def hL (l : List Int) (o : Int × Int × Int) : List Int := if hok o then (if o.1 = 1 then qins o.2.1 l else if o.1 = 3 then qdel o.2.1 l else l) else l
def hS (s : List Int × List An) (o : Int × Int × Int) : List Int × List An := (hL s.1 o, s.2 ++ [hA s.1 o])
def hR (ops : List (Int × Int × Int)) : List Int × List An := ops.foldl hS ([], [])
theorem hR_nil : hR [] = ([], []) := rfl
theorem hR_snoc (ops : List (Int × Int × Int)) (o : Int × Int × Int) : hR (ops ++ [o]) = hS (hR ops) o := by simp [hR]
theorem hR_succ (ops : List (Int × Int × Int)) (k : Nat) (h : k < ops.length) : hR (ops.take (k + 1)) = hS (hR (ops.take k)) ops[k] := by
  rw [List.take_succ_eq_append_getElem h, hR_snoc]
/-- the keys, and the answers, from a list of keys on -/
def hK (l : List Int) (ops : List (Int × Int × Int)) : List Int := ops.foldl hL l
def hAs : List Int → List (Int × Int × Int) → List An
  | _, [] => []
  | l, o :: ops => hA l o :: hAs (hL l o) ops
theorem hfold (ops : List (Int × Int × Int)) : ∀ s : List Int × List An, ops.foldl hS s = (hK s.1 ops, s.2 ++ hAs s.1 ops) := by
  induction ops with
  | nil => intro s; simp [hK, hAs]
  | cons o ops ih => intro s; rw [List.foldl_cons, ih]; simp [hS, hK, hAs]
theorem hR_is (ops : List (Int × Int × Int)) : hR ops = (hK [] ops, hAs [] ops) := by
  unfold hR
  rw [hfold]
  simp
theorem hK_app (l : List Int) (a b : List (Int × Int × Int)) : hK l (a ++ b) = hK (hK l a) b := by simp [hK]
theorem hAs_app : ∀ (a b : List (Int × Int × Int)) (l : List Int), hAs l (a ++ b) = hAs l a ++ hAs (hK l a) b
  | [], b, l => by simp [hAs, hK]
  | o :: a, b, l => by simp only [List.cons_append, hAs, hAs_app a b, hK, List.foldl_cons]
theorem hAs_len : ∀ (a : List (Int × Int × Int)) (l : List Int), (hAs l a).length = a.length
  | [], _ => rfl
  | o :: a, l => by simp [hAs, hAs_len a]
theorem hR_len (ops : List (Int × Int × Int)) : (hR ops).2.length = ops.length := by rw [hR_is]; exact hAs_len ops []
/-- the keys rise, are such as may be, and are no more than the ops -/
def Hk (l : List Int) : Prop := Up l ∧ ∀ x ∈ l, 0 ≤ x ∧ x ≤ 65535
theorem Hk.nil : Hk [] := ⟨by simp [Up], fun x h => by cases h⟩
theorem Hk.step {l : List Int} (h : Hk l) (o : Int × Int × Int) : Hk (hL l o) := by
  unfold hL
  split
  · rename_i ho
    split
    · refine ⟨up_qins h.1, fun x hx => ?_⟩
      rcases mem_qins.1 hx with e | e
      · rw [e]; exact ⟨ho.2.2.1, ho.2.2.2⟩
      · exact h.2 x e
    · split
      · exact ⟨up_qdel h.1, fun x hx => h.2 x (mem_qdel.1 hx).1⟩
      · exact h
  · exact h
theorem Hk.fold : ∀ (ops : List (Int × Int × Int)) {l : List Int}, Hk l → Hk (hK l ops)
  | [], _, h => h
  | o :: ops, l, h => Hk.fold ops (h.step o)
theorem qins_le {k : Int} {l : List Int} (h : Up l) : (qins k l).length ≤ l.length + 1 := by
  by_cases hk : k ∈ l
  · rw [qins_mem h hk]; omega
  · rw [qins_length hk]; omega
theorem hL_len {l : List Int} (h : Up l) (o : Int × Int × Int) : (hL l o).length ≤ l.length + 1 := by
  unfold hL
  split
  · split
    · exact qins_le h
    · split
      · have : (qdel o.2.1 l).length ≤ l.length := List.length_filter_le _ _
        omega
      · omega
  · omega
theorem hK_len : ∀ (ops : List (Int × Int × Int)) {l : List Int}, Hk l → (hK l ops).length ≤ l.length + ops.length
  | [], l, _ => by simp [hK]
  | o :: ops, l, h => by
    have h1 := hK_len ops (h.step o)
    have h2 := hL_len h.1 o
    have e : hK l (o :: ops) = hK (hL l o) ops := rfl
    rw [e, List.length_cons]
    omega
theorem hR_up (ops : List (Int × Int × Int)) : Hk (hR ops).1 := by rw [hR_is]; exact Hk.fold ops Hk.nil
theorem hR_le (ops : List (Int × Int × Int)) : (hR ops).1.length ≤ ops.length := by
  rw [hR_is]
  have := hK_len ops Hk.nil
  simpa using this

/-! from one key to the next one -/
def asksOf (l : List Int) : List (Int × Int × Int) := l.flatMap fun k => [(4, k, 0), (5, k, 0)]
theorem asksOf_len (l : List Int) : (asksOf l).length = 2 * l.length := by
  induction l with
  | nil => rfl
  | cons k l ih => simp only [asksOf, List.flatMap_cons, List.length_append, List.length_cons, List.length_nil] at ih ⊢; omega
theorem hL_ask {l : List Int} {o : Int × Int × Int} (h : o.1 = 4 ∨ o.1 = 5) : hL l o = l := by
  unfold hL
  split
  · rw [if_neg (by omega), if_neg (by omega)]
  · rfl
theorem hK_asks (l : List Int) : ∀ m : List Int, hK l (asksOf m) = l
  | [] => rfl
  | k :: m => by
    have e : asksOf (k :: m) = [(4, k, 0), (5, k, 0)] ++ asksOf m := rfl
    rw [e, hK_app]
    have e2 : hK l [(4, k, 0), (5, k, 0)] = l := by
      show hL (hL l (4, k, 0)) (5, k, 0) = l
      have e4 : hL l (4, k, 0) = l := hL_ask (.inl rfl)
      have e5 : hL l (5, k, 0) = l := hL_ask (.inr rfl)
      rw [e4, e5]
    rw [e2, hK_asks l m]
theorem hAs_asks (l : List Int) : ∀ m : List Int, hAs l (asksOf m) = m.flatMap fun k => [hA l (4, k, 0), hA l (5, k, 0)]
  | [] => rfl
  | k :: m => by
    have e : asksOf (k :: m) = (4, k, 0) :: (5, k, 0) :: asksOf m := rfl
    have e4 : hL l (4, k, 0) = l := hL_ask (.inl rfl)
    have e5 : hL l (5, k, 0) = l := hL_ask (.inr rfl)
    rw [e, hAs, hAs, e4, e5, hAs_asks l m]
    rfl
theorem pairs_at {α : Type} (f g : Int → α) : ∀ (m : List Int) (k : Nat) (h : k < m.length), (m.flatMap fun x => [f x, g x])[2 * k]? = some (f m[k]) ∧ (m.flatMap fun x => [f x, g x])[2 * k + 1]? = some (g m[k])
  | x :: m, 0, _ => by simp [List.flatMap_cons]
  | x :: m, k + 1, h => by
    have := pairs_at f g m k (by simpa using h)
    rw [List.flatMap_cons, show 2 * (k + 1) = 2 * k + 2 by omega]
    simpa using this
theorem walk_at {l : List Int} (h : Hk l) {k : Nat} (hk : k < l.length) : hA l (4, l[k], 0) = hanO l[k + 1]? ∧ hA l (5, l[k], 0) = hanO (if k = 0 then none else l[k - 1]?) := by
  have hb := h.2 _ (List.getElem_mem hk)
  refine ⟨?_, ?_⟩
  · unfold hA
    rw [if_neg (by simp), if_neg (by simp; omega), if_pos rfl]
    show hanO (qnx l[k] l) = _
    rw [qnx_at h.1 hk]
  · unfold hA
    rw [if_neg (by simp), if_neg (by simp; omega), if_neg (by simp), if_pos rfl]
    show hanO (qpv l[k] l) = _
    rw [qpv_at h.1 hk]
/-! put, and taken away; put twice -/
theorem cut_after {l : List Int} (h : Hk l) {key : Int} (h0 : 0 ≤ key) (h1 : key ≤ 65535) (hk : key ∉ l) :
    hK l [(1, key, 0), (3, key, 0)] = l ∧ hAs l [(1, key, 0), (3, key, 0)] = [⟨0, 0, 0, false⟩, ⟨0, 0, 0, true⟩] := by
  have o1 : hok (1, key, 0) := ⟨by simp, by simp, h0, h1⟩
  have o3 : hok (3, key, 0) := ⟨by simp, by simp, h0, h1⟩
  have e1 : hL l (1, key, 0) = qins key l := by unfold hL; rw [if_pos o1, if_pos rfl]
  have e3 : ∀ m, hL m (3, key, 0) = qdel key m := fun m => by unfold hL; rw [if_pos o3, if_neg (by simp), if_pos rfl]
  have a : ∀ (m : List Int) (q : Int), (q = 1 ∨ q = 3) → hA m (q, key, 0) = ⟨0, 0, 0, decide (key ∈ m)⟩ := fun m q hq => by
    unfold hA
    rw [if_neg (by simp; omega), if_neg (by simp; omega), if_neg (by simp; omega), if_neg (by simp; omega)]
  refine ⟨?_, ?_⟩
  · show hL (hL l (1, key, 0)) (3, key, 0) = l
    rw [e1, e3, qdel_qins h.1 hk]
  · show [hA l (1, key, 0), hA (hL l (1, key, 0)) (3, key, 0)] = _
    rw [a _ _ (.inl rfl), a _ _ (.inr rfl), e1, decide_eq_false hk, decide_eq_true (mem_qins.2 (.inl rfl))]
theorem put_twice {l : List Int} (h : Hk l) {key : Int} (h0 : 0 ≤ key) (h1 : key ≤ 65535) :
    hK l [(1, key, 0), (1, key, 0)] = qins key l ∧ hAs l [(1, key, 0), (1, key, 0)] = [⟨0, 0, 0, decide (key ∈ l)⟩, ⟨0, 0, 0, true⟩] := by
  have o1 : hok (1, key, 0) := ⟨by simp, by simp, h0, h1⟩
  have e1 : ∀ m, hL m (1, key, 0) = qins key m := fun m => by unfold hL; rw [if_pos o1, if_pos rfl]
  have a : ∀ (m : List Int), hA m (1, key, 0) = ⟨0, 0, 0, decide (key ∈ m)⟩ := fun m => by
    unfold hA
    rw [if_neg (by simp), if_neg (by simp; omega), if_neg (by simp), if_neg (by simp)]
  refine ⟨?_, ?_⟩
  · show hL (hL l (1, key, 0)) (1, key, 0) = _
    rw [e1, e1, qins_twice h.1]
  · show [hA l (1, key, 0), hA (hL l (1, key, 0)) (1, key, 0)] = _
    rw [a, a, e1, decide_eq_true (mem_qins.2 (.inl rfl) : key ∈ qins key l)]
/-- all that were put -/
theorem hK_puts (ks : List Int) (hb : ∀ x ∈ ks, 0 ≤ x ∧ x ≤ 65535) (v : Int) : hK [] (ks.map fun k => (1, k, v)) = qall ks := by
  have : ∀ (ks : List Int) (l : List Int), (∀ x ∈ ks, 0 ≤ x ∧ x ≤ 65535) → hK l (ks.map fun k => (1, k, v)) = ks.foldl (fun l k => qins k l) l := by
    intro ks
    induction ks with
    | nil => intro l _; rfl
    | cons k ks ih =>
      intro l hb
      have hk := hb k (by simp)
      have e : hL l (1, k, v) = qins k l := by
        unfold hL
        rw [if_pos ⟨by simp, by simp, hk.1, hk.2⟩, if_pos rfl]
      show hK (hL l (1, k, v)) (ks.map fun k => (1, k, v)) = _
      rw [e, ih _ (fun x hx => hb x (by simp [hx]))]
      rfl
  exact this ks [] hb

end Go.Proofs.YtpnjnedfcdppaaaGreatDoor
