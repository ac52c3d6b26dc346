/-
  THE TREE AND THE MAP: what is put and taken away comes to both alike. Lists and trees alone.
-/
import Derived.Test.YtolfpjleckckiaaGPure
import Derived.Test.YtolfpjleckckiaaKOne0All
namespace Go.Proofs.Ytolfpjleckckiaa

abbrev pk (l : PL) : List Int := l.map Prod.fst
theorem srt_ge : ∀ {l : PL} {a : Int}, Srt a l → ∀ y ∈ pk l, a ≤ y
  | [], _, _, y, h => by simp at h
  | p :: t, a, h, y, hy => by
    simp only [pk, List.map_cons, List.mem_cons] at hy
    rcases hy with rfl | hy
    · exact h.1
    · have := srt_ge h.2.2 y hy
      have := h.1
      omega
theorem srt_up : ∀ {l : PL} {a : Int}, Srt a l → Up (pk l)
  | [], _, _ => by simp [Up]
  | p :: t, a, h => by
    simp only [pk, Up, List.map_cons, List.pairwise_cons]
    refine ⟨fun y hy => ?_, srt_up h.2.2⟩
    have := srt_ge h.2.2 y hy
    omega
theorem get_mem : ∀ {l : PL} {a : Int} (k : Int), Srt a l → ((getR k l).isSome = true ↔ k ∈ pk l)
  | [], _, k, _ => by simp [getR]
  | p :: t, a, k, h => by
    unfold getR
    simp only [pk, List.map_cons, List.mem_cons]
    by_cases h1 : p.1 < k
    · rw [if_pos h1, get_mem k h.2.2]
      constructor
      · exact .inr
      · rintro (e | e)
        · omega
        · exact e
    · rw [if_neg h1]
      by_cases h2 : p.1 = k
      · rw [if_pos h2]
        simp [h2]
      · rw [if_neg h2]
        simp only [Option.isSome_none, Bool.false_eq_true, false_iff, not_or]
        refine ⟨fun e => h2 e.symm, fun e => ?_⟩
        have := srt_ge h.2.2 k e
        omega
theorem mem_insR (k v y : Int) : ∀ l : PL, y ∈ pk (insR k v l) ↔ y = k ∨ y ∈ pk l
  | [] => by simp [insR]
  | p :: t => by
    unfold insR
    by_cases h1 : p.1 < k
    · rw [if_pos h1]
      simp only [pk, List.map_cons, List.mem_cons]
      have := mem_insR k v y t
      simp only [pk] at this
      rw [this]
      constructor
      · rintro (h | h | h)
        · exact .inr (.inl h)
        · exact .inl h
        · exact .inr (.inr h)
      · rintro (h | h | h)
        · exact .inr (.inl h)
        · exact .inl h
        · exact .inr (.inr h)
    · rw [if_neg h1]
      by_cases h2 : p.1 = k
      · rw [if_pos h2]
        simp only [pk, List.map_cons, List.mem_cons]
        rw [h2]
        constructor
        · rintro (h | h)
          · exact .inl h
          · exact .inr (.inr h)
        · rintro (h | h | h)
          · exact .inl h
          · exact .inl h
          · exact .inr h
      · rw [if_neg h2]
        simp only [pk, List.map_cons, List.mem_cons]
theorem mem_delR (k y : Int) : ∀ {l : PL} {a : Int}, Srt a l → (y ∈ pk (delR k l) ↔ y ∈ pk l ∧ y ≠ k)
  | [], _, _ => by simp [delR]
  | p :: t, a, h => by
    unfold delR
    have hge := srt_ge h.2.2
    by_cases h1 : p.1 < k
    · rw [if_pos h1]
      simp only [pk, List.map_cons, List.mem_cons]
      have := mem_delR k y h.2.2
      simp only [pk] at this
      rw [this]
      constructor
      · rintro (e | e)
        · exact ⟨.inl e, by omega⟩
        · exact ⟨.inr e.1, e.2⟩
      · rintro ⟨e | e, hne⟩
        · exact .inl e
        · exact .inr ⟨e, hne⟩
    · rw [if_neg h1]
      by_cases h2 : p.1 = k
      · rw [if_pos h2]
        simp only [pk, List.map_cons, List.mem_cons]
        constructor
        · intro e
          have := hge y e
          exact ⟨.inr e, by omega⟩
        · rintro ⟨e | e, hne⟩
          · omega
          · exact e
      · rw [if_neg h2]
        simp only [pk, List.map_cons, List.mem_cons]
        constructor
        · rintro (e | e)
          · exact ⟨.inl e, by omega⟩
          · have := hge y e
            exact ⟨.inr e, by omega⟩
        · exact fun e => e.1

/-- what an op comes to: what tells an error does nothing -/
def grR (t : Tr) (o : OP) (a : An) : Tr := if a.e ≠ 0 then t else if o.1 = 1 then t.ins o.2.1 else if o.1 = 3 then t.del o.2.1 else t
/-- the tree and the map, side by side -/
structure Same (t : Tr) (l : PL) : Prop where
  chk : chk l = 0
  ks : t.ks = pk l
theorem Same.up {t : Tr} {l : PL} (h : Same t l) : Up t.ks := by rw [h.ks]; exact srt_up ((chk_zero l).1 h.chk).2
theorem Same.has {t : Tr} {l : PL} (h : Same t l) (k : Int) : (getR k l).isSome = true ↔ k ∈ t.ks := by rw [h.ks]; exact get_mem k ((chk_zero l).1 h.chk).2
/-- the ways that an op may go -/
theorem Same.ways {t : Tr} {l : PL} (h : Same t l) (kind key val : Int) :
    (doL l kind key val = l ∧ (doA l kind key).e ≠ 0) ∨
    ((doA l kind key).e = 0 ∧ kind = 1 ∧ (doA l kind key).b = true ∧ key ∈ t.ks ∧ pk (doL l kind key val) = pk l) ∨
    ((doA l kind key).e = 0 ∧ kind = 1 ∧ (doA l kind key).b = false ∧ key ∉ t.ks ∧ pk (doL l kind key val) = (t.ins key).ks) ∨
    ((doA l kind key).e = 0 ∧ kind = 3 ∧ (doA l kind key).b = true ∧ key ∈ t.ks ∧ pk (doL l kind key val) = (t.del key).ks) ∨
    ((doA l kind key).e = 0 ∧ kind = 3 ∧ (doA l kind key).b = false ∧ key ∉ t.ks ∧ doL l kind key val = l) ∨
    (kind ≠ 1 ∧ kind ≠ 3 ∧ doL l kind key val = l) := by
  have hc := h.chk
  have hs := ((chk_zero l).1 hc).2
  have hnew := chk_doL hc kind key val
  have hsn := ((chk_zero _).1 hnew).2
  have hh := h.has key
  have hu := h.up
  cases ho : opB kind key with
  | false => exact .inl ⟨by simp [doL, hc, ho], by simp [doA, hc, ho]⟩
  | true =>
    by_cases h1 : kind = 1
    · subst h1
      have eL : doL l 1 key val = putL l key val := by simp [doL, hc, ho]
      have eA : doA l 1 key = putA l key := by simp [doA, hc, ho]
      rw [eA]
      by_cases hk : (getR key l).isSome = true
      · have ea : putA l key = ⟨0, 0, 0, true⟩ := by rw [putA_eq, if_pos hk]
        have el : doL l 1 key val = insR key val l := by rw [eL, putL_eq, if_pos (.inl hk)]
        refine .inr (.inl ⟨by rw [ea], rfl, by rw [ea], hh.1 hk, ?_⟩)
        refine up_ext (srt_up hsn) (srt_up hs) fun y => ?_
        rw [el, mem_insR]
        constructor
        · rintro (e | e)
          · rw [e, ← h.ks]; exact hh.1 hk
          · exact e
        · exact .inr
      · by_cases hl : 200 ≤ l.length
        · have ea : putA l key = ⟨2, 0, 0, false⟩ := by rw [putA_eq, if_neg hk, if_pos hl]
          have el : doL l 1 key val = l := by rw [eL, putL_eq, if_neg (by rintro (e | e); exact hk e; omega)]
          exact .inl ⟨el, by rw [ea]; simp⟩
        · have ea : putA l key = an0 := by rw [putA_eq, if_neg hk, if_neg hl]
          have el : doL l 1 key val = insR key val l := by rw [eL, putL_eq, if_pos (.inr (by omega))]
          refine .inr (.inr (.inl ⟨by rw [ea], rfl, by rw [ea], fun e => hk (hh.2 e), ?_⟩))
          refine up_ext (srt_up hsn) (up_ins hu) fun y => ?_
          rw [el, mem_insR, mem_ins, h.ks]
    · by_cases h3 : kind = 3
      · subst h3
        have eL : doL l 3 key val = cutL l key := by simp [doL, hc, ho]
        have eA : doA l 3 key = getA l key := by simp [doA, hc, ho]
        have el : doL l 3 key val = delR key l := by rw [eL, cutL_eq]
        rw [eA, getA_eq]
        cases hg : getR key l with
        | some v =>
          have hm : key ∈ t.ks := hh.1 (by rw [hg]; rfl)
          refine .inr (.inr (.inr (.inl ⟨rfl, rfl, rfl, hm, ?_⟩)))
          refine up_ext (srt_up hsn) (up_del hu key) fun y => ?_
          rw [el, mem_delR key y hs, mem_del hu, h.ks]
        | none =>
          have hm : key ∉ t.ks := fun e => by have := hh.2 e; rw [hg] at this; cases this
          refine .inr (.inr (.inr (.inr (.inl ⟨rfl, rfl, rfl, hm, ?_⟩))))
          rw [el, del_eq, if_neg]
          rw [has_iff, hg]
          simp
      · exact .inr (.inr (.inr (.inr (.inr ⟨h1, h3, by simp [doL, hc, ho, h1, h3]⟩))))
theorem Same.step {t : Tr} {l : PL} (h : Same t l) (o : OP) : Same (grR t o (doA l o.1 o.2.1)) (doL l o.1 o.2.1 o.2.2) := by
  refine ⟨chk_doL h.chk _ _ _, ?_⟩
  have hu := h.up
  unfold grR
  rcases h.ways o.1 o.2.1 o.2.2 with ⟨e1, e2⟩ | ⟨e1, e2, e3, e4, e5⟩ | ⟨e1, e2, e3, e4, e5⟩ | ⟨e1, e2, e3, e4, e5⟩ | ⟨e1, e2, e3, e4, e5⟩ | ⟨e1, e2, e3⟩
  · rw [if_pos e2, e1]; exact h.ks
  · rw [if_neg (by rw [e1]; simp), if_pos e2, ins_has hu e4, e5]; exact h.ks
  · rw [if_neg (by rw [e1]; simp), if_pos e2, e5]
  · rw [if_neg (by rw [e1]; simp), if_neg (by omega), if_pos e2, e5]
  · rw [if_neg (by rw [e1]; simp), if_neg (by omega), if_pos e2, del_none e4, e5]; exact h.ks
  · rw [if_neg e1, if_neg e2, e3]
    split <;> exact h.ks

def grL (ops : List OP) : Tr × PL := ops.foldl (fun s o => (grR s.1 o (doA s.2 o.1 o.2.1), doL s.2 o.1 o.2.1 o.2.2)) (.nil, [])
abbrev grT (ops : List OP) : Tr := (grL ops).1
theorem grL_run (ops : List OP) : (grL ops).2 = (runR ops).1 := by
  have h : ∀ (ops : List OP) (t : Tr) (l : PL) (z : List An), (ops.foldl (fun s o => (grR s.1 o (doA s.2 o.1 o.2.1), doL s.2 o.1 o.2.1 o.2.2)) (t, l)).2 = (ops.foldl stepR (l, z)).1 := by
    intro ops
    induction ops with
    | nil => intro t l z; rfl
    | cons o ops ih => intro t l z; exact ih _ _ _
  exact h ops _ _ _
theorem grT_succ (ops : List OP) (k : Nat) (h : k < ops.length) : grT (ops.take (k + 1)) = grR (grT (ops.take k)) ops[k] (doA (runR (ops.take k)).1 ops[k].1 ops[k].2.1) := by
  rw [← grL_run]
  unfold grT
  rw [List.take_succ_eq_append_getElem h]
  unfold grL
  rw [List.foldl_append]
  rfl
theorem same_nil : Same .nil [] := ⟨(chk_zero []).2 ⟨by simp, trivial⟩, rfl⟩
theorem grT_same (ops : List OP) : Same (grT ops) (runR ops).1 := by
  rw [← grL_run]
  have h : ∀ (ops : List OP) (t : Tr) (l : PL), Same t l → Same (ops.foldl (fun s o => (grR s.1 o (doA s.2 o.1 o.2.1), doL s.2 o.1 o.2.1 o.2.2)) (t, l)).1 (ops.foldl (fun s o => (grR s.1 o (doA s.2 o.1 o.2.1), doL s.2 o.1 o.2.1 o.2.2)) (t, l)).2 := by
    intro ops
    induction ops with
    | nil => exact fun t l hh => hh
    | cons o ops ih => exact fun t l hh => ih _ _ (hh.step o)
  exact h ops _ _ same_nil
theorem grT_size (ops : List OP) : (grT ops).size ≤ 200 := by
  have h := grT_same ops
  have := ((chk_zero _).1 h.chk).1
  rw [← ks_length, h.ks]
  simpa using this

end Go.Proofs.Ytolfpjleckckiaa
