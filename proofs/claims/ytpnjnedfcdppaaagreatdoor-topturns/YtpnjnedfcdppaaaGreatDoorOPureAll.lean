/-
  Joined texts: YtpnjnedfcdppaaaGreatDoorRunC, YtpnjnedfcdppaaaGreatDoorGMaps, YtpnjnedfcdppaaaGreatDoorOPure.
-/
import Derived.Test.YtpnjnedfcdppaaaGreatDoorStepsAll
/-
  What Run leads to is right: plain lists.
-/
namespace Go.Proofs.YtpnjnedfcdppaaaGreatDoor
open Go.RowKit

theorem chk_doL {l : PL} (h : chk l = 0) (kind key val : Int) : chk (doL l kind key val) = 0 := by
  unfold doL
  rw [if_neg (by simpa using h)]
  cases ho : opB kind key with
  | false => simpa using h
  | true =>
    rw [if_neg (by simp)]
    split
    · rename_i hk
      subst hk
      have hk : keyB key = true := by simpa [opB] using ho
      rw [putL_eq]
      split
      · rename_i hr
        obtain ⟨h1, h2⟩ := (chk_zero l).1 h
        have hk' : 0 ≤ key ∧ key ≤ 1000000 := by simpa [keyB] using hk
        refine (chk_zero _).2 ⟨?_, srt_ins l key val 0 h2 hk'.1 hk'.2⟩
        rw [len_ins]
        split
        · exact h1
        · rcases hr with hr | hr
          · contradiction
          · omega
      · exact h
    · split
      · rw [cutL_eq]
        obtain ⟨h1, h2⟩ := (chk_zero l).1 h
        refine (chk_zero _).2 ⟨?_, srt_del l key 0 h2⟩
        rw [len_del]
        split <;> omega
      · exact h
theorem chk_runR (ops : List OP) : chk (runR ops).1 = 0 := by
  have h : ∀ (s : PL × List An), chk s.1 = 0 → chk (ops.foldl stepR s).1 = 0 := by
    induction ops with
    | nil => intro s hs; exact hs
    | cons o t ih => intro s hs; exact ih _ (chk_doL hs _ _ _)
  exact h ([], []) (by decide)

end Go.Proofs.YtpnjnedfcdppaaaGreatDoor

/-
  THE TREE AND THE MAP: what is put and taken away comes to both alike. Lists and trees alone.
-/
namespace Go.Proofs.YtpnjnedfcdppaaaGreatDoor

abbrev pk (l : PL) : List Int := l.map Prod.fst
theorem srt_ge : ∀ {l : PL} {a : Int}, Srt a l → ∀ y ∈ pk l, a ≤ y
  | [], _, _, y, h => by simp at h
  | p :: t, a, h, y, hy => by
    simp only [pk, List.map_cons, List.mem_cons] at hy
    rcases hy with rfl | hy
    · exact h.1
    · have := srt_ge h.2.2 y hy
      have := h.1
      omega
theorem srt_up : ∀ {l : PL} {a : Int}, Srt a l → Up (pk l)
  | [], _, _ => by simp [Up]
  | p :: t, a, h => by
    simp only [pk, Up, List.map_cons, List.pairwise_cons]
    refine ⟨fun y hy => ?_, srt_up h.2.2⟩
    have := srt_ge h.2.2 y hy
    omega
theorem get_mem : ∀ {l : PL} {a : Int} (k : Int), Srt a l → ((getR k l).isSome = true ↔ k ∈ pk l)
  | [], _, k, _ => by simp [getR]
  | p :: t, a, k, h => by
    unfold getR
    simp only [pk, List.map_cons, List.mem_cons]
    by_cases h1 : p.1 < k
    · rw [if_pos h1, get_mem k h.2.2]
      constructor
      · exact .inr
      · rintro (e | e)
        · omega
        · exact e
    · rw [if_neg h1]
      by_cases h2 : p.1 = k
      · rw [if_pos h2]
        simp [h2]
      · rw [if_neg h2]
        simp only [Option.isSome_none, Bool.false_eq_true, false_iff, not_or]
        refine ⟨fun e => h2 e.symm, fun e => ?_⟩
        have := srt_ge h.2.2 k e
        omega
theorem mem_insR (k v y : Int) : ∀ l : PL, y ∈ pk (insR k v l) ↔ y = k ∨ y ∈ pk l
  | [] => by simp [insR]
  | p :: t => by
    unfold insR
    by_cases h1 : p.1 < k
    · rw [if_pos h1]
      simp only [pk, List.map_cons, List.mem_cons]
      have := mem_insR k v y t
      simp only [pk] at this
      rw [this]
      constructor
      · rintro (h | h | h)
        · exact .inr (.inl h)
        · exact .inl h
        · exact .inr (.inr h)
      · rintro (h | h | h)
        · exact .inr (.inl h)
        · exact .inl h
        · exact .inr (.inr h)
    · rw [if_neg h1]
      by_cases h2 : p.1 = k
      · rw [if_pos h2]
        simp only [pk, List.map_cons, List.mem_cons]
        rw [h2]
        constructor
        · rintro (h | h)
          · exact .inl h
          · exact .inr (.inr h)
        · rintro (h | h | h)
          · exact .inl h
          · exact .inl h
          · exact .inr h
      · rw [if_neg h2]
        simp only [pk, List.map_cons, List.mem_cons]
theorem mem_delR (k y : Int) : ∀ {l : PL} {a : Int}, Srt a l → (y ∈ pk (delR k l) ↔ y ∈ pk l ∧ y ≠ k)
  | [], _, _ => by simp [delR]
  | p :: t, a, h => by
    unfold delR
    have hge := srt_ge h.2.2
    by_cases h1 : p.1 < k
    · rw [if_pos h1]
      simp only [pk, List.map_cons, List.mem_cons]
      have := mem_delR k y h.2.2
      simp only [pk] at this
      rw [this]
      constructor
      · rintro (e | e)
        · exact ⟨.inl e, by omega⟩
        · exact ⟨.inr e.1, e.2⟩
      · rintro ⟨e | e, hne⟩
        · exact .inl e
        · exact .inr ⟨e, hne⟩
    · rw [if_neg h1]
      by_cases h2 : p.1 = k
      · rw [if_pos h2]
        simp only [pk, List.map_cons, List.mem_cons]
        constructor
        · intro e
          have := hge y e
          exact ⟨.inr e, by omega⟩
        · rintro ⟨e | e, hne⟩
          · omega
          · exact e
      · rw [if_neg h2]
        simp only [pk, List.map_cons, List.mem_cons]
        constructor
        · rintro (e | e)
          · exact ⟨.inl e, by omega⟩
          · have := hge y e
            exact ⟨.inr e, by omega⟩
        · exact fun e => e.1

/-- what an op comes to: what tells an error does nothing -/
def grR (t : Tr) (o : OP) (a : An) : Tr := if a.e ≠ 0 then t else if o.1 = 1 then t.ins o.2.1 else if o.1 = 3 then t.del o.2.1 else t
/-- the tree and the map, side by side -/
structure Same (t : Tr) (l : PL) : Prop where
  chk : chk l = 0
  ks : t.ks = pk l
theorem Same.up {t : Tr} {l : PL} (h : Same t l) : Up t.ks := by rw [h.ks]; exact srt_up ((chk_zero l).1 h.chk).2
theorem Same.has {t : Tr} {l : PL} (h : Same t l) (k : Int) : (getR k l).isSome = true ↔ k ∈ t.ks := by rw [h.ks]; exact get_mem k ((chk_zero l).1 h.chk).2
/-- the ways that an op may go -/
theorem Same.ways {t : Tr} {l : PL} (h : Same t l) (kind key val : Int) :
    (doL l kind key val = l ∧ (doA l kind key).e ≠ 0) ∨
    ((doA l kind key).e = 0 ∧ kind = 1 ∧ (doA l kind key).b = true ∧ key ∈ t.ks ∧ pk (doL l kind key val) = pk l) ∨
    ((doA l kind key).e = 0 ∧ kind = 1 ∧ (doA l kind key).b = false ∧ key ∉ t.ks ∧ pk (doL l kind key val) = (t.ins key).ks) ∨
    ((doA l kind key).e = 0 ∧ kind = 3 ∧ (doA l kind key).b = true ∧ key ∈ t.ks ∧ pk (doL l kind key val) = (t.del key).ks) ∨
    ((doA l kind key).e = 0 ∧ kind = 3 ∧ (doA l kind key).b = false ∧ key ∉ t.ks ∧ doL l kind key val = l) ∨
    (kind ≠ 1 ∧ kind ≠ 3 ∧ doL l kind key val = l) := by
  have hc := h.chk
  have hs := ((chk_zero l).1 hc).2
  have hnew := chk_doL hc kind key val
  have hsn := ((chk_zero _).1 hnew).2
  have hh := h.has key
  have hu := h.up
  cases ho : opB kind key with
  | false => exact .inl ⟨by simp [doL, hc, ho], by simp [doA, hc, ho]⟩
  | true =>
    by_cases h1 : kind = 1
    · subst h1
      have eL : doL l 1 key val = putL l key val := by simp [doL, hc, ho]
      have eA : doA l 1 key = putA l key := by simp [doA, hc, ho]
      rw [eA]
      by_cases hk : (getR key l).isSome = true
      · have ea : putA l key = ⟨0, 0, 0, true⟩ := by rw [putA_eq, if_pos hk]
        have el : doL l 1 key val = insR key val l := by rw [eL, putL_eq, if_pos (.inl hk)]
        refine .inr (.inl ⟨by rw [ea], rfl, by rw [ea], hh.1 hk, ?_⟩)
        refine up_ext (srt_up hsn) (srt_up hs) fun y => ?_
        rw [el, mem_insR]
        constructor
        · rintro (e | e)
          · rw [e, ← h.ks]; exact hh.1 hk
          · exact e
        · exact .inr
      · by_cases hl : 200 ≤ l.length
        · have ea : putA l key = ⟨2, 0, 0, false⟩ := by rw [putA_eq, if_neg hk, if_pos hl]
          have el : doL l 1 key val = l := by rw [eL, putL_eq, if_neg (by rintro (e | e); exact hk e; omega)]
          exact .inl ⟨el, by rw [ea]; simp⟩
        · have ea : putA l key = an0 := by rw [putA_eq, if_neg hk, if_neg hl]
          have el : doL l 1 key val = insR key val l := by rw [eL, putL_eq, if_pos (.inr (by omega))]
          refine .inr (.inr (.inl ⟨by rw [ea], rfl, by rw [ea], fun e => hk (hh.2 e), ?_⟩))
          refine up_ext (srt_up hsn) (up_ins hu) fun y => ?_
          rw [el, mem_insR, mem_ins, h.ks]
    · by_cases h3 : kind = 3
      · subst h3
        have eL : doL l 3 key val = cutL l key := by simp [doL, hc, ho]
        have eA : doA l 3 key = getA l key := by simp [doA, hc, ho]
        have el : doL l 3 key val = delR key l := by rw [eL, cutL_eq]
        rw [eA, getA_eq]
        cases hg : getR key l with
        | some v =>
          have hm : key ∈ t.ks := hh.1 (by rw [hg]; rfl)
          refine .inr (.inr (.inr (.inl ⟨rfl, rfl, rfl, hm, ?_⟩)))
          refine up_ext (srt_up hsn) (up_del hu key) fun y => ?_
          rw [el, mem_delR key y hs, mem_del hu, h.ks]
        | none =>
          have hm : key ∉ t.ks := fun e => by have := hh.2 e; rw [hg] at this; cases this
          refine .inr (.inr (.inr (.inr (.inl ⟨rfl, rfl, rfl, hm, ?_⟩))))
          rw [el, del_eq, if_neg]
          rw [has_iff, hg]
          simp
      · exact .inr (.inr (.inr (.inr (.inr ⟨h1, h3, by simp [doL, hc, ho, h1, h3]⟩))))
theorem Same.step {t : Tr} {l : PL} (h : Same t l) (o : OP) : Same (grR t o (doA l o.1 o.2.1)) (doL l o.1 o.2.1 o.2.2) := by
  refine ⟨chk_doL h.chk _ _ _, ?_⟩
  have hu := h.up
  unfold grR
  rcases h.ways o.1 o.2.1 o.2.2 with ⟨e1, e2⟩ | ⟨e1, e2, e3, e4, e5⟩ | ⟨e1, e2, e3, e4, e5⟩ | ⟨e1, e2, e3, e4, e5⟩ | ⟨e1, e2, e3, e4, e5⟩ | ⟨e1, e2, e3⟩
  · rw [if_pos e2, e1]; exact h.ks
  · rw [if_neg (by rw [e1]; simp), if_pos e2, ins_has hu e4, e5]; exact h.ks
  · rw [if_neg (by rw [e1]; simp), if_pos e2, e5]
  · rw [if_neg (by rw [e1]; simp), if_neg (by omega), if_pos e2, e5]
  · rw [if_neg (by rw [e1]; simp), if_neg (by omega), if_pos e2, del_none e4, e5]; exact h.ks
  · rw [if_neg e1, if_neg e2, e3]
    split <;> exact h.ks

def grL (ops : List OP) : Tr × PL := ops.foldl (fun s o => (grR s.1 o (doA s.2 o.1 o.2.1), doL s.2 o.1 o.2.1 o.2.2)) (.nil, [])
abbrev grT (ops : List OP) : Tr := (grL ops).1
theorem grL_run (ops : List OP) : (grL ops).2 = (runR ops).1 := by
  have h : ∀ (ops : List OP) (t : Tr) (l : PL) (z : List An), (ops.foldl (fun s o => (grR s.1 o (doA s.2 o.1 o.2.1), doL s.2 o.1 o.2.1 o.2.2)) (t, l)).2 = (ops.foldl stepR (l, z)).1 := by
    intro ops
    induction ops with
    | nil => intro t l z; rfl
    | cons o ops ih => intro t l z; exact ih _ _ _
  exact h ops _ _ _
theorem grT_succ (ops : List OP) (k : Nat) (h : k < ops.length) : grT (ops.take (k + 1)) = grR (grT (ops.take k)) ops[k] (doA (runR (ops.take k)).1 ops[k].1 ops[k].2.1) := by
  rw [← grL_run]
  unfold grT
  rw [List.take_succ_eq_append_getElem h]
  unfold grL
  rw [List.foldl_append]
  rfl
theorem same_nil : Same .nil [] := ⟨(chk_zero []).2 ⟨by simp, trivial⟩, rfl⟩
theorem grT_same (ops : List OP) : Same (grT ops) (runR ops).1 := by
  rw [← grL_run]
  have h : ∀ (ops : List OP) (t : Tr) (l : PL), Same t l → Same (ops.foldl (fun s o => (grR s.1 o (doA s.2 o.1 o.2.1), doL s.2 o.1 o.2.1 o.2.2)) (t, l)).1 (ops.foldl (fun s o => (grR s.1 o (doA s.2 o.1 o.2.1), doL s.2 o.1 o.2.1 o.2.2)) (t, l)).2 := by
    intro ops
    induction ops with
    | nil => exact fun t l hh => hh
    | cons o ops ih => exact fun t l hh => ih _ _ (hh.step o)
  exact h ops _ _ same_nil
theorem grT_size (ops : List OP) : (grT ops).size ≤ 200 := by
  have h := grT_same ops
  have := ((chk_zero _).1 h.chk).1
  rw [← ks_length, h.ks]
  simpa using this

end Go.Proofs.YtpnjnedfcdppaaaGreatDoor

/-
  TREES THAT ARE BUILT ANEW WHERE THEY LEAN TOO MUCH: how deep they are, how much is built: plain mathematics. Nothing of the program.
-/
namespace Go.Proofs.YtpnjnedfcdppaaaGreatDoor

/-- how many levels -/
def Tr.tall : Tr → Nat
  | .nil => 0
  | .node a _ b => max a.tall b.tall + 1
theorem size_tall (t : Tr) : t.size + 1 ≤ 2 ^ t.tall := by
  induction t with
  | nil => simp [Tr.size, Tr.tall]
  | node a k b iha ihb =>
    simp only [Tr.size, Tr.tall]
    have h1 : 2 ^ a.tall ≤ 2 ^ (max a.tall b.tall) := Nat.pow_le_pow_right (by decide) (Nat.le_max_left _ _)
    have h2 : 2 ^ b.tall ≤ 2 ^ (max a.tall b.tall) := Nat.pow_le_pow_right (by decide) (Nat.le_max_right _ _)
    rw [Nat.pow_succ]
    omega

/-- the even tree -/
def evF : Nat → List Int → Tr
  | 0, _ => .nil
  | _ + 1, [] => .nil
  | n + 1, k :: t => .node (evF n ((k :: t).take ((k :: t).length / 2))) ((k :: t)[(k :: t).length / 2]?.getD 0) (evF n ((k :: t).drop ((k :: t).length / 2 + 1)))
def ev (l : List Int) : Tr := evF l.length l
theorem evF_fuel : ∀ (n m : Nat) (l : List Int), l.length ≤ n → l.length ≤ m → evF n l = evF m l
  | 0, m, l, h, _ => by
    have : l = [] := List.eq_nil_of_length_eq_zero (by omega)
    subst this
    cases m <;> rfl
  | n + 1, 0, l, _, h => by
    have : l = [] := List.eq_nil_of_length_eq_zero (by omega)
    subst this
    rfl
  | n + 1, m + 1, [], _, _ => rfl
  | n + 1, m + 1, k :: t, h1, h2 => by
    rw [List.length_cons] at h1 h2
    have e1 := evF_fuel n m ((k :: t).take ((k :: t).length / 2)) (by rw [List.length_take, List.length_cons]; omega) (by rw [List.length_take, List.length_cons]; omega)
    have e2 := evF_fuel n m ((k :: t).drop ((k :: t).length / 2 + 1)) (by rw [List.length_drop, List.length_cons]; omega) (by rw [List.length_drop, List.length_cons]; omega)
    rw [evF, evF, e1, e2]
theorem ev_nil : ev [] = .nil := rfl
theorem ev_eq {l : List Int} (h : l ≠ []) : ev l = .node (ev (l.take (l.length / 2))) (l[l.length / 2]?.getD 0) (ev (l.drop (l.length / 2 + 1))) := by
  cases l with
  | nil => exact absurd rfl h
  | cons k t =>
    have e1 := evF_fuel t.length ((k :: t).take ((k :: t).length / 2)).length ((k :: t).take ((k :: t).length / 2)) (by rw [List.length_take, List.length_cons]; omega) (Nat.le_refl _)
    have e2 := evF_fuel t.length ((k :: t).drop ((k :: t).length / 2 + 1)).length ((k :: t).drop ((k :: t).length / 2 + 1)) (by rw [List.length_drop, List.length_cons]; omega) (Nat.le_refl _)
    show evF (t.length + 1) (k :: t) = _
    rw [evF, e1, e2]
    rfl
theorem ev_ks : ∀ (n : Nat) (l : List Int), l.length ≤ n → (ev l).ks = l
  | 0, l, h => by
    have : l = [] := List.eq_nil_of_length_eq_zero (by omega)
    subst this
    rfl
  | n + 1, l, h => by
    by_cases hl : l = []
    · subst hl; rfl
    · have hp : 0 < l.length := List.length_pos_iff.2 hl
      have hm : l.length / 2 < l.length := by omega
      rw [ev_eq hl, Tr.ks, ev_ks n _ (by rw [List.length_take]; omega), ev_ks n _ (by rw [List.length_drop]; omega), List.getElem?_eq_getElem hm, Option.getD_some, ← List.drop_eq_getElem_cons hm, List.take_append_drop]
theorem ev_size (l : List Int) : (ev l).size = l.length := by rw [← ks_length, ev_ks _ l (Nat.le_refl _)]
theorem ev_tall : ∀ (L : Nat) (l : List Int), l.length < 2 ^ L → (ev l).tall ≤ L
  | 0, l, h => by
    have : l = [] := List.eq_nil_of_length_eq_zero (by simp at h; simpa using h)
    subst this
    exact Nat.le_refl _
  | L + 1, l, h => by
    by_cases hl : l = []
    · subst hl; exact Nat.zero_le _
    · rw [Nat.pow_succ] at h
      have hp : 0 < l.length := List.length_pos_iff.2 hl
      have h1 := ev_tall L (l.take (l.length / 2)) (by rw [List.length_take]; omega)
      have h2 := ev_tall L (l.drop (l.length / 2 + 1)) (by rw [List.length_drop]; omega)
      rw [ev_eq hl, Tr.tall]
      omega

/-- how much it leans, all over -/
def Tr.phi : Tr → Nat
  | .nil => 0
  | .node a _ b => a.phi + b.phi + ((a.size - b.size - 1) + (b.size - a.size - 1))
theorem ev_phi : ∀ (n : Nat) (l : List Int), l.length ≤ n → (ev l).phi = 0
  | 0, l, h => by
    have : l = [] := List.eq_nil_of_length_eq_zero (by omega)
    subst this
    rfl
  | n + 1, l, h => by
    by_cases hl : l = []
    · subst hl; rfl
    · have hp : 0 < l.length := List.length_pos_iff.2 hl
      rw [ev_eq hl, Tr.phi, ev_phi n _ (by rw [List.length_take]; omega), ev_phi n _ (by rw [List.length_drop]; omega), ev_size, ev_size, List.length_take, List.length_drop]
      omega

/-- how deep a key stands -/
def Tr.dpx (x : Int) : Tr → Nat
  | .nil => 0
  | .node a k b => if x < k then a.dpx x + 1 else if k < x then b.dpx x + 1 else 0
/-- all built anew, if one side has too many -/
def leanT (a : Tr) (k : Int) (b : Tr) : Option (Tr × Nat) := if 2 * (a.size + b.size + 1) < 3 * max a.size b.size then some (ev (Tr.node a k b).ks, a.size + b.size + 1) else none
/-- the lowest one above x that leans too much, built anew -/
def Tr.reb (x : Int) : Tr → Option (Tr × Nat)
  | .nil => none
  | .node a k b =>
    if x < k then (match a.reb x with
      | some p => some (.node p.1 k b, p.2)
      | none => leanT a k b)
    else if k < x then (match b.reb x with
      | some p => some (.node a k p.1, p.2)
      | none => leanT a k b)
    else none
theorem lean_facts {a b : Tr} {k : Int} {p : Tr × Nat} (h : leanT a k b = some p) : p.1 = ev (Tr.node a k b).ks ∧ p.2 = a.size + b.size + 1 ∧ 2 * (a.size + b.size + 1) < 3 * max a.size b.size := by
  unfold leanT at h
  split at h
  · rename_i hl
    cases h
    exact ⟨rfl, rfl, hl⟩
  · cases h
theorem lean_none {a b : Tr} {k : Int} (h : leanT a k b = none) : ¬ 2 * (a.size + b.size + 1) < 3 * max a.size b.size := by
  unfold leanT at h
  split at h
  · cases h
  · assumption
/-- what holds where it goes left, right, or is there -/
theorem reb_cases {x : Int} {a b : Tr} {k : Int} {p : Tr × Nat} (h : (Tr.node a k b).reb x = some p) :
    (x < k ∧ ∃ q, a.reb x = some q ∧ p = (.node q.1 k b, q.2)) ∨ (k < x ∧ ∃ q, b.reb x = some q ∧ p = (.node a k q.1, q.2)) ∨ leanT a k b = some p := by
  unfold Tr.reb at h
  split at h
  · rename_i hx
    split at h
    · rename_i q hq
      cases h
      exact .inl ⟨hx, q, hq, rfl⟩
    · exact .inr (.inr h)
  · split at h
    · rename_i hx
      split at h
      · rename_i q hq
        cases h
        exact .inr (.inl ⟨hx, q, hq, rfl⟩)
      · exact .inr (.inr h)
    · cases h
theorem reb_ks {x : Int} : ∀ {t : Tr} {p : Tr × Nat}, t.reb x = some p → p.1.ks = t.ks := by
  intro t
  induction t with
  | nil => intro p h; cases h
  | node a k b iha ihb =>
    intro p h
    rcases reb_cases h with ⟨_, q, hq, rfl⟩ | ⟨_, q, hq, rfl⟩ | hl
    · simp only [Tr.ks]
      rw [iha hq]
    · simp only [Tr.ks]
      rw [ihb hq]
    · rw [(lean_facts hl).1, ev_ks _ _ (Nat.le_refl _)]
theorem reb_size {x : Int} {t : Tr} {p : Tr × Nat} (h : t.reb x = some p) : p.1.size = t.size := by rw [← ks_length, reb_ks h, ks_length]
/-- what is built is paid for -/
theorem reb_phi {x : Int} : ∀ {t : Tr} {p : Tr × Nat}, t.reb x = some p → p.2 + 3 * p.1.phi ≤ 3 * t.phi := by
  intro t
  induction t with
  | nil => intro p h; cases h
  | node a k b iha ihb =>
    intro p h
    rcases reb_cases h with ⟨_, q, hq, rfl⟩ | ⟨_, q, hq, rfl⟩ | hl
    · have h1 := iha hq
      have h2 := reb_size hq
      simp only [Tr.phi]
      rw [h2]
      omega
    · have h1 := ihb hq
      have h2 := reb_size hq
      simp only [Tr.phi]
      rw [h2]
      omega
    · obtain ⟨h1, h2, h3⟩ := lean_facts hl
      rw [h1, h2, ev_phi _ _ (Nat.le_refl _)]
      simp only [Tr.phi]
      omega
/-- where none leans too much it is not deep -/
theorem reb_none {x : Int} : ∀ {t : Tr}, Up t.ks → x ∈ t.ks → t.reb x = none → 3 ^ t.dpx x ≤ t.size * 2 ^ t.dpx x := by
  intro t
  induction t with
  | nil => intro _ h; simp [Tr.ks] at h
  | node a k b iha ihb =>
    intro hu hx h
    obtain ⟨u1, u2, u3, u4⟩ := up_node.1 hu
    rw [mem_node] at hx
    unfold Tr.reb at h
    unfold Tr.dpx
    simp only [Tr.size]
    by_cases h1 : x < k
    · rw [if_pos h1] at h ⊢
      have hxa : x ∈ a.ks := by
        rcases hx with hx | hx | hx
        · exact hx
        · omega
        · have := u4 x hx; omega
      cases hq : a.reb x with
      | some q => rw [hq] at h; cases h
      | none =>
        rw [hq] at h
        have h2 := iha u1 hxa hq
        have h3 := lean_none h
        generalize a.dpx x = d at *
        rw [Nat.pow_succ, Nat.pow_succ]
        have h4 : 3 * a.size ≤ 2 * (a.size + 1 + b.size) := by omega
        have h5 : 3 * a.size * 2 ^ d ≤ 2 * (a.size + 1 + b.size) * 2 ^ d := Nat.mul_le_mul_right _ h4
        have e1 : 3 * a.size * 2 ^ d = (a.size * 2 ^ d) * 3 := by rw [Nat.mul_assoc, Nat.mul_comm 3]
        have e2 : 2 * (a.size + 1 + b.size) * 2 ^ d = (a.size + 1 + b.size) * (2 ^ d * 2) := by rw [Nat.mul_comm 2, Nat.mul_assoc, Nat.mul_comm 2]
        rw [e1, e2] at h5
        have h6 : 3 ^ d * 3 ≤ (a.size * 2 ^ d) * 3 := Nat.mul_le_mul_right _ h2
        exact Nat.le_trans h6 h5
    · rw [if_neg h1] at h ⊢
      by_cases h1' : k < x
      · rw [if_pos h1'] at h ⊢
        have hxb : x ∈ b.ks := by
          rcases hx with hx | hx | hx
          · have := u3 x hx; omega
          · omega
          · exact hx
        cases hq : b.reb x with
        | some q => rw [hq] at h; cases h
        | none =>
          rw [hq] at h
          have h2 := ihb u2 hxb hq
          have h3 := lean_none h
          generalize b.dpx x = d at *
          rw [Nat.pow_succ, Nat.pow_succ]
          have h4 : 3 * b.size ≤ 2 * (a.size + 1 + b.size) := by omega
          have h5 : 3 * b.size * 2 ^ d ≤ 2 * (a.size + 1 + b.size) * 2 ^ d := Nat.mul_le_mul_right _ h4
          have e1 : 3 * b.size * 2 ^ d = (b.size * 2 ^ d) * 3 := by rw [Nat.mul_assoc, Nat.mul_comm 3]
          have e2 : 2 * (a.size + 1 + b.size) * 2 ^ d = (a.size + 1 + b.size) * (2 ^ d * 2) := by rw [Nat.mul_comm 2, Nat.mul_assoc, Nat.mul_comm 2]
          rw [e1, e2] at h5
          have h6 : 3 ^ d * 3 ≤ (b.size * 2 ^ d) * 3 := Nat.mul_le_mul_right _ h2
          exact Nat.le_trans h6 h5
      · rw [if_neg h1']
        simp
        omega

theorem dpx_ins {x : Int} : ∀ {t : Tr}, x ∉ t.ks → (t.ins x).dpx x ≤ t.tall := by
  intro t
  induction t with
  | nil => intro _; simp [Tr.ins, Tr.leaf, Tr.dpx, Tr.tall]
  | node a k b iha ihb =>
    intro h
    simp only [mem_node, not_or] at h
    unfold Tr.ins
    by_cases h1 : x < k
    · rw [if_pos h1, Tr.dpx, if_pos h1, Tr.tall]
      have := iha h.1
      omega
    · have h2 : k < x := by omega
      rw [if_neg h1, if_pos h2, Tr.dpx, if_neg h1, if_pos h2, Tr.tall]
      have := ihb h.2.2
      omega
theorem tall_ins {x : Int} : ∀ {t : Tr}, x ∉ t.ks → (t.ins x).tall ≤ max t.tall ((t.ins x).dpx x + 1) := by
  intro t
  induction t with
  | nil => intro _; simp [Tr.ins, Tr.leaf, Tr.tall]
  | node a k b iha ihb =>
    intro h
    simp only [mem_node, not_or] at h
    unfold Tr.ins
    by_cases h1 : x < k
    · rw [if_pos h1, Tr.dpx, if_pos h1, Tr.tall, Tr.tall]
      have := iha h.1
      omega
    · have h2 : k < x := by omega
      rw [if_neg h1, if_pos h2, Tr.dpx, if_neg h1, if_pos h2, Tr.tall, Tr.tall]
      have := ihb h.2.2
      omega
theorem phi_ins {x : Int} : ∀ {t : Tr}, x ∉ t.ks → (t.ins x).phi ≤ t.phi + (t.ins x).dpx x := by
  intro t
  induction t with
  | nil => intro _; simp [Tr.ins, Tr.leaf, Tr.phi, Tr.size]
  | node a k b iha ihb =>
    intro h
    simp only [mem_node, not_or] at h
    unfold Tr.ins
    by_cases h1 : x < k
    · rw [if_pos h1, Tr.dpx, if_pos h1, Tr.phi, Tr.phi, size_ins h.1]
      have := iha h.1
      omega
    · have h2 : k < x := by omega
      rw [if_neg h1, if_pos h2, Tr.dpx, if_neg h1, if_pos h2, Tr.phi, Tr.phi, size_ins h.2.2]
      have := ihb h.2.2
      omega
/-- what is built anew is lower -/
theorem reb_tall {x : Int} : ∀ {t : Tr} {L : Nat} {p : Tr × Nat}, x ∉ t.ks → t.tall ≤ L → (t.ins x).dpx x = L → (t.ins x).reb x = some p → p.1.tall ≤ L := by
  intro t
  induction t with
  | nil =>
    intro L p _ _ _ h
    unfold Tr.ins Tr.leaf Tr.reb at h
    rw [if_neg (by omega), if_neg (by omega)] at h
    cases h
  | node a k b iha ihb =>
    intro L p hx hL hd h
    simp only [mem_node, not_or] at hx
    rw [Tr.tall] at hL
    obtain ⟨M, rfl⟩ : ∃ M, L = M + 1 := ⟨L - 1, by omega⟩
    have ha2 := size_tall a
    have hb2 := size_tall b
    have pa : 2 ^ a.tall ≤ 2 ^ M := Nat.pow_le_pow_right (by decide) (by omega)
    have pb : 2 ^ b.tall ≤ 2 ^ M := Nat.pow_le_pow_right (by decide) (by omega)
    unfold Tr.ins at h hd
    by_cases h1 : x < k
    · rw [if_pos h1] at h hd
      rw [Tr.dpx, if_pos h1] at hd
      rcases reb_cases h with ⟨_, q, hq, rfl⟩ | ⟨h2, _⟩ | hl
      · have := iha (L := M) hx.1 (by omega) (by omega) hq
        show (Tr.node q.1 k b).tall ≤ _
        rw [Tr.tall]
        omega
      · omega
      · obtain ⟨e1, _, e3⟩ := lean_facts hl
        rw [e1]
        refine ev_tall _ _ ?_
        rw [size_ins hx.1] at e3
        rw [ks_length, Tr.size, size_ins hx.1, Nat.pow_succ]
        omega
    · have h2 : k < x := by omega
      rw [if_neg h1, if_pos h2] at h hd
      rw [Tr.dpx, if_neg h1, if_pos h2] at hd
      rcases reb_cases h with ⟨h3, _⟩ | ⟨_, q, hq, rfl⟩ | hl
      · omega
      · have := ihb (L := M) hx.2.2 (by omega) (by omega) hq
        show (Tr.node a k q.1).tall ≤ _
        rw [Tr.tall]
        omega
      · obtain ⟨e1, _, e3⟩ := lean_facts hl
        rw [e1]
        refine ev_tall _ _ ?_
        rw [size_ins hx.2.2] at e3
        rw [ks_length, Tr.size, size_ins hx.2.2, Nat.pow_succ]
        omega

theorem isNil_not {t : Tr} (h : ¬ t.isNil = true) : t ≠ .nil := fun e => h (by rw [e]; rfl)
theorem tall_pos {t : Tr} {x : Int} (h : x ∈ t.ks) : 0 < t.tall := by
  cases t with
  | nil => simp [Tr.ks] at h
  | node a k b => rw [Tr.tall]; omega
/-- a key that goes: one fewer, no deeper, and it leans by no more than it is deep -/
theorem del_all : ∀ {t : Tr} {x : Int}, Up t.ks → x ∈ t.ks → (t.del x).size + 1 = t.size ∧ (t.del x).tall ≤ t.tall ∧ (t.del x).phi + 1 ≤ t.phi + t.tall := by
  intro t
  induction t with
  | nil => intro x _ h; simp [Tr.ks] at h
  | node a k b iha ihb =>
    intro x hu hx
    obtain ⟨u1, u2, u3, u4⟩ := up_node.1 hu
    rw [mem_node] at hx
    unfold Tr.del
    by_cases h1 : x < k
    · rw [if_pos h1]
      have hxa : x ∈ a.ks := by
        rcases hx with hx | hx | hx
        · exact hx
        · omega
        · have := u4 x hx; omega
      obtain ⟨e1, e2, e3⟩ := iha u1 hxa
      have := tall_pos hxa
      simp only [Tr.size, Tr.tall, Tr.phi]
      omega
    · rw [if_neg h1]
      by_cases h2 : k < x
      · rw [if_pos h2]
        have hxb : x ∈ b.ks := by
          rcases hx with hx | hx | hx
          · have := u3 x hx; omega
          · omega
          · exact hx
        obtain ⟨e1, e2, e3⟩ := ihb u2 hxb
        have := tall_pos hxb
        simp only [Tr.size, Tr.tall, Tr.phi]
        omega
      · rw [if_neg h2]
        by_cases h3 : a.isNil = true
        · rw [if_pos h3]
          have ea := isNil_ks.1 h3
          subst ea
          have z1 : (Tr.node .nil k b).size = 0 + 1 + b.size := rfl
          have z2 : (Tr.node .nil k b).tall = max 0 b.tall + 1 := rfl
          have z3 : (Tr.node .nil k b).phi = 0 + b.phi + ((0 - b.size - 1) + (b.size - 0 - 1)) := rfl
          rw [z1, z2, z3]
          omega
        · rw [if_neg h3]
          by_cases h4 : b.isNil = true
          · rw [if_pos h4]
            have ea := isNil_ks.1 h4
            subst ea
            have z1 : (Tr.node a k .nil).size = a.size + 1 + 0 := rfl
            have z2 : (Tr.node a k .nil).tall = max a.tall 0 + 1 := rfl
            have z3 : (Tr.node a k .nil).phi = a.phi + 0 + ((a.size - 0 - 1) + (0 - a.size - 1)) := rfl
            rw [z1, z2, z3]
            omega
          · rw [if_neg h4]
            have hm := least_mem (isNil_not h4)
            obtain ⟨e1, e2, e3⟩ := ihb u2 hm
            have := tall_pos hm
            simp only [Tr.size, Tr.tall, Tr.phi]
            omega

/-- how deep so many may stand -/
def dpS (m : Nat) : Nat → Nat
  | 0 => 0
  | k + 1 => if 3 ^ (k + 1) ≤ m * 2 ^ (k + 1) then k + 1 else dpS m k
def dpst (m : Nat) : Nat := dpS m 30
theorem dpS_le (m : Nat) : ∀ k, dpS m k ≤ k
  | 0 => Nat.le_refl _
  | k + 1 => by
    rw [dpS]
    split
    · exact Nat.le_refl _
    · have := dpS_le m k
      omega
theorem dpS_ge {m : Nat} : ∀ {k d : Nat}, d ≤ k → 3 ^ d ≤ m * 2 ^ d → d ≤ dpS m k
  | 0, d, h, _ => by omega
  | k + 1, d, h, hd => by
    rw [dpS]
    split
    · exact h
    · rename_i hn
      rcases Nat.lt_or_ge d (k + 1) with h1 | h1
      · exact dpS_ge (by omega) hd
      · have : d = k + 1 := by omega
        subst this
        exact absurd hd hn
theorem dpS_is {m : Nat} (hm : 1 ≤ m) : ∀ k, 3 ^ dpS m k ≤ m * 2 ^ dpS m k
  | 0 => by simpa [dpS] using hm
  | k + 1 => by
    rw [dpS]
    split
    · assumption
    · exact dpS_is hm k
theorem dpst_mono {m n : Nat} (h : m ≤ n) : dpst m ≤ dpst n := by
  rcases Nat.eq_zero_or_pos m with h0 | h0
  · subst h0
    have : dpst 0 = 0 := by decide
    omega
  · exact dpS_ge (dpS_le m 30) (Nat.le_trans (dpS_is h0 30) (Nat.mul_le_mul_right _ h))
theorem pow_32 : ∀ d, 3 ^ d ≤ 2 ^ d * 2 ^ d
  | 0 => by decide
  | d + 1 => by
    have := pow_32 d
    rw [Nat.pow_succ, Nat.pow_succ]
    generalize 3 ^ d = x at *
    rw [Nat.mul_mul_mul_comm]
    generalize 2 ^ d * 2 ^ d = y at *
    omega
theorem dpst_lt {m : Nat} (hm : m ≤ 200) : m < 2 ^ (dpst m + 1) := by
  apply Classical.byContradiction
  intro hge
  have h1 : 3 ^ (dpst m + 1) ≤ m * 2 ^ (dpst m + 1) := Nat.le_trans (pow_32 _) (Nat.mul_le_mul_right _ (by omega))
  have h30 : dpst m + 1 ≤ 30 := by
    apply Classical.byContradiction
    intro h
    have h2 : 2 ^ 30 ≤ 2 ^ (dpst m + 1) := Nat.pow_le_pow_right (by decide) (by omega)
    omega
  have := dpS_ge (m := m) h30 h1
  unfold dpst at this
  omega

theorem dpst_200 : dpst 200 = 13 := by decide +kernel

structure GS where
  t : Tr
  most : Nat
  built : Nat
/-- a new key comes -/
def goP (s : GS) (x : Int) : GS :=
  if dpst (max s.most (s.t.ins x).size) < (s.t.ins x).dpx x then
    (match (s.t.ins x).reb x with
      | some p => ⟨p.1, max s.most (s.t.ins x).size, s.built + p.2⟩
      | none => ⟨s.t.ins x, max s.most (s.t.ins x).size, s.built⟩)
  else ⟨s.t.ins x, max s.most (s.t.ins x).size, s.built⟩
/-- a key goes -/
def goC (s : GS) (x : Int) : GS :=
  if 3 * (s.t.del x).size < 2 * s.most then ⟨ev (s.t.del x).ks, (s.t.del x).size, s.built + (s.t.del x).size⟩ else ⟨s.t.del x, s.most, s.built⟩
/-- never deeper, never more built -/
structure GI (s : GS) (came went top : Nat) : Prop where
  up : Up s.t.ks
  size : s.t.size ≤ s.most
  most : s.most ≤ top
  cap : top ≤ 200
  tall : s.t.tall ≤ dpst s.most + 1
  work : s.built + 3 * s.t.phi + 2 * (s.most - s.t.size) ≤ 3 * ((came + went) * (dpst top + 1))
theorem GI.start : GI ⟨.nil, 0, 0⟩ 0 0 0 := ⟨by simp [Tr.ks, Up], Nat.le_refl _, Nat.le_refl _, by decide, Nat.zero_le _, by simp [Tr.phi, Tr.size]⟩
theorem work_more {W n T D d : Nat} (h : W ≤ 3 * (n * (T + 1))) (hT : T ≤ D) (hd : d ≤ 3 * (D + 1)) : W + d ≤ 3 * ((n + 1) * (D + 1)) := by
  have h1 : n * (T + 1) ≤ n * (D + 1) := Nat.mul_le_mul_left _ (by omega)
  rw [Nat.add_mul, Nat.one_mul]
  omega
theorem GI.put {s : GS} {came went top : Nat} {x : Int} (h : GI s came went top) (hx : x ∉ s.t.ks) (h2 : s.t.size + 1 ≤ 200) : GI (goP s x) (came + 1) went (max top (s.t.size + 1)) := by
  have hs := size_ins hx
  have hd := dpx_ins hx
  have ht := tall_ins hx
  have hf := phi_ins hx
  have hu := up_ins (x := x) h.up
  have hsz := h.size
  have hmo := h.most
  have hto := h.cap
  have hta := h.tall
  have hwo := h.work
  obtain ⟨m, hm⟩ : ∃ m, max s.most (s.t.ins x).size = m := ⟨_, rfl⟩
  rw [hs] at hm
  have hD1 : dpst s.most ≤ dpst m := dpst_mono (by omega)
  have hD2 : dpst m ≤ dpst (max top (s.t.size + 1)) := dpst_mono (by omega)
  have hD3 : dpst top ≤ dpst (max top (s.t.size + 1)) := dpst_mono (by omega)
  have hwork : ∀ b f : Nat, b + 3 * f ≤ s.built + 3 * (s.t.ins x).phi → b + 3 * f + 2 * (m - (s.t.size + 1)) ≤ 3 * ((came + 1 + went) * (dpst (max top (s.t.size + 1)) + 1)) := fun b f hbf => by
    have := work_more (d := 3 * (dpst (max top (s.t.size + 1)) + 1)) hwo hD3 (Nat.le_refl _)
    rw [show came + 1 + went = came + went + 1 by omega]
    omega
  unfold goP
  rw [hs, hm]
  by_cases hdp : dpst m < (s.t.ins x).dpx x
  · rw [if_pos hdp]
    cases hr : (s.t.ins x).reb x with
    | none =>
      exfalso
      have h3 := reb_none hu (mem_ins.2 (.inl rfl)) hr
      have h30 : (s.t.ins x).dpx x ≤ 30 := by
        have h4 : s.t.tall ≤ dpst s.most + 1 := hta
        have h5 : dpst s.most ≤ dpst 200 := dpst_mono (by omega)
        have h6 := dpst_200
        omega
      have h4 := dpS_ge h30 h3
      have h5 : dpst (s.t.ins x).size ≤ dpst m := dpst_mono (by omega)
      unfold dpst at h5 hdp
      omega
    | some p =>
      have e1 := reb_size hr
      have e2 := reb_phi hr
      have e3 := reb_tall hx (show s.t.tall ≤ dpst m + 1 by omega) (by omega) hr
      refine ⟨by rw [reb_ks hr]; exact hu, by show p.1.size ≤ m; omega, by show m ≤ _; omega, by omega, e3, ?_⟩
      show s.built + p.2 + 3 * p.1.phi + 2 * (m - p.1.size) ≤ _
      rw [e1, hs]
      exact hwork _ _ (by omega)
  · rw [if_neg hdp]
    refine ⟨hu, by show (s.t.ins x).size ≤ m; omega, by show m ≤ _; omega, by omega, by show (s.t.ins x).tall ≤ dpst m + 1; omega, ?_⟩
    show s.built + 3 * (s.t.ins x).phi + 2 * (m - (s.t.ins x).size) ≤ _
    rw [hs]
    exact hwork _ _ (Nat.le_refl _)
theorem GI.cut {s : GS} {came went top : Nat} {x : Int} (h : GI s came went top) (hx : x ∈ s.t.ks) : GI (goC s x) came (went + 1) top := by
  obtain ⟨h1, h2, h3⟩ := del_all h.up hx
  have hsz := h.size
  have hmo := h.most
  have hto := h.cap
  have hta := h.tall
  have hD : dpst s.most ≤ dpst top := dpst_mono hmo
  have hw := work_more (d := 3 * (dpst top + 1)) h.work (Nat.le_refl _) (Nat.le_refl _)
  have hu := up_del h.up x
  unfold goC
  by_cases hc : 3 * (s.t.del x).size < 2 * s.most
  · rw [if_pos hc]
    refine ⟨by rw [ev_ks _ _ (Nat.le_refl _)]; exact hu, by rw [ev_size, ks_length]; exact Nat.le_refl _, by show (s.t.del x).size ≤ top; omega, hto, ?_, ?_⟩
    · refine ev_tall _ _ ?_
      rw [ks_length]
      exact dpst_lt (by omega)
    · show s.built + (s.t.del x).size + 3 * (ev (s.t.del x).ks).phi + 2 * ((s.t.del x).size - (ev (s.t.del x).ks).size) ≤ _
      rw [ev_phi _ _ (Nat.le_refl _), ev_size, ks_length, ← Nat.add_assoc]
      omega
  · rw [if_neg hc]
    refine ⟨hu, by show (s.t.del x).size ≤ s.most; omega, hmo, hto, by show (s.t.del x).tall ≤ dpst s.most + 1; omega, ?_⟩
    show s.built + 3 * (s.t.del x).phi + 2 * (s.most - (s.t.del x).size) ≤ _
    rw [← Nat.add_assoc]
    omega

/-- the greatest Depth is one less than the levels -/
theorem sp_tall (t : Tr) : ∀ d i, i < t.size → dp (t.sp d) i < d + t.tall := by
  induction t with
  | nil => intro d i h; simp [Tr.size] at h
  | node a k b iha ihb =>
    intro d i h
    simp only [Tr.size] at h
    simp only [Tr.sp, Tr.tall]
    rcases Nat.lt_trichotomy i a.size with h1 | h1 | h1
    · rw [dp_left (by rw [sp_length]; exact h1)]
      have := iha (d + 1) i h1
      omega
    · have := dp_mid (a.sp (d + 1)) (b.sp (d + 1)) (k, d)
      rw [sp_length] at this
      rw [h1, this]
      show d < _
      omega
    · rw [dp_right (by rw [sp_length]; omega), sp_length]
      have e : dp ((k, d) :: b.sp (d + 1)) (i - a.size) = dp (b.sp (d + 1)) (i - a.size - 1) := by
        obtain ⟨m, hm⟩ : ∃ m, i - a.size = m + 1 := ⟨i - a.size - 1, by omega⟩
        rw [hm]; simp [dp]
      rw [e]
      have := ihb (d + 1) (i - a.size - 1) (by omega)
      omega
theorem sp_tall_has (t : Tr) : ∀ d, 0 < t.size → ∃ i, i < t.size ∧ dp (t.sp d) i + 1 = d + t.tall := by
  induction t with
  | nil => intro d h; simp [Tr.size] at h
  | node a k b iha ihb =>
    intro d _
    have hmid : dp ((Tr.node a k b).sp d) a.size = d := (sp_root a b k d).1
    by_cases ha : a.tall = 0 ∧ b.tall = 0
    · refine ⟨a.size, by simp only [Tr.size]; omega, ?_⟩
      rw [hmid, Tr.tall]
      omega
    · have pos : ∀ s : Tr, 0 < s.tall → 0 < s.size := fun s hs => by
        cases s with
        | nil => simp [Tr.tall] at hs
        | node x y z => simp only [Tr.size]; omega
      by_cases hab : b.tall ≤ a.tall
      · obtain ⟨i, hi, he⟩ := iha (d + 1) (pos a (by omega))
        refine ⟨i, by simp only [Tr.size]; omega, ?_⟩
        simp only [Tr.sp, Tr.tall]
        rw [dp_left (by rw [sp_length]; exact hi)]
        omega
      · obtain ⟨i, hi, he⟩ := ihb (d + 1) (pos b (by omega))
        refine ⟨a.size + 1 + i, by simp only [Tr.size]; omega, ?_⟩
        simp only [Tr.sp, Tr.tall]
        rw [dp_right (by rw [sp_length]; omega), sp_length]
        have e : dp ((k, d) :: b.sp (d + 1)) (a.size + 1 + i - a.size) = dp (b.sp (d + 1)) i := by
          rw [show a.size + 1 + i - a.size = i + 1 by omega]
          simp [dp]
        rw [e]
        omega

end Go.Proofs.YtpnjnedfcdppaaaGreatDoor
