/-
  Joined texts: YtpnjnedfcdppaaaGreatDoorHPure, YtpnjnedfcdppaaaGreatDoorZPure.
-/
import Derived.Test.YtpnjnedfcdppaaaGreatDoorStepsAll
import Derived.Test.YtpnjnedfcdppaaaGreatDoorSPureAll
import Derived.Test.YtpnjnedfcdppaaaGreatDoorKPath0All
/-
  TREES IN WHICH WHO RANKS HIGHER STANDS ABOVE: plain mathematics. Nothing of the program.
-/
namespace Go.Proofs.YtpnjnedfcdppaaaGreatDoor

/-- t is the tree of l: the highest rank at the top, of one rank the first one -/
def Hp : Tr → PL → Prop
  | .nil, l => l = []
  | .node a k b, l => ∃ la v lb, l = la ++ (k, v) :: lb ∧ Hp a la ∧ Hp b lb ∧ (∀ p ∈ la, p.2 < v) ∧ (∀ p ∈ lb, p.2 ≤ v)
theorem hp_len {t : Tr} : ∀ {l : PL}, Hp t l → l.length = t.size := by
  induction t with
  | nil => intro l h; rw [show l = [] from h]; rfl
  | node a k b iha ihb =>
    rintro l ⟨la, v, lb, rfl, ha, hb, _, _⟩
    simp [Tr.size, iha ha, ihb hb]
    omega
theorem hp_ks {t : Tr} : ∀ {l : PL}, Hp t l → t.ks = l.map Prod.fst := by
  induction t with
  | nil => intro l h; rw [show l = [] from h]; rfl
  | node a k b iha ihb =>
    rintro l ⟨la, v, lb, rfl, ha, hb, _, _⟩
    simp [Tr.ks, iha ha, ihb hb]
theorem hp_split : ∀ l : PL, l ≠ [] → ∃ la k v lb, l = la ++ (k, v) :: lb ∧ (∀ p ∈ la, p.2 < v) ∧ (∀ p ∈ lb, p.2 ≤ v)
  | [], h => absurd rfl h
  | [p], _ => ⟨[], p.1, p.2, [], rfl, by simp, by simp⟩
  | p :: q :: t, _ => by
    obtain ⟨la, k, v, lb, e, h1, h2⟩ := hp_split (q :: t) (by simp)
    by_cases hp : p.2 < v
    · refine ⟨p :: la, k, v, lb, by rw [e]; rfl, ?_, h2⟩
      intro x hx
      rcases List.mem_cons.1 hx with rfl | hx
      · exact hp
      · exact h1 x hx
    · refine ⟨[], p.1, p.2, q :: t, rfl, by simp, ?_⟩
      intro x hx
      rw [e] at hx
      rcases List.mem_append.1 hx with hx | hx
      · have := h1 x hx
        omega
      · rcases List.mem_cons.1 hx with rfl | hx
        · show v ≤ p.2
          omega
        · have := h2 x hx
          omega
theorem hp_has : ∀ (n : Nat) (l : PL), l.length ≤ n → ∃ t, Hp t l
  | 0, l, h => ⟨.nil, List.eq_nil_of_length_eq_zero (by omega)⟩
  | n + 1, l, h => by
    by_cases hl : l = []
    · exact ⟨.nil, hl⟩
    · obtain ⟨la, k, v, lb, e, h1, h2⟩ := hp_split l hl
      have hlen : l.length = la.length + 1 + lb.length := by rw [e]; simp; omega
      obtain ⟨a, ha⟩ := hp_has n la (by omega)
      obtain ⟨b, hb⟩ := hp_has n lb (by omega)
      exact ⟨.node a k b, la, v, lb, e, ha, hb, h1, h2⟩

/-- the first place of the highest rank among the first ones -/
def topTo (l : PL) : Nat → Nat
  | 0 => 0
  | k + 1 => if dp l (topTo l k) < dp l k then k else topTo l k
theorem topTo_lt (l : PL) : ∀ k, 0 < k → topTo l k < k
  | 0, h => absurd h (by omega)
  | 1, _ => by simp [topTo]
  | k + 2, _ => by
    have := topTo_lt l (k + 1) (by omega)
    rw [topTo]
    split <;> omega
theorem topTo_ahead {la lb : PL} {k v : Int} (h1 : ∀ p ∈ la, p.2 < v) : ∀ j, j < la.length → dp (la ++ (k, v) :: lb) j < v := by
  intro j hj
  rw [dp_left hj, dp_in hj]
  exact h1 _ (List.getElem_mem hj)
theorem topTo_behind {la lb : PL} {k v : Int} (h2 : ∀ p ∈ lb, p.2 ≤ v) : ∀ j, la.length < j → j < la.length + 1 + lb.length → dp (la ++ (k, v) :: lb) j ≤ v := by
  intro j hj hj2
  rw [dp_right (by omega)]
  obtain ⟨m, hm⟩ : ∃ m, j - la.length = m + 1 := ⟨j - la.length - 1, by omega⟩
  have hml : m < lb.length := by omega
  rw [hm]
  have : dp ((k, v) :: lb) (m + 1) = lb[m].2 := by simp [dp, List.getElem?_eq_getElem hml]
  rw [this]
  exact h2 _ (List.getElem_mem hml)
theorem topTo_at {l la lb : PL} {k v : Int} (e : l = la ++ (k, v) :: lb) (h1 : ∀ p ∈ la, p.2 < v) (h2 : ∀ p ∈ lb, p.2 ≤ v) : ∀ j, j ≤ lb.length → topTo l (la.length + 1 + j) = la.length := by
  subst e
  have hv : dp (la ++ (k, v) :: lb) la.length = v := dp_mid la lb (k, v)
  intro j
  induction j with
  | zero =>
    intro _
    rw [Nat.add_zero, topTo, hv]
    rcases Nat.eq_zero_or_pos la.length with h0 | h0
    · have hn := List.eq_nil_of_length_eq_zero h0
      subst hn
      simp [topTo, dp]
    · rw [if_pos (topTo_ahead h1 _ (topTo_lt _ _ h0))]
  | succ j ih =>
    intro hj
    rw [← Nat.add_assoc, topTo, ih (by omega), hv, if_neg]
    have := topTo_behind (la := la) (k := k) h2 (la.length + 1 + j) (by omega) (by omega)
    omega
theorem topTo_top {l la lb : PL} {k v : Int} (e : l = la ++ (k, v) :: lb) (h1 : ∀ p ∈ la, p.2 < v) (h2 : ∀ p ∈ lb, p.2 ≤ v) : topTo l l.length = la.length := by
  have := topTo_at e h1 h2 lb.length (Nat.le_refl _)
  rw [← this, e]
  congr 1
  simp
  omega

/-- who stands next above, of trees whose first place is o, with r above their top -/
def Tr.above : Tr → Nat → Int → Nat → Int
  | .nil, _, r, _ => r
  | .node a _ b, o, r, i => if i < a.size then a.above o ((o + a.size : Nat) : Int) i else if i = a.size then r else b.above (o + a.size + 1) ((o + a.size : Nat) : Int) (i - a.size - 1)
theorem par_above : ∀ (t : Tr) (d : Int) (pre post : PL) (r : Int), Ctx 0 d pre post → (∀ a k b, t = .node a k b → par (pre ++ t.sp d ++ post) (pre.length + a.size) = r) →
    ∀ i, i < t.size → par (pre ++ t.sp d ++ post) (pre.length + i) = t.above pre.length r i := by
  intro t
  induction t with
  | nil => intro d pre post r _ _ i hi; simp [Tr.size] at hi
  | node a k b iha ihb =>
    intro d pre post r hc hr i hi
    simp only [Tr.size] at hi
    rw [Tr.above]
    rcases Nat.lt_trichotomy i a.size with h1 | h1 | h1
    · rw [if_pos h1]
      have e : pre ++ (Tr.node a k b).sp d ++ post = pre ++ a.sp (d + 1) ++ ((k, d) :: b.sp (d + 1) ++ post) := by simp [Tr.sp]
      rw [e]
      refine iha (d + 1) pre _ _ (.left k b hc) ?_ i h1
      rintro a1 k1 b1 rfl
      have hLL : LL (pre ++ (Tr.node a1 k1 b1).sp (d + 1) ++ ((k, d) :: b.sp (d + 1) ++ post)) (pre.length + a1.size) (pre.length + (a1.size + 1 + b1.size)) d a1 k1 b1 k b pre post := ⟨hc, by simp [Tr.sp], rfl, rfl⟩
      rw [hLL.par_i]
      simp [Tr.size]
    · rw [if_neg (by omega), if_pos h1, h1]
      exact hr a k b rfl
    · rw [if_neg (by omega), if_neg (by omega)]
      have e : pre ++ (Tr.node a k b).sp d ++ post = pre ++ a.sp (d + 1) ++ [(k, d)] ++ b.sp (d + 1) ++ post := by simp [Tr.sp]
      have e2 : (pre ++ a.sp (d + 1) ++ [(k, d)]).length = pre.length + a.size + 1 := by simp [sp_length]; omega
      have := ihb (d + 1) (pre ++ a.sp (d + 1) ++ [(k, d)]) post ((pre.length + a.size : Nat) : Int) (.right a k hc) (by
        rintro b1 k1 c1 rfl
        have hRR : RR (pre ++ a.sp (d + 1) ++ [(k, d)] ++ (Tr.node b1 k1 c1).sp (d + 1) ++ post) (pre.length + a.size) (pre.length + (a.size + 1 + b1.size)) d a k b1 k1 c1 pre post := ⟨hc, by simp [Tr.sp], rfl, rfl⟩
        rw [e2, show pre.length + a.size + 1 + b1.size = pre.length + (a.size + 1 + b1.size) by omega]
        exact hRR.par_j) (i - a.size - 1) (by omega)
      rw [e2] at this
      rw [e, ← this]
      congr 1
      omega
theorem par_tree (t : Tr) (i : Nat) (hi : i < t.size) : par (t.sp 0) i = t.above 0 (-1) i := by
  have := par_above t 0 [] [] (-1) .hole (by
    rintro a k b rfl
    simp only [List.nil_append, List.append_nil, List.length_nil, Nat.zero_add]
    exact par_root rfl (by rw [sp_length, Tr.size]; omega) (sp_root a b k 0).1) i hi
  simpa using this

/-- u ranks higher than m -/
def Out (l : PL) (u m : Nat) : Prop := dp l m < dp l u ∨ (dp l m = dp l u ∧ u < m)
/-- u ranks higher than all between it and i, i too -/
def Anc (l : PL) (u i : Nat) : Prop := ∀ m, (u ≤ m ∨ i ≤ m) → (m ≤ u ∨ m ≤ i) → m ≠ u → Out l u m
theorem Anc.refl (l : PL) (u : Nat) : Anc l u u := fun m h1 h2 h3 => absurd (by omega : m = u) h3
theorem Anc.out {l : PL} {u i : Nat} (h : Anc l u i) (hne : u ≠ i) : Out l u i := h i (.inr (Nat.le_refl _)) (.inr (Nat.le_refl _)) (fun e => hne e.symm)
theorem Out.asymm {l : PL} {u m : Nat} (h : Out l u m) (h' : Out l m u) : False := by
  unfold Out at h h'
  omega
theorem Out.trans {l : PL} {a b c : Nat} (h : Out l a b) (h' : Out l b c) : Out l a c := by
  unfold Out at *
  omega
theorem Anc.trans {l : PL} {r q k : Nat} (h : Anc l r q) (h' : Anc l q k) : Anc l r k := by
  intro m h1 h2 h3
  by_cases hq : m = q
  · subst hq
    exact h m (.inr (Nat.le_refl _)) (.inr (Nat.le_refl _)) h3
  · by_cases hb : (r ≤ m ∨ q ≤ m) ∧ (m ≤ r ∨ m ≤ q)
    · exact h m hb.1 hb.2 h3
    · have h4 : Out l q m := h' m (by omega) (by omega) hq
      by_cases hrq : r = q
      · subst hrq
        exact h4
      · exact (h.out hrq).trans h4
theorem anc_left {la lb : PL} {u i : Nat} (hu : u < la.length) (hi : i < la.length) : Anc (la ++ lb) u i ↔ Anc la u i := by
  unfold Anc Out
  constructor
  · intro h m h1 h2 h3
    have := h m h1 h2 h3
    rw [dp_left (by omega), dp_left hu] at this
    exact this
  · intro h m h1 h2 h3
    have := h m h1 h2 h3
    rw [dp_left (by omega), dp_left hu]
    exact this
theorem dp_past {la lb : PL} {q : Int × Int} {o j : Nat} (ho : o = la.length + 1) : dp (la ++ q :: lb) (o + j) = dp lb j := by
  subst ho
  rw [dp_right (by omega), show la.length + 1 + j - la.length = j + 1 by omega]
  simp [dp]
theorem anc_right {la lb : PL} {q : Int × Int} {o u i : Nat} (ho : o = la.length + 1) : Anc (la ++ q :: lb) (o + u) (o + i) ↔ Anc lb u i := by
  unfold Anc Out
  constructor
  · intro h m h1 h2 h3
    have := h (o + m) (by omega) (by omega) (by omega)
    rw [dp_past ho, dp_past ho] at this
    omega
  · intro h m h1 h2 h3
    obtain ⟨m', rfl⟩ : ∃ m', m = o + m' := ⟨m - o, by omega⟩
    have := h m' (by omega) (by omega) (by omega)
    rw [dp_past ho, dp_past ho]
    omega

/-- what holds of who stands next above -/
structure Par (t : Tr) (l : PL) (i p : Nat) : Prop where
  lt : p < t.size
  ne : p ≠ i
  anc : Anc l p i
  all : ∀ u, u < t.size → u ≠ i → Anc l u i → Anc l u p
  deep : ∀ d, dp (t.sp d) p < dp (t.sp d) i
theorem sp_left {a b : Tr} {k d : Int} {i : Nat} (h : i < a.size) : dp ((Tr.node a k b).sp d) i = dp (a.sp (d + 1)) i := by
  rw [Tr.sp, dp_left (by rw [sp_length]; exact h)]
theorem sp_right {a b : Tr} {k d : Int} {o j : Nat} (ho : o = a.size + 1) : dp ((Tr.node a k b).sp d) (o + j) = dp (b.sp (d + 1)) j := by
  rw [Tr.sp]
  exact dp_past (by rw [sp_length]; exact ho)
theorem above_hp : ∀ (t : Tr) (l : PL), Hp t l → ∀ (o : Nat) (r : Int) (i : Nat), i < t.size →
    (t.above o r i = r ∧ ∀ u, u < t.size → Anc l u i → u = i) ∨ ∃ p : Nat, t.above o r i = ((o + p : Nat) : Int) ∧ Par t l i p := by
  intro t
  induction t with
  | nil => intro l _ o r i hi; simp [Tr.size] at hi
  | node a k b iha ihb =>
    rintro l ⟨la, v, lb, rfl, ha, hb, h1, h2⟩ o r i hi
    have hla := hp_len ha
    have hlb := hp_len hb
    simp only [Tr.size] at hi
    have hv : dp (la ++ (k, v) :: lb) a.size = v := by rw [← hla]; exact dp_mid la lb (k, v)
    have hA : ∀ j, j < a.size → dp (la ++ (k, v) :: lb) j < v := fun j hj => topTo_ahead h1 j (by omega)
    have hB : ∀ j, a.size < j → j < a.size + 1 + b.size → dp (la ++ (k, v) :: lb) j ≤ v := fun j hj hj2 => topTo_behind h2 j (by omega) (by omega)
    -- none but the top ranks higher than the top
    have hTop : ∀ u, u < a.size + 1 + b.size → u ≠ a.size → ¬ Out (la ++ (k, v) :: lb) u a.size := by
      intro u hu hne h
      unfold Out at h
      rw [hv] at h
      rcases Nat.lt_or_ge u a.size with h3 | h3
      · have := hA u h3
        omega
      · have := hB u (by omega) hu
        omega
    have hAll : ∀ j, j < a.size + 1 + b.size → Anc (la ++ (k, v) :: lb) a.size j := by
      intro j hj m h3 h4 h5
      unfold Out
      rw [hv]
      rcases Nat.lt_or_ge m a.size with h6 | h6
      · exact .inl (hA m h6)
      · have := hB m (by omega) (by omega)
        omega
    have hsz : (Tr.node a k b).size = a.size + 1 + b.size := rfl
    rw [Tr.above]
    rcases Nat.lt_trichotomy i a.size with hi1 | hi1 | hi1
    · rw [if_pos hi1]
      have hcross : ∀ u, a.size < u → u < a.size + 1 + b.size → ¬ Anc (la ++ (k, v) :: lb) u i := fun u hu hu2 h => hTop u hu2 (by omega) (h a.size (by omega) (by omega) (by omega))
      right
      rcases iha la ha o ((o + a.size : Nat) : Int) i hi1 with ⟨e, hno⟩ | ⟨p, e, hp⟩
      · refine ⟨a.size, e, by rw [hsz]; omega, by omega, hAll i (by omega), ?_, ?_⟩
        · intro u hu hne h
          rw [hsz] at hu
          rcases Nat.lt_trichotomy u a.size with h3 | h3 | h3
          · exact absurd (hno u h3 ((anc_left (by omega) (by omega)).1 h)) hne
          · subst h3
            exact Anc.refl _ _
          · exact absurd h (hcross u h3 hu)
        · intro d
          rw [(sp_root a b k d).1]
          exact sp_gt a b k d i (by rw [hsz]; omega) (by omega)
      · have hpl := hp.lt
        refine ⟨p, e, by rw [hsz]; omega, hp.ne, (anc_left (by omega) (by omega)).2 hp.anc, ?_, ?_⟩
        · intro u hu hne h
          rw [hsz] at hu
          rcases Nat.lt_trichotomy u a.size with h3 | h3 | h3
          · exact (anc_left (by omega) (by omega)).2 (hp.all u h3 hne ((anc_left (by omega) (by omega)).1 h))
          · subst h3
            exact hAll p (by omega)
          · exact absurd h (hcross u h3 hu)
        · intro d
          rw [sp_left hpl, sp_left hi1]
          exact hp.deep (d + 1)
    · rw [if_neg (by omega), if_pos hi1]
      left
      refine ⟨rfl, fun u hu h => ?_⟩
      rw [hsz] at hu
      subst hi1
      rcases Nat.lt_trichotomy u a.size with h3 | h3 | h3
      · exact absurd (h.out (by omega)) (hTop u hu (by omega))
      · exact h3
      · exact absurd (h.out (by omega)) (hTop u hu (by omega))
    · rw [if_neg (by omega), if_neg (by omega)]
      obtain ⟨j, rfl⟩ : ∃ j, i = a.size + 1 + j := ⟨i - a.size - 1, by omega⟩
      have hj : j < b.size := by omega
      have ho : a.size + 1 = la.length + 1 := by omega
      have hcross : ∀ u, u < a.size → ¬ Anc (la ++ (k, v) :: lb) u (a.size + 1 + j) := fun u hu h => hTop u (by omega) (by omega) (h a.size (by omega) (by omega) (by omega))
      rw [show a.size + 1 + j - a.size - 1 = j by omega]
      right
      rcases ihb lb hb (o + a.size + 1) ((o + a.size : Nat) : Int) j hj with ⟨e, hno⟩ | ⟨p, e, hp⟩
      · refine ⟨a.size, e, by rw [hsz]; omega, by omega, hAll _ (by omega), ?_, ?_⟩
        · intro u hu hne h
          rw [hsz] at hu
          rcases Nat.lt_trichotomy u a.size with h3 | h3 | h3
          · exact absurd h (hcross u h3)
          · subst h3
            exact Anc.refl _ _
          · obtain ⟨u', rfl⟩ : ∃ u', u = a.size + 1 + u' := ⟨u - (a.size + 1), by omega⟩
            have := hno u' (by omega) ((anc_right ho).1 h)
            exact absurd (by rw [this]) hne
        · intro d
          rw [(sp_root a b k d).1]
          exact sp_gt a b k d _ (by rw [hsz]; omega) (by omega)
      · have hpl := hp.lt
        refine ⟨a.size + 1 + p, by rw [e]; congr 1; omega, by rw [hsz]; omega, by have := hp.ne; omega, (anc_right ho).2 hp.anc, ?_, ?_⟩
        · intro u hu hne h
          rw [hsz] at hu
          rcases Nat.lt_trichotomy u a.size with h3 | h3 | h3
          · exact absurd h (hcross u h3)
          · subst h3
            exact hAll _ (by omega)
          · obtain ⟨u', rfl⟩ : ∃ u', u = a.size + 1 + u' := ⟨u - (a.size + 1), by omega⟩
            exact (anc_right ho).2 (hp.all u' (by omega) (by omega) ((anc_right ho).1 h))
        · intro d
          rw [sp_right rfl, sp_right rfl]
          exact hp.deep (d + 1)
/-- who stands next above, told by ranks -/
theorem par_hp {t : Tr} {l : PL} (h : Hp t l) {i : Nat} (hi : i < t.size) : (par (t.sp 0) i = -1 ∧ ∀ u, u < t.size → Anc l u i → u = i) ∨ ∃ p : Nat, par (t.sp 0) i = p ∧ Par t l i p := by
  rw [par_tree t i hi]
  rcases above_hp t l h 0 (-1) i hi with h1 | ⟨p, e, hp⟩
  · exact .inl h1
  · exact .inr ⟨p, by rw [e]; simp, hp⟩

/-- the last place of the first ones at which there is less than x; -1, if there is none -/
def lst (l : List Int) (x : Int) : Nat → Int
  | 0 => -1
  | k + 1 => if l[k]?.getD 0 < x then (k : Int) else lst l x k
theorem lst_bd (l : List Int) (x : Int) : ∀ k, -1 ≤ lst l x k ∧ lst l x k < k
  | 0 => by simp [lst]
  | k + 1 => by
    have := lst_bd l x k
    rw [lst]
    split <;> omega
theorem lst_less {l : List Int} {x : Int} : ∀ {k j : Nat}, lst l x k = j → l[j]?.getD 0 < x
  | 0, j, h => by simp [lst] at h
  | k + 1, j, h => by
    rw [lst] at h
    split at h
    · have : k = j := by omega
      subst this
      assumption
    · exact lst_less h
theorem lst_none {l : List Int} {x : Int} : ∀ {k : Nat} (m : Nat), m < k → lst l x k < m → x ≤ l[m]?.getD 0
  | 0, m, hm, _ => absurd hm (by omega)
  | k + 1, m, hm, h => by
    rw [lst] at h
    split at h
    · omega
    · rcases Nat.lt_or_ge m k with h1 | h1
      · exact lst_none m h1 h
      · obtain rfl : m = k := by omega
        omega
/-- whatever lies between is no less -/
theorem lst_same {l : List Int} {x : Int} : ∀ {k q : Nat}, q ≤ k → (∀ m, q ≤ m → m < k → x ≤ l[m]?.getD 0) → lst l x k = lst l x q
  | 0, q, h, _ => by rw [show q = 0 by omega]
  | k + 1, q, h, hm => by
    rcases Nat.lt_or_ge k q with h1 | h1
    · rw [show q = k + 1 by omega]
    · rw [lst, if_neg (by have := hm k h1 (by omega); omega)]
      exact lst_same h1 fun m h2 h3 => hm m h2 (by omega)
/-- the nearest lesser one ahead -/
def near (l : List Int) (i : Nat) : Int := lst l (l[i]?.getD 0) i
theorem near_step {l : List Int} {x : Int} {p : Nat} (h : x ≤ l[p]?.getD 0) : lst l x (p + 1) = lst l x ((near l p + 1).toNat) := by
  have hb := lst_bd l (l[p]?.getD 0) p
  unfold near
  refine lst_same (by omega) fun m h1 h2 => ?_
  rcases Nat.lt_or_ge m p with h3 | h3
  · have := lst_none (l := l) (x := l[p]?.getD 0) m h3 (by omega)
    omega
  · obtain rfl : m = p := by omega
    exact h
def nearL (l : List Int) : List Int := (List.range l.length).map (near l)
theorem nearL_length (l : List Int) : (nearL l).length = l.length := by simp [nearL]
theorem nearL_at (l : List Int) (i : Nat) (h : i < l.length) : (nearL l)[i]? = some (near l i) := by simp [nearL, h]
def nearTo (l : List Int) (n k : Nat) : List Int := (List.range k).map (near l) ++ List.replicate (n - k) 0
theorem nearTo_set (l : List Int) (n k : Nat) (h : k < n) : (nearTo l n k).set k (near l k) = nearTo l n (k + 1) := by
  unfold nearTo
  rw [List.set_append_right _ _ (by simp), List.range_succ, List.map_append]
  simp only [List.length_map, List.length_range, Nat.sub_self]
  rw [show n - k = n - (k + 1) + 1 by omega, List.replicate_succ]
  simp
theorem nearTo_length (l : List Int) (n k : Nat) (h : k ≤ n) : (nearTo l n k).length = n := by simp [nearTo]; omega
theorem nearTo_at (l : List Int) (n k i : Nat) (h : i < k) : (nearTo l n k)[i]? = some (near l i) := by
  unfold nearTo
  rw [List.getElem?_append_left (by simp; exact h)]
  simp [h]

end Go.Proofs.YtpnjnedfcdppaaaGreatDoor

/-
  ZIPPED TREES AND ROWS: who stands above a place to the left is a stop on the way to it: plain mathematics. Nothing of the program but a key's height.
-/
namespace Go.Proofs.YtpnjnedfcdppaaaGreatDoor

/-- keys with their heights for ranks -/
def zpl (ks : List Int) : PL := ks.map fun k => (k, (ht k : Int))
theorem zpl_length (ks : List Int) : (zpl ks).length = ks.length := by simp [zpl]
theorem zpl_ky (ks : List Int) (i : Nat) (h : i < ks.length) : ky (zpl ks) i = ks[i] := by
  rw [ky_in (by rw [zpl_length]; exact h)]
  simp [zpl]
theorem zpl_dp (ks : List Int) (i : Nat) (h : i < ks.length) : dp (zpl ks) i = (ht ks[i] : Int) := by
  rw [dp_in (by rw [zpl_length]; exact h)]
  simp [zpl]

/-- none between it and key is higher -/
def Sfx (l : List Int) (key k : Int) : Prop := k ∈ l ∧ k < key ∧ ∀ j ∈ l, k < j → j < key → ht j ≤ ht k
theorem stTo_iff {l : List Int} (hR : Rise l) (key : Int) : ∀ m, m ≤ 12 → ∀ k, k ∈ (stTo l key m).1.map Prod.snd ↔ Sfx l key k ∧ 12 - m < ht k
  | 0, _ => fun k => by
    have := ht_le k
    simp only [stTo, List.map_nil, List.not_mem_nil, false_iff]
    rintro ⟨_, h⟩
    omega
  | m + 1, hm => fun k => by
    have ih := stTo_iff hR key m (by omega) k
    have hp := stTo_pin hR key m (by omega)
    show k ∈ ((stTo l key m).1 ++ (pas (rowL l (11 - m)) (stTo l key m).2 key).map (fun k => ((11 : Int) - m, k))).map Prod.snd ↔ _
    generalize (stTo l key m).1 = p at ih hp ⊢
    generalize (stTo l key m).2 = a at ih hp ⊢
    have e : (p ++ (pas (rowL l (11 - m)) a key).map (fun k => ((11 : Int) - m, k))).map Prod.snd = p.map Prod.snd ++ pas (rowL l (11 - m)) a key := by simp [List.map_map, Function.comp_def]
    rw [e, List.mem_append, ih, pas_mem]
    have hrow : k ∈ rowL l (11 - m) ↔ k ∈ l ∧ 11 - m < ht k := by unfold rowL; rw [List.mem_filter]; simp
    rw [hrow]
    constructor
    · rintro (⟨h1, h2⟩ | ⟨⟨h1, h2⟩, h3, h4⟩)
      · exact ⟨h1, by omega⟩
      · have hk : ¬ 12 - m < ht k := fun h => by have := hp.met k h1 h4 h; omega
        refine ⟨⟨h1, h4, fun j hj hkj hjk => ?_⟩, by omega⟩
        apply Classical.byContradiction
        intro hlt
        have := hp.met j hj hjk (by omega)
        omega
    · rintro ⟨h1, h2⟩
      by_cases h3 : 12 - m < ht k
      · exact .inl ⟨h1, h3⟩
      · refine .inr ⟨⟨h1.1, by omega⟩, ?_, h1.2.1⟩
        rcases hp.last with ⟨_, ha⟩ | ⟨q, r, hq⟩
        · have := hR.bd k h1.1
          omega
        · have hs := hp.each (r, a) (by rw [hq]; simp)
          obtain ⟨s1, s2, s3, _, s5⟩ := hs
          simp only at s1 s2 s3 s5
          apply Classical.byContradiction
          intro hle
          by_cases hka : k = a
          · subst hka
            omega
          · have := h1.2.2 a s2 (by omega) s3
            omega
theorem stops_iff {l : List Int} (hR : Rise l) (key k : Int) : k ∈ (stops l key).map Prod.snd ↔ Sfx l key k := by
  have := stTo_iff hR key 12 (Nat.le_refl _) k
  have hp := ht_pos k
  unfold stops
  rw [this]
  constructor
  · exact fun h => h.1
  · exact fun h => ⟨h, by omega⟩

/-- whoever stands above stands higher -/
theorem anc_deep {t : Tr} {l : PL} (h : Hp t l) : ∀ (n : Nat) (u i : Nat), (dp (t.sp 0) i).toNat ≤ n → u < t.size → i < t.size → u ≠ i → Anc l u i → dp (t.sp 0) u < dp (t.sp 0) i := by
  intro n
  induction n with
  | zero =>
    intro u i hn hu hi hne ha
    rcases par_hp h hi with ⟨_, hno⟩ | ⟨r, _, hr⟩
    · exact absurd (hno u hu ha) hne
    · have h1 := hr.deep 0
      have h2 := sp_ge t 0 r hr.lt
      omega
  | succ n ih =>
    intro u i hn hu hi hne ha
    rcases par_hp h hi with ⟨_, hno⟩ | ⟨r, _, hr⟩
    · exact absurd (hno u hu ha) hne
    · have h1 := hr.deep 0
      have h2 := sp_ge t 0 r hr.lt
      by_cases hur : u = r
      · subst hur
        exact h1
      · have := ih u r (by omega) hu hr.lt hur (hr.all u hu hne ha)
        omega
theorem out_total (l : PL) (u m : Nat) (h : u ≠ m) : Out l u m ∨ Out l m u := by
  unfold Out
  omega
theorem anc_next {l : PL} {u m : Nat} (h : Out l u m) (h1 : m = u + 1 ∨ u = m + 1) : Anc l u m := by
  intro x h2 h3 h4
  have : x = m := by omega
  rw [this]
  exact h
/-- above the lower one of both neighbours of a place: just those that none between outranks -/
theorem gap_left {ks : List Int} {p at_ i : Nat} (hp : p ≤ ks.length) (hi : i < p) (hat : (at_ + 1 = p) ∨ (at_ = p ∧ p < ks.length ∧ Out (zpl ks) (p - 1) p)) :
    Anc (zpl ks) i at_ ↔ ∀ m (hm : m < ks.length), i < m → m < p → ht (ks[m]'hm) ≤ ht (ks[i]'(by omega)) := by
  have hd : ∀ m (hm : m < ks.length), i < m → (Out (zpl ks) i m ↔ ht (ks[m]'hm) ≤ ht (ks[i]'(by omega))) := by
    intro m hm him
    unfold Out
    rw [zpl_dp ks m hm, zpl_dp ks i (by omega)]
    omega
  rcases hat with hat | ⟨rfl, hpl, ho⟩
  · constructor
    · intro h m hm h1 h2
      exact (hd m hm h1).1 (h m (by omega) (by omega) (by omega))
    · intro h m h1 h2 h3
      exact (hd m (by omega) (by omega)).2 (h m (by omega) (by omega) (by omega))
  · constructor
    · intro h m hm h1 h2
      exact (hd m hm h1).1 (h m (by omega) (by omega) (by omega))
    · intro h m h1 h2 h3
      by_cases hma : m = at_
      · subst hma
        by_cases hi1 : i = m - 1
        · rw [hi1]
          exact ho
        · have h4 := (hd (m - 1) (by omega) (by omega)).2 (h (m - 1) (by omega) (by omega) (by omega))
          exact Out.trans h4 ho
      · exact (hd m (by omega) (by omega)).2 (h m (by omega) (by omega) (by omega))

/-- from k upward: those whose place is ahead of p -/
inductive Chn (S : PL) (p : Nat) : Int → List Nat → Prop
  | top : Chn S p (-1) []
  | step {i : Nat} {L : List Nat} : Chn S p (par S i) L → Chn S p i (if i < p then i :: L else L)
theorem chn_top {S : PL} {p : Nat} {L : List Nat} (h : Chn S p (-1) L) : L = [] := by
  generalize hk : (-1 : Int) = k at h
  cases h with
  | top => rfl
  | step _ => omega
theorem chn_step {S : PL} {p i : Nat} {L : List Nat} (h : Chn S p (i : Int) L) : ∃ L', Chn S p (par S i) L' ∧ L = if i < p then i :: L' else L' := by
  generalize hk : (i : Int) = k at h
  cases h with
  | top => omega
  | step h =>
    rename_i j L'
    obtain rfl : i = j := by omega
    exact ⟨L', h, rfl⟩
theorem chn_has {t : Tr} {l : PL} (h : Hp t l) (p : Nat) : ∀ (n i : Nat), (dp (t.sp 0) i).toNat ≤ n → i < t.size → ∃ L, Chn (t.sp 0) p (i : Int) L := by
  intro n
  induction n with
  | zero =>
    intro i hn hi
    rcases par_hp h hi with ⟨e, _⟩ | ⟨r, e, hr⟩
    · exact ⟨_, .step (by rw [e]; exact .top)⟩
    · have h1 := hr.deep 0
      have h2 := sp_ge t 0 r hr.lt
      omega
  | succ n ih =>
    intro i hn hi
    rcases par_hp h hi with ⟨e, _⟩ | ⟨r, e, hr⟩
    · exact ⟨_, .step (by rw [e]; exact .top)⟩
    · have h1 := hr.deep 0
      have h2 := sp_ge t 0 r hr.lt
      obtain ⟨L, hL⟩ := ih r (by omega) hr.lt
      exact ⟨_, .step (by rw [e]; exact hL)⟩
theorem chn_spec {t : Tr} {l : PL} {p at_ : Nat} (h : Hp t l) (hat : p ≤ at_ + 1) : ∀ (n i : Nat) (L : List Nat), (dp (t.sp 0) i).toNat ≤ n → i < t.size → Anc l i at_ → Chn (t.sp 0) p (i : Int) L → L.Pairwise (· > ·) ∧ ∀ u, u ∈ L ↔ u < t.size ∧ u < p ∧ Anc l u i := by
  intro n
  induction n with
  | zero =>
    intro i L hn hi ha hL
    rcases par_hp h hi with ⟨e, hno⟩ | ⟨r, e, hr⟩
    · obtain ⟨L', h1, rfl⟩ := chn_step hL
      rw [e] at h1
      have := chn_top h1
      subst this
      constructor
      · split <;> simp
      · intro u
        constructor
        · intro hu
          split at hu
          · simp only [List.mem_singleton] at hu
            subst hu
            exact ⟨hi, by assumption, Anc.refl _ _⟩
          · simp at hu
        · rintro ⟨h2, h3, h4⟩
          have := hno u h2 h4
          subst this
          rw [if_pos h3]
          simp
    · have h1 := hr.deep 0
      have h2 := sp_ge t 0 r hr.lt
      omega
  | succ n ih =>
    intro i L hn hi ha hL
    rcases par_hp h hi with ⟨e, hno⟩ | ⟨r, e, hr⟩
    · obtain ⟨L', h1, rfl⟩ := chn_step hL
      rw [e] at h1
      have := chn_top h1
      subst this
      constructor
      · split <;> simp
      · intro u
        constructor
        · intro hu
          split at hu
          · simp only [List.mem_singleton] at hu
            subst hu
            exact ⟨hi, by assumption, Anc.refl _ _⟩
          · simp at hu
        · rintro ⟨h2, h3, h4⟩
          have := hno u h2 h4
          subst this
          rw [if_pos h3]
          simp
    · obtain ⟨L', h1, rfl⟩ := chn_step hL
      rw [e] at h1
      have hd := hr.deep 0
      have hd2 := sp_ge t 0 r hr.lt
      obtain ⟨hp1, hp2⟩ := ih r L' (by omega) hr.lt (hr.anc.trans ha) h1
      constructor
      · split
        · rename_i hip
          refine List.pairwise_cons.2 ⟨fun u hu => ?_, hp1⟩
          obtain ⟨u1, u2, u3⟩ := (hp2 u).1 hu
          have hui : u ≠ i := by
            intro e'
            subst e'
            have h5 := hr.anc.out hr.ne
            have h6 := u3.out (fun e' => hr.ne e'.symm)
            exact h5.asymm h6
          have hanc : Anc l u i := u3.trans hr.anc
          show u < i
          apply Classical.byContradiction
          intro hge
          have o1 : Out l i u := ha u (by omega) (by omega) hui
          exact o1.asymm (hanc.out hui)
        · exact hp1
      · intro u
        have hmem : u ∈ (if i < p then i :: L' else L') ↔ (u = i ∧ i < p) ∨ u ∈ L' := by
          split
          · rename_i hip
            simp [hip]
          · rename_i hip
            simp [hip]
        rw [hmem, hp2]
        constructor
        · rintro (⟨rfl, h2⟩ | ⟨h2, h3, h4⟩)
          · exact ⟨hi, h2, Anc.refl _ _⟩
          · exact ⟨h2, h3, h4.trans hr.anc⟩
        · rintro ⟨h2, h3, h4⟩
          by_cases hui : u = i
          · exact .inl ⟨hui, by omega⟩
          · exact .inr ⟨h2, h3, hr.all u h2 hui h4⟩
/-- those that stand above a place and are less are the stops of the way to it -/
theorem zip_skip {ks : List Int} {key : Int} {t : Tr} {p at_ : Nat} {L : List Nat} (hR : Rise ks) (ht : Hp t (zpl ks)) (hp : p ≤ ks.length) (hlt : ∀ i (hi : i < ks.length), i < p ↔ ks[i] < key) (hl : at_ < ks.length)
    (hat : (at_ + 1 = p) ∨ (at_ = p ∧ (0 < p → Out (zpl ks) (p - 1) p))) (hL : Chn (t.sp 0) p (at_ : Int) L) : L.map (fun i => ks[i]?.getD 0) = ((stops ks key).map Prod.snd).reverse := by
  have hs : t.size = ks.length := by rw [← hp_len ht, zpl_length]
  obtain ⟨h1, h2⟩ := chn_spec ht (show p ≤ at_ + 1 by omega) _ at_ L (Nat.le_refl _) (by omega) (Anc.refl _ _) hL
  have hat2 : 0 < p → (at_ + 1 = p) ∨ (at_ = p ∧ p < ks.length ∧ Out (zpl ks) (p - 1) p) := by
    intro h0
    rcases hat with h | ⟨h, h'⟩
    · exact .inl h
    · exact .inr ⟨h, by omega, h' h0⟩
  have hlt2 : ∀ u ∈ L, u < ks.length := fun u hu => by have := (h2 u).1 hu; omega
  have hmono : ∀ i j, i < j → j < ks.length → ks[i]?.getD 0 < ks[j]?.getD 0 := by
    intro i j hij hj
    rw [List.getElem?_eq_getElem hj, List.getElem?_eq_getElem (show i < ks.length by omega)]
    exact List.pairwise_iff_getElem.1 hR.pw i j (by omega) hj hij
  have key1 : (L.map (fun i => ks[i]?.getD 0)).reverse = (stops ks key).map Prod.snd := by
    refine up_ext ?_ ?_ ?_
    · show List.Pairwise _ _
      rw [List.pairwise_reverse, List.pairwise_map]
      refine List.Pairwise.imp_of_mem ?_ h1
      intro a b ha hb hab
      exact hmono b a hab (hlt2 a ha)
    · show List.Pairwise _ _
      rw [List.pairwise_map]
      exact (stops_pin hR key).pw.imp fun h => h.1
    · intro x
      rw [List.mem_reverse, stops_iff hR, List.mem_map]
      constructor
      · rintro ⟨i, hi, rfl⟩
        obtain ⟨h3, h4, h5⟩ := (h2 i).1 hi
        have hil : i < ks.length := by omega
        rw [List.getElem?_eq_getElem hil]
        simp only [Option.getD_some]
        have hg := (gap_left hp h4 (hat2 (by omega))).1 h5
        refine ⟨List.getElem_mem hil, (hlt i hil).1 h4, fun j hj hij hjk => ?_⟩
        obtain ⟨m, hm, rfl⟩ := List.getElem_of_mem hj
        have hmp := (hlt m hm).2 hjk
        refine hg m hm ?_ hmp
        apply Classical.byContradiction
        intro hle
        by_cases e : m = i
        · subst e
          omega
        · have := List.pairwise_iff_getElem.1 hR.pw m i hm hil (by omega)
          omega
      · rintro ⟨hx, hxk, hsx⟩
        obtain ⟨i, hi, rfl⟩ := List.getElem_of_mem hx
        have hip := (hlt i hi).2 hxk
        refine ⟨i, (h2 i).2 ⟨by omega, hip, ?_⟩, by rw [List.getElem?_eq_getElem hi]; rfl⟩
        refine (gap_left hp hip (hat2 (by omega))).2 ?_
        intro m hm h3 h4
        exact hsx _ (List.getElem_mem hm) (List.pairwise_iff_getElem.1 hR.pw i m hi hm h3) ((hlt m hm).1 h4)
  rw [← key1, List.reverse_reverse]
/-- of two neighbours the one that ranks lower stands lower -/
theorem next_deep {t : Tr} {l : PL} (h : Hp t l) {p : Nat} (h0 : 0 < p) (hp : p < l.length) : (Out l (p - 1) p ∧ dp (t.sp 0) (p - 1) < dp (t.sp 0) p) ∨ (Out l p (p - 1) ∧ dp (t.sp 0) p < dp (t.sp 0) (p - 1)) := by
  have hs := hp_len h
  rcases out_total l (p - 1) p (by omega) with ho | ho
  · exact .inl ⟨ho, anc_deep h _ (p - 1) p (Nat.le_refl _) (by omega) (by omega) (by omega) (anc_next ho (.inl (by omega)))⟩
  · exact .inr ⟨ho, anc_deep h _ p (p - 1) (Nat.le_refl _) (by omega) (by omega) (by omega) (anc_next ho (.inr (by omega)))⟩

end Go.Proofs.YtpnjnedfcdppaaaGreatDoor
