/-
  Joined texts: YtpnjnedfcdppaaaGreatDoorOMaps, YtpnjnedfcdppaaaGreatDoorKPure, YtpnjnedfcdppaaaGreatDoorKPath0.
-/
import Derived.Test.YtpnjnedfcdppaaaGreatDoorOPureAll
import Derived.Test.YtpnjnedfcdppaaaGreatDoorIntsAll
/-
  TREES THAT ARE BUILT ANEW, AND THE MAP, side by side: lists and trees alone.
-/
namespace Go.Proofs.YtpnjnedfcdppaaaGreatDoor

/-- what an op comes to: what tells an error does nothing -/
def goR (s : GS) (o : OP) (a : An) : GS := if a.e ≠ 0 then s else if o.1 = 1 ∧ a.b = false then goP s o.2.1 else if o.1 = 3 ∧ a.b = true then goC s o.2.1 else s
/-- how many came and went, are there, and were there at the most -/
structure Cn where
  came : Nat
  went : Nat
  now : Nat
  top : Nat
def cnR (c : Cn) (o : OP) (a : An) : Cn :=
  if a.e ≠ 0 then c
  else if o.1 = 1 ∧ a.b = false then ⟨c.came + 1, c.went, c.now + 1, max c.top (c.now + 1)⟩
  else if o.1 = 3 ∧ a.b = true then ⟨c.came, c.went + 1, c.now - 1, max c.top (c.now - 1)⟩
  else ⟨c.came, c.went, c.now, max c.top c.now⟩
theorem goP_ks (s : GS) (x : Int) : (goP s x).t.ks = (s.t.ins x).ks := by
  unfold goP
  split
  · split
    · rename_i p hp
      exact reb_ks hp
    · rfl
  · rfl
theorem goP_most (s : GS) (x : Int) : (goP s x).most = max s.most (s.t.ins x).size := by
  unfold goP
  split
  · split <;> rfl
  · rfl
theorem goC_ks (s : GS) (x : Int) : (goC s x).t.ks = (s.t.del x).ks := by
  unfold goC
  split
  · exact ev_ks _ _ (Nat.le_refl _)
  · rfl
theorem goP_size {s : GS} {x : Int} (h : x ∉ s.t.ks) : (goP s x).t.size = s.t.size + 1 := by rw [← ks_length, goP_ks, ks_length, size_ins h]
theorem goC_size {s : GS} {x : Int} (hu : Up s.t.ks) (h : x ∈ s.t.ks) : (goC s x).t.size + 1 = s.t.size := by
  rw [← ks_length, goC_ks, ks_length]
  exact (del_all hu h).1

/-- all that holds op by op -/
structure JI (s : GS) (c : Cn) (l : PL) : Prop where
  same : Same s.t l
  inv : GI s c.came c.went c.top
  now : c.now = s.t.size
  only : c.went = 0 → s.most = c.now ∧ c.top = c.now
theorem JI.start : JI ⟨.nil, 0, 0⟩ ⟨0, 0, 0, 0⟩ [] := ⟨same_nil, GI.start, rfl, fun _ => ⟨rfl, rfl⟩⟩
theorem JI.rest {s : GS} {c : Cn} {l l' : PL} (h : JI s c l) (hc : chk l' = 0) (hl : pk l' = pk l) : JI s ⟨c.came, c.went, c.now, max c.top c.now⟩ l' := by
  have e : max c.top c.now = c.top := by
    have h1 := h.inv.size
    have h2 := h.inv.most
    have h3 := h.now
    omega
  rw [e]
  exact ⟨⟨hc, by rw [hl]; exact h.same.ks⟩, h.inv, h.now, h.only⟩
theorem JI.step {s : GS} {c : Cn} {l : PL} (h : JI s c l) (o : OP) : JI (goR s o (doA l o.1 o.2.1)) (cnR c o (doA l o.1 o.2.1)) (doL l o.1 o.2.1 o.2.2) := by
  have hu := h.same.up
  have hcl := chk_doL h.same.chk o.1 o.2.1 o.2.2
  have hln := ((chk_zero _).1 hcl).1
  have hnow := h.now
  unfold goR cnR
  rcases h.same.ways o.1 o.2.1 o.2.2 with ⟨e1, e2⟩ | ⟨e1, e2, e3, e4, e5⟩ | ⟨e1, e2, e3, e4, e5⟩ | ⟨e1, e2, e3, e4, e5⟩ | ⟨e1, e2, e3, e4, e5⟩ | ⟨e1, e2, e3⟩
  · rw [if_pos e2, if_pos e2, e1]
    exact h
  · have n0 : ¬ (doA l o.1 o.2.1).e ≠ 0 := fun hh => hh e1
    have n1 : ¬ (o.1 = 1 ∧ (doA l o.1 o.2.1).b = false) := fun hh => by rw [e3] at hh; exact absurd hh.2 (by simp)
    have n2 : ¬ (o.1 = 3 ∧ (doA l o.1 o.2.1).b = true) := fun hh => by have := hh.1; omega
    simp only [if_neg n0, if_neg n1, if_neg n2]
    exact h.rest hcl e5
  · have n0 : ¬ (doA l o.1 o.2.1).e ≠ 0 := fun hh => hh e1
    have n1 : o.1 = 1 ∧ (doA l o.1 o.2.1).b = false := ⟨e2, e3⟩
    simp only [if_neg n0, if_pos n1]
    have hs := size_ins e4
    have h200 : s.t.size + 1 ≤ 200 := by
      have h1 : (pk (doL l o.1 o.2.1 o.2.2)).length = s.t.size + 1 := by rw [e5, ks_length, hs]
      simp only [pk, List.length_map] at h1
      omega
    refine ⟨⟨hcl, by rw [goP_ks, e5]⟩, ?_, ?_, ?_⟩
    · show GI _ (c.came + 1) c.went (max c.top (c.now + 1))
      rw [hnow]
      exact h.inv.put e4 h200
    · show c.now + 1 = _
      rw [goP_size e4, hnow]
    · intro h0
      obtain ⟨h1, h2⟩ := h.only h0
      show (goP s o.2.1).most = c.now + 1 ∧ max c.top (c.now + 1) = c.now + 1
      rw [goP_most, hs]
      omega
  · have n0 : ¬ (doA l o.1 o.2.1).e ≠ 0 := fun hh => hh e1
    have n1 : ¬ (o.1 = 1 ∧ (doA l o.1 o.2.1).b = false) := fun hh => by have := hh.1; omega
    have n2 : o.1 = 3 ∧ (doA l o.1 o.2.1).b = true := ⟨e2, e3⟩
    simp only [if_neg n0, if_neg n1, if_pos n2]
    have hsz := goC_size hu e4
    have h1 := h.inv.size
    have h2 := h.inv.most
    refine ⟨⟨hcl, by rw [goC_ks, e5]⟩, ?_, ?_, ?_⟩
    · show GI _ c.came (c.went + 1) (max c.top (c.now - 1))
      rw [show max c.top (c.now - 1) = c.top by omega]
      exact h.inv.cut e4
    · show c.now - 1 = _
      omega
    · intro h0
      exact absurd (show c.went + 1 = 0 from h0) (by omega)
  · have n0 : ¬ (doA l o.1 o.2.1).e ≠ 0 := fun hh => hh e1
    have n1 : ¬ (o.1 = 1 ∧ (doA l o.1 o.2.1).b = false) := fun hh => by have := hh.1; omega
    have n2 : ¬ (o.1 = 3 ∧ (doA l o.1 o.2.1).b = true) := fun hh => by rw [e3] at hh; exact absurd hh.2 (by simp)
    simp only [if_neg n0, if_neg n1, if_neg n2]
    exact h.rest hcl (by rw [e5])
  · have n1 : ¬ (o.1 = 1 ∧ (doA l o.1 o.2.1).b = false) := fun hh => e1 hh.1
    have n2 : ¬ (o.1 = 3 ∧ (doA l o.1 o.2.1).b = true) := fun hh => e2 hh.1
    by_cases he : (doA l o.1 o.2.1).e ≠ 0
    · rw [if_pos he, if_pos he, e3]
      exact h
    · simp only [if_neg he, if_neg n1, if_neg n2]
      exact h.rest hcl (by rw [e3])

def goL (ops : List OP) : GS × Cn × PL := ops.foldl (fun s o => (goR s.1 o (doA s.2.2 o.1 o.2.1), cnR s.2.1 o (doA s.2.2 o.1 o.2.1), doL s.2.2 o.1 o.2.1 o.2.2)) (⟨.nil, 0, 0⟩, ⟨0, 0, 0, 0⟩, [])
abbrev goT (ops : List OP) : GS := (goL ops).1
abbrev goN (ops : List OP) : Cn := (goL ops).2.1
theorem goL_run (ops : List OP) : (goL ops).2.2 = (runR ops).1 := by
  have h : ∀ (ops : List OP) (s : GS) (c : Cn) (l : PL) (z : List An), (ops.foldl (fun s o => (goR s.1 o (doA s.2.2 o.1 o.2.1), cnR s.2.1 o (doA s.2.2 o.1 o.2.1), doL s.2.2 o.1 o.2.1 o.2.2)) (s, c, l)).2.2 = (ops.foldl stepR (l, z)).1 := by
    intro ops
    induction ops with
    | nil => intro s c l z; rfl
    | cons o ops ih => intro s c l z; exact ih _ _ _ _
  exact h ops _ _ _ _
theorem goL_succ (ops : List OP) (k : Nat) (h : k < ops.length) :
    goT (ops.take (k + 1)) = goR (goT (ops.take k)) ops[k] (doA (runR (ops.take k)).1 ops[k].1 ops[k].2.1) ∧ goN (ops.take (k + 1)) = cnR (goN (ops.take k)) ops[k] (doA (runR (ops.take k)).1 ops[k].1 ops[k].2.1) := by
  rw [← goL_run]
  unfold goT goN
  rw [List.take_succ_eq_append_getElem h]
  unfold goL
  rw [List.foldl_append]
  exact ⟨rfl, rfl⟩
theorem go_inv (ops : List OP) : JI (goT ops) (goN ops) (runR ops).1 := by
  rw [← goL_run]
  have h : ∀ (ops : List OP) (s : GS) (c : Cn) (l : PL), JI s c l → JI (ops.foldl (fun s o => (goR s.1 o (doA s.2.2 o.1 o.2.1), cnR s.2.1 o (doA s.2.2 o.1 o.2.1), doL s.2.2 o.1 o.2.1 o.2.2)) (s, c, l)).1 (ops.foldl (fun s o => (goR s.1 o (doA s.2.2 o.1 o.2.1), cnR s.2.1 o (doA s.2.2 o.1 o.2.1), doL s.2.2 o.1 o.2.1 o.2.2)) (s, c, l)).2.1 (ops.foldl (fun s o => (goR s.1 o (doA s.2.2 o.1 o.2.1), cnR s.2.1 o (doA s.2.2 o.1 o.2.1), doL s.2.2 o.1 o.2.1 o.2.2)) (s, c, l)).2.2 := by
    intro ops
    induction ops with
    | nil => exact fun s c l hh => hh
    | cons o ops ih => exact fun s c l hh => ih _ _ _ (hh.step o)
  exact h ops _ _ _ JI.start
/-- GALPERIN, RIVEST: never deeper -/
theorem go_deep (ops : List OP) : (goT ops).t.tall ≤ dpst (goN ops).top + 1 ∧ ((goN ops).went = 0 → (goT ops).t.tall ≤ dpst (goT ops).t.size + 1) ∧ (goN ops).now = (goT ops).t.size := by
  have h := go_inv ops
  have h1 := h.inv.tall
  have h2 := dpst_mono h.inv.most
  refine ⟨by omega, fun h0 => ?_, h.now⟩
  rw [← h.now, ← (h.only h0).1]
  exact h1
/-- GALPERIN, RIVEST: no more is built -/
theorem go_work (ops : List OP) : (goT ops).built ≤ 6 * (((goN ops).came + (goN ops).went) * (dpst (goN ops).top + 2)) := by
  have h := (go_inv ops).inv.work
  have h1 : ((goN ops).came + (goN ops).went) * (dpst (goN ops).top + 1) ≤ ((goN ops).came + (goN ops).went) * (dpst (goN ops).top + 2) := Nat.mul_le_mul_left _ (by omega)
  omega

/-- an even tree is as low as it can be -/
theorem ev_low (l : List Int) : l.length + 1 ≤ 2 ^ (ev l).tall ∧ (0 < l.length → 2 ^ ((ev l).tall - 1) ≤ l.length) := by
  constructor
  · have := size_tall (ev l)
    rwa [ev_size] at this
  · intro h0
    apply Classical.byContradiction
    intro h
    have h1 := ev_tall ((ev l).tall - 1) l (by omega)
    have h2 : 0 < (ev l).tall := by
      rcases Nat.eq_zero_or_pos (ev l).tall with h3 | h3
      · have := size_tall (ev l)
        rw [h3, ev_size] at this
        omega
      · exact h3
    omega

end Go.Proofs.YtpnjnedfcdppaaaGreatDoor

/-
  ROWS AND PATHS, AS LISTS. Nothing of the program but a key's height.
-/
namespace Go.Proofs.YtpnjnedfcdppaaaGreatDoor

/-- may it be a key? -/
def kyB (k : Int) : Bool := decide (0 ≤ k ∧ k ≤ 1000000)
def okK (l : List Int) (i : Nat) : Prop := kyB (l[i]?.getD 0) = true ∧ (0 < i → l[i - 1]?.getD 0 < l[i]?.getD 0)
def okKs (l : List Int) (n : Nat) : Prop := ∀ i, i < n → okK l i
theorem okKs_succ {l : List Int} {n : Nat} (h : okKs l n) (h1 : okK l n) : okKs l (n + 1) := fun i hi => by
  rcases Nat.lt_or_ge i n with h2 | h2
  · exact h i h2
  · obtain rfl : i = n := by omega
    exact h1
open Classical in
/-- what Rows says of a list -/
noncomputable def chkK (l : List Int) : Int := if 200 < l.length then 2 else if okKs l l.length then 0 else 3
/-- keys that rise -/
structure Rise (l : List Int) : Prop where
  len : l.length ≤ 200
  pw : l.Pairwise (· < ·)
  bd : ∀ k ∈ l, 0 ≤ k ∧ k ≤ 1000000
theorem okKs_pw (l : List Int) (h : okKs l l.length) : l.Pairwise (· < ·) := by
  rw [List.pairwise_iff_getElem]
  have key : ∀ d i (hi : i + d + 1 < l.length), l[i]'(by omega) < l[i + d + 1] := by
    intro d
    induction d with
    | zero =>
      intro i hi
      have h1 := (h (i + 1) (by omega)).2 (by omega)
      simpa [List.getElem?_eq_getElem (show i < l.length by omega), List.getElem?_eq_getElem (show i + 1 < l.length by omega)] using h1
    | succ d ih =>
      intro i hi
      have h1 := ih i (by omega)
      have h2 := (h (i + (d + 1) + 1) (by omega)).2 (by omega)
      simp only [show i + (d + 1) + 1 - 1 = i + d + 1 by omega, List.getElem?_eq_getElem (show i + d + 1 < l.length by omega), List.getElem?_eq_getElem hi, Option.getD_some] at h2
      omega
  intro i j hi hj hij
  have := key (j - i - 1) i (by omega)
  simpa only [show i + (j - i - 1) + 1 = j by omega] using this
theorem okKs_iff (l : List Int) : okKs l l.length ↔ l.Pairwise (· < ·) ∧ ∀ k ∈ l, 0 ≤ k ∧ k ≤ 1000000 := by
  constructor
  · intro h
    refine ⟨okKs_pw l h, fun k hk => ?_⟩
    obtain ⟨i, hi, rfl⟩ := List.mem_iff_getElem.1 hk
    have := (h i hi).1
    simpa [kyB, List.getElem?_eq_getElem hi] using this
  · rintro ⟨h1, h2⟩ i hi
    refine ⟨?_, fun h0 => ?_⟩
    · have := h2 l[i] (List.getElem_mem hi)
      simpa [kyB, List.getElem?_eq_getElem hi] using this
    · have := List.pairwise_iff_getElem.1 h1 (i - 1) i (by omega) hi (by omega)
      simpa [List.getElem?_eq_getElem hi, List.getElem?_eq_getElem (show i - 1 < l.length by omega)] using this
theorem chkK_zero {l : List Int} : chkK l = 0 ↔ Rise l := by
  unfold chkK
  constructor
  · intro h
    split at h
    · cases h
    · split at h
      · rename_i h1 h2
        obtain ⟨h3, h4⟩ := (okKs_iff l).1 h2
        exact ⟨by omega, h3, h4⟩
      · cases h
  · rintro ⟨h1, h2, h3⟩
    rw [if_neg (by omega), if_pos ((okKs_iff l).2 ⟨h2, h3⟩)]

/-- the row r -/
def rowL (l : List Int) (r : Nat) : List Int := l.filter fun k => decide (r < ht k)
theorem rowL_zero (l : List Int) : rowL l 0 = l := List.filter_eq_self.2 fun k _ => by have := ht_pos k; simp; omega
theorem rowL_high (l : List Int) (r : Nat) (h : 12 ≤ r) : rowL l r = [] := List.filter_eq_nil_iff.2 fun k _ => by have := ht_le k; simp; omega
theorem rowL_succ (l : List Int) (r : Nat) : rowL l (r + 1) = (rowL l r).filter fun k => decide (r + 1 < ht k) := by
  unfold rowL
  rw [List.filter_filter]
  congr 1
  funext k
  by_cases h : r + 1 < ht k
  · simp [h]; omega
  · simp [h]
theorem rowL_sub (l : List Int) (r : Nat) : (rowL l (r + 1)).Sublist (rowL l r) := by rw [rowL_succ]; exact List.filter_sublist
theorem rowL_mono (l : List Int) {r s : Nat} (h : r ≤ s) (hs : rowL l s ≠ []) : rowL l r ≠ [] := by
  obtain ⟨k, hk⟩ := List.exists_mem_of_ne_nil _ hs
  unfold rowL at hk
  rw [List.mem_filter] at hk
  refine List.ne_nil_of_mem (a := k) ?_
  unfold rowL
  rw [List.mem_filter]
  exact ⟨hk.1, by have := hk.2; simp at *; omega⟩
theorem rowL_append (l : List Int) (k : Int) (r : Nat) : rowL (l ++ [k]) r = if r < ht k then rowL l r ++ [k] else rowL l r := by
  unfold rowL
  rw [List.filter_append]
  by_cases h : r < ht k <;> simp [h]
theorem rowL_pw {l : List Int} (h : l.Pairwise (· < ·)) (r : Nat) : (rowL l r).Pairwise (· < ·) := h.sublist List.filter_sublist
theorem rowL_len (l : List Int) (r : Nat) : (rowL l r).length ≤ l.length := List.length_filter_le _ _

/-- how many rows have keys -/
def hiTo (l : List Int) : Nat → Nat
  | 0 => 0
  | n + 1 => if rowL l n = [] then hiTo l n else n + 1
def hiR (l : List Int) : Nat := hiTo l 12
theorem hiTo_le (l : List Int) (n : Nat) : hiTo l n ≤ n := by
  induction n with
  | zero => exact Nat.le_refl _
  | succ n ih => unfold hiTo; split <;> omega
theorem hiTo_some (l : List Int) (n : Nat) : ∀ r, r < hiTo l n → rowL l r ≠ [] := by
  induction n with
  | zero => intro r h; simp [hiTo] at h
  | succ n ih =>
    intro r h
    unfold hiTo at h
    split at h
    · exact ih r h
    · rename_i h1
      exact rowL_mono l (by omega) h1
theorem hiTo_none (l : List Int) (n : Nat) : ∀ r, hiTo l n ≤ r → r < n → rowL l r = [] := by
  induction n with
  | zero => intro r _ h; omega
  | succ n ih =>
    intro r h h2
    unfold hiTo at h
    split at h
    · rename_i h1
      rcases Nat.lt_or_ge r n with h3 | h3
      · exact ih r h h3
      · obtain rfl : r = n := by omega
        exact h1
    · omega
theorem hiR_le (l : List Int) : hiR l ≤ 12 := hiTo_le l 12
theorem hiR_some (l : List Int) (r : Nat) (h : r < hiR l) : rowL l r ≠ [] := hiTo_some l 12 r h
theorem hiR_none (l : List Int) (r : Nat) (h : hiR l ≤ r) : rowL l r = [] := by
  rcases Nat.lt_or_ge r 12 with h1 | h1
  · exact hiTo_none l 12 r h h1
  · exact rowL_high l r h1
theorem hiR_pos (l : List Int) : 0 < hiR l ↔ l ≠ [] := by
  constructor
  · intro h
    have := hiR_some l 0 h
    rwa [rowL_zero] at this
  · intro h
    rcases Nat.eq_zero_or_pos (hiR l) with h0 | h0
    · have := hiR_none l 0 (by omega)
      rw [rowL_zero] at this
      exact absurd this h
    · exact h0
/-- all rows there may be; those that have keys -/
def towL (l : List Int) : List (List Int) := (List.range 12).map (rowL l)
def rowsL (l : List Int) : List (List Int) := (List.range (hiR l)).map (rowL l)
theorem towL_len (l : List Int) : (towL l).length = 12 := by simp [towL]
theorem rowsL_len (l : List Int) : (rowsL l).length = hiR l := by simp [rowsL]
theorem towL_at (l : List Int) (i : Nat) (h : i < 12) : (towL l)[i]? = some (rowL l i) := by simp [towL, h]
theorem rowsL_at (l : List Int) (i : Nat) (h : i < hiR l) : (rowsL l)[i]? = some (rowL l i) := by simp [rowsL, h]
theorem rowsL_take (l : List Int) : rowsL l = (towL l).take (hiR l) := by
  unfold rowsL towL
  rw [← List.map_take, List.take_range, Nat.min_eq_left (hiR_le l)]
theorem rowsL_nil : rowsL [] = [] := by
  have : hiR [] = 0 := by
    rcases Nat.eq_zero_or_pos (hiR []) with h | h
    · exact h
    · exact absurd rfl ((hiR_pos []).1 h)
  simp [rowsL, this]

/-- the greedy look for x in what comes -/
def gk (x : List Int) : Nat → List Int → Nat
  | k, [] => k
  | k, y :: t => gk x (if x[k]? = some y then k + 1 else k) t
theorem gk_sub (x : List Int) : ∀ (t : List Int) (k : Nat), k ≤ x.length → (x.drop k).Sublist t → gk x k t = x.length
  | [], k, hk, h => by
    have := List.sublist_nil.1 h
    have : (x.drop k).length = 0 := by rw [this]; rfl
    simp at this
    show k = _
    omega
  | y :: t, k, hk, h => by
    unfold gk
    by_cases he : x[k]? = some y
    · rw [if_pos he]
      obtain ⟨h1, h2⟩ := List.getElem?_eq_some_iff.1 he
      refine gk_sub x t (k + 1) (by omega) ?_
      rw [List.drop_eq_getElem_cons h1, h2] at h
      exact List.cons_sublist_cons.1 h
    · rw [if_neg he]
      refine gk_sub x t k hk ?_
      cases hd : x.drop k with
      | nil => exact List.nil_sublist _
      | cons z d =>
        rw [hd] at h
        have hz : x[k]? = some z := by
          have := congrArg (·[0]?) hd
          simpa [List.getElem?_drop] using this
        rcases List.sublist_cons_iff.1 h with h1 | ⟨r, h1, h2⟩
        · exact h1
        · injection h1 with h3 h4
          exact absurd (by rw [hz, h3]) he
theorem gk_snoc (x : List Int) : ∀ (t : List Int) (k : Nat) (y : Int), gk x k (t ++ [y]) = if x[gk x k t]? = some y then gk x k t + 1 else gk x k t
  | [], k, y => rfl
  | z :: t, k, y => by
    show gk x _ (t ++ [y]) = _
    rw [gk_snoc x t _ y]
    rfl
theorem gk_le (x : List Int) : ∀ (t : List Int) (k : Nat), k ≤ x.length → gk x k t ≤ x.length
  | [], k, h => h
  | y :: t, k, h => by
    unfold gk
    refine gk_le x t _ ?_
    split
    · rename_i h1
      have := (List.getElem?_eq_some_iff.1 h1).1
      omega
    · exact h

end Go.Proofs.YtpnjnedfcdppaaaGreatDoor

/-
  PATHS, AS LISTS. Nothing is walked here.
-/
namespace Go.Proofs.YtpnjnedfcdppaaaGreatDoor

/-- those of a row that are passed: more than a, less than key -/
def pas (L : List Int) (a key : Int) : List Int := L.filter fun k => decide (a < k ∧ k < key)
def lastD (f : List Int) (a : Int) : Int := f.getLast?.getD a
theorem lastD_nil (a : Int) : lastD [] a = a := rfl
theorem lastD_snoc (f : List Int) (x a : Int) : lastD (f ++ [x]) a = x := by simp [lastD]
theorem lastD_cases (f : List Int) (a : Int) : f = [] ∧ lastD f a = a ∨ ∃ g, f = g ++ [lastD f a] := by
  rcases List.eq_nil_or_concat f with h | ⟨g, x, h⟩
  · exact .inl ⟨h, by rw [h]; rfl⟩
  · refine .inr ⟨g, ?_⟩
    rw [h, List.concat_eq_append, lastD_snoc]
theorem lastD_mem (f : List Int) (a : Int) : lastD f a = a ∨ lastD f a ∈ f := by
  rcases lastD_cases f a with ⟨_, h⟩ | ⟨g, h⟩
  · exact .inl h
  · right
    have : lastD f a ∈ g ++ [lastD f a] := by simp
    rw [← h] at this
    exact this
theorem pas_mem {L : List Int} {a key k : Int} : k ∈ pas L a key ↔ k ∈ L ∧ a < k ∧ k < key := by simp [pas, and_assoc]
theorem lastD_ge (L : List Int) (a key : Int) : a ≤ lastD (pas L a key) a := by
  rcases lastD_mem (pas L a key) a with h | h
  · omega
  · have := (pas_mem.1 h).2
    omega
theorem pas_snoc (L : List Int) (j : Nat) (hj : j < L.length) (a key : Int) : pas (L.take (j + 1)) a key = if a < L[j] ∧ L[j] < key then pas (L.take j) a key ++ [L[j]] else pas (L.take j) a key := by
  rw [List.take_succ_eq_append_getElem hj]
  unfold pas
  rw [List.filter_append]
  by_cases h : a < L[j] ∧ L[j] < key
  · simp [h]
  · rw [if_neg h]
    have : List.filter (fun k => decide (a < k ∧ k < key)) [L[j]] = [] := by
      simp only [List.filter_cons, List.filter_nil]
      rw [if_neg (by simpa using h)]
    rw [this, List.append_nil]
theorem take_lt {L : List Int} (h : L.Pairwise (· < ·)) {j : Nat} (hj : j < L.length) {k : Int} (hk : k ∈ L.take j) : k < L[j] := by
  obtain ⟨i, hi, rfl⟩ := List.mem_iff_getElem.1 hk
  rw [List.length_take] at hi
  rw [List.getElem_take]
  exact List.pairwise_iff_getElem.1 h i j (by omega) hj (by omega)
theorem pas_gt {L : List Int} (h : L.Pairwise (· < ·)) {j : Nat} (hj : j < L.length) (a key : Int) : lastD (pas (L.take j) a key) a < L[j] ↔ a < L[j] := by
  constructor
  · intro h1
    have := lastD_ge (L.take j) a key
    omega
  · intro h1
    rcases lastD_mem (pas (L.take j) a key) a with h2 | h2
    · omega
    · exact take_lt h hj (pas_mem.1 h2).1
theorem pas_stop {L : List Int} (h : L.Pairwise (· < ·)) {j : Nat} (hj : j < L.length) {a key : Int} (hk : key ≤ L[j]) : pas (L.take j) a key = pas L a key := by
  conv => rhs; rw [← List.take_append_drop j L]
  unfold pas
  rw [List.filter_append]
  have : List.filter (fun k => decide (a < k ∧ k < key)) (L.drop j) = [] := by
    rw [List.filter_eq_nil_iff]
    intro k hk2
    obtain ⟨i, hi, rfl⟩ := List.mem_iff_getElem.1 hk2
    rw [List.getElem_drop]
    have hle : L[j] ≤ L[j + i]'(by rw [List.length_drop] at hi; omega) := by
      rcases Nat.eq_zero_or_pos i with h0 | h0
      · subst h0; exact Int.le_refl _
      · exact Int.le_of_lt (List.pairwise_iff_getElem.1 h j (j + i) hj (by rw [List.length_drop] at hi; omega) (by omega))
    simp
    omega
  rw [this, List.append_nil]

/-- behind the m highest rows: the stops, and where one is -/
def stTo (l : List Int) (key : Int) : Nat → PL × Int
  | 0 => ([], -1)
  | m + 1 => ((stTo l key m).1 ++ (pas (rowL l (11 - m)) (stTo l key m).2 key).map (fun k => ((11 : Int) - m, k)), lastD (pas (rowL l (11 - m)) (stTo l key m).2 key) (stTo l key m).2)
def stops (l : List Int) (key : Int) : PL := (stTo l key 12).1

structure Pin (l : List Int) (key : Int) (m : Nat) (p : PL) (a : Int) : Prop where
  pw : p.Pairwise fun x y => x.2 < y.2 ∧ y.1 ≤ x.1
  each : ∀ s ∈ p, s.1 = (ht s.2 : Int) - 1 ∧ s.2 ∈ l ∧ s.2 < key ∧ s.2 ≤ a ∧ (12 : Int) - m ≤ s.1
  low : -1 ≤ a
  last : p = [] ∧ a = -1 ∨ ∃ q r, p = q ++ [(r, a)]
  met : ∀ k ∈ l, k < key → 12 - m < ht k → k ≤ a
theorem stTo_pin {l : List Int} (hR : Rise l) (key : Int) : ∀ m, m ≤ 12 → Pin l key m (stTo l key m).1 (stTo l key m).2
  | 0, _ => ⟨List.Pairwise.nil, fun s h => absurd h (by simp [stTo]), by simp [stTo], .inl ⟨rfl, rfl⟩, fun k _ _ h => by have := ht_le k; omega⟩
  | m + 1, hm => by
    have ih := stTo_pin hR key m (by omega)
    show Pin l key (m + 1) ((stTo l key m).1 ++ (pas (rowL l (11 - m)) (stTo l key m).2 key).map (fun k => ((11 : Int) - m, k))) (lastD (pas (rowL l (11 - m)) (stTo l key m).2 key) (stTo l key m).2)
    generalize (stTo l key m).1 = p at ih ⊢
    generalize (stTo l key m).2 = a at ih ⊢
    obtain ⟨f, hf⟩ : ∃ f, pas (rowL l (11 - m)) a key = f := ⟨_, rfl⟩
    have hmem : ∀ k, k ∈ f → k ∈ l ∧ ht k = 12 - m ∧ a < k ∧ k < key := fun k hk => by
      rw [← hf, pas_mem] at hk
      obtain ⟨h1, h2, h3⟩ := hk
      unfold rowL at h1
      rw [List.mem_filter] at h1
      obtain ⟨h4, h5⟩ := h1
      simp at h5
      refine ⟨h4, ?_, h2, h3⟩
      rcases Nat.lt_or_ge (12 - m) (ht k) with h6 | h6
      · have := ih.met k h4 h3 h6
        omega
      · omega
    have hfp : f.Pairwise (· < ·) := by rw [← hf]; exact (rowL_pw hR.pw _).sublist List.filter_sublist
    have hge : a ≤ lastD f a := by rw [← hf]; exact lastD_ge _ _ _
    have hall : ∀ k ∈ f, k ≤ lastD f a := fun k hk => by
      rcases lastD_cases f a with ⟨h0, _⟩ | ⟨g, hg⟩
      · rw [h0] at hk; cases hk
      · obtain ⟨z, hz⟩ : ∃ z, lastD f a = z := ⟨_, rfl⟩
        rw [hz] at hg ⊢
        rw [hg, List.mem_append, List.mem_singleton] at hk
        rcases hk with hk | hk
        · rw [hg, List.pairwise_append] at hfp
          exact Int.le_of_lt (hfp.2.2 k hk z (by simp))
        · omega
    rw [hf]
    refine ⟨?_, ?_, ?_, ?_, ?_⟩
    · rw [List.pairwise_append, List.pairwise_map]
      refine ⟨ih.pw, hfp.imp fun h => ⟨h, Int.le_refl _⟩, fun x hx y hy => ?_⟩
      obtain ⟨k, hk, rfl⟩ := List.mem_map.1 hy
      have h1 := ih.each x hx
      have h2 := hmem k hk
      exact ⟨by show x.2 < k; omega, by show (11 : Int) - m ≤ x.1; omega⟩
    · intro s hs
      rcases List.mem_append.1 hs with hs | hs
      · have h1 := ih.each s hs
        exact ⟨h1.1, h1.2.1, h1.2.2.1, by omega, by omega⟩
      · obtain ⟨k, hk, rfl⟩ := List.mem_map.1 hs
        have h2 := hmem k hk
        exact ⟨by show (11 : Int) - m = (ht k : Int) - 1; omega, h2.1, h2.2.2.2, hall k hk, by show (12 : Int) - ((m + 1 : Nat) : Int) ≤ 11 - m; omega⟩
    · have := ih.low
      omega
    · rcases lastD_cases f a with ⟨h0, h1⟩ | ⟨g, hg⟩
      · rw [h1, h0]
        simpa using ih.last
      · refine .inr ⟨p ++ g.map (fun k => ((11 : Int) - m, k)), (11 : Int) - m, ?_⟩
        conv => lhs; rw [hg]
        rw [List.map_append, List.append_assoc]
        rfl
    · intro k hk h1 h2
      rcases Int.lt_or_le a k with h3 | h3
      · refine hall k ?_
        rw [← hf, pas_mem]
        refine ⟨?_, h3, h1⟩
        unfold rowL
        rw [List.mem_filter]
        exact ⟨hk, by simp; omega⟩
      · omega
theorem stops_pin {l : List Int} (hR : Rise l) (key : Int) : Pin l key 12 (stops l key) (stTo l key 12).2 := stTo_pin hR key 12 (Nat.le_refl _)
theorem pas_len (L : List Int) (a key : Int) : (pas L a key).length ≤ L.length := List.length_filter_le _ _
theorem stTo_len (l : List Int) (key : Int) (m : Nat) : (stTo l key m).1.length ≤ m * l.length := by
  induction m with
  | zero => simp [stTo]
  | succ m ih =>
    show ((stTo l key m).1 ++ _).length ≤ _
    rw [List.length_append, List.length_map, Nat.succ_mul]
    have h1 := pas_len (rowL l (11 - m)) (stTo l key m).2 key
    have h2 := rowL_len l (11 - m)
    omega

/-- the last one of all that is less -/
def blwK (l : List Int) (key : Int) : Int := l.foldl (fun b k => if k < key then k else b) (-1)
theorem blwK_succ (l : List Int) (key : Int) (k : Nat) (h : k < l.length) : blwK (l.take (k + 1)) key = if l[k] < key then l[k] else blwK (l.take k) key := by
  rw [List.take_succ_eq_append_getElem h, blwK, List.foldl_append]
  rfl
theorem blwK_last (key : Int) : ∀ (l : List Int) (b : Int), l.foldl (fun b k => if k < key then k else b) b = lastD (l.filter fun k => decide (k < key)) b
  | [], b => rfl
  | k :: t, b => by
    rw [List.foldl_cons, blwK_last key t]
    by_cases h : k < key
    · rw [if_pos h, List.filter_cons_of_pos (by simpa using h)]
      rcases List.eq_nil_or_concat (t.filter fun k => decide (k < key)) with e | ⟨g, x, e⟩
      · rw [e]; rfl
      · rw [e, List.concat_eq_append, lastD_snoc, ← List.cons_append, lastD_snoc]
    · rw [if_neg h, List.filter_cons_of_neg (by simpa using h)]
theorem blwK_is {l : List Int} (hR : Rise l) (key : Int) : blwK l key = (stTo l key 12).2 := by
  have hp := stops_pin hR key
  generalize (stTo l key 12).2 = a at hp ⊢
  unfold blwK
  rw [blwK_last]
  have hmet : ∀ k ∈ l, k < key → k ≤ a := fun k hk h => hp.met k hk h (by have := ht_pos k; omega)
  have hfp : (l.filter fun k => decide (k < key)).Pairwise (· < ·) := hR.pw.sublist List.filter_sublist
  rcases hp.last with ⟨h0, h1⟩ | ⟨q, r, h0⟩
  · subst h1
    have : (l.filter fun k => decide (k < key)) = [] := by
      rw [List.filter_eq_nil_iff]
      intro k hk h
      have := hmet k hk (by simpa using h)
      have := (hR.bd k hk).1
      omega
    rw [this]
    rfl
  · have ha := hp.each (r, a) (by rw [h0]; simp)
    have hin : a ∈ l.filter fun k => decide (k < key) := by
      rw [List.mem_filter]
      exact ⟨ha.2.1, by simpa using ha.2.2.1⟩
    rcases lastD_cases (l.filter fun k => decide (k < key)) (-1) with ⟨e, _⟩ | ⟨g, e⟩
    · rw [e] at hin; cases hin
    · obtain ⟨z, hz⟩ : ∃ z, lastD (l.filter fun k => decide (k < key)) (-1) = z := ⟨_, rfl⟩
      rw [hz] at e ⊢
      have hzl : z ∈ l.filter fun k => decide (k < key) := by rw [e]; simp
      rw [List.mem_filter] at hzl
      have h3 := hmet z hzl.1 (by simpa using hzl.2)
      rw [e, List.mem_append, List.mem_singleton] at hin
      rcases hin with hin | hin
      · rw [e, List.pairwise_append] at hfp
        have := hfp.2.2 a hin z (by simp)
        omega
      · omega
end Go.Proofs.YtpnjnedfcdppaaaGreatDoor
