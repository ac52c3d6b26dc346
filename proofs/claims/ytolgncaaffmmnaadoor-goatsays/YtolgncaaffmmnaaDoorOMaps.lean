/-
  TREES THAT ARE BUILT ANEW, AND THE MAP, side by side: lists and trees alone.
-/
import Derived.Test.YtolgncaaffmmnaaDoorGMapsAll
import Derived.Test.YtolgncaaffmmnaaDoorOPure
namespace Go.Proofs.YtolgncaaffmmnaaDoor

/-- what an op comes to: what tells an error does nothing -/
def goR (s : GS) (o : OP) (a : An) : GS := if a.e ≠ 0 then s else if o.1 = 1 ∧ a.b = false then goP s o.2.1 else if o.1 = 3 ∧ a.b = true then goC s o.2.1 else s
/-- how many came and went, are there, and were there at the most -/
structure Cn where
  came : Nat
  went : Nat
  now : Nat
  top : Nat
def cnR (c : Cn) (o : OP) (a : An) : Cn :=
  if a.e ≠ 0 then c
  else if o.1 = 1 ∧ a.b = false then ⟨c.came + 1, c.went, c.now + 1, max c.top (c.now + 1)⟩
  else if o.1 = 3 ∧ a.b = true then ⟨c.came, c.went + 1, c.now - 1, max c.top (c.now - 1)⟩
  else ⟨c.came, c.went, c.now, max c.top c.now⟩
theorem goP_ks (s : GS) (x : Int) : (goP s x).t.ks = (s.t.ins x).ks := by
  unfold goP
  split
  · split
    · rename_i p hp
      exact reb_ks hp
    · rfl
  · rfl
theorem goP_most (s : GS) (x : Int) : (goP s x).most = max s.most (s.t.ins x).size := by
  unfold goP
  split
  · split <;> rfl
  · rfl
theorem goC_ks (s : GS) (x : Int) : (goC s x).t.ks = (s.t.del x).ks := by
  unfold goC
  split
  · exact ev_ks _ _ (Nat.le_refl _)
  · rfl
theorem goP_size {s : GS} {x : Int} (h : x ∉ s.t.ks) : (goP s x).t.size = s.t.size + 1 := by rw [← ks_length, goP_ks, ks_length, size_ins h]
theorem goC_size {s : GS} {x : Int} (hu : Up s.t.ks) (h : x ∈ s.t.ks) : (goC s x).t.size + 1 = s.t.size := by
  rw [← ks_length, goC_ks, ks_length]
  exact (del_all hu h).1

/-- all that holds op by op -/
structure JI (s : GS) (c : Cn) (l : PL) : Prop where
  same : Same s.t l
  inv : GI s c.came c.went c.top
  now : c.now = s.t.size
  only : c.went = 0 → s.most = c.now ∧ c.top = c.now
theorem JI.start : JI ⟨.nil, 0, 0⟩ ⟨0, 0, 0, 0⟩ [] := ⟨same_nil, GI.start, rfl, fun _ => ⟨rfl, rfl⟩⟩
theorem JI.rest {s : GS} {c : Cn} {l l' : PL} (h : JI s c l) (hc : chk l' = 0) (hl : pk l' = pk l) : JI s ⟨c.came, c.went, c.now, max c.top c.now⟩ l' := by
  have e : max c.top c.now = c.top := by
    have h1 := h.inv.size
    have h2 := h.inv.most
    have h3 := h.now
    omega
  rw [e]
  exact ⟨⟨hc, by rw [hl]; exact h.same.ks⟩, h.inv, h.now, h.only⟩
theorem JI.step {s : GS} {c : Cn} {l : PL} (h : JI s c l) (o : OP) : JI (goR s o (doA l o.1 o.2.1)) (cnR c o (doA l o.1 o.2.1)) (doL l o.1 o.2.1 o.2.2) := by
  have hu := h.same.up
  have hcl := chk_doL h.same.chk o.1 o.2.1 o.2.2
  have hln := ((chk_zero _).1 hcl).1
  have hnow := h.now
  unfold goR cnR
  rcases h.same.ways o.1 o.2.1 o.2.2 with ⟨e1, e2⟩ | ⟨e1, e2, e3, e4, e5⟩ | ⟨e1, e2, e3, e4, e5⟩ | ⟨e1, e2, e3, e4, e5⟩ | ⟨e1, e2, e3, e4, e5⟩ | ⟨e1, e2, e3⟩
  · rw [if_pos e2, if_pos e2, e1]
    exact h
  · have n0 : ¬ (doA l o.1 o.2.1).e ≠ 0 := fun hh => hh e1
    have n1 : ¬ (o.1 = 1 ∧ (doA l o.1 o.2.1).b = false) := fun hh => by rw [e3] at hh; exact absurd hh.2 (by simp)
    have n2 : ¬ (o.1 = 3 ∧ (doA l o.1 o.2.1).b = true) := fun hh => by have := hh.1; omega
    simp only [if_neg n0, if_neg n1, if_neg n2]
    exact h.rest hcl e5
  · have n0 : ¬ (doA l o.1 o.2.1).e ≠ 0 := fun hh => hh e1
    have n1 : o.1 = 1 ∧ (doA l o.1 o.2.1).b = false := ⟨e2, e3⟩
    simp only [if_neg n0, if_pos n1]
    have hs := size_ins e4
    have h200 : s.t.size + 1 ≤ 200 := by
      have h1 : (pk (doL l o.1 o.2.1 o.2.2)).length = s.t.size + 1 := by rw [e5, ks_length, hs]
      simp only [pk, List.length_map] at h1
      omega
    refine ⟨⟨hcl, by rw [goP_ks, e5]⟩, ?_, ?_, ?_⟩
    · show GI _ (c.came + 1) c.went (max c.top (c.now + 1))
      rw [hnow]
      exact h.inv.put e4 h200
    · show c.now + 1 = _
      rw [goP_size e4, hnow]
    · intro h0
      obtain ⟨h1, h2⟩ := h.only h0
      show (goP s o.2.1).most = c.now + 1 ∧ max c.top (c.now + 1) = c.now + 1
      rw [goP_most, hs]
      omega
  · have n0 : ¬ (doA l o.1 o.2.1).e ≠ 0 := fun hh => hh e1
    have n1 : ¬ (o.1 = 1 ∧ (doA l o.1 o.2.1).b = false) := fun hh => by have := hh.1; omega
    have n2 : o.1 = 3 ∧ (doA l o.1 o.2.1).b = true := ⟨e2, e3⟩
    simp only [if_neg n0, if_neg n1, if_pos n2]
    have hsz := goC_size hu e4
    have h1 := h.inv.size
    have h2 := h.inv.most
    refine ⟨⟨hcl, by rw [goC_ks, e5]⟩, ?_, ?_, ?_⟩
    · show GI _ c.came (c.went + 1) (max c.top (c.now - 1))
      rw [show max c.top (c.now - 1) = c.top by omega]
      exact h.inv.cut e4
    · show c.now - 1 = _
      omega
    · intro h0
      exact absurd (show c.went + 1 = 0 from h0) (by omega)
  · have n0 : ¬ (doA l o.1 o.2.1).e ≠ 0 := fun hh => hh e1
    have n1 : ¬ (o.1 = 1 ∧ (doA l o.1 o.2.1).b = false) := fun hh => by have := hh.1; omega
    have n2 : ¬ (o.1 = 3 ∧ (doA l o.1 o.2.1).b = true) := fun hh => by rw [e3] at hh; exact absurd hh.2 (by simp)
    simp only [if_neg n0, if_neg n1, if_neg n2]
    exact h.rest hcl (by rw [e5])
  · have n1 : ¬ (o.1 = 1 ∧ (doA l o.1 o.2.1).b = false) := fun hh => e1 hh.1
    have n2 : ¬ (o.1 = 3 ∧ (doA l o.1 o.2.1).b = true) := fun hh => e2 hh.1
    by_cases he : (doA l o.1 o.2.1).e ≠ 0
    · rw [if_pos he, if_pos he, e3]
      exact h
    · simp only [if_neg he, if_neg n1, if_neg n2]
      exact h.rest hcl (by rw [e3])

def goL (ops : List OP) : GS × Cn × PL := ops.foldl (fun s o => (goR s.1 o (doA s.2.2 o.1 o.2.1), cnR s.2.1 o (doA s.2.2 o.1 o.2.1), doL s.2.2 o.1 o.2.1 o.2.2)) (⟨.nil, 0, 0⟩, ⟨0, 0, 0, 0⟩, [])
abbrev goT (ops : List OP) : GS := (goL ops).1
abbrev goN (ops : List OP) : Cn := (goL ops).2.1
theorem goL_run (ops : List OP) : (goL ops).2.2 = (runR ops).1 := by
  have h : ∀ (ops : List OP) (s : GS) (c : Cn) (l : PL) (z : List An), (ops.foldl (fun s o => (goR s.1 o (doA s.2.2 o.1 o.2.1), cnR s.2.1 o (doA s.2.2 o.1 o.2.1), doL s.2.2 o.1 o.2.1 o.2.2)) (s, c, l)).2.2 = (ops.foldl stepR (l, z)).1 := by
    intro ops
    induction ops with
    | nil => intro s c l z; rfl
    | cons o ops ih => intro s c l z; exact ih _ _ _ _
  exact h ops _ _ _ _
theorem goL_succ (ops : List OP) (k : Nat) (h : k < ops.length) :
    goT (ops.take (k + 1)) = goR (goT (ops.take k)) ops[k] (doA (runR (ops.take k)).1 ops[k].1 ops[k].2.1) ∧ goN (ops.take (k + 1)) = cnR (goN (ops.take k)) ops[k] (doA (runR (ops.take k)).1 ops[k].1 ops[k].2.1) := by
  rw [← goL_run]
  unfold goT goN
  rw [List.take_succ_eq_append_getElem h]
  unfold goL
  rw [List.foldl_append]
  exact ⟨rfl, rfl⟩
theorem go_inv (ops : List OP) : JI (goT ops) (goN ops) (runR ops).1 := by
  rw [← goL_run]
  have h : ∀ (ops : List OP) (s : GS) (c : Cn) (l : PL), JI s c l → JI (ops.foldl (fun s o => (goR s.1 o (doA s.2.2 o.1 o.2.1), cnR s.2.1 o (doA s.2.2 o.1 o.2.1), doL s.2.2 o.1 o.2.1 o.2.2)) (s, c, l)).1 (ops.foldl (fun s o => (goR s.1 o (doA s.2.2 o.1 o.2.1), cnR s.2.1 o (doA s.2.2 o.1 o.2.1), doL s.2.2 o.1 o.2.1 o.2.2)) (s, c, l)).2.1 (ops.foldl (fun s o => (goR s.1 o (doA s.2.2 o.1 o.2.1), cnR s.2.1 o (doA s.2.2 o.1 o.2.1), doL s.2.2 o.1 o.2.1 o.2.2)) (s, c, l)).2.2 := by
    intro ops
    induction ops with
    | nil => exact fun s c l hh => hh
    | cons o ops ih => exact fun s c l hh => ih _ _ _ (hh.step o)
  exact h ops _ _ _ JI.start
/-- GALPERIN, RIVEST: never deeper -/
theorem go_deep (ops : List OP) : (goT ops).t.tall ≤ dpst (goN ops).top + 1 ∧ ((goN ops).went = 0 → (goT ops).t.tall ≤ dpst (goT ops).t.size + 1) ∧ (goN ops).now = (goT ops).t.size := by
  have h := go_inv ops
  have h1 := h.inv.tall
  have h2 := dpst_mono h.inv.most
  refine ⟨by omega, fun h0 => ?_, h.now⟩
  rw [← h.now, ← (h.only h0).1]
  exact h1
/-- GALPERIN, RIVEST: no more is built -/
theorem go_work (ops : List OP) : (goT ops).built ≤ 6 * (((goN ops).came + (goN ops).went) * (dpst (goN ops).top + 2)) := by
  have h := (go_inv ops).inv.work
  have h1 : ((goN ops).came + (goN ops).went) * (dpst (goN ops).top + 1) ≤ ((goN ops).came + (goN ops).went) * (dpst (goN ops).top + 2) := Nat.mul_le_mul_left _ (by omega)
  omega

/-- the greatest Depth is one less than the levels -/
theorem sp_tall (t : Tr) : ∀ d i, i < t.size → dp (t.sp d) i < d + t.tall := by
  induction t with
  | nil => intro d i h; simp [Tr.size] at h
  | node a k b iha ihb =>
    intro d i h
    simp only [Tr.size] at h
    simp only [Tr.sp, Tr.tall]
    rcases Nat.lt_trichotomy i a.size with h1 | h1 | h1
    · rw [dp_left (by rw [sp_length]; exact h1)]
      have := iha (d + 1) i h1
      omega
    · have := dp_mid (a.sp (d + 1)) (b.sp (d + 1)) (k, d)
      rw [sp_length] at this
      rw [h1, this]
      show d < _
      omega
    · rw [dp_right (by rw [sp_length]; omega), sp_length]
      have e : dp ((k, d) :: b.sp (d + 1)) (i - a.size) = dp (b.sp (d + 1)) (i - a.size - 1) := by
        obtain ⟨m, hm⟩ : ∃ m, i - a.size = m + 1 := ⟨i - a.size - 1, by omega⟩
        rw [hm]; simp [dp]
      rw [e]
      have := ihb (d + 1) (i - a.size - 1) (by omega)
      omega
theorem sp_tall_has (t : Tr) : ∀ d, 0 < t.size → ∃ i, i < t.size ∧ dp (t.sp d) i + 1 = d + t.tall := by
  induction t with
  | nil => intro d h; simp [Tr.size] at h
  | node a k b iha ihb =>
    intro d _
    have hmid : dp ((Tr.node a k b).sp d) a.size = d := (sp_root a b k d).1
    by_cases ha : a.tall = 0 ∧ b.tall = 0
    · refine ⟨a.size, by simp only [Tr.size]; omega, ?_⟩
      rw [hmid, Tr.tall]
      omega
    · have pos : ∀ s : Tr, 0 < s.tall → 0 < s.size := fun s hs => by
        cases s with
        | nil => simp [Tr.tall] at hs
        | node x y z => simp only [Tr.size]; omega
      by_cases hab : b.tall ≤ a.tall
      · obtain ⟨i, hi, he⟩ := iha (d + 1) (pos a (by omega))
        refine ⟨i, by simp only [Tr.size]; omega, ?_⟩
        simp only [Tr.sp, Tr.tall]
        rw [dp_left (by rw [sp_length]; exact hi)]
        omega
      · obtain ⟨i, hi, he⟩ := ihb (d + 1) (pos b (by omega))
        refine ⟨a.size + 1 + i, by simp only [Tr.size]; omega, ?_⟩
        simp only [Tr.sp, Tr.tall]
        rw [dp_right (by rw [sp_length]; omega), sp_length]
        have e : dp ((k, d) :: b.sp (d + 1)) (a.size + 1 + i - a.size) = dp (b.sp (d + 1)) i := by
          rw [show a.size + 1 + i - a.size = i + 1 by omega]
          simp [dp]
        rw [e]
        omega
/-- an even tree is as low as it can be -/
theorem ev_low (l : List Int) : l.length + 1 ≤ 2 ^ (ev l).tall ∧ (0 < l.length → 2 ^ ((ev l).tall - 1) ≤ l.length) := by
  constructor
  · have := size_tall (ev l)
    rwa [ev_size] at this
  · intro h0
    apply Classical.byContradiction
    intro h
    have h1 := ev_tall ((ev l).tall - 1) l (by omega)
    have h2 : 0 < (ev l).tall := by
      rcases Nat.eq_zero_or_pos (ev l).tall with h3 | h3
      · have := size_tall (ev l)
        rw [h3, ev_size] at this
        omega
      · exact h3
    omega

end Go.Proofs.YtolgncaaffmmnaaDoor
