/-
  PARTS OF TREES, WHO STANDS ABOVE, TURNS: plain mathematics. Nothing of the program.
-/
import Derived.Test.YtfmdpmebllepeaaSTree
namespace Go.Proofs.Ytfmdpmebllepeaa

/-- around a part whose top is at depth d: what is ahead of it, what is behind it -/
inductive Ctx (d0 : Int) : Int → PL → PL → Prop
  | hole : Ctx d0 d0 [] []
  | left {d : Int} {pre post : PL} (k : Int) (b : Tr) : Ctx d0 d pre post → Ctx d0 (d + 1) pre ((k, d) :: b.sp (d + 1) ++ post)
  | right {d : Int} {pre post : PL} (a : Tr) (k : Int) : Ctx d0 d pre post → Ctx d0 (d + 1) (pre ++ a.sp (d + 1) ++ [(k, d)]) post

theorem Ctx.fill {d0 d : Int} {pre post : PL} (h : Ctx d0 d pre post) : ∀ s : Tr, ∃ t : Tr, t.sp d0 = pre ++ s.sp d ++ post := by
  induction h with
  | hole => intro s; exact ⟨s, by simp⟩
  | left k b _ ih => intro s; obtain ⟨t, ht⟩ := ih (.node s k b); exact ⟨t, by rw [ht]; simp [Tr.sp]⟩
  | right a k _ ih => intro s; obtain ⟨t, ht⟩ := ih (.node a k s); exact ⟨t, by rw [ht]; simp [Tr.sp]⟩
theorem Ctx.ahead {d0 d : Int} {pre post : PL} (h : Ctx d0 d pre post) : 0 < pre.length → dp pre (pre.length - 1) < d := by
  induction h with
  | hole => intro h; simp at h
  | left k b _ ih => intro h; have := ih h; omega
  | right a k _ ih =>
    rename_i d pre post _
    intro _
    have := dp_mid (pre ++ a.sp (d + 1)) [] (k, d)
    have e : (pre ++ a.sp (d + 1) ++ [(k, d)]).length - 1 = (pre ++ a.sp (d + 1)).length := by simp
    rw [e, this]
    show d < d + 1
    omega
theorem Ctx.behind {d0 d : Int} {pre post : PL} (h : Ctx d0 d pre post) : 0 < post.length → dp post 0 < d := by
  induction h with
  | hole => intro h; simp at h
  | left k b _ ih => rename_i d pre post _; intro _; show d < d + 1; omega
  | right a k _ ih => intro h; have := ih h; omega
theorem Ctx.ge {d0 d : Int} {pre post : PL} (h : Ctx d0 d pre post) : d0 ≤ d := by
  induction h with
  | hole => exact Int.le_refl _
  | left k b _ ih => omega
  | right a k _ ih => omega

/-- place i of l is the top of the part 'node a k b' -/
structure At (l : PL) (i : Nat) (d : Int) (a : Tr) (k : Int) (b : Tr) (pre post : PL) : Prop where
  ctx : Ctx 0 d pre post
  eq : l = pre ++ (Tr.node a k b).sp d ++ post
  idx : i = pre.length + a.size

theorem find_at : ∀ (t : Tr) (d : Int) (pre post : PL), Ctx 0 d pre post → ∀ i, i < t.size → ∃ d' a k b pre' post', At (pre ++ t.sp d ++ post) (pre.length + i) d' a k b pre' post' := by
  intro t
  induction t with
  | nil => intro d pre post _ i hi; simp [Tr.size] at hi
  | node a k b iha ihb =>
    intro d pre post hc i hi
    simp only [Tr.size] at hi
    rcases Nat.lt_trichotomy i a.size with h1 | h1 | h1
    · obtain ⟨d', a', k', b', pre', post', h⟩ := iha (d + 1) pre ((k, d) :: b.sp (d + 1) ++ post) (.left k b hc) i h1
      refine ⟨d', a', k', b', pre', post', ?_⟩
      have e : pre ++ a.sp (d + 1) ++ ((k, d) :: b.sp (d + 1) ++ post) = pre ++ (Tr.node a k b).sp d ++ post := by simp [Tr.sp]
      rw [e] at h
      exact h
    · exact ⟨d, a, k, b, pre, post, hc, rfl, by omega⟩
    · obtain ⟨d', a', k', b', pre', post', h⟩ := ihb (d + 1) (pre ++ a.sp (d + 1) ++ [(k, d)]) post (.right a k hc) (i - a.size - 1) (by omega)
      refine ⟨d', a', k', b', pre', post', ?_⟩
      have e : pre ++ a.sp (d + 1) ++ [(k, d)] ++ b.sp (d + 1) ++ post = pre ++ (Tr.node a k b).sp d ++ post := by simp [Tr.sp]
      have e2 : (pre ++ a.sp (d + 1) ++ [(k, d)]).length + (i - a.size - 1) = pre.length + i := by simp [sp_length]; omega
      rw [e, e2] at h
      exact h
theorem at_of {l : PL} {t : Tr} (h : l = t.sp 0) {i : Nat} (hi : i < l.length) : ∃ d a k b pre post, At l i d a k b pre post := by
  have := find_at t 0 [] [] .hole i (by rw [h, sp_length] at hi; exact hi)
  simp only [List.nil_append, List.append_nil, List.length_nil, Nat.zero_add] at this
  rw [← h] at this
  exact this

theorem dp_in3 (x y z : PL) (j : Nat) (h1 : x.length ≤ j) (h2 : j < x.length + y.length) : dp (x ++ y ++ z) j = dp y (j - x.length) := by
  rw [dp_left (by simp; omega), dp_right h1]
theorem ky_in3 (x y z : PL) (j : Nat) (h1 : x.length ≤ j) (h2 : j < x.length + y.length) : ky (x ++ y ++ z) j = ky y (j - x.length) := by
  rw [ky_left (by simp; omega), ky_right h1]

theorem At.len {l : PL} {i : Nat} {d : Int} {a : Tr} {k : Int} {b : Tr} {pre post : PL} (h : At l i d a k b pre post) : l.length = pre.length + (a.size + 1 + b.size) + post.length := by
  rw [h.eq]; simp [sp_length, Tr.size]; omega
theorem At.root {l : PL} {i : Nat} {d : Int} {a : Tr} {k : Int} {b : Tr} {pre post : PL} (h : At l i d a k b pre post) : dp l i = d ∧ ky l i = k := by
  have hr := sp_root a b k d
  rw [h.eq, h.idx]
  constructor
  · rw [dp_in3 _ _ _ _ (by omega) (by simp [sp_length, Tr.size]; omega), Nat.add_sub_cancel_left]; exact hr.1
  · rw [ky_in3 _ _ _ _ (by omega) (by simp [sp_length, Tr.size]; omega), Nat.add_sub_cancel_left]; exact hr.2
theorem At.inside {l : PL} {i : Nat} {d : Int} {a : Tr} {k : Int} {b : Tr} {pre post : PL} (h : At l i d a k b pre post) (j : Nat) (h1 : pre.length ≤ j) (h2 : j < pre.length + (a.size + 1 + b.size)) (hne : j ≠ i) : d < dp l j := by
  rw [h.eq, dp_in3 _ _ _ _ h1 (by simp [sp_length, Tr.size]; omega)]
  exact sp_gt a b k d _ (by simp [Tr.size]; omega) (by have := h.idx; omega)
theorem At.ahead {l : PL} {i : Nat} {d : Int} {a : Tr} {k : Int} {b : Tr} {pre post : PL} (h : At l i d a k b pre post) (h0 : 0 < pre.length) : dp l (pre.length - 1) = dp pre (pre.length - 1) := by
  rw [h.eq, List.append_assoc, dp_left (by omega)]
theorem At.behind {l : PL} {i : Nat} {d : Int} {a : Tr} {k : Int} {b : Tr} {pre post : PL} (h : At l i d a k b pre post) : dp l (pre.length + (a.size + 1 + b.size)) = dp post 0 := by
  rw [h.eq, dp_right (by simp [sp_length, Tr.size])]
  congr 1
  simp [sp_length, Tr.size]

/-- from where all stand that are below one of depth d, going down from f -/
def frA (l : PL) (d : Int) : Nat → Nat
  | 0 => 0
  | f + 1 => if d < dp l f then frA l d f else f + 1
def toA (l : PL) (d : Int) : Nat → Nat → Nat
  | 0, t => t
  | m + 1, t => if d < dp l t then toA l d m (t + 1) else t
def frR (l : PL) (i : Nat) : Nat := frA l (dp l i) i
def toR (l : PL) (i : Nat) : Nat := toA l (dp l i) (l.length - (i + 1)) (i + 1)
theorem frA_le (l : PL) (d : Int) (f : Nat) : frA l d f ≤ f := by
  induction f with
  | zero => exact Nat.le_refl _
  | succ f ih => rw [frA]; split <;> omega
theorem toA_le (l : PL) (d : Int) : ∀ m t, t ≤ toA l d m t ∧ toA l d m t ≤ t + m := by
  intro m
  induction m with
  | zero => intro t; simp [toA]
  | succ m ih => intro t; rw [toA]; have := ih (t + 1); split <;> omega
theorem frA_eq (l : PL) (d : Int) (f0 : Nat) : ∀ f, f0 ≤ f → (∀ j, f0 ≤ j → j < f → d < dp l j) → (0 < f0 → ¬ d < dp l (f0 - 1)) → frA l d f = f0 := by
  intro f
  induction f with
  | zero => intro h _ _; rw [frA]; omega
  | succ f ih =>
    intro h h1 h2
    rw [frA]
    by_cases hf : f0 = f + 1
    · subst hf
      rw [if_neg (by simpa using h2 (by omega))]
    · rw [if_pos (h1 f (by omega) (by omega))]
      exact ih (by omega) (fun j a b => h1 j a (by omega)) h2
theorem toA_eq (l : PL) (d : Int) (t1 : Nat) : ∀ m t, t ≤ t1 → t1 ≤ t + m → (∀ j, t ≤ j → j < t1 → d < dp l j) → (t1 < t + m → ¬ d < dp l t1) → toA l d m t = t1 := by
  intro m
  induction m with
  | zero => intro t h h' _ _; rw [toA]; omega
  | succ m ih =>
    intro t h h' h1 h2
    rw [toA]
    by_cases ht : t1 = t
    · subst ht
      rw [if_neg (h2 (by omega))]
    · rw [if_pos (h1 t (by omega) (by omega))]
      exact ih (t + 1) (by omega) (by omega) (fun j a b => h1 j (by omega) b) (fun h3 => h2 (by omega))
theorem At.part {l : PL} {i : Nat} {d : Int} {a : Tr} {k : Int} {b : Tr} {pre post : PL} (h : At l i d a k b pre post) : frR l i = pre.length ∧ toR l i = pre.length + (a.size + 1 + b.size) := by
  have hi := h.idx
  have hl := h.len
  unfold frR toR
  rw [h.root.1]
  constructor
  · refine frA_eq l d _ i (by omega) (fun j h1 h2 => h.inside j h1 (by omega) (by omega)) (fun h0 => ?_)
    rw [h.ahead h0]
    have := h.ctx.ahead h0
    omega
  · refine toA_eq l d _ _ _ (by omega) (by omega) (fun j h1 h2 => h.inside j (by omega) h2 (by omega)) (fun h0 => ?_)
    rw [h.behind]
    have := h.ctx.behind (by omega)
    omega

/-- the place of the one next above -/
def par (l : PL) (i : Nat) : Int := if toR l i = l.length then (frR l i : Int) - 1 else if frR l i = 0 ∨ dp l (frR l i - 1) < dp l (toR l i) then toR l i else (frR l i : Int) - 1
theorem par_bd {l : PL} {i : Nat} (h : i < l.length) : -1 ≤ par l i ∧ par l i < l.length := by
  have h1 := frA_le l (dp l i) i
  have h2 := toA_le l (dp l i) (l.length - (i + 1)) (i + 1)
  unfold par
  unfold frR toR
  split
  · omega
  · split <;> omega

/-- the same, some of them shifted -/
def shf (l : PL) (x y : Nat) (by_ : Int) : PL := l.take x ++ ((l.drop x).take (y - x)).map (fun p => (p.1, p.2 + by_)) ++ l.drop y
theorem shf_at {l X Y Z : PL} {x y : Nat} {by_ : Int} (h : l = X ++ Y ++ Z) (hx : x = X.length) (hy : y = X.length + Y.length) : shf l x y by_ = X ++ Y.map (fun p => (p.1, p.2 + by_)) ++ Z := by
  subst h hx hy
  unfold shf
  have h1 : (X ++ Y ++ Z).take X.length = X := by rw [List.append_assoc, List.take_left]
  have h2 : (X ++ Y ++ Z).drop X.length = Y ++ Z := by rw [List.append_assoc, List.drop_left]
  have h3 : (X ++ Y ++ Z).drop (X.length + Y.length) = Z := by rw [← List.length_append, List.drop_left]
  rw [h1, h2, h3, Nat.add_sub_cancel_left, List.take_left]
theorem shf_length (l : PL) (x y : Nat) (by_ : Int) (h : x ≤ y) : (shf l x y by_).length = l.length := by simp [shf]; omega
theorem sp_shift (t : Tr) (d by_ : Int) : (t.sp d).map (fun p => (p.1, p.2 + by_)) = t.sp (d + by_) := by
  induction t generalizing d with
  | nil => rfl
  | node a k b iha ihb =>
    simp only [Tr.sp, List.map_append, List.map_cons, iha, ihb]
    rw [show d + 1 + by_ = d + by_ + 1 by omega]

/-- what Turn makes of the tree l, at place i -/
def turnL (l : PL) (i : Nat) : PL :=
  if i < (par l i).toNat then shf (shf l (frR l (par l i).toNat) (i + 1) (-1)) (par l i).toNat (toR l (par l i).toNat) 1
  else shf (shf l (frR l (par l i).toNat) ((par l i).toNat + 1) 1) i (toR l (par l i).toNat) (-1)

/-- k stands to the left below p -/
structure LL (l : PL) (i j : Nat) (d : Int) (a : Tr) (k : Int) (b : Tr) (p : Int) (c : Tr) (pre post : PL) : Prop where
  ctx : Ctx 0 d pre post
  eq : l = pre ++ (Tr.node (.node a k b) p c).sp d ++ post
  idx : i = pre.length + a.size
  jdx : j = pre.length + (a.size + 1 + b.size)
/-- p stands to the right below k -/
structure RR (l : PL) (i j : Nat) (d : Int) (a : Tr) (k : Int) (b : Tr) (p : Int) (c : Tr) (pre post : PL) : Prop where
  ctx : Ctx 0 d pre post
  eq : l = pre ++ (Tr.node a k (.node b p c)).sp d ++ post
  idx : i = pre.length + a.size
  jdx : j = pre.length + (a.size + 1 + b.size)

section
variable {l : PL} {i j : Nat} {d : Int} {a : Tr} {k : Int} {b : Tr} {p : Int} {c : Tr} {pre post : PL}
theorem LL.at_i (h : LL l i j d a k b p c pre post) : At l i (d + 1) a k b pre ((p, d) :: c.sp (d + 1) ++ post) := ⟨.left p c h.ctx, by rw [h.eq]; simp [Tr.sp], h.idx⟩
theorem LL.at_j (h : LL l i j d a k b p c pre post) : At l j d (.node a k b) p c pre post := ⟨h.ctx, h.eq, by rw [h.jdx]; simp [Tr.size]⟩
theorem RR.at_i (h : RR l i j d a k b p c pre post) : At l i d a k (.node b p c) pre post := ⟨h.ctx, h.eq, h.idx⟩
theorem RR.at_j (h : RR l i j d a k b p c pre post) : At l j (d + 1) b p c (pre ++ a.sp (d + 1) ++ [(k, d)]) post := ⟨.right a k h.ctx, by rw [h.eq]; simp [Tr.sp], by rw [h.jdx]; simp [sp_length]; omega⟩
theorem LL.par_i (h : LL l i j d a k b p c pre post) : par l i = j := by
  have hp := h.at_i.part
  have hl := h.at_i.len
  have hj := h.jdx
  unfold par
  rw [hp.1, hp.2, ← hj]
  have hlt : j < l.length := by rw [hl]; simp; omega
  rw [if_neg (by omega)]
  rw [if_pos]
  rcases Nat.eq_zero_or_pos pre.length with h0 | h0
  · exact .inl h0
  · right
    rw [h.at_i.ahead h0, h.at_j.root.1]
    exact h.ctx.ahead h0
theorem RR.par_j (h : RR l i j d a k b p c pre post) : par l j = i := by
  have hp := h.at_j.part
  have hl := h.at_j.len
  have hi := h.idx
  have e1 : (pre ++ a.sp (d + 1) ++ [(k, d)]).length = i + 1 := by simp [sp_length]; omega
  rw [e1] at hp hl
  unfold par
  rw [hp.1, hp.2]
  by_cases h0 : i + 1 + (b.size + 1 + c.size) = l.length
  · rw [if_pos h0]; omega
  · rw [if_neg h0, if_neg]
    · omega
    · rintro (h1 | h1)
      · omega
      · have e2 := h.at_j.behind
        rw [e1] at e2
        rw [e2, Nat.add_sub_cancel, h.at_i.root.1] at h1
        have := h.ctx.behind (by omega)
        omega
theorem LL.turn (h : LL l i j d a k b p c pre post) : turnL l i = pre ++ (Tr.node a k (.node b p c)).sp d ++ post := by
  have hj := h.jdx
  have hi := h.idx
  have hp := h.at_j.part
  unfold turnL
  rw [h.par_i, Int.toNat_natCast, hp.1, hp.2, if_pos (by omega)]
  have s1 : shf l pre.length (i + 1) (-1) = pre ++ (a.sp (d + 1 + 1) ++ [(k, d + 1)]).map (fun p => (p.1, p.2 + -1)) ++ (b.sp (d + 1 + 1) ++ (p, d) :: c.sp (d + 1) ++ post) :=
    shf_at (by rw [h.eq]; simp [Tr.sp]) rfl (by simp [sp_length]; omega)
  rw [s1]
  have s2 : shf (pre ++ (a.sp (d + 1 + 1) ++ [(k, d + 1)]).map (fun p => (p.1, p.2 + -1)) ++ (b.sp (d + 1 + 1) ++ (p, d) :: c.sp (d + 1) ++ post)) j (pre.length + ((Tr.node a k b).size + 1 + c.size)) 1 =
      (pre ++ (a.sp (d + 1 + 1) ++ [(k, d + 1)]).map (fun p => (p.1, p.2 + -1)) ++ b.sp (d + 1 + 1)) ++ ((p, d) :: c.sp (d + 1)).map (fun p => (p.1, p.2 + 1)) ++ post :=
    shf_at (by simp) (by simp [sp_length]; omega) (by simp [sp_length, Tr.size]; omega)
  rw [s2]
  simp only [List.map_append, List.map_cons, List.map_nil, sp_shift, Tr.sp]
  rw [show d + 1 + 1 + -1 = d + 1 by omega, show d + 1 + -1 = d by omega]
  simp
theorem RR.turn (h : RR l i j d a k b p c pre post) : turnL l j = pre ++ (Tr.node (.node a k b) p c).sp d ++ post := by
  have hj := h.jdx
  have hi := h.idx
  have hp := h.at_i.part
  unfold turnL
  rw [h.par_j, Int.toNat_natCast, hp.1, hp.2, if_neg (by omega)]
  have s1 : shf l pre.length (i + 1) 1 = pre ++ (a.sp (d + 1) ++ [(k, d)]).map (fun p => (p.1, p.2 + 1)) ++ (b.sp (d + 1 + 1) ++ (p, d + 1) :: c.sp (d + 1 + 1) ++ post) :=
    shf_at (by rw [h.eq]; simp [Tr.sp]) rfl (by simp [sp_length]; omega)
  rw [s1]
  have s2 : shf (pre ++ (a.sp (d + 1) ++ [(k, d)]).map (fun p => (p.1, p.2 + 1)) ++ (b.sp (d + 1 + 1) ++ (p, d + 1) :: c.sp (d + 1 + 1) ++ post)) j (pre.length + (a.size + 1 + (Tr.node b p c).size)) (-1) =
      (pre ++ (a.sp (d + 1) ++ [(k, d)]).map (fun p => (p.1, p.2 + 1)) ++ b.sp (d + 1 + 1)) ++ ((p, d + 1) :: c.sp (d + 1 + 1)).map (fun p => (p.1, p.2 + -1)) ++ post :=
    shf_at (by simp) (by simp [sp_length]; omega) (by simp [sp_length, Tr.size]; omega)
  rw [s2]
  simp only [List.map_append, List.map_cons, List.map_nil, sp_shift, Tr.sp]
  rw [show d + 1 + 1 + -1 = d + 1 by omega, show d + 1 + -1 = d by omega]
  simp
end

/-- whoever does not stand at the top stands to the left or to the right below another one -/
theorem above_of {l : PL} {t : Tr} (h : l = t.sp 0) {i : Nat} (hi : i < l.length) (hd : dp l i ≠ 0) :
    (∃ j d a k b p c pre post, LL l i j d a k b p c pre post) ∨ (∃ j d a k b p c pre post, RR l j i d a k b p c pre post) := by
  obtain ⟨d, a, k, b, pre, post, hat⟩ := at_of h hi
  have hr := hat.root.1
  obtain ⟨hc, he, hx⟩ := hat
  cases hc with
  | hole => exact absurd hr hd
  | left p c hc' =>
    rename_i d' post'
    exact .inl ⟨_, d', a, k, b, p, c, pre, post', hc', by rw [he]; simp [Tr.sp], hx, rfl⟩
  | right a' k' hc' =>
    rename_i d' pre'
    exact .inr ⟨_, d', a', k', a, k, b, pre', post, hc', by rw [he]; simp [Tr.sp], rfl, by rw [hx]; simp [sp_length]; omega⟩
theorem par_root {l : PL} {t : Tr} (h : l = t.sp 0) {i : Nat} (hi : i < l.length) (hd : dp l i = 0) : par l i = -1 := by
  obtain ⟨d, a, k, b, pre, post, hat⟩ := at_of h hi
  have hr := hat.root.1
  have hp := hat.part
  have hl := hat.len
  obtain ⟨hc, he, hx⟩ := hat
  cases hc with
  | hole =>
    unfold par
    rw [hp.1, hp.2]
    simp at hl ⊢
    omega
  | left p c hc' => have := hc'.ge; omega
  | right a' k' hc' => have := hc'.ge; omega

end Go.Proofs.Ytfmdpmebllepeaa
