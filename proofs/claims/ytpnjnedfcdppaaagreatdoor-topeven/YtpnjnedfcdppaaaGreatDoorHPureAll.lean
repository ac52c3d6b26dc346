/-
  Joined texts: YtpnjnedfcdppaaaGreatDoorSCtx, YtpnjnedfcdppaaaGreatDoorHPure.
-/
import Derived.Test.YtpnjnedfcdppaaaGreatDoorSTreeAll
import Derived.Test.YtpnjnedfcdppaaaGreatDoorStepsAll
/-
  PARTS OF TREES, WHO STANDS ABOVE, TURNS: plain mathematics. Nothing of the program.
-/
namespace Go.Proofs.YtpnjnedfcdppaaaGreatDoor

/-- around a part whose top is at depth d: what is ahead of it, what is behind it -/
inductive Ctx (d0 : Int) : Int → PL → PL → Prop
  | hole : Ctx d0 d0 [] []
  | left {d : Int} {pre post : PL} (k : Int) (b : Tr) : Ctx d0 d pre post → Ctx d0 (d + 1) pre ((k, d) :: b.sp (d + 1) ++ post)
  | right {d : Int} {pre post : PL} (a : Tr) (k : Int) : Ctx d0 d pre post → Ctx d0 (d + 1) (pre ++ a.sp (d + 1) ++ [(k, d)]) post

theorem Ctx.fill {d0 d : Int} {pre post : PL} (h : Ctx d0 d pre post) : ∀ s : Tr, ∃ t : Tr, t.sp d0 = pre ++ s.sp d ++ post := by
  induction h with
  | hole => intro s; exact ⟨s, by simp⟩
  | left k b _ ih => intro s; obtain ⟨t, ht⟩ := ih (.node s k b); exact ⟨t, by rw [ht]; simp [Tr.sp]⟩
  | right a k _ ih => intro s; obtain ⟨t, ht⟩ := ih (.node a k s); exact ⟨t, by rw [ht]; simp [Tr.sp]⟩
theorem Ctx.ahead {d0 d : Int} {pre post : PL} (h : Ctx d0 d pre post) : 0 < pre.length → dp pre (pre.length - 1) < d := by
  induction h with
  | hole => intro h; simp at h
  | left k b _ ih => intro h; have := ih h; omega
  | right a k _ ih =>
    rename_i d pre post _
    intro _
    have := dp_mid (pre ++ a.sp (d + 1)) [] (k, d)
    have e : (pre ++ a.sp (d + 1) ++ [(k, d)]).length - 1 = (pre ++ a.sp (d + 1)).length := by simp
    rw [e, this]
    show d < d + 1
    omega
theorem Ctx.behind {d0 d : Int} {pre post : PL} (h : Ctx d0 d pre post) : 0 < post.length → dp post 0 < d := by
  induction h with
  | hole => intro h; simp at h
  | left k b _ ih => rename_i d pre post _; intro _; show d < d + 1; omega
  | right a k _ ih => intro h; have := ih h; omega
theorem Ctx.ge {d0 d : Int} {pre post : PL} (h : Ctx d0 d pre post) : d0 ≤ d := by
  induction h with
  | hole => exact Int.le_refl _
  | left k b _ ih => omega
  | right a k _ ih => omega

/-- place i of l is the top of the part 'node a k b' -/
structure At (l : PL) (i : Nat) (d : Int) (a : Tr) (k : Int) (b : Tr) (pre post : PL) : Prop where
  ctx : Ctx 0 d pre post
  eq : l = pre ++ (Tr.node a k b).sp d ++ post
  idx : i = pre.length + a.size

theorem find_at : ∀ (t : Tr) (d : Int) (pre post : PL), Ctx 0 d pre post → ∀ i, i < t.size → ∃ d' a k b pre' post', At (pre ++ t.sp d ++ post) (pre.length + i) d' a k b pre' post' := by
  intro t
  induction t with
  | nil => intro d pre post _ i hi; simp [Tr.size] at hi
  | node a k b iha ihb =>
    intro d pre post hc i hi
    simp only [Tr.size] at hi
    rcases Nat.lt_trichotomy i a.size with h1 | h1 | h1
    · obtain ⟨d', a', k', b', pre', post', h⟩ := iha (d + 1) pre ((k, d) :: b.sp (d + 1) ++ post) (.left k b hc) i h1
      refine ⟨d', a', k', b', pre', post', ?_⟩
      have e : pre ++ a.sp (d + 1) ++ ((k, d) :: b.sp (d + 1) ++ post) = pre ++ (Tr.node a k b).sp d ++ post := by simp [Tr.sp]
      rw [e] at h
      exact h
    · exact ⟨d, a, k, b, pre, post, hc, rfl, by omega⟩
    · obtain ⟨d', a', k', b', pre', post', h⟩ := ihb (d + 1) (pre ++ a.sp (d + 1) ++ [(k, d)]) post (.right a k hc) (i - a.size - 1) (by omega)
      refine ⟨d', a', k', b', pre', post', ?_⟩
      have e : pre ++ a.sp (d + 1) ++ [(k, d)] ++ b.sp (d + 1) ++ post = pre ++ (Tr.node a k b).sp d ++ post := by simp [Tr.sp]
      have e2 : (pre ++ a.sp (d + 1) ++ [(k, d)]).length + (i - a.size - 1) = pre.length + i := by simp [sp_length]; omega
      rw [e, e2] at h
      exact h
theorem at_of {l : PL} {t : Tr} (h : l = t.sp 0) {i : Nat} (hi : i < l.length) : ∃ d a k b pre post, At l i d a k b pre post := by
  have := find_at t 0 [] [] .hole i (by rw [h, sp_length] at hi; exact hi)
  simp only [List.nil_append, List.append_nil, List.length_nil, Nat.zero_add] at this
  rw [← h] at this
  exact this

theorem dp_in3 (x y z : PL) (j : Nat) (h1 : x.length ≤ j) (h2 : j < x.length + y.length) : dp (x ++ y ++ z) j = dp y (j - x.length) := by
  rw [dp_left (by simp; omega), dp_right h1]
theorem ky_in3 (x y z : PL) (j : Nat) (h1 : x.length ≤ j) (h2 : j < x.length + y.length) : ky (x ++ y ++ z) j = ky y (j - x.length) := by
  rw [ky_left (by simp; omega), ky_right h1]

theorem At.len {l : PL} {i : Nat} {d : Int} {a : Tr} {k : Int} {b : Tr} {pre post : PL} (h : At l i d a k b pre post) : l.length = pre.length + (a.size + 1 + b.size) + post.length := by
  rw [h.eq]; simp [sp_length, Tr.size]; omega
theorem At.root {l : PL} {i : Nat} {d : Int} {a : Tr} {k : Int} {b : Tr} {pre post : PL} (h : At l i d a k b pre post) : dp l i = d ∧ ky l i = k := by
  have hr := sp_root a b k d
  rw [h.eq, h.idx]
  constructor
  · rw [dp_in3 _ _ _ _ (by omega) (by simp [sp_length, Tr.size]; omega), Nat.add_sub_cancel_left]; exact hr.1
  · rw [ky_in3 _ _ _ _ (by omega) (by simp [sp_length, Tr.size]; omega), Nat.add_sub_cancel_left]; exact hr.2
theorem At.inside {l : PL} {i : Nat} {d : Int} {a : Tr} {k : Int} {b : Tr} {pre post : PL} (h : At l i d a k b pre post) (j : Nat) (h1 : pre.length ≤ j) (h2 : j < pre.length + (a.size + 1 + b.size)) (hne : j ≠ i) : d < dp l j := by
  rw [h.eq, dp_in3 _ _ _ _ h1 (by simp [sp_length, Tr.size]; omega)]
  exact sp_gt a b k d _ (by simp [Tr.size]; omega) (by have := h.idx; omega)
theorem At.ahead {l : PL} {i : Nat} {d : Int} {a : Tr} {k : Int} {b : Tr} {pre post : PL} (h : At l i d a k b pre post) (h0 : 0 < pre.length) : dp l (pre.length - 1) = dp pre (pre.length - 1) := by
  rw [h.eq, List.append_assoc, dp_left (by omega)]
theorem At.behind {l : PL} {i : Nat} {d : Int} {a : Tr} {k : Int} {b : Tr} {pre post : PL} (h : At l i d a k b pre post) : dp l (pre.length + (a.size + 1 + b.size)) = dp post 0 := by
  rw [h.eq, dp_right (by simp [sp_length, Tr.size])]
  congr 1
  simp [sp_length, Tr.size]

/-- from where all stand that are below one of depth d, going down from f -/
def frA (l : PL) (d : Int) : Nat → Nat
  | 0 => 0
  | f + 1 => if d < dp l f then frA l d f else f + 1
def toA (l : PL) (d : Int) : Nat → Nat → Nat
  | 0, t => t
  | m + 1, t => if d < dp l t then toA l d m (t + 1) else t
def frR (l : PL) (i : Nat) : Nat := frA l (dp l i) i
def toR (l : PL) (i : Nat) : Nat := toA l (dp l i) (l.length - (i + 1)) (i + 1)
theorem frA_le (l : PL) (d : Int) (f : Nat) : frA l d f ≤ f := by
  induction f with
  | zero => exact Nat.le_refl _
  | succ f ih => rw [frA]; split <;> omega
theorem toA_le (l : PL) (d : Int) : ∀ m t, t ≤ toA l d m t ∧ toA l d m t ≤ t + m := by
  intro m
  induction m with
  | zero => intro t; simp [toA]
  | succ m ih => intro t; rw [toA]; have := ih (t + 1); split <;> omega
theorem frA_eq (l : PL) (d : Int) (f0 : Nat) : ∀ f, f0 ≤ f → (∀ j, f0 ≤ j → j < f → d < dp l j) → (0 < f0 → ¬ d < dp l (f0 - 1)) → frA l d f = f0 := by
  intro f
  induction f with
  | zero => intro h _ _; rw [frA]; omega
  | succ f ih =>
    intro h h1 h2
    rw [frA]
    by_cases hf : f0 = f + 1
    · subst hf
      rw [if_neg (by simpa using h2 (by omega))]
    · rw [if_pos (h1 f (by omega) (by omega))]
      exact ih (by omega) (fun j a b => h1 j a (by omega)) h2
theorem toA_eq (l : PL) (d : Int) (t1 : Nat) : ∀ m t, t ≤ t1 → t1 ≤ t + m → (∀ j, t ≤ j → j < t1 → d < dp l j) → (t1 < t + m → ¬ d < dp l t1) → toA l d m t = t1 := by
  intro m
  induction m with
  | zero => intro t h h' _ _; rw [toA]; omega
  | succ m ih =>
    intro t h h' h1 h2
    rw [toA]
    by_cases ht : t1 = t
    · subst ht
      rw [if_neg (h2 (by omega))]
    · rw [if_pos (h1 t (by omega) (by omega))]
      exact ih (t + 1) (by omega) (by omega) (fun j a b => h1 j (by omega) b) (fun h3 => h2 (by omega))
theorem At.part {l : PL} {i : Nat} {d : Int} {a : Tr} {k : Int} {b : Tr} {pre post : PL} (h : At l i d a k b pre post) : frR l i = pre.length ∧ toR l i = pre.length + (a.size + 1 + b.size) := by
  have hi := h.idx
  have hl := h.len
  unfold frR toR
  rw [h.root.1]
  constructor
  · refine frA_eq l d _ i (by omega) (fun j h1 h2 => h.inside j h1 (by omega) (by omega)) (fun h0 => ?_)
    rw [h.ahead h0]
    have := h.ctx.ahead h0
    omega
  · refine toA_eq l d _ _ _ (by omega) (by omega) (fun j h1 h2 => h.inside j (by omega) h2 (by omega)) (fun h0 => ?_)
    rw [h.behind]
    have := h.ctx.behind (by omega)
    omega

/-- the place of the one next above -/
def par (l : PL) (i : Nat) : Int := if toR l i = l.length then (frR l i : Int) - 1 else if frR l i = 0 ∨ dp l (frR l i - 1) < dp l (toR l i) then toR l i else (frR l i : Int) - 1
theorem par_bd {l : PL} {i : Nat} (h : i < l.length) : -1 ≤ par l i ∧ par l i < l.length := by
  have h1 := frA_le l (dp l i) i
  have h2 := toA_le l (dp l i) (l.length - (i + 1)) (i + 1)
  unfold par
  unfold frR toR
  split
  · omega
  · split <;> omega

/-- the same, some of them shifted -/
def shf (l : PL) (x y : Nat) (by_ : Int) : PL := l.take x ++ ((l.drop x).take (y - x)).map (fun p => (p.1, p.2 + by_)) ++ l.drop y
theorem shf_at {l X Y Z : PL} {x y : Nat} {by_ : Int} (h : l = X ++ Y ++ Z) (hx : x = X.length) (hy : y = X.length + Y.length) : shf l x y by_ = X ++ Y.map (fun p => (p.1, p.2 + by_)) ++ Z := by
  subst h hx hy
  unfold shf
  have h1 : (X ++ Y ++ Z).take X.length = X := by rw [List.append_assoc, List.take_left]
  have h2 : (X ++ Y ++ Z).drop X.length = Y ++ Z := by rw [List.append_assoc, List.drop_left]
  have h3 : (X ++ Y ++ Z).drop (X.length + Y.length) = Z := by rw [← List.length_append, List.drop_left]
  rw [h1, h2, h3, Nat.add_sub_cancel_left, List.take_left]
theorem shf_length (l : PL) (x y : Nat) (by_ : Int) (h : x ≤ y) : (shf l x y by_).length = l.length := by simp [shf]; omega
theorem sp_shift (t : Tr) (d by_ : Int) : (t.sp d).map (fun p => (p.1, p.2 + by_)) = t.sp (d + by_) := by
  induction t generalizing d with
  | nil => rfl
  | node a k b iha ihb =>
    simp only [Tr.sp, List.map_append, List.map_cons, iha, ihb]
    rw [show d + 1 + by_ = d + by_ + 1 by omega]

/-- what Turn makes of the tree l, at place i -/
def turnL (l : PL) (i : Nat) : PL :=
  if i < (par l i).toNat then shf (shf l (frR l (par l i).toNat) (i + 1) (-1)) (par l i).toNat (toR l (par l i).toNat) 1
  else shf (shf l (frR l (par l i).toNat) ((par l i).toNat + 1) 1) i (toR l (par l i).toNat) (-1)

/-- k stands to the left below p -/
structure LL (l : PL) (i j : Nat) (d : Int) (a : Tr) (k : Int) (b : Tr) (p : Int) (c : Tr) (pre post : PL) : Prop where
  ctx : Ctx 0 d pre post
  eq : l = pre ++ (Tr.node (.node a k b) p c).sp d ++ post
  idx : i = pre.length + a.size
  jdx : j = pre.length + (a.size + 1 + b.size)
/-- p stands to the right below k -/
structure RR (l : PL) (i j : Nat) (d : Int) (a : Tr) (k : Int) (b : Tr) (p : Int) (c : Tr) (pre post : PL) : Prop where
  ctx : Ctx 0 d pre post
  eq : l = pre ++ (Tr.node a k (.node b p c)).sp d ++ post
  idx : i = pre.length + a.size
  jdx : j = pre.length + (a.size + 1 + b.size)

section
variable {l : PL} {i j : Nat} {d : Int} {a : Tr} {k : Int} {b : Tr} {p : Int} {c : Tr} {pre post : PL}
theorem LL.at_i (h : LL l i j d a k b p c pre post) : At l i (d + 1) a k b pre ((p, d) :: c.sp (d + 1) ++ post) := ⟨.left p c h.ctx, by rw [h.eq]; simp [Tr.sp], h.idx⟩
theorem LL.at_j (h : LL l i j d a k b p c pre post) : At l j d (.node a k b) p c pre post := ⟨h.ctx, h.eq, by rw [h.jdx]; simp [Tr.size]⟩
theorem RR.at_i (h : RR l i j d a k b p c pre post) : At l i d a k (.node b p c) pre post := ⟨h.ctx, h.eq, h.idx⟩
theorem RR.at_j (h : RR l i j d a k b p c pre post) : At l j (d + 1) b p c (pre ++ a.sp (d + 1) ++ [(k, d)]) post := ⟨.right a k h.ctx, by rw [h.eq]; simp [Tr.sp], by rw [h.jdx]; simp [sp_length]; omega⟩
theorem LL.par_i (h : LL l i j d a k b p c pre post) : par l i = j := by
  have hp := h.at_i.part
  have hl := h.at_i.len
  have hj := h.jdx
  unfold par
  rw [hp.1, hp.2, ← hj]
  have hlt : j < l.length := by rw [hl]; simp; omega
  rw [if_neg (by omega)]
  rw [if_pos]
  rcases Nat.eq_zero_or_pos pre.length with h0 | h0
  · exact .inl h0
  · right
    rw [h.at_i.ahead h0, h.at_j.root.1]
    exact h.ctx.ahead h0
theorem RR.par_j (h : RR l i j d a k b p c pre post) : par l j = i := by
  have hp := h.at_j.part
  have hl := h.at_j.len
  have hi := h.idx
  have e1 : (pre ++ a.sp (d + 1) ++ [(k, d)]).length = i + 1 := by simp [sp_length]; omega
  rw [e1] at hp hl
  unfold par
  rw [hp.1, hp.2]
  by_cases h0 : i + 1 + (b.size + 1 + c.size) = l.length
  · rw [if_pos h0]; omega
  · rw [if_neg h0, if_neg]
    · omega
    · rintro (h1 | h1)
      · omega
      · have e2 := h.at_j.behind
        rw [e1] at e2
        rw [e2, Nat.add_sub_cancel, h.at_i.root.1] at h1
        have := h.ctx.behind (by omega)
        omega
theorem LL.turn (h : LL l i j d a k b p c pre post) : turnL l i = pre ++ (Tr.node a k (.node b p c)).sp d ++ post := by
  have hj := h.jdx
  have hi := h.idx
  have hp := h.at_j.part
  unfold turnL
  rw [h.par_i, Int.toNat_natCast, hp.1, hp.2, if_pos (by omega)]
  have s1 : shf l pre.length (i + 1) (-1) = pre ++ (a.sp (d + 1 + 1) ++ [(k, d + 1)]).map (fun p => (p.1, p.2 + -1)) ++ (b.sp (d + 1 + 1) ++ (p, d) :: c.sp (d + 1) ++ post) :=
    shf_at (by rw [h.eq]; simp [Tr.sp]) rfl (by simp [sp_length]; omega)
  rw [s1]
  have s2 : shf (pre ++ (a.sp (d + 1 + 1) ++ [(k, d + 1)]).map (fun p => (p.1, p.2 + -1)) ++ (b.sp (d + 1 + 1) ++ (p, d) :: c.sp (d + 1) ++ post)) j (pre.length + ((Tr.node a k b).size + 1 + c.size)) 1 =
      (pre ++ (a.sp (d + 1 + 1) ++ [(k, d + 1)]).map (fun p => (p.1, p.2 + -1)) ++ b.sp (d + 1 + 1)) ++ ((p, d) :: c.sp (d + 1)).map (fun p => (p.1, p.2 + 1)) ++ post :=
    shf_at (by simp) (by simp [sp_length]; omega) (by simp [sp_length, Tr.size]; omega)
  rw [s2]
  simp only [List.map_append, List.map_cons, List.map_nil, sp_shift, Tr.sp]
  rw [show d + 1 + 1 + -1 = d + 1 by omega, show d + 1 + -1 = d by omega]
  simp
theorem RR.turn (h : RR l i j d a k b p c pre post) : turnL l j = pre ++ (Tr.node (.node a k b) p c).sp d ++ post := by
  have hj := h.jdx
  have hi := h.idx
  have hp := h.at_i.part
  unfold turnL
  rw [h.par_j, Int.toNat_natCast, hp.1, hp.2, if_neg (by omega)]
  have s1 : shf l pre.length (i + 1) 1 = pre ++ (a.sp (d + 1) ++ [(k, d)]).map (fun p => (p.1, p.2 + 1)) ++ (b.sp (d + 1 + 1) ++ (p, d + 1) :: c.sp (d + 1 + 1) ++ post) :=
    shf_at (by rw [h.eq]; simp [Tr.sp]) rfl (by simp [sp_length]; omega)
  rw [s1]
  have s2 : shf (pre ++ (a.sp (d + 1) ++ [(k, d)]).map (fun p => (p.1, p.2 + 1)) ++ (b.sp (d + 1 + 1) ++ (p, d + 1) :: c.sp (d + 1 + 1) ++ post)) j (pre.length + (a.size + 1 + (Tr.node b p c).size)) (-1) =
      (pre ++ (a.sp (d + 1) ++ [(k, d)]).map (fun p => (p.1, p.2 + 1)) ++ b.sp (d + 1 + 1)) ++ ((p, d + 1) :: c.sp (d + 1 + 1)).map (fun p => (p.1, p.2 + -1)) ++ post :=
    shf_at (by simp) (by simp [sp_length]; omega) (by simp [sp_length, Tr.size]; omega)
  rw [s2]
  simp only [List.map_append, List.map_cons, List.map_nil, sp_shift, Tr.sp]
  rw [show d + 1 + 1 + -1 = d + 1 by omega, show d + 1 + -1 = d by omega]
  simp
end

/-- whoever does not stand at the top stands to the left or to the right below another one -/
theorem above_of {l : PL} {t : Tr} (h : l = t.sp 0) {i : Nat} (hi : i < l.length) (hd : dp l i ≠ 0) :
    (∃ j d a k b p c pre post, LL l i j d a k b p c pre post) ∨ (∃ j d a k b p c pre post, RR l j i d a k b p c pre post) := by
  obtain ⟨d, a, k, b, pre, post, hat⟩ := at_of h hi
  have hr := hat.root.1
  obtain ⟨hc, he, hx⟩ := hat
  cases hc with
  | hole => exact absurd hr hd
  | left p c hc' =>
    rename_i d' post'
    exact .inl ⟨_, d', a, k, b, p, c, pre, post', hc', by rw [he]; simp [Tr.sp], hx, rfl⟩
  | right a' k' hc' =>
    rename_i d' pre'
    exact .inr ⟨_, d', a', k', a, k, b, pre', post, hc', by rw [he]; simp [Tr.sp], rfl, by rw [hx]; simp [sp_length]; omega⟩
theorem par_root {l : PL} {t : Tr} (h : l = t.sp 0) {i : Nat} (hi : i < l.length) (hd : dp l i = 0) : par l i = -1 := by
  obtain ⟨d, a, k, b, pre, post, hat⟩ := at_of h hi
  have hr := hat.root.1
  have hp := hat.part
  have hl := hat.len
  obtain ⟨hc, he, hx⟩ := hat
  cases hc with
  | hole =>
    unfold par
    rw [hp.1, hp.2]
    simp at hl ⊢
    omega
  | left p c hc' => have := hc'.ge; omega
  | right a' k' hc' => have := hc'.ge; omega

end Go.Proofs.YtpnjnedfcdppaaaGreatDoor

/-
  TREES IN WHICH WHO RANKS HIGHER STANDS ABOVE: plain mathematics. Nothing of the program.
-/
namespace Go.Proofs.YtpnjnedfcdppaaaGreatDoor

/-- t is the tree of l: the highest rank at the top, of one rank the first one -/
def Hp : Tr → PL → Prop
  | .nil, l => l = []
  | .node a k b, l => ∃ la v lb, l = la ++ (k, v) :: lb ∧ Hp a la ∧ Hp b lb ∧ (∀ p ∈ la, p.2 < v) ∧ (∀ p ∈ lb, p.2 ≤ v)
theorem hp_len {t : Tr} : ∀ {l : PL}, Hp t l → l.length = t.size := by
  induction t with
  | nil => intro l h; rw [show l = [] from h]; rfl
  | node a k b iha ihb =>
    rintro l ⟨la, v, lb, rfl, ha, hb, _, _⟩
    simp [Tr.size, iha ha, ihb hb]
    omega
theorem hp_ks {t : Tr} : ∀ {l : PL}, Hp t l → t.ks = l.map Prod.fst := by
  induction t with
  | nil => intro l h; rw [show l = [] from h]; rfl
  | node a k b iha ihb =>
    rintro l ⟨la, v, lb, rfl, ha, hb, _, _⟩
    simp [Tr.ks, iha ha, ihb hb]
theorem hp_split : ∀ l : PL, l ≠ [] → ∃ la k v lb, l = la ++ (k, v) :: lb ∧ (∀ p ∈ la, p.2 < v) ∧ (∀ p ∈ lb, p.2 ≤ v)
  | [], h => absurd rfl h
  | [p], _ => ⟨[], p.1, p.2, [], rfl, by simp, by simp⟩
  | p :: q :: t, _ => by
    obtain ⟨la, k, v, lb, e, h1, h2⟩ := hp_split (q :: t) (by simp)
    by_cases hp : p.2 < v
    · refine ⟨p :: la, k, v, lb, by rw [e]; rfl, ?_, h2⟩
      intro x hx
      rcases List.mem_cons.1 hx with rfl | hx
      · exact hp
      · exact h1 x hx
    · refine ⟨[], p.1, p.2, q :: t, rfl, by simp, ?_⟩
      intro x hx
      rw [e] at hx
      rcases List.mem_append.1 hx with hx | hx
      · have := h1 x hx
        omega
      · rcases List.mem_cons.1 hx with rfl | hx
        · show v ≤ p.2
          omega
        · have := h2 x hx
          omega
theorem hp_has : ∀ (n : Nat) (l : PL), l.length ≤ n → ∃ t, Hp t l
  | 0, l, h => ⟨.nil, List.eq_nil_of_length_eq_zero (by omega)⟩
  | n + 1, l, h => by
    by_cases hl : l = []
    · exact ⟨.nil, hl⟩
    · obtain ⟨la, k, v, lb, e, h1, h2⟩ := hp_split l hl
      have hlen : l.length = la.length + 1 + lb.length := by rw [e]; simp; omega
      obtain ⟨a, ha⟩ := hp_has n la (by omega)
      obtain ⟨b, hb⟩ := hp_has n lb (by omega)
      exact ⟨.node a k b, la, v, lb, e, ha, hb, h1, h2⟩

/-- the first place of the highest rank among the first ones -/
def topTo (l : PL) : Nat → Nat
  | 0 => 0
  | k + 1 => if dp l (topTo l k) < dp l k then k else topTo l k
theorem topTo_lt (l : PL) : ∀ k, 0 < k → topTo l k < k
  | 0, h => absurd h (by omega)
  | 1, _ => by simp [topTo]
  | k + 2, _ => by
    have := topTo_lt l (k + 1) (by omega)
    rw [topTo]
    split <;> omega
theorem topTo_ahead {la lb : PL} {k v : Int} (h1 : ∀ p ∈ la, p.2 < v) : ∀ j, j < la.length → dp (la ++ (k, v) :: lb) j < v := by
  intro j hj
  rw [dp_left hj, dp_in hj]
  exact h1 _ (List.getElem_mem hj)
theorem topTo_behind {la lb : PL} {k v : Int} (h2 : ∀ p ∈ lb, p.2 ≤ v) : ∀ j, la.length < j → j < la.length + 1 + lb.length → dp (la ++ (k, v) :: lb) j ≤ v := by
  intro j hj hj2
  rw [dp_right (by omega)]
  obtain ⟨m, hm⟩ : ∃ m, j - la.length = m + 1 := ⟨j - la.length - 1, by omega⟩
  have hml : m < lb.length := by omega
  rw [hm]
  have : dp ((k, v) :: lb) (m + 1) = lb[m].2 := by simp [dp, List.getElem?_eq_getElem hml]
  rw [this]
  exact h2 _ (List.getElem_mem hml)
theorem topTo_at {l la lb : PL} {k v : Int} (e : l = la ++ (k, v) :: lb) (h1 : ∀ p ∈ la, p.2 < v) (h2 : ∀ p ∈ lb, p.2 ≤ v) : ∀ j, j ≤ lb.length → topTo l (la.length + 1 + j) = la.length := by
  subst e
  have hv : dp (la ++ (k, v) :: lb) la.length = v := dp_mid la lb (k, v)
  intro j
  induction j with
  | zero =>
    intro _
    rw [Nat.add_zero, topTo, hv]
    rcases Nat.eq_zero_or_pos la.length with h0 | h0
    · have hn := List.eq_nil_of_length_eq_zero h0
      subst hn
      simp [topTo, dp]
    · rw [if_pos (topTo_ahead h1 _ (topTo_lt _ _ h0))]
  | succ j ih =>
    intro hj
    rw [← Nat.add_assoc, topTo, ih (by omega), hv, if_neg]
    have := topTo_behind (la := la) (k := k) h2 (la.length + 1 + j) (by omega) (by omega)
    omega
theorem topTo_top {l la lb : PL} {k v : Int} (e : l = la ++ (k, v) :: lb) (h1 : ∀ p ∈ la, p.2 < v) (h2 : ∀ p ∈ lb, p.2 ≤ v) : topTo l l.length = la.length := by
  have := topTo_at e h1 h2 lb.length (Nat.le_refl _)
  rw [← this, e]
  congr 1
  simp
  omega

/-- who stands next above, of trees whose first place is o, with r above their top -/
def Tr.above : Tr → Nat → Int → Nat → Int
  | .nil, _, r, _ => r
  | .node a _ b, o, r, i => if i < a.size then a.above o ((o + a.size : Nat) : Int) i else if i = a.size then r else b.above (o + a.size + 1) ((o + a.size : Nat) : Int) (i - a.size - 1)
theorem par_above : ∀ (t : Tr) (d : Int) (pre post : PL) (r : Int), Ctx 0 d pre post → (∀ a k b, t = .node a k b → par (pre ++ t.sp d ++ post) (pre.length + a.size) = r) →
    ∀ i, i < t.size → par (pre ++ t.sp d ++ post) (pre.length + i) = t.above pre.length r i := by
  intro t
  induction t with
  | nil => intro d pre post r _ _ i hi; simp [Tr.size] at hi
  | node a k b iha ihb =>
    intro d pre post r hc hr i hi
    simp only [Tr.size] at hi
    rw [Tr.above]
    rcases Nat.lt_trichotomy i a.size with h1 | h1 | h1
    · rw [if_pos h1]
      have e : pre ++ (Tr.node a k b).sp d ++ post = pre ++ a.sp (d + 1) ++ ((k, d) :: b.sp (d + 1) ++ post) := by simp [Tr.sp]
      rw [e]
      refine iha (d + 1) pre _ _ (.left k b hc) ?_ i h1
      rintro a1 k1 b1 rfl
      have hLL : LL (pre ++ (Tr.node a1 k1 b1).sp (d + 1) ++ ((k, d) :: b.sp (d + 1) ++ post)) (pre.length + a1.size) (pre.length + (a1.size + 1 + b1.size)) d a1 k1 b1 k b pre post := ⟨hc, by simp [Tr.sp], rfl, rfl⟩
      rw [hLL.par_i]
      simp [Tr.size]
    · rw [if_neg (by omega), if_pos h1, h1]
      exact hr a k b rfl
    · rw [if_neg (by omega), if_neg (by omega)]
      have e : pre ++ (Tr.node a k b).sp d ++ post = pre ++ a.sp (d + 1) ++ [(k, d)] ++ b.sp (d + 1) ++ post := by simp [Tr.sp]
      have e2 : (pre ++ a.sp (d + 1) ++ [(k, d)]).length = pre.length + a.size + 1 := by simp [sp_length]; omega
      have := ihb (d + 1) (pre ++ a.sp (d + 1) ++ [(k, d)]) post ((pre.length + a.size : Nat) : Int) (.right a k hc) (by
        rintro b1 k1 c1 rfl
        have hRR : RR (pre ++ a.sp (d + 1) ++ [(k, d)] ++ (Tr.node b1 k1 c1).sp (d + 1) ++ post) (pre.length + a.size) (pre.length + (a.size + 1 + b1.size)) d a k b1 k1 c1 pre post := ⟨hc, by simp [Tr.sp], rfl, rfl⟩
        rw [e2, show pre.length + a.size + 1 + b1.size = pre.length + (a.size + 1 + b1.size) by omega]
        exact hRR.par_j) (i - a.size - 1) (by omega)
      rw [e2] at this
      rw [e, ← this]
      congr 1
      omega
theorem par_tree (t : Tr) (i : Nat) (hi : i < t.size) : par (t.sp 0) i = t.above 0 (-1) i := by
  have := par_above t 0 [] [] (-1) .hole (by
    rintro a k b rfl
    simp only [List.nil_append, List.append_nil, List.length_nil, Nat.zero_add]
    exact par_root rfl (by rw [sp_length, Tr.size]; omega) (sp_root a b k 0).1) i hi
  simpa using this

/-- u ranks higher than m -/
def Out (l : PL) (u m : Nat) : Prop := dp l m < dp l u ∨ (dp l m = dp l u ∧ u < m)
/-- u ranks higher than all between it and i, i too -/
def Anc (l : PL) (u i : Nat) : Prop := ∀ m, (u ≤ m ∨ i ≤ m) → (m ≤ u ∨ m ≤ i) → m ≠ u → Out l u m
theorem Anc.refl (l : PL) (u : Nat) : Anc l u u := fun m h1 h2 h3 => absurd (by omega : m = u) h3
theorem Anc.out {l : PL} {u i : Nat} (h : Anc l u i) (hne : u ≠ i) : Out l u i := h i (.inr (Nat.le_refl _)) (.inr (Nat.le_refl _)) (fun e => hne e.symm)
theorem Out.asymm {l : PL} {u m : Nat} (h : Out l u m) (h' : Out l m u) : False := by
  unfold Out at h h'
  omega
theorem Out.trans {l : PL} {a b c : Nat} (h : Out l a b) (h' : Out l b c) : Out l a c := by
  unfold Out at *
  omega
theorem Anc.trans {l : PL} {r q k : Nat} (h : Anc l r q) (h' : Anc l q k) : Anc l r k := by
  intro m h1 h2 h3
  by_cases hq : m = q
  · subst hq
    exact h m (.inr (Nat.le_refl _)) (.inr (Nat.le_refl _)) h3
  · by_cases hb : (r ≤ m ∨ q ≤ m) ∧ (m ≤ r ∨ m ≤ q)
    · exact h m hb.1 hb.2 h3
    · have h4 : Out l q m := h' m (by omega) (by omega) hq
      by_cases hrq : r = q
      · subst hrq
        exact h4
      · exact (h.out hrq).trans h4
theorem anc_left {la lb : PL} {u i : Nat} (hu : u < la.length) (hi : i < la.length) : Anc (la ++ lb) u i ↔ Anc la u i := by
  unfold Anc Out
  constructor
  · intro h m h1 h2 h3
    have := h m h1 h2 h3
    rw [dp_left (by omega), dp_left hu] at this
    exact this
  · intro h m h1 h2 h3
    have := h m h1 h2 h3
    rw [dp_left (by omega), dp_left hu]
    exact this
theorem dp_past {la lb : PL} {q : Int × Int} {o j : Nat} (ho : o = la.length + 1) : dp (la ++ q :: lb) (o + j) = dp lb j := by
  subst ho
  rw [dp_right (by omega), show la.length + 1 + j - la.length = j + 1 by omega]
  simp [dp]
theorem anc_right {la lb : PL} {q : Int × Int} {o u i : Nat} (ho : o = la.length + 1) : Anc (la ++ q :: lb) (o + u) (o + i) ↔ Anc lb u i := by
  unfold Anc Out
  constructor
  · intro h m h1 h2 h3
    have := h (o + m) (by omega) (by omega) (by omega)
    rw [dp_past ho, dp_past ho] at this
    omega
  · intro h m h1 h2 h3
    obtain ⟨m', rfl⟩ : ∃ m', m = o + m' := ⟨m - o, by omega⟩
    have := h m' (by omega) (by omega) (by omega)
    rw [dp_past ho, dp_past ho]
    omega

/-- what holds of who stands next above -/
structure Par (t : Tr) (l : PL) (i p : Nat) : Prop where
  lt : p < t.size
  ne : p ≠ i
  anc : Anc l p i
  all : ∀ u, u < t.size → u ≠ i → Anc l u i → Anc l u p
  deep : ∀ d, dp (t.sp d) p < dp (t.sp d) i
theorem sp_left {a b : Tr} {k d : Int} {i : Nat} (h : i < a.size) : dp ((Tr.node a k b).sp d) i = dp (a.sp (d + 1)) i := by
  rw [Tr.sp, dp_left (by rw [sp_length]; exact h)]
theorem sp_right {a b : Tr} {k d : Int} {o j : Nat} (ho : o = a.size + 1) : dp ((Tr.node a k b).sp d) (o + j) = dp (b.sp (d + 1)) j := by
  rw [Tr.sp]
  exact dp_past (by rw [sp_length]; exact ho)
theorem above_hp : ∀ (t : Tr) (l : PL), Hp t l → ∀ (o : Nat) (r : Int) (i : Nat), i < t.size →
    (t.above o r i = r ∧ ∀ u, u < t.size → Anc l u i → u = i) ∨ ∃ p : Nat, t.above o r i = ((o + p : Nat) : Int) ∧ Par t l i p := by
  intro t
  induction t with
  | nil => intro l _ o r i hi; simp [Tr.size] at hi
  | node a k b iha ihb =>
    rintro l ⟨la, v, lb, rfl, ha, hb, h1, h2⟩ o r i hi
    have hla := hp_len ha
    have hlb := hp_len hb
    simp only [Tr.size] at hi
    have hv : dp (la ++ (k, v) :: lb) a.size = v := by rw [← hla]; exact dp_mid la lb (k, v)
    have hA : ∀ j, j < a.size → dp (la ++ (k, v) :: lb) j < v := fun j hj => topTo_ahead h1 j (by omega)
    have hB : ∀ j, a.size < j → j < a.size + 1 + b.size → dp (la ++ (k, v) :: lb) j ≤ v := fun j hj hj2 => topTo_behind h2 j (by omega) (by omega)
    -- none but the top ranks higher than the top
    have hTop : ∀ u, u < a.size + 1 + b.size → u ≠ a.size → ¬ Out (la ++ (k, v) :: lb) u a.size := by
      intro u hu hne h
      unfold Out at h
      rw [hv] at h
      rcases Nat.lt_or_ge u a.size with h3 | h3
      · have := hA u h3
        omega
      · have := hB u (by omega) hu
        omega
    have hAll : ∀ j, j < a.size + 1 + b.size → Anc (la ++ (k, v) :: lb) a.size j := by
      intro j hj m h3 h4 h5
      unfold Out
      rw [hv]
      rcases Nat.lt_or_ge m a.size with h6 | h6
      · exact .inl (hA m h6)
      · have := hB m (by omega) (by omega)
        omega
    have hsz : (Tr.node a k b).size = a.size + 1 + b.size := rfl
    rw [Tr.above]
    rcases Nat.lt_trichotomy i a.size with hi1 | hi1 | hi1
    · rw [if_pos hi1]
      have hcross : ∀ u, a.size < u → u < a.size + 1 + b.size → ¬ Anc (la ++ (k, v) :: lb) u i := fun u hu hu2 h => hTop u hu2 (by omega) (h a.size (by omega) (by omega) (by omega))
      right
      rcases iha la ha o ((o + a.size : Nat) : Int) i hi1 with ⟨e, hno⟩ | ⟨p, e, hp⟩
      · refine ⟨a.size, e, by rw [hsz]; omega, by omega, hAll i (by omega), ?_, ?_⟩
        · intro u hu hne h
          rw [hsz] at hu
          rcases Nat.lt_trichotomy u a.size with h3 | h3 | h3
          · exact absurd (hno u h3 ((anc_left (by omega) (by omega)).1 h)) hne
          · subst h3
            exact Anc.refl _ _
          · exact absurd h (hcross u h3 hu)
        · intro d
          rw [(sp_root a b k d).1]
          exact sp_gt a b k d i (by rw [hsz]; omega) (by omega)
      · have hpl := hp.lt
        refine ⟨p, e, by rw [hsz]; omega, hp.ne, (anc_left (by omega) (by omega)).2 hp.anc, ?_, ?_⟩
        · intro u hu hne h
          rw [hsz] at hu
          rcases Nat.lt_trichotomy u a.size with h3 | h3 | h3
          · exact (anc_left (by omega) (by omega)).2 (hp.all u h3 hne ((anc_left (by omega) (by omega)).1 h))
          · subst h3
            exact hAll p (by omega)
          · exact absurd h (hcross u h3 hu)
        · intro d
          rw [sp_left hpl, sp_left hi1]
          exact hp.deep (d + 1)
    · rw [if_neg (by omega), if_pos hi1]
      left
      refine ⟨rfl, fun u hu h => ?_⟩
      rw [hsz] at hu
      subst hi1
      rcases Nat.lt_trichotomy u a.size with h3 | h3 | h3
      · exact absurd (h.out (by omega)) (hTop u hu (by omega))
      · exact h3
      · exact absurd (h.out (by omega)) (hTop u hu (by omega))
    · rw [if_neg (by omega), if_neg (by omega)]
      obtain ⟨j, rfl⟩ : ∃ j, i = a.size + 1 + j := ⟨i - a.size - 1, by omega⟩
      have hj : j < b.size := by omega
      have ho : a.size + 1 = la.length + 1 := by omega
      have hcross : ∀ u, u < a.size → ¬ Anc (la ++ (k, v) :: lb) u (a.size + 1 + j) := fun u hu h => hTop u (by omega) (by omega) (h a.size (by omega) (by omega) (by omega))
      rw [show a.size + 1 + j - a.size - 1 = j by omega]
      right
      rcases ihb lb hb (o + a.size + 1) ((o + a.size : Nat) : Int) j hj with ⟨e, hno⟩ | ⟨p, e, hp⟩
      · refine ⟨a.size, e, by rw [hsz]; omega, by omega, hAll _ (by omega), ?_, ?_⟩
        · intro u hu hne h
          rw [hsz] at hu
          rcases Nat.lt_trichotomy u a.size with h3 | h3 | h3
          · exact absurd h (hcross u h3)
          · subst h3
            exact Anc.refl _ _
          · obtain ⟨u', rfl⟩ : ∃ u', u = a.size + 1 + u' := ⟨u - (a.size + 1), by omega⟩
            have := hno u' (by omega) ((anc_right ho).1 h)
            exact absurd (by rw [this]) hne
        · intro d
          rw [(sp_root a b k d).1]
          exact sp_gt a b k d _ (by rw [hsz]; omega) (by omega)
      · have hpl := hp.lt
        refine ⟨a.size + 1 + p, by rw [e]; congr 1; omega, by rw [hsz]; omega, by have := hp.ne; omega, (anc_right ho).2 hp.anc, ?_, ?_⟩
        · intro u hu hne h
          rw [hsz] at hu
          rcases Nat.lt_trichotomy u a.size with h3 | h3 | h3
          · exact absurd h (hcross u h3)
          · subst h3
            exact hAll _ (by omega)
          · obtain ⟨u', rfl⟩ : ∃ u', u = a.size + 1 + u' := ⟨u - (a.size + 1), by omega⟩
            exact (anc_right ho).2 (hp.all u' (by omega) (by omega) ((anc_right ho).1 h))
        · intro d
          rw [sp_right rfl, sp_right rfl]
          exact hp.deep (d + 1)
/-- who stands next above, told by ranks -/
theorem par_hp {t : Tr} {l : PL} (h : Hp t l) {i : Nat} (hi : i < t.size) : (par (t.sp 0) i = -1 ∧ ∀ u, u < t.size → Anc l u i → u = i) ∨ ∃ p : Nat, par (t.sp 0) i = p ∧ Par t l i p := by
  rw [par_tree t i hi]
  rcases above_hp t l h 0 (-1) i hi with h1 | ⟨p, e, hp⟩
  · exact .inl h1
  · exact .inr ⟨p, by rw [e]; simp, hp⟩

/-- the last place of the first ones at which there is less than x; -1, if there is none -/
def lst (l : List Int) (x : Int) : Nat → Int
  | 0 => -1
  | k + 1 => if l[k]?.getD 0 < x then (k : Int) else lst l x k
theorem lst_bd (l : List Int) (x : Int) : ∀ k, -1 ≤ lst l x k ∧ lst l x k < k
  | 0 => by simp [lst]
  | k + 1 => by
    have := lst_bd l x k
    rw [lst]
    split <;> omega
theorem lst_less {l : List Int} {x : Int} : ∀ {k j : Nat}, lst l x k = j → l[j]?.getD 0 < x
  | 0, j, h => by simp [lst] at h
  | k + 1, j, h => by
    rw [lst] at h
    split at h
    · have : k = j := by omega
      subst this
      assumption
    · exact lst_less h
theorem lst_none {l : List Int} {x : Int} : ∀ {k : Nat} (m : Nat), m < k → lst l x k < m → x ≤ l[m]?.getD 0
  | 0, m, hm, _ => absurd hm (by omega)
  | k + 1, m, hm, h => by
    rw [lst] at h
    split at h
    · omega
    · rcases Nat.lt_or_ge m k with h1 | h1
      · exact lst_none m h1 h
      · obtain rfl : m = k := by omega
        omega
/-- whatever lies between is no less -/
theorem lst_same {l : List Int} {x : Int} : ∀ {k q : Nat}, q ≤ k → (∀ m, q ≤ m → m < k → x ≤ l[m]?.getD 0) → lst l x k = lst l x q
  | 0, q, h, _ => by rw [show q = 0 by omega]
  | k + 1, q, h, hm => by
    rcases Nat.lt_or_ge k q with h1 | h1
    · rw [show q = k + 1 by omega]
    · rw [lst, if_neg (by have := hm k h1 (by omega); omega)]
      exact lst_same h1 fun m h2 h3 => hm m h2 (by omega)
/-- the nearest lesser one ahead -/
def near (l : List Int) (i : Nat) : Int := lst l (l[i]?.getD 0) i
theorem near_step {l : List Int} {x : Int} {p : Nat} (h : x ≤ l[p]?.getD 0) : lst l x (p + 1) = lst l x ((near l p + 1).toNat) := by
  have hb := lst_bd l (l[p]?.getD 0) p
  unfold near
  refine lst_same (by omega) fun m h1 h2 => ?_
  rcases Nat.lt_or_ge m p with h3 | h3
  · have := lst_none (l := l) (x := l[p]?.getD 0) m h3 (by omega)
    omega
  · obtain rfl : m = p := by omega
    exact h
def nearL (l : List Int) : List Int := (List.range l.length).map (near l)
theorem nearL_length (l : List Int) : (nearL l).length = l.length := by simp [nearL]
theorem nearL_at (l : List Int) (i : Nat) (h : i < l.length) : (nearL l)[i]? = some (near l i) := by simp [nearL, h]
def nearTo (l : List Int) (n k : Nat) : List Int := (List.range k).map (near l) ++ List.replicate (n - k) 0
theorem nearTo_set (l : List Int) (n k : Nat) (h : k < n) : (nearTo l n k).set k (near l k) = nearTo l n (k + 1) := by
  unfold nearTo
  rw [List.set_append_right _ _ (by simp), List.range_succ, List.map_append]
  simp only [List.length_map, List.length_range, Nat.sub_self]
  rw [show n - k = n - (k + 1) + 1 by omega, List.replicate_succ]
  simp
theorem nearTo_length (l : List Int) (n k : Nat) (h : k ≤ n) : (nearTo l n k).length = n := by simp [nearTo]; omega
theorem nearTo_at (l : List Int) (n k i : Nat) (h : i < k) : (nearTo l n k)[i]? = some (near l i) := by
  unfold nearTo
  rw [List.getElem?_append_left (by simp; exact h)]
  simp [h]

end Go.Proofs.YtpnjnedfcdppaaaGreatDoor
