/-
  TURNS THERE AND BACK; THE WAY TO A ROW: plain mathematics. Nothing of the program.
-/
import Derived.Test.YtfmdpmebllepeaaSCtx
namespace Go.Proofs.Ytfmdpmebllepeaa

theorem shf_pt (l : PL) (x y : Nat) (by_ : Int) (hxy : x ≤ y) (hy : y ≤ l.length) (i : Nat) : ky (shf l x y by_) i = ky l i ∧ (dp (shf l x y by_) i = dp l i ∨ dp (shf l x y by_) i = dp l i + by_) := by
  have he : l = l.take x ++ (l.drop x).take (y - x) ++ l.drop y := by
    conv => lhs; rw [← List.take_append_drop x l, ← List.take_append_drop (y - x) (l.drop x), List.drop_drop]
    rw [show x + (y - x) = y by omega, List.append_assoc]
  have hX : (l.take x).length = x := by simp; omega
  have hY : ((l.drop x).take (y - x)).length = y - x := by simp; omega
  have hs := shf_at (by_ := by_) he hX.symm (y := y) (by rw [hX, hY]; omega)
  rw [hs]
  generalize l.take x = X at *
  generalize (l.drop x).take (y - x) = Y at *
  generalize l.drop y = Z at *
  rw [he]
  rcases Nat.lt_or_ge i x with h1 | h1
  · rw [List.append_assoc, List.append_assoc, ky_left (by omega), ky_left (by omega), dp_left (by omega), dp_left (by omega)]
    exact ⟨rfl, .inl rfl⟩
  · rcases Nat.lt_or_ge i y with h2 | h2
    · rw [ky_in3 _ _ _ _ (by omega) (by simp; omega), ky_in3 _ _ _ _ (by omega) (by omega), dp_in3 _ _ _ _ (by omega) (by simp; omega), dp_in3 _ _ _ _ (by omega) (by omega)]
      have hi : i - X.length < Y.length := by omega
      simp only [ky, dp, List.getElem?_map, List.getElem?_eq_getElem hi, Option.map_some, Option.getD_some]
      exact ⟨trivial, .inr trivial⟩
    · rw [ky_right (by simp; omega), ky_right (by simp; omega), dp_right (by simp; omega), dp_right (by simp; omega)]
      simp

theorem isTree_same {l m : PL} (h : IsTree l) (hl : m.length = l.length) (hk : ∀ i, ky m i = ky l i) (ht : ∃ t : Tr, m = t.sp 0) : IsTree m := by
  refine ⟨by rw [hl]; exact h.1, ?_, ht⟩
  intro i hi
  rw [hk, hk]
  exact h.2.1 i (by omega)

/-- all of what Turn does -/
structure Turned (l s : PL) (i j : Nat) : Prop where
  lt : j < l.length
  ne : j ≠ i
  fr : frR l j ≤ i
  to : i < toR l j
  len : s.length = l.length
  keys : ∀ x, ky s x = ky l x
  near : ∀ x, dp s x ≤ dp l x + 1 ∧ dp l x - 1 ≤ dp s x
  tree : IsTree s
  low : dp s j ≠ 0
  back : turnL s j = l
theorem turned_of {l : PL} (h : IsTree l) {i : Nat} (hi : i < l.length) (hd : dp l i ≠ 0) : ∃ j : Nat, par l i = j ∧ Turned l (turnL l i) i j := by
  obtain ⟨t, ht⟩ := h.2.2
  rcases above_of ht hi hd with ⟨j, d, a, k, b, p, c, pre, post, hL⟩ | ⟨j, d, a, k, b, p, c, pre, post, hR⟩
  · refine ⟨j, hL.par_i, ?_⟩
    have hs := hL.turn
    have hj := hL.jdx
    have hix := hL.idx
    have hlen := hL.at_j.len
    have hp := hL.at_j.part
    simp only [Tr.size] at hlen hp
    have hjl : j < l.length := by omega
    have hRR : RR (turnL l i) i j d a k b p c pre post := ⟨hL.ctx, hs, hix, hj⟩
    have hsl : (turnL l i).length = l.length := by rw [hs, hL.eq]; simp [sp_length, Tr.size]; omega
    have e1 : turnL l i = shf (shf l pre.length (i + 1) (-1)) j (pre.length + (a.size + 1 + b.size + 1 + c.size)) 1 := by
      unfold turnL
      rw [hL.par_i, Int.toNat_natCast, hp.1, hp.2, if_pos (by omega)]
    have p1 := fun x => shf_pt l pre.length (i + 1) (-1) (by omega) (by omega) x
    have p2 := fun x => shf_pt (shf l pre.length (i + 1) (-1)) j (pre.length + (a.size + 1 + b.size + 1 + c.size)) 1 (by omega) (by rw [shf_length _ _ _ _ (by omega)]; omega) x
    have hk : ∀ x, ky (turnL l i) x = ky l x := fun x => by rw [e1, (p2 x).1, (p1 x).1]
    refine ⟨hjl, by omega, by rw [hp.1]; omega, by rw [hp.2]; omega, hsl, hk, fun x => ?_, isTree_same h hsl hk ?_, ?_, ?_⟩
    · rw [e1]
      rcases (p2 x).2 with h2 | h2 <;> rcases (p1 x).2 with h1 | h1 <;> rw [h2, h1] <;> omega
    · obtain ⟨t', ht'⟩ := hL.ctx.fill (.node a k (.node b p c))
      exact ⟨t', by rw [hs, ht']⟩
    · rw [hRR.at_j.root.1]
      have := hL.ctx.ge
      omega
    · rw [hRR.turn, ← hL.eq]
  · refine ⟨j, hR.par_j, ?_⟩
    have hs := hR.turn
    have hj := hR.jdx
    have hix := hR.idx
    have hlen := hR.at_i.len
    have hp := hR.at_i.part
    simp only [Tr.size] at hlen hp
    have hjl : j < l.length := by omega
    have hLL : LL (turnL l i) j i d a k b p c pre post := ⟨hR.ctx, hs, hix, hj⟩
    have hsl : (turnL l i).length = l.length := by rw [hs, hR.eq]; simp [sp_length, Tr.size]; omega
    have e1 : turnL l i = shf (shf l pre.length (j + 1) 1) i (pre.length + (a.size + 1 + (b.size + 1 + c.size))) (-1) := by
      unfold turnL
      rw [hR.par_j, Int.toNat_natCast, hp.1, hp.2, if_neg (by omega)]
    have p1 := fun x => shf_pt l pre.length (j + 1) 1 (by omega) (by omega) x
    have p2 := fun x => shf_pt (shf l pre.length (j + 1) 1) i (pre.length + (a.size + 1 + (b.size + 1 + c.size))) (-1) (by omega) (by rw [shf_length _ _ _ _ (by omega)]; omega) x
    have hk : ∀ x, ky (turnL l i) x = ky l x := fun x => by rw [e1, (p2 x).1, (p1 x).1]
    refine ⟨hjl, by omega, by rw [hp.1]; omega, by rw [hp.2]; omega, hsl, hk, fun x => ?_, isTree_same h hsl hk ?_, ?_, ?_⟩
    · rw [e1]
      rcases (p2 x).2 with h2 | h2 <;> rcases (p1 x).2 with h1 | h1 <;> rw [h2, h1] <;> omega
    · obtain ⟨t', ht'⟩ := hR.ctx.fill (.node (.node a k b) p c)
      exact ⟨t', by rw [hs, ht']⟩
    · rw [hLL.at_i.root.1]
      have := hR.ctx.ge
      omega
    · rw [hLL.turn, ← hR.eq]

/-- how many stand along the way to the right -/
def Tr.spine : Tr → Nat
  | .nil => 0
  | .node _ _ b => b.spine + 1
theorem spine_le (t : Tr) : t.spine ≤ t.size := by
  induction t with
  | nil => exact Nat.le_refl _
  | node a k b _ ih => simp [Tr.spine, Tr.size]; omega
theorem spine_pos {t : Tr} (h : 0 < t.size) : 0 < t.spine := by
  cases t with
  | nil => simp [Tr.size] at h
  | node a k b => simp [Tr.spine]

/-- if none stands to the left they stand in a row -/
theorem row_of : ∀ (t : Tr) (d : Int) (pre post : PL), Ctx 0 d pre post → (∀ i, pre.length ≤ i → i < pre.length + t.size → ¬ (i : Int) < par (pre ++ t.sp d ++ post) i) → ∀ i, i < t.size → dp (t.sp d) i = d + i := by
  intro t
  induction t with
  | nil => intro d pre post _ _ i hi; simp [Tr.size] at hi
  | node a k b _ ihb =>
    intro d pre post hc hno i hi
    cases a with
    | node a1 k1 a2 =>
      have hL : LL (pre ++ (Tr.node (.node a1 k1 a2) k b).sp d ++ post) (pre.length + a1.size) (pre.length + (a1.size + 1 + a2.size)) d a1 k1 a2 k b pre post := ⟨hc, rfl, rfl, rfl⟩
      refine absurd ?_ (hno (pre.length + a1.size) (by omega) (by simp [Tr.size]; omega))
      rw [hL.par_i]
      omega
    | nil =>
      simp only [Tr.sp, List.nil_append]
      cases i with
      | zero => simp [dp]
      | succ i =>
        have e : dp ((k, d) :: b.sp (d + 1)) (i + 1) = dp (b.sp (d + 1)) i := by simp [dp]
        rw [e]
        have hc' := Ctx.right Tr.nil k hc
        have e2 : pre ++ Tr.nil.sp (d + 1) ++ [(k, d)] ++ b.sp (d + 1) ++ post = pre ++ (Tr.node .nil k b).sp d ++ post := by simp [Tr.sp]
        have := ihb (d + 1) _ post hc' (by
          intro i h1 h2
          rw [e2]
          refine hno i ?_ ?_
          · simp [Tr.sp] at h1; omega
          · simp [Tr.sp] at h2; simp [Tr.size]; omega) i (by simp [Tr.size] at hi; omega)
        rw [this]
        omega
theorem row_tree {l : PL} {t : Tr} (h : l = t.sp 0) (hno : ∀ i, i < l.length → ¬ (i : Int) < par l i) : ∀ i, i < l.length → dp l i = i := by
  intro i hi
  have := row_of t 0 [] [] .hole (by
    intro i _ h2
    simp only [List.nil_append, List.append_nil, ← h]
    exact hno i (by rw [h, sp_length]; simpa using h2)) i (by rw [h, sp_length] at hi; exact hi)
  rw [h, this]
  omega

theorem up_ctx {d : Int} {pre post : PL} (hc : Ctx 0 d pre post) : ∀ (ua : Tr) (uk : Int) (ub : Tr),
    (∀ i, i < (pre ++ (Tr.node ua uk ub).sp d ++ post).length → (i : Int) < par (pre ++ (Tr.node ua uk ub).sp d ++ post) i → d < dp (pre ++ (Tr.node ua uk ub).sp d ++ post) i) →
    ∃ m : Nat, ∀ u : Tr, ∃ t : Tr, t.sp 0 = pre ++ u.sp d ++ post ∧ t.spine = m + u.spine := by
  induction hc with
  | hole => intro _ _ _ _; exact ⟨0, fun u => ⟨u, by simp, by omega⟩⟩
  | left k b hc ih =>
    rename_i d pre post
    intro ua uk ub h
    have hL : LL (pre ++ (Tr.node ua uk ub).sp (d + 1) ++ ((k, d) :: b.sp (d + 1) ++ post)) (pre.length + ua.size) (pre.length + (ua.size + 1 + ub.size)) d ua uk ub k b pre post := ⟨hc, by simp [Tr.sp], rfl, rfl⟩
    have h1 := h (pre.length + ua.size) (by simp [sp_length, Tr.size]; omega) (by rw [hL.par_i]; omega)
    rw [hL.at_i.root.1] at h1
    omega
  | right a k hc ih =>
    rename_i d pre post
    intro ua uk ub h
    have e : ∀ u : Tr, pre ++ a.sp (d + 1) ++ [(k, d)] ++ u.sp (d + 1) ++ post = pre ++ (Tr.node a k u).sp d ++ post := fun u => by simp [Tr.sp]
    rw [e] at h
    obtain ⟨m, hm⟩ := ih a k (.node ua uk ub) (fun i h1 h2 => by have := h i h1 h2; omega)
    refine ⟨m + 1, fun u => ?_⟩
    obtain ⟨t, ht, hs⟩ := hm (.node a k u)
    exact ⟨t, by rw [ht, e], by rw [hs]; simp [Tr.spine]; omega⟩

/-- the highest left one comes up: one more along the way to the right -/
theorem way_step {l : PL} {t : Tr} (h : l = t.sp 0) {i : Nat} (hi : i < l.length) (hleft : (i : Int) < par l i) (hmin : ∀ x, x < l.length → (x : Int) < par l x → dp l i ≤ dp l x) :
    dp l i ≠ 0 ∧ ∃ t' : Tr, turnL l i = t'.sp 0 ∧ t'.spine = t.spine + 1 := by
  have hd : dp l i ≠ 0 := by
    intro h0
    rw [par_root h hi h0] at hleft
    omega
  refine ⟨hd, ?_⟩
  rcases above_of h hi hd with ⟨j, d, a, k, b, p, c, pre, post, hL⟩ | ⟨j, d, a, k, b, p, c, pre, post, hR⟩
  · have hdi := hL.at_i.root.1
    have hu := up_ctx hL.ctx (.node a k b) p c (by
      rw [← hL.eq]
      intro x h1 h2
      have := hmin x h1 h2
      omega)
    obtain ⟨m, hm⟩ := hu
    obtain ⟨t0, h0, hs0⟩ := hm (.node (.node a k b) p c)
    have : t0 = t := sp_inj _ _ 0 (by rw [h0, ← h, hL.eq])
    subst this
    obtain ⟨t', h1, hs1⟩ := hm (.node a k (.node b p c))
    refine ⟨t', by rw [hL.turn, h1], ?_⟩
    rw [hs1, hs0]
    simp [Tr.spine]
    omega
  · rw [hR.par_j] at hleft
    have := hR.idx
    have := hR.jdx
    omega

end Go.Proofs.Ytfmdpmebllepeaa
