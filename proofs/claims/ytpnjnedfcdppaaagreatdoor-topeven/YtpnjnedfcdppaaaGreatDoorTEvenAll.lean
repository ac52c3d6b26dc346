/-
  Joined texts: YtpnjnedfcdppaaaGreatDoorVPure, YtpnjnedfcdppaaaGreatDoorBPure, YtpnjnedfcdppaaaGreatDoorBMore, YtpnjnedfcdppaaaGreatDoorBTab, YtpnjnedfcdppaaaGreatDoorTEven.
-/
import Derived.Test.YtpnjnedfcdppaaaGreatDoorOSpotsAll
/-
  VINES THAT ARE PRESSED: how low they come: plain mathematics. Nothing of the program.
-/
namespace Go.Proofs.YtpnjnedfcdppaaaGreatDoor

/-- as many levels as are full, and one more at the most -/
def Bal : Nat → Tr → Prop
  | 0, t => t.tall ≤ 1
  | _ + 1, .nil => False
  | h + 1, .node a _ b => Bal h a ∧ Bal h b
theorem bal_tall : ∀ {h : Nat} {t : Tr}, Bal h t → t.tall ≤ h + 1
  | 0, _, hb => hb
  | h + 1, .nil, hb => absurd hb (by simp [Bal])
  | h + 1, .node a k b, hb => by
    have h1 := bal_tall hb.1
    have h2 := bal_tall hb.2
    rw [Tr.tall]
    omega
theorem bal_size : ∀ {h : Nat} {t : Tr}, Bal h t → 2 ^ h ≤ t.size + 1 ∧ (t.tall = h + 1 → 2 ^ h ≤ t.size)
  | 0, t, hb => by
    refine ⟨by simp, fun he => ?_⟩
    cases t with
    | nil => simp [Tr.tall] at he
    | node a k b => simp only [Tr.size]; omega
  | h + 1, .nil, hb => absurd hb (by simp [Bal])
  | h + 1, .node a k b, hb => by
    obtain ⟨h1, h2⟩ := bal_size hb.1
    obtain ⟨h3, h4⟩ := bal_size hb.2
    have h5 := bal_tall hb.1
    have h6 := bal_tall hb.2
    rw [Nat.pow_succ, Tr.size, Tr.tall]
    refine ⟨by omega, fun he => ?_⟩
    by_cases ha : a.tall = h + 1
    · have := h2 ha
      omega
    · have := h4 (by omega)
      omega
/-- it is as low as it can be -/
theorem bal_low {h : Nat} {t : Tr} (hb : Bal h t) (h2 : t.size < 2 ^ (h + 1)) : (2 ^ h ≤ t.size → t.tall = h + 1) ∧ (t.size + 1 = 2 ^ h → t.tall = h) := by
  obtain ⟨h3, h4⟩ := bal_size hb
  have h5 := bal_tall hb
  have h6 := size_tall t
  constructor
  · intro h7
    apply Classical.byContradiction
    intro h8
    have : 2 ^ t.tall ≤ 2 ^ h := Nat.pow_le_pow_right (by decide) (by omega)
    omega
  · intro h7
    have h8 : ¬ t.tall = h + 1 := fun e => by have := h4 e; omega
    apply Classical.byContradiction
    intro h9
    have h10 : t.tall + 1 ≤ h := by omega
    have : 2 ^ (t.tall + 1) ≤ 2 ^ h := Nat.pow_le_pow_right (by decide) h10
    rw [Nat.pow_succ] at this
    omega
/-- how many stand at a depth -/
def Tr.row : Tr → Nat → Nat
  | .nil, _ => 0
  | .node _ _ _, 0 => 1
  | .node a _ b, d + 1 => a.row d + b.row d
theorem bal_full : ∀ {h : Nat} {t : Tr}, Bal h t → ∀ d, d < h → t.row d = 2 ^ d
  | 0, _, _, d, hd => by omega
  | h + 1, .nil, hb, _, _ => absurd hb (by simp [Bal])
  | h + 1, .node a k b, hb, 0, _ => rfl
  | h + 1, .node a k b, hb, d + 1, hd => by
    show a.row d + b.row d = _
    rw [bal_full hb.1 d (by omega), bal_full hb.2 d (by omega), Nat.pow_succ]
    omega
theorem row_none : ∀ {t : Tr} {d : Nat}, t.tall ≤ d → t.row d = 0
  | .nil, _, _ => rfl
  | .node a k b, 0, h => by simp [Tr.tall] at h
  | .node a k b, d + 1, h => by
    rw [Tr.tall] at h
    show a.row d + b.row d = 0
    rw [row_none (by omega), row_none (by omega)]

/-- so many along the way to the right come up -/
def prs : Nat → Tr → Tr
  | 0, t => t
  | m + 1, .node a k (.node c k' d) => .node (.node a k c) k' (prs m d)
  | _ + 1, t => t
/-- a tree by what stands along the way to the right -/
def toT : List (Tr × Int) → Tr
  | [] => .nil
  | p :: r => .node p.1 p.2 (toT r)
def prL : Nat → List (Tr × Int) → List (Tr × Int)
  | 0, l => l
  | m + 1, p :: q :: r => (.node p.1 p.2 q.1, q.2) :: prL m r
  | _ + 1, l => l
theorem prs_toT : ∀ (m : Nat) (l : List (Tr × Int)), prs m (toT l) = toT (prL m l)
  | 0, l => rfl
  | m + 1, [] => rfl
  | m + 1, [p] => rfl
  | m + 1, p :: q :: r => by
    show Tr.node (Tr.node p.1 p.2 q.1) q.2 (prs m (toT r)) = _
    rw [prs_toT m r]
    rfl
theorem prs_ks : ∀ (m : Nat) (t : Tr), (prs m t).ks = t.ks
  | 0, t => rfl
  | m + 1, .nil => rfl
  | m + 1, .node a k .nil => rfl
  | m + 1, .node a k (.node c k' d) => by
    show (Tr.node (Tr.node a k c) k' (prs m d)).ks = _
    simp only [Tr.ks]
    rw [prs_ks m d]
    simp
/-- the vine of rising keys -/
def vnT : List Int → Tr
  | [] => .nil
  | k :: r => .node .nil k (vnT r)
theorem vnT_ks : ∀ l : List Int, (vnT l).ks = l
  | [] => rfl
  | k :: r => by
    show [] ++ k :: (vnT r).ks = _
    rw [vnT_ks r]
    rfl
theorem vnT_toT : ∀ l : List Int, vnT l = toT (l.map fun k => (.nil, k))
  | [] => rfl
  | k :: r => by
    show Tr.node .nil k (vnT r) = _
    rw [vnT_toT r]
    rfl

/-- pairs of level r make ones of the next level -/
theorem prL_pairs {r : Nat} : ∀ (m : Nat) (A R : List (Tr × Int)), A.length = 2 * m → (∀ p ∈ A, Bal r p.1) → ∃ A', prL m (A ++ R) = A' ++ R ∧ A'.length = m ∧ ∀ p ∈ A', Bal (r + 1) p.1
  | 0, A, R, hl, _ => by
    have : A = [] := List.eq_nil_of_length_eq_zero (by omega)
    subst this
    exact ⟨[], rfl, rfl, fun p hp => absurd hp (by simp)⟩
  | m + 1, [], R, hl, _ => by simp at hl
  | m + 1, [p], R, hl, _ => by simp at hl; omega
  | m + 1, p :: q :: A, R, hl, hb => by
    obtain ⟨A', e, h1, h2⟩ := prL_pairs m A R (by simp at hl; omega) (fun x hx => hb x (by simp [hx]))
    refine ⟨(.node p.1 p.2 q.1, q.2) :: A', ?_, by simp [h1], ?_⟩
    · show (Tr.node p.1 p.2 q.1, q.2) :: prL m (A ++ R) = _
      rw [e]
      rfl
    · intro x hx
      rcases List.mem_cons.1 hx with rfl | hx
      · exact ⟨hb p (by simp), hb q (by simp)⟩
      · exact h2 x hx
/-- the first pressing of a vine: ones alone, to the left of the first -/
theorem prL_first : ∀ (m : Nat) (l : List Int), 2 * m ≤ l.length → (prL m (l.map fun k => (Tr.nil, k))).length + m = l.length ∧ ∀ p ∈ prL m (l.map fun k => (Tr.nil, k)), Bal 0 p.1
  | 0, l, _ => by
    refine ⟨by simp [prL], fun p hp => ?_⟩
    obtain ⟨k, _, rfl⟩ := List.mem_map.1 (show p ∈ l.map fun k => (Tr.nil, k) from hp)
    exact Nat.zero_le _
  | m + 1, [], h => by simp at h
  | m + 1, [k], h => by simp at h; omega
  | m + 1, k :: k' :: r, h => by
    obtain ⟨h1, h2⟩ := prL_first m r (by simp at h; omega)
    refine ⟨?_, ?_⟩
    · show (prL m (r.map fun k => (Tr.nil, k))).length + 1 + (m + 1) = _
      simp only [List.length_cons]
      omega
    · intro p hp
      rcases List.mem_cons.1 (show p ∈ (Tr.node .nil k .nil, k') :: prL m (r.map fun k => (Tr.nil, k)) from hp) with rfl | hp
      · show (Tr.node .nil k .nil).tall ≤ 1
        simp [Tr.tall]
      · exact h2 p hp
/-- what is behind the pressed ones: one of each level, down to 0 -/
def VBk : Nat → List (Tr × Int) → Prop
  | 0, l => l = []
  | _ + 1, [] => False
  | r + 1, p :: q => Bal r p.1 ∧ VBk r q
theorem bb_bal : ∀ {r : Nat} {l : List (Tr × Int)}, VBk r l → Bal r (toT l)
  | 0, l, h => by rw [show l = [] from h]; exact Nat.zero_le _
  | r + 1, [], h => absurd h (by simp [VBk])
  | r + 1, p :: q, h => ⟨h.1, bb_bal h.2⟩
/-- pressed by halves -/
def prJ : Nat → Tr → Tr
  | 0, t => t
  | 1, t => t
  | j + 2, t => prJ (j + 1) (prs (2 ^ (j + 1) - 1) t)
theorem prJ_bal : ∀ (j r : Nat) (A B : List (Tr × Int)), A.length + 1 = 2 ^ (j + 1) → (∀ p ∈ A, Bal r p.1) → VBk r B → Bal (r + j + 1) (prJ (j + 1) (toT (A ++ B)))
  | 0, r, A, B, hl, hA, hB => by
    match A, hl with
    | [p], _ => exact ⟨hA p (by simp), bb_bal hB⟩
    | [], hl => simp at hl
    | p :: q :: A, hl => simp at hl
  | j + 1, r, A, B, hl, hA, hB => by
    have hpos : 0 < 2 ^ (j + 1) := Nat.two_pow_pos _
    rw [Nat.pow_succ] at hl
    have hlen : A.length = 2 * (2 ^ (j + 1) - 1) + 1 := by omega
    have hA1 : A = A.take (2 * (2 ^ (j + 1) - 1)) ++ A.drop (2 * (2 ^ (j + 1) - 1)) := (List.take_append_drop _ _).symm
    obtain ⟨x, hx⟩ : ∃ x, A.drop (2 * (2 ^ (j + 1) - 1)) = [x] := List.length_eq_one_iff.1 (by rw [List.length_drop]; omega)
    rw [hx] at hA1
    obtain ⟨A', e, h1, h2⟩ := prL_pairs (r := r) (2 ^ (j + 1) - 1) (A.take (2 * (2 ^ (j + 1) - 1))) (x :: B) (by rw [List.length_take]; omega) (fun p hp => hA p (List.mem_of_mem_take hp))
    have hxA : x ∈ A := by rw [hA1]; simp
    have e2 : prs (2 ^ (j + 1) - 1) (toT (A ++ B)) = toT (A' ++ (x :: B)) := by
      rw [prs_toT, show A ++ B = A.take (2 * (2 ^ (j + 1) - 1)) ++ (x :: B) by
        conv => lhs; rw [hA1]
        simp, e]
    show Bal (r + (j + 1) + 1) (prJ (j + 1) (prs (2 ^ (j + 1) - 1) (toT (A ++ B))))
    rw [e2, show r + (j + 1) + 1 = r + 1 + j + 1 by omega]
    exact prJ_bal j (r + 1) A' (x :: B) (by omega) h2 ⟨hA x hxA, hB⟩
theorem prJ_ks : ∀ (j : Nat) (t : Tr), (prJ j t).ks = t.ks
  | 0, _ => rfl
  | 1, _ => rfl
  | j + 2, t => by
    show (prJ (j + 1) (prs (2 ^ (j + 1) - 1) t)).ks = _
    rw [prJ_ks (j + 1), prs_ks]
/-- how many come up so -/
def upJ : Nat → Nat
  | 0 => 0
  | 1 => 0
  | j + 2 => 2 ^ (j + 1) - 1 + upJ (j + 1)
theorem upJ_le : ∀ j, upJ j + 1 ≤ 2 ^ j
  | 0 => by decide
  | 1 => by decide
  | j + 2 => by
    have := upJ_le (j + 1)
    have e : upJ (j + 2) = 2 ^ (j + 1) - 1 + upJ (j + 1) := rfl
    have hpos : 0 < 2 ^ (j + 1) := Nat.two_pow_pos _
    have e2 : 2 ^ (j + 2) = 2 ^ (j + 1) * 2 := Nat.pow_succ 2 (j + 1)
    rw [e, e2]
    omega
/-- the evened tree of keys, 2^j being no more than as many and one more -/
def evn (j : Nat) (l : List Int) : Tr := prJ j (prs (l.length + 1 - 2 ^ j) (vnT l))
theorem evn_ks (j : Nat) (l : List Int) : (evn j l).ks = l := by rw [evn, prJ_ks, prs_ks, vnT_ks]
theorem evn_bal {j : Nat} {l : List Int} (h1 : 2 ^ j ≤ l.length + 1) (h2 : l.length + 1 < 2 ^ (j + 1)) : Bal j (evn j l) := by
  cases j with
  | zero =>
    have : l = [] := List.eq_nil_of_length_eq_zero (by simp at h2; omega)
    subst this
    exact Nat.zero_le _
  | succ j =>
    rw [Nat.pow_succ] at h2
    obtain ⟨h3, h4⟩ := prL_first (l.length + 1 - 2 ^ (j + 1)) l (by omega)
    have := prJ_bal j 0 (prL (l.length + 1 - 2 ^ (j + 1)) (l.map fun k => (Tr.nil, k))) [] (by omega) h4 rfl
    rw [List.append_nil] at this
    unfold evn
    rw [vnT_toT, prs_toT]
    rwa [Nat.zero_add] at this
theorem evn_size (j : Nat) (l : List Int) : (evn j l).size = l.length := by rw [← ks_length, evn_ks]

/-- built by halves it is so, too -/
theorem ev_bal : ∀ (j : Nat) (l : List Int), 2 ^ j ≤ l.length + 1 → l.length + 1 ≤ 2 ^ (j + 1) → Bal j (ev l)
  | 0, l, _, h2 => by
    show (ev l).tall ≤ 1
    exact ev_tall 1 l (by rw [Nat.zero_add] at h2; omega)
  | j + 1, l, h1, h2 => by
    have hpos : 0 < 2 ^ j := Nat.two_pow_pos _
    have e1 : 2 ^ (j + 1) = 2 ^ j * 2 := Nat.pow_succ 2 j
    have e2 : 2 ^ (j + 1 + 1) = 2 ^ (j + 1) * 2 := Nat.pow_succ 2 (j + 1)
    have hl : l ≠ [] := fun e => by rw [e, List.length_nil, e1] at h1; omega
    rw [ev_eq hl]
    refine ⟨ev_bal j _ ?_ ?_, ev_bal j _ ?_ ?_⟩
    · rw [List.length_take]; omega
    · rw [List.length_take]; omega
    · rw [List.length_drop]; omega
    · rw [List.length_drop]; omega
/-- all Depths together -/
def Tr.sd : Tr → Nat
  | .nil => 0
  | .node a _ b => a.sd + a.size + (b.sd + b.size)
/-- what is full but for its lowest row has as little Depth in all as so many have -/
theorem bal_sd : ∀ {h : Nat} {t : Tr}, Bal h t → t.sd + 2 ^ (h + 1) = h * (t.size + 1) + 2
  | 0, .nil, _ => rfl
  | 0, .node a k b, hb => by
    have hb' : max a.tall b.tall + 1 ≤ 1 := hb
    have z : ∀ s : Tr, s.tall = 0 → s = .nil := fun s hs => by
      cases s with
      | nil => rfl
      | node x y z => simp [Tr.tall] at hs
    rw [z a (by omega), z b (by omega)]
    rfl
  | h + 1, .nil, hb => absurd hb (by simp [Bal])
  | h + 1, .node a k b, hb => by
    have h1 := bal_sd hb.1
    have h2 := bal_sd hb.2
    have e : 2 ^ (h + 1 + 1) = 2 ^ (h + 1) * 2 := Nat.pow_succ 2 (h + 1)
    rw [e]
    simp only [Tr.sd, Tr.size]
    have e3 : (h + 1) * (a.size + 1 + b.size + 1) = h * (a.size + 1) + h * (b.size + 1) + (a.size + 1 + b.size + 1) := by
      rw [Nat.add_mul, Nat.one_mul, show a.size + 1 + b.size + 1 = (a.size + 1) + (b.size + 1) by omega, Nat.mul_add]
    rw [e3]
    generalize h * (a.size + 1) = x at *
    generalize h * (b.size + 1) = y at *
    omega

end Go.Proofs.YtpnjnedfcdppaaaGreatDoor

/-
  TREES THAT ASK LEAST: KNUTH on the tops of parts; what trees cost: plain mathematics. Nothing of the program.
-/
namespace Go.Proofs.YtpnjnedfcdppaaaGreatDoor

/-- the least costs of all parts -/
structure OptC (w c : Nat → Nat → Int) (n : Nat) : Prop where
  quad : ∀ i i' j j', i ≤ i' → i' ≤ j → j ≤ j' → j' ≤ n → w i j + w i' j' = w i' j + w i j'
  mono : ∀ i i' j j', i ≤ i' → i' ≤ j → j ≤ j' → j' ≤ n → w i' j ≤ w i j'
  zero : ∀ i, i ≤ n → c i i = 0
  le : ∀ i j k, i ≤ k → k < j → j ≤ n → c i j ≤ w i j + c i k + c (k + 1) j
  has : ∀ i j, i < j → j ≤ n → ∃ k, i ≤ k ∧ k < j ∧ c i j = w i j + c i k + c (k + 1) j
/-- the quadrangle's inequality -/
theorem OptC.qi {w c : Nat → Nat → Int} {n : Nat} (h : OptC w c n) : ∀ (m i i' j j' : Nat), j' - i ≤ m → i ≤ i' → i' ≤ j → j ≤ j' → j' ≤ n → c i j + c i' j' ≤ c i' j + c i j' := by
  intro m
  induction m with
  | zero =>
    intro i i' j j' hm h1 h2 h3 h4
    have e1 : i' = i := by omega
    have e2 : j' = j := by omega
    subst e1 e2
    omega
  | succ m ih =>
    intro i i' j j' hm h1 h2 h3 h4
    by_cases hi : i = i'
    · subst hi
      omega
    · by_cases hj : j = j'
      · subst hj
        omega
      · by_cases hij : i' = j
        · subst hij
          obtain ⟨k, k1, k2, hk⟩ := h.has i j' (by omega) h4
          rw [h.zero i' (by omega), hk]
          by_cases hki : k < i'
          · have a1 := h.le i i' k k1 hki (by omega)
            have a2 := ih (k + 1) i' i' j' (by omega) (by omega) (Nat.le_refl _) h3 h4
            rw [h.zero i' (by omega)] at a2
            have a3 := h.mono i i i' j' (Nat.le_refl _) h1 h3 h4
            omega
          · have a1 := h.le i' j' k (by omega) k2 h4
            have a2 := ih i i' i' k (by omega) h1 (Nat.le_refl _) (by omega) (by omega)
            rw [h.zero i' (by omega)] at a2
            have a3 := h.mono i i' j' j' h1 (by omega) (Nat.le_refl _) h4
            omega
        · obtain ⟨y, y1, y2, hy⟩ := h.has i' j (by omega) (by omega)
          obtain ⟨z, z1, z2, hz⟩ := h.has i j' (by omega) h4
          have hq := h.quad i i' j j' h1 h2 h3 h4
          rw [hy, hz]
          by_cases hzy : z ≤ y
          · have a1 := h.le i j z z1 (by omega) (by omega)
            have a2 := h.le i' j' y y1 (by omega) h4
            have a3 := ih (z + 1) (y + 1) j j' (by omega) (by omega) (by omega) h3 h4
            omega
          · have a1 := h.le i j y (by omega) y2 (by omega)
            have a2 := h.le i' j' z (by omega) z2 h4
            have a3 := ih i i' y z (by omega) h1 y1 (by omega) (by omega)
            omega
/-- the least top of a part -/
structure TopL (w c : Nat → Nat → Int) (i j r : Nat) : Prop where
  ge : i ≤ r
  lt : r < j
  is_ : c i j = w i j + c i r + c (r + 1) j
  least : ∀ k, i ≤ k → k < r → c i j < w i j + c i k + c (k + 1) j
/-- KNUTH -/
theorem OptC.right {w c : Nat → Nat → Int} {n i j r s : Nat} (h : OptC w c n) (hr : TopL w c i j r) (hs : TopL w c i (j + 1) s) (hj : j + 1 ≤ n) : r ≤ s := by
  apply Classical.byContradiction
  intro hlt
  have h1 := hr.least s hs.ge (by omega)
  have h2 := hr.is_
  have h3 := hs.is_
  have h4 := h.le i (j + 1) r hr.ge (by have := hr.lt; omega) hj
  have h5 := h.qi _ (s + 1) (r + 1) j (j + 1) (Nat.le_refl _) (by omega) (by have := hr.lt; omega) (by omega) hj
  omega
theorem OptC.left {w c : Nat → Nat → Int} {n i j r s : Nat} (h : OptC w c n) (hr : TopL w c i j r) (hs : TopL w c (i + 1) j s) (hj : j ≤ n) : r ≤ s := by
  apply Classical.byContradiction
  intro hlt
  have h1 := hr.least s (by have := hs.ge; omega) (by omega)
  have h2 := hr.is_
  have h3 := hs.is_
  have h4 := h.le (i + 1) j r (by have := hs.ge; omega) hr.lt hj
  have h5 := h.qi _ i (i + 1) s r (Nat.le_refl _) (by omega) hs.ge (by omega) (by have := hr.lt; omega)
  omega

/-- what is asked of a part: hits of its keys, gaps between and beside them -/
def wgt (hits gaps : List Int) (i : Nat) : Nat → Int
  | 0 => gaps[i]?.getD 0
  | d + 1 => wgt hits gaps i d + hits[i + d]?.getD 0 + gaps[i + d + 1]?.getD 0
def wij (hits gaps : List Int) (i j : Nat) : Int := wgt hits gaps i (j - i)
theorem wij_same (hits gaps : List Int) (i : Nat) : wij hits gaps i i = gaps[i]?.getD 0 := by unfold wij; rw [Nat.sub_self]; rfl
theorem wij_succ (hits gaps : List Int) {i j : Nat} (h : i ≤ j) : wij hits gaps i (j + 1) = wij hits gaps i j + hits[j]?.getD 0 + gaps[j + 1]?.getD 0 := by
  unfold wij
  rw [show j + 1 - i = (j - i) + 1 by omega, wgt, show i + (j - i) = j by omega]
theorem wij_part (hits gaps : List Int) {i k : Nat} (h : i ≤ k) : ∀ j, k + 1 ≤ j → wij hits gaps i j = wij hits gaps i k + hits[k]?.getD 0 + wij hits gaps (k + 1) j := by
  intro j hj
  obtain ⟨d, rfl⟩ : ∃ d, j = k + 1 + d := ⟨j - (k + 1), by omega⟩
  induction d with
  | zero => rw [Nat.add_zero, wij_succ _ _ h, wij_same]
  | succ d ih =>
    rw [show k + 1 + (d + 1) = (k + 1 + d) + 1 by omega, wij_succ _ _ (by omega), wij_succ hits gaps (show k + 1 ≤ k + 1 + d by omega), ih (by omega)]
    omega
theorem wij_diff (hits gaps : List Int) {i i' j : Nat} (h1 : i ≤ i') (h2 : i' ≤ j) : ∀ j', j ≤ j' → wij hits gaps i j' - wij hits gaps i j = wij hits gaps i' j' - wij hits gaps i' j := by
  intro j' hj
  obtain ⟨d, rfl⟩ : ∃ d, j' = j + d := ⟨j' - j, by omega⟩
  induction d with
  | zero => rw [Nat.add_zero]; omega
  | succ d ih =>
    have := ih (by omega)
    rw [← Nat.add_assoc, wij_succ _ _ (by omega), wij_succ hits gaps (show i' ≤ j + d by omega)]
    omega
theorem get_pos {l : List Int} (h : ∀ x ∈ l, 0 ≤ x) (i : Nat) : 0 ≤ l[i]?.getD 0 := by
  rcases Nat.lt_or_ge i l.length with hi | hi
  · rw [List.getElem?_eq_getElem hi]
    exact h _ (List.getElem_mem hi)
  · rw [List.getElem?_eq_none hi]
    exact Int.le_refl _
theorem wij_pos {hits gaps : List Int} (hh : ∀ x ∈ hits, 0 ≤ x) (hg : ∀ x ∈ gaps, 0 ≤ x) {i j : Nat} (h : i ≤ j) : 0 ≤ wij hits gaps i j := by
  obtain ⟨d, rfl⟩ : ∃ d, j = i + d := ⟨j - i, by omega⟩
  induction d with
  | zero => rw [Nat.add_zero, wij_same]; exact get_pos hg i
  | succ d ih =>
    have h1 := ih (by omega)
    have h2 := get_pos hh (i + d)
    have h3 := get_pos hg (i + d + 1)
    rw [← Nat.add_assoc, wij_succ _ _ (by omega)]
    omega
theorem wij_mono {hits gaps : List Int} (hh : ∀ x ∈ hits, 0 ≤ x) (hg : ∀ x ∈ gaps, 0 ≤ x) {i i' j j' : Nat} (h1 : i ≤ i') (h2 : i' ≤ j) (h3 : j ≤ j') : wij hits gaps i' j ≤ wij hits gaps i j' := by
  have a : wij hits gaps i' j ≤ wij hits gaps i j := by
    rcases Nat.lt_or_ge i i' with h | h
    · obtain ⟨q, rfl⟩ : ∃ q, i' = q + 1 := ⟨i' - 1, by omega⟩
      have e := wij_part hits gaps (show i ≤ q by omega) j h2
      have p1 := wij_pos hh hg (show i ≤ q by omega)
      have p2 := get_pos hh q
      omega
    · obtain rfl : i = i' := by omega
      exact Int.le_refl _
  have b : wij hits gaps i j ≤ wij hits gaps i j' := by
    rcases Nat.lt_or_ge j j' with h | h
    · have e := wij_part hits gaps (show i ≤ j by omega) j' h
      have p1 := wij_pos hh hg (show j + 1 ≤ j' by omega)
      have p2 := get_pos hh j
      omega
    · obtain rfl : j = j' := by omega
      exact Int.le_refl _
  omega
/-- the sums of parts are as KNUTH asks -/
theorem optC_of {hits gaps : List Int} {c : Nat → Nat → Int} {n : Nat} (hh : ∀ x ∈ hits, 0 ≤ x) (hg : ∀ x ∈ gaps, 0 ≤ x) (h0 : ∀ i, i ≤ n → c i i = 0)
    (h1 : ∀ i j k, i ≤ k → k < j → j ≤ n → c i j ≤ wij hits gaps i j + c i k + c (k + 1) j) (h2 : ∀ i j, i < j → j ≤ n → ∃ k, i ≤ k ∧ k < j ∧ c i j = wij hits gaps i j + c i k + c (k + 1) j) : OptC (wij hits gaps) c n :=
  ⟨fun i i' j j' a b d _ => by have := wij_diff hits gaps a b j' d; omega, fun i i' j j' a b d _ => wij_mono hh hg a b d, h0, h1, h2⟩

/-- what a tree costs, each node by its depth: keys are places -/
def Tr.ask (hits gaps : List Int) : Tr → Nat → Int → Int
  | .nil, i, d => gaps[i]?.getD 0 * d
  | .node a k b, i, d => hits[k.toNat]?.getD 0 * (d + 1) + a.ask hits gaps i (d + 1) + b.ask hits gaps (k.toNat + 1) (d + 1)
/-- a tree of just the keys from i to j, less 1 -/
def Rng : Tr → Nat → Nat → Prop
  | .nil, i, j => i = j
  | .node a k b, i, j => 0 ≤ k ∧ Rng a i k.toNat ∧ Rng b (k.toNat + 1) j
theorem rng_le : ∀ {t : Tr} {i j : Nat}, Rng t i j → i ≤ j := by
  intro t
  induction t with
  | nil => intro i j h; exact Nat.le_of_eq h
  | node a k b iha ihb =>
    intro i j h
    have h1 := iha h.2.1
    have h2 := ihb h.2.2
    omega
theorem ask_deep (hits gaps : List Int) : ∀ {t : Tr} {i j : Nat} (d : Int), Rng t i j → t.ask hits gaps i (d + 1) = t.ask hits gaps i d + wij hits gaps i j := by
  intro t
  induction t with
  | nil =>
    intro i j d h
    obtain rfl : i = j := h
    rw [wij_same]
    show gaps[i]?.getD 0 * (d + 1) = gaps[i]?.getD 0 * d + _
    rw [Int.mul_add, Int.mul_one]
  | node a k b iha ihb =>
    intro i j d h
    have h1 := iha (d + 1) h.2.1
    have h2 := ihb (d + 1) h.2.2
    have h3 := wij_part hits gaps (rng_le h.2.1) j (rng_le h.2.2)
    show hits[k.toNat]?.getD 0 * (d + 1 + 1) + a.ask hits gaps i (d + 1 + 1) + b.ask hits gaps (k.toNat + 1) (d + 1 + 1) = hits[k.toNat]?.getD 0 * (d + 1) + a.ask hits gaps i (d + 1) + b.ask hits gaps (k.toNat + 1) (d + 1) + _
    rw [h1, h2, h3, Int.mul_add _ (d + 1) 1, Int.mul_one]
    omega
theorem ask_node (hits gaps : List Int) {a b : Tr} {k : Int} {i j : Nat} (h : Rng (.node a k b) i j) : (Tr.node a k b).ask hits gaps i 0 = wij hits gaps i j + a.ask hits gaps i 0 + b.ask hits gaps (k.toNat + 1) 0 := by
  have h1 := ask_deep hits gaps 0 h.2.1
  have h2 := ask_deep hits gaps 0 h.2.2
  have h3 := wij_part hits gaps (rng_le h.2.1) j (rng_le h.2.2)
  show hits[k.toNat]?.getD 0 * (0 + 1) + a.ask hits gaps i (0 + 1) + b.ask hits gaps (k.toNat + 1) (0 + 1) = _
  rw [h1, h2, h3, Int.zero_add, Int.mul_one]
  omega
/-- KNUTH: no tree costs less -/
theorem ask_least {hits gaps : List Int} {c : Nat → Nat → Int} {n : Nat} (h : OptC (wij hits gaps) c n) : ∀ {t : Tr} {i j : Nat}, Rng t i j → j ≤ n → c i j ≤ t.ask hits gaps i 0 := by
  intro t
  induction t with
  | nil =>
    intro i j hr hj
    obtain rfl : i = j := hr
    rw [h.zero i hj]
    show 0 ≤ gaps[i]?.getD 0 * 0
    rw [Int.mul_zero]
    exact Int.le_refl _
  | node a k b iha ihb =>
    intro i j hr hj
    have e := ask_node hits gaps hr
    have l1 := rng_le hr.2.1
    have l2 := rng_le hr.2.2
    have h1 := iha hr.2.1 (by omega)
    have h2 := ihb hr.2.2 hj
    have h3 := h.le i j k.toNat l1 (by omega) hj
    omega

end Go.Proofs.YtpnjnedfcdppaaaGreatDoor

/-
  ASKED MORE OFTEN, SO MANY TIMES AS OFTEN, THE OTHER WAY ROUND: what the least costs come to: plain mathematics. Nothing of the program.
-/
namespace Go.Proofs.YtpnjnedfcdppaaaGreatDoor

/-- the least costs of all parts, whatever is asked -/
structure MinC (w c : Nat → Nat → Int) (n : Nat) : Prop where
  zero : ∀ i, i ≤ n → c i i = 0
  le : ∀ i j k, i ≤ k → k < j → j ≤ n → c i j ≤ w i j + c i k + c (k + 1) j
  has : ∀ i j, i < j → j ≤ n → ∃ k, i ≤ k ∧ k < j ∧ c i j = w i j + c i k + c (k + 1) j
theorem OptC.min {w c : Nat → Nat → Int} {n : Nat} (h : OptC w c n) : MinC w c n := ⟨h.zero, h.le, h.has⟩
theorem MinC.mono {w c w' c' : Nat → Nat → Int} {n : Nat} (h : MinC w c n) (h' : MinC w' c' n) (hw : ∀ i j, i < j → j ≤ n → w i j ≤ w' i j) : ∀ (m i j : Nat), j - i ≤ m → i ≤ j → j ≤ n → c i j ≤ c' i j
  | 0, i, j, hm, hij, hj => by
    obtain rfl : i = j := by omega
    rw [h.zero i hj, h'.zero i hj]
    exact Int.le_refl _
  | m + 1, i, j, hm, hij, hj => by
    rcases Nat.eq_or_lt_of_le hij with e | hlt
    · subst e
      rw [h.zero i hj, h'.zero i hj]
      exact Int.le_refl _
    · obtain ⟨k, h1, h2, h3⟩ := h'.has i j hlt hj
      have a1 := h.le i j k h1 h2 hj
      have a2 := MinC.mono h h' hw m i k (by omega) h1 (by omega)
      have a3 := MinC.mono h h' hw m (k + 1) j (by omega) (by omega) hj
      have a4 := hw i j hlt hj
      omega
/-- the least costs are told by the sums alone -/
theorem MinC.same {w c w' c' : Nat → Nat → Int} {n : Nat} (h : MinC w c n) (h' : MinC w' c' n) (hw : ∀ i j, i < j → j ≤ n → w i j = w' i j) (i j : Nat) (hij : i ≤ j) (hj : j ≤ n) : c i j = c' i j :=
  Int.le_antisymm (h.mono h' (fun i j a b => Int.le_of_eq (hw i j a b)) _ i j (Nat.le_refl _) hij hj) (h'.mono h (fun i j a b => Int.le_of_eq (hw i j a b).symm) _ i j (Nat.le_refl _) hij hj)
/-- so many times as often: so many times as much -/
theorem MinC.times {w c : Nat → Nat → Int} {n : Nat} (h : MinC w c n) {t : Int} (ht : 0 ≤ t) : MinC (fun i j => w i j * t) (fun i j => c i j * t) n := by
  refine ⟨fun i hi => ?_, fun i j k h1 h2 h3 => ?_, fun i j h1 h2 => ?_⟩
  · show c i i * t = 0
    rw [h.zero i hi, Int.zero_mul]
  · have := Int.mul_le_mul_of_nonneg_right (h.le i j k h1 h2 h3) ht
    show c i j * t ≤ w i j * t + c i k * t + c (k + 1) j * t
    rw [Int.add_mul, Int.add_mul] at this
    exact this
  · obtain ⟨k, a, b, e⟩ := h.has i j h1 h2
    refine ⟨k, a, b, ?_⟩
    show c i j * t = w i j * t + c i k * t + c (k + 1) j * t
    rw [e, Int.add_mul, Int.add_mul]
/-- the other way round -/
theorem MinC.turned {w c : Nat → Nat → Int} {n : Nat} (h : MinC w c n) : MinC (fun i j => w (n - j) (n - i)) (fun i j => c (n - j) (n - i)) n := by
  refine ⟨fun i hi => h.zero _ (by omega), fun i j k h1 h2 h3 => ?_, fun i j h1 h2 => ?_⟩
  · have := h.le (n - j) (n - i) (n - 1 - k) (by omega) (by omega) (by omega)
    rw [show n - 1 - k + 1 = n - k by omega, show n - 1 - k = n - (k + 1) by omega] at this
    show c (n - j) (n - i) ≤ w (n - j) (n - i) + c (n - k) (n - i) + c (n - j) (n - (k + 1))
    omega
  · obtain ⟨k, a, b, e⟩ := h.has (n - j) (n - i) (by omega) (by omega)
    refine ⟨n - 1 - k, by omega, by omega, ?_⟩
    show c (n - j) (n - i) = w (n - j) (n - i) + c (n - (n - 1 - k)) (n - i) + c (n - j) (n - (n - 1 - k + 1))
    rw [show n - (n - 1 - k) = k + 1 by omega, show n - (n - 1 - k + 1) = k by omega]
    omega
/-- asked for m times more: no more than that for each key costs it more -/
theorem MinC.more {w c w' c' : Nat → Nat → Int} {n x : Nat} {m : Int} (hm : 0 ≤ m) (h : MinC w c n) (h' : MinC w' c' n) (hw : ∀ i j, i < j → j ≤ n → w' i j = w i j + (if i ≤ x ∧ x < j then m else 0)) :
    ∀ (q i j : Nat), j - i ≤ q → i ≤ j → j ≤ n → c' i j ≤ c i j + (if i ≤ x ∧ x < j then m * ((j : Int) - (i : Int)) else 0)
  | 0, i, j, hq, hij, hj => by
    obtain rfl : i = j := by omega
    rw [h.zero i hj, h'.zero i hj, if_neg (by omega)]
    exact Int.le_refl _
  | q + 1, i, j, hq, hij, hj => by
    rcases Nat.eq_or_lt_of_le hij with e | hlt
    · subst e
      rw [h.zero i hj, h'.zero i hj, if_neg (by omega)]
      exact Int.le_refl _
    · obtain ⟨k, h1, h2, h3⟩ := h.has i j hlt hj
      have a1 := h'.le i j k h1 h2 hj
      have a2 := MinC.more hm h h' hw q i k (by omega) h1 (by omega)
      have a3 := MinC.more hm h h' hw q (k + 1) j (by omega) (by omega) hj
      rw [hw i j hlt hj] at a1
      have mul_le : ∀ u v : Int, u ≤ v → m * u ≤ m * v := fun u v huv => Int.mul_le_mul_of_nonneg_left huv hm
      by_cases hin : i ≤ x ∧ x < j
      · rw [if_pos hin] at a1 ⊢
        have split : m * ((j : Int) - (i : Int)) = m + m * ((j : Int) - (i : Int) - 1) := by
          rw [Int.mul_sub m _ 1, Int.mul_one]
          omega
        rw [split]
        by_cases hl : x < k
        · rw [if_pos ⟨hin.1, hl⟩] at a2
          rw [if_neg (by omega)] at a3
          have := mul_le ((k : Int) - (i : Int)) ((j : Int) - (i : Int) - 1) (by omega)
          omega
        · rw [if_neg (by omega)] at a2
          by_cases hr : k + 1 ≤ x
          · rw [if_pos ⟨hr, hin.2⟩] at a3
            have := mul_le ((j : Int) - ((k + 1 : Nat) : Int)) ((j : Int) - (i : Int) - 1) (by omega)
            omega
          · rw [if_neg (by omega)] at a3
            have := mul_le 0 ((j : Int) - (i : Int) - 1) (by omega)
            rw [Int.mul_zero] at this
            omega
      · rw [if_neg hin] at a1 ⊢
        rw [if_neg (by omega)] at a2 a3
        omega

/-- the sums: more of one, so many times all, the other way round -/
theorem wij_times (hits gaps : List Int) (t : Int) (i : Nat) : ∀ d, wgt (hits.map (· * t)) (gaps.map (· * t)) i d = wgt hits gaps i d * t := by
  have g : ∀ (l : List Int) (q : Nat), (l.map (· * t))[q]?.getD 0 = l[q]?.getD 0 * t := fun l q => by
    rw [List.getElem?_map]
    cases l[q]? <;> simp
  intro d
  induction d with
  | zero => simp only [wgt]; exact g gaps i
  | succ d ih => simp only [wgt]; rw [ih, g, g, Int.add_mul, Int.add_mul]
theorem wij_set (hits gaps : List Int) (x : Nat) (m : Int) (hx : x < hits.length) (i : Nat) : ∀ d, wgt (hits.set x (hits[x] + m)) gaps i d = wgt hits gaps i d + (if i ≤ x ∧ x < i + d then m else 0) := by
  intro d
  induction d with
  | zero => simp only [wgt]; rw [if_neg (by omega)]; omega
  | succ d ih =>
    simp only [wgt]
    rw [ih, List.getElem?_set]
    by_cases he : x = i + d
    · subst he
      rw [if_pos rfl, if_pos hx, if_neg (by omega), if_pos (by omega), List.getElem?_eq_getElem hx]
      simp only [Option.getD_some]
      omega
    · rw [if_neg he]
      by_cases hin : i ≤ x ∧ x < i + d
      · rw [if_pos hin, if_pos (by omega)]
        omega
      · rw [if_neg hin, if_neg (by omega)]
        omega
/-- all of a part: gaps, and hits with the gaps behind them -/
theorem wij_turned {hits gaps : List Int} {n : Nat} (hh : hits.length = n) (hg : gaps.length = n + 1) : ∀ (d i : Nat), i + d ≤ n → wij hits.reverse gaps.reverse i (i + d) = wij hits gaps (n - (i + d)) (n - i) := by
  have gr : ∀ q, q ≤ n → gaps.reverse[q]?.getD 0 = gaps[n - q]?.getD 0 := fun q hq => by
    rw [List.getElem?_reverse (by omega), hg]
    congr 2
  have hr : ∀ q, q < n → hits.reverse[q]?.getD 0 = hits[n - 1 - q]?.getD 0 := fun q hq => by
    rw [List.getElem?_reverse (by omega), hh]
  intro d
  induction d with
  | zero =>
    intro i hi
    rw [Nat.add_zero, wij_same, wij_same, gr i (by omega)]
  | succ d ih =>
    intro i hi
    rw [← Nat.add_assoc, wij_succ _ _ (by omega), ih i (by omega), hr (i + d) (by omega), gr (i + d + 1) (by omega)]
    have hp := wij_part hits gaps (i := n - (i + d + 1)) (k := n - (i + d + 1)) (Nat.le_refl _) (n - i) (by omega)
    rw [wij_same, show n - (i + d + 1) + 1 = n - (i + d) by omega] at hp
    rw [hp, show n - 1 - (i + d) = n - (i + d + 1) by omega]
    omega

end Go.Proofs.YtpnjnedfcdppaaaGreatDoor

/-
  THE TABLE OF LEAST COSTS, the tops it tells, the tree it grows: plain mathematics. Nothing of the program.
-/
namespace Go.Proofs.YtpnjnedfcdppaaaGreatDoor

def bblw (c : Nat → Nat → Int) (i j k : Nat) : Int := c i k + c (k + 1) j
/-- the first place of the least, among i .. i + d -/
def tpd (c : Nat → Nat → Int) (i j : Nat) : Nat → Nat
  | 0 => i
  | d + 1 => if bblw c i j (i + 1 + d) < bblw c i j (tpd c i j d) then i + 1 + d else tpd c i j d
def tp (c : Nat → Nat → Int) (i j : Nat) : Nat := tpd c i j (j - (i + 1))
theorem tpd_bd (c : Nat → Nat → Int) (i j : Nat) : ∀ d, i ≤ tpd c i j d ∧ tpd c i j d ≤ i + d
  | 0 => ⟨Nat.le_refl _, Nat.le_refl _⟩
  | d + 1 => by
    have := tpd_bd c i j d
    unfold tpd
    split <;> omega
theorem tpd_least (c : Nat → Nat → Int) (i j : Nat) : ∀ d k, i ≤ k → k ≤ i + d → bblw c i j (tpd c i j d) ≤ bblw c i j k
  | 0, k, h1, h2 => by
    obtain rfl : k = i := by omega
    exact Int.le_refl _
  | d + 1, k, h1, h2 => by
    have ih := tpd_least c i j d
    unfold tpd
    rcases Nat.lt_or_ge k (i + 1 + d) with h3 | h3
    · have := ih k h1 (by omega)
      split <;> omega
    · obtain rfl : k = i + 1 + d := by omega
      split <;> omega
theorem tpd_first (c : Nat → Nat → Int) (i j : Nat) : ∀ d k, i ≤ k → k < tpd c i j d → bblw c i j (tpd c i j d) < bblw c i j k
  | 0, k, h1, h2 => by
    have : tpd c i j 0 = i := rfl
    omega
  | d + 1, k, h1, h2 => by
    have ih := tpd_first c i j d
    have il := tpd_least c i j d
    have ib := tpd_bd c i j d
    unfold tpd at h2 ⊢
    split
    · rename_i hc
      rw [if_pos hc] at h2
      have := il k h1 (by omega)
      omega
    · rename_i hc
      rw [if_neg hc] at h2
      exact ih k h1 h2
theorem tpd_same {c c' : Nat → Nat → Int} {i j : Nat} : ∀ d, (∀ k, i ≤ k → k ≤ i + d → bblw c i j k = bblw c' i j k) → tpd c i j d = tpd c' i j d
  | 0, _ => rfl
  | d + 1, h => by
    have e := tpd_same d (fun k h1 h2 => h k h1 (by omega))
    have hb := tpd_bd c' i j d
    unfold tpd
    rw [e, h (i + 1 + d) (by omega) (by omega), h (tpd c' i j d) hb.1 (by omega)]
theorem tp_bd (c : Nat → Nat → Int) {i j : Nat} (h : i < j) : i ≤ tp c i j ∧ tp c i j < j := by
  have := tpd_bd c i j (j - (i + 1))
  unfold tp
  omega
theorem tp_same {c c' : Nat → Nat → Int} {i j : Nat} (hij : i < j) (h : ∀ k, i ≤ k → k < j → bblw c i j k = bblw c' i j k) : tp c i j = tp c' i j :=
  tpd_same _ fun k h1 h2 => h k h1 (by omega)

/-- the least costs of parts of up to so many keys -/
def cf (w : Nat → Nat → Int) : Nat → Nat → Nat → Int
  | 0, _, _ => 0
  | m + 1, i, j => if i < j then w i j + bblw (cf w m) i j (tp (cf w m) i j) else 0
theorem cf_none (w : Nat → Nat → Int) : ∀ (m i j : Nat), ¬ i < j → cf w m i j = 0
  | 0, _, _, _ => rfl
  | m + 1, i, j, h => by rw [cf, if_neg h]
theorem cf_same (w : Nat → Nat → Int) : ∀ (m m' i j : Nat), j ≤ i + m → j ≤ i + m' → cf w m i j = cf w m' i j
  | 0, m', i, j, h, _ => by rw [cf_none w 0 i j (by omega), cf_none w m' i j (by omega)]
  | m + 1, 0, i, j, _, h => by rw [cf_none w 0 i j (by omega), cf_none w (m + 1) i j (by omega)]
  | m + 1, m' + 1, i, j, h, h' => by
    by_cases hij : i < j
    · have e : ∀ k, i ≤ k → k < j → bblw (cf w m) i j k = bblw (cf w m') i j k := fun k h1 h2 => by
        unfold bblw
        rw [cf_same w m m' i k (by omega) (by omega), cf_same w m m' (k + 1) j (by omega) (by omega)]
      have et := tp_same hij e
      have hb := tp_bd (cf w m') hij
      rw [cf, cf, if_pos hij, if_pos hij, et, e _ hb.1 hb.2]
    · rw [cf_none w _ i j hij, cf_none w _ i j hij]
def lc (w : Nat → Nat → Int) (i j : Nat) : Int := cf w (j - i) i j
theorem lc_zero (w : Nat → Nat → Int) {i j : Nat} (h : ¬ i < j) : lc w i j = 0 := cf_none w _ _ _ h
theorem lc_cf (w : Nat → Nat → Int) {m i j : Nat} (h : j ≤ i + m) : cf w m i j = lc w i j := cf_same w _ _ _ _ h (by omega)
theorem lc_node (w : Nat → Nat → Int) {i j : Nat} (h : i < j) : lc w i j = w i j + bblw (lc w) i j (tp (lc w) i j) := by
  obtain ⟨m, hm⟩ : ∃ m, j - i = m + 1 := ⟨j - i - 1, by omega⟩
  have e : ∀ k, i ≤ k → k < j → bblw (cf w m) i j k = bblw (lc w) i j k := fun k h1 h2 => by
    unfold bblw
    rw [lc_cf w (by omega), lc_cf w (by omega)]
  have et := tp_same h e
  have hb := tp_bd (lc w) h
  rw [show lc w i j = cf w (m + 1) i j by unfold lc; rw [hm], cf, if_pos h, et, e _ hb.1 hb.2]
theorem lc_le (w : Nat → Nat → Int) {i j k : Nat} (h1 : i ≤ k) (h2 : k < j) : lc w i j ≤ w i j + lc w i k + lc w (k + 1) j := by
  rw [lc_node w (show i < j by omega)]
  have := tpd_least (lc w) i j (j - (i + 1)) k h1 (by omega)
  have e : tp (lc w) i j = tpd (lc w) i j (j - (i + 1)) := rfl
  rw [e]
  have e2 : bblw (lc w) i j k = lc w i k + lc w (k + 1) j := rfl
  omega
theorem lc_top (w : Nat → Nat → Int) {i j : Nat} (h : i < j) : TopL w (lc w) i j (tp (lc w) i j) := by
  have hb := tp_bd (lc w) h
  have e := lc_node w h
  have e2 : bblw (lc w) i j (tp (lc w) i j) = lc w i (tp (lc w) i j) + lc w (tp (lc w) i j + 1) j := rfl
  refine ⟨hb.1, hb.2, by omega, fun k h1 h2 => ?_⟩
  have := tpd_first (lc w) i j (j - (i + 1)) k h1 h2
  have e3 : tp (lc w) i j = tpd (lc w) i j (j - (i + 1)) := rfl
  have e4 : bblw (lc w) i j k = lc w i k + lc w (k + 1) j := rfl
  rw [e3] at e e2
  omega
theorem lc_min (w : Nat → Nat → Int) (n : Nat) : MinC w (lc w) n :=
  ⟨fun i _ => lc_zero w (by omega), fun i j k h1 h2 _ => lc_le w h1 h2, fun i j h1 _ => ⟨_, (lc_top w h1).ge, (lc_top w h1).lt, (lc_top w h1).is_⟩⟩
theorem lc_opt {hits gaps : List Int} (n : Nat) (hh : ∀ x ∈ hits, 0 ≤ x) (hg : ∀ x ∈ gaps, 0 ≤ x) : OptC (wij hits gaps) (lc (wij hits gaps)) n :=
  optC_of hh hg (fun i _ => lc_zero _ (by omega)) (fun i j k h1 h2 _ => lc_le _ h1 h2) (fun i j h1 _ => ⟨_, (lc_top _ h1).ge, (lc_top _ h1).lt, (lc_top _ h1).is_⟩)
theorem lc_bd (w : Nat → Nat → Int) (n : Nat) (hw : ∀ i j, i ≤ j → j ≤ n → 0 ≤ w i j ∧ w i j ≤ 41000) : ∀ (m i j : Nat), j ≤ i + m → j ≤ n → 0 ≤ lc w i j ∧ lc w i j ≤ 41000 * m
  | 0, i, j, h, _ => by rw [lc_zero w (by omega)]; omega
  | m + 1, i, j, h, hn => by
    by_cases hij : i < j
    · have hb := tp_bd (lc w) hij
      rw [lc_node w hij]
      unfold bblw
      generalize tp (lc w) i j = k at *
      have h0 := hw i j (by omega) hn
      have h1 := lc_bd w n hw (k - i) i k (by omega) (by omega)
      have h2 := lc_bd w n hw (j - (k + 1)) (k + 1) j (by omega) hn
      omega
    · rw [lc_zero w hij]; omega
termination_by m => m

theorem wgt_bd {hits gaps : List Int} (hh : ∀ x ∈ hits, 0 ≤ x ∧ x ≤ 1000) (hg : ∀ x ∈ gaps, 0 ≤ x ∧ x ≤ 1000) (i : Nat) : ∀ d : Nat, 0 ≤ wgt hits gaps i d ∧ wgt hits gaps i d ≤ 1000 + 2000 * (d : Int) := by
  have g : ∀ (l : List Int), (∀ x ∈ l, 0 ≤ x ∧ x ≤ 1000) → ∀ q : Nat, 0 ≤ l[q]?.getD 0 ∧ l[q]?.getD 0 ≤ 1000 := fun l hl q => by
    rcases Nat.lt_or_ge q l.length with hq | hq
    · rw [List.getElem?_eq_getElem hq]; exact hl _ (List.getElem_mem hq)
    · rw [List.getElem?_eq_none hq]; simp
  intro d
  induction d with
  | zero => have := g gaps hg i; simp only [wgt]; omega
  | succ d ih => have := g gaps hg (i + d + 1); have := g hits hh (i + d); simp only [wgt]; omega
theorem wij_bd {hits gaps : List Int} (hh : ∀ x ∈ hits, 0 ≤ x ∧ x ≤ 1000) (hg : ∀ x ∈ gaps, 0 ≤ x ∧ x ≤ 1000) (i j : Nat) (h : j ≤ 20) : 0 ≤ wij hits gaps i j ∧ wij hits gaps i j ≤ 41000 := by
  have := wgt_bd hh hg i (j - i)
  unfold wij
  omega

/-- the table, while it is filled: all parts that begin behind a, and those from a on that end ahead of b -/
def tbf (w : Nat → Nat → Int) (n a b i j : Nat) : Int := if i < j ∧ j ≤ n ∧ (a < i ∨ (i = a ∧ j < b)) then lc w i j else 0
def bupd (c : Nat → Nat → Int) (a b : Nat) (x : Int) (i j : Nat) : Int := if i = a ∧ j = b then x else c i j
theorem tbf_step (w : Nat → Nat → Int) {n a b : Nat} (h1 : a < b) (h2 : b ≤ n) : bupd (tbf w n a b) a b (lc w a b) = tbf w n a (b + 1) := by
  funext i j
  unfold bupd tbf
  by_cases h : i = a ∧ j = b
  · obtain ⟨rfl, rfl⟩ := h
    rw [if_pos ⟨rfl, rfl⟩, if_pos (by omega)]
  · rw [if_neg h]
    by_cases h' : i < j ∧ j ≤ n ∧ (a < i ∨ (i = a ∧ j < b))
    · rw [if_pos h', if_pos (by omega)]
    · rw [if_neg h', if_neg (by omega)]
theorem tbf_row (w : Nat → Nat → Int) (n a : Nat) : tbf w n (a + 1) (n + 1) = tbf w n a (a + 1) := by
  funext i j
  unfold tbf
  by_cases h' : i < j ∧ j ≤ n ∧ (a + 1 < i ∨ (i = a + 1 ∧ j < n + 1))
  · rw [if_pos h', if_pos (by omega)]
  · rw [if_neg h', if_neg (by omega)]
theorem tbf_start (w : Nat → Nat → Int) (n : Nat) : tbf w n n (n + 1) = fun _ _ => 0 := by
  funext i j
  unfold tbf
  rw [if_neg (by omega)]
theorem tbf_blw (w : Nat → Nat → Int) {n a b k : Nat} (h1 : a ≤ k) (h2 : k < b) (h3 : b ≤ n) : bblw (tbf w n a b) a b k = bblw (lc w) a b k := by
  have e1 : tbf w n a b a k = lc w a k := by
    unfold tbf
    by_cases h : a < k
    · rw [if_pos (by omega)]
    · rw [if_neg (by omega), lc_zero w (by omega)]
  have e2 : tbf w n a b (k + 1) b = lc w (k + 1) b := by
    unfold tbf
    by_cases h : k + 1 < b
    · rw [if_pos (by omega)]
    · rw [if_neg (by omega), lc_zero w (by omega)]
  unfold bblw
  rw [e1, e2]
/-- the table, filled -/
def tbz (w : Nat → Nat → Int) (n i j : Nat) : Int := if i < j ∧ j ≤ n then lc w i j else 0
theorem tbf_end (w : Nat → Nat → Int) (n : Nat) : tbf w n 0 (n + 1) = tbz w n := by
  funext i j
  unfold tbf tbz
  by_cases h' : i < j ∧ j ≤ n
  · rw [if_pos h', if_pos (by omega)]
  · rw [if_neg h', if_neg (by omega)]
theorem tbz_at (w : Nat → Nat → Int) {n i j : Nat} (h : j ≤ n) : tbz w n i j = lc w i j := by
  unfold tbz
  by_cases h' : i < j ∧ j ≤ n
  · rw [if_pos h']
  · rw [if_neg h', lc_zero w (by omega)]
theorem tbz_tp (w : Nat → Nat → Int) {n i j : Nat} (hij : i < j) (h : j ≤ n) : tp (tbz w n) i j = tp (lc w) i j :=
  tp_same hij fun k h1 h2 => by unfold bblw; rw [tbz_at w (by omega), tbz_at w h]
theorem tbf_tp (w : Nat → Nat → Int) {n a b : Nat} (h1 : a < b) (h3 : b ≤ n) : tp (tbf w n a b) a b = tp (lc w) a b := tp_same h1 fun k h2 h4 => tbf_blw w h2 h4 h3
theorem tbf_bd (w : Nat → Nat → Int) (n a b : Nat) (hn : n ≤ 20) (hw : ∀ i j, i ≤ j → j ≤ n → 0 ≤ w i j ∧ w i j ≤ 41000) (i j : Nat) : 0 ≤ tbf w n a b i j ∧ tbf w n a b i j ≤ 1000000 := by
  unfold tbf
  split
  · have := lc_bd w n hw 20 i j (by omega) (by omega)
    omega
  · omega
theorem tbz_bd (w : Nat → Nat → Int) (n : Nat) (hn : n ≤ 20) (hw : ∀ i j, i ≤ j → j ≤ n → 0 ≤ w i j ∧ w i j ≤ 41000) (i j : Nat) : 0 ≤ tbz w n i j ∧ tbz w n i j ≤ 1000000 := by
  rw [← tbf_end]
  exact tbf_bd w n 0 (n + 1) hn hw i j

/-- the tree that costs least, of several that with the least tops -/
def bt (w : Nat → Nat → Int) : Nat → Nat → Nat → Tr
  | 0, _, _ => .nil
  | m + 1, i, j => if i < j then .node (bt w m i (tp (lc w) i j)) (tp (lc w) i j : Nat) (bt w m (tp (lc w) i j + 1) j) else .nil
theorem bt_rng (w : Nat → Nat → Int) : ∀ (m i j : Nat), j ≤ i + m → i ≤ j → Rng (bt w m i j) i j
  | 0, i, j, h, h' => by show i = j; omega
  | m + 1, i, j, h, h' => by
    unfold bt
    split
    · rename_i hij
      have hb := tp_bd (lc w) hij
      generalize tp (lc w) i j = k at *
      refine ⟨by omega, ?_, ?_⟩
      · rw [Int.toNat_natCast]; exact bt_rng w m i k (by omega) hb.1
      · rw [Int.toNat_natCast]; exact bt_rng w m (k + 1) j (by omega) (by omega)
    · show i = j; omega
theorem bt_same (w : Nat → Nat → Int) : ∀ (m m' i j : Nat), j ≤ i + m → j ≤ i + m' → bt w m i j = bt w m' i j
  | 0, 0, i, j, _, _ => rfl
  | 0, m' + 1, i, j, h, _ => by unfold bt; rw [if_neg (by omega)]
  | m + 1, 0, i, j, _, h => by unfold bt; rw [if_neg (by omega)]
  | m + 1, m' + 1, i, j, h, h' => by
    unfold bt
    by_cases hij : i < j
    · have hb := tp_bd (lc w) hij
      rw [if_pos hij, if_pos hij, bt_same w m m' i (tp (lc w) i j) (by omega) (by omega), bt_same w m m' (tp (lc w) i j + 1) j (by omega) (by omega)]
    · rw [if_neg hij, if_neg hij]
theorem bt_ask (hits gaps : List Int) : ∀ (m i j : Nat), j ≤ i + m → i ≤ j → (bt (wij hits gaps) m i j).ask hits gaps i 0 = lc (wij hits gaps) i j
  | 0, i, j, h, h' => by
    rw [lc_zero _ (by omega)]
    show gaps[i]?.getD 0 * 0 = 0
    rw [Int.mul_zero]
  | m + 1, i, j, h, h' => by
    by_cases hij : i < j
    · have hr := bt_rng (wij hits gaps) (m + 1) i j h h'
      have hb := tp_bd (lc (wij hits gaps)) hij
      have hn := lc_node (wij hits gaps) hij
      have e : bt (wij hits gaps) (m + 1) i j = .node (bt (wij hits gaps) m i (tp (lc (wij hits gaps)) i j)) (tp (lc (wij hits gaps)) i j : Nat) (bt (wij hits gaps) m (tp (lc (wij hits gaps)) i j + 1) j) := by
        rw [bt, if_pos hij]
      rw [e] at hr ⊢
      rw [ask_node hits gaps hr]
      unfold bblw at hn
      generalize tp (lc (wij hits gaps)) i j = k at *
      rw [Int.toNat_natCast, bt_ask hits gaps m i k (by omega) hb.1, bt_ask hits gaps m (k + 1) j (by omega) (by omega)]
      omega
    · rw [bt, if_neg hij, lc_zero _ hij]
      show gaps[i]?.getD 0 * 0 = 0
      rw [Int.mul_zero]

/-! what a tree costs, told by its spots -/
def bsum (f : Nat → Int) : Nat → Int
  | 0 => 0
  | k + 1 => bsum f k + f k
theorem bsum_add (f : Nat → Int) (a : Nat) : ∀ b, bsum f (a + b) = bsum f a + bsum (fun q => f (a + q)) b
  | 0 => by simp [bsum]
  | b + 1 => by
    rw [← Nat.add_assoc, bsum, bsum, bsum_add f a b]
    omega
theorem bsum_same {f g : Nat → Int} : ∀ {n : Nat}, (∀ q, q < n → f q = g q) → bsum f n = bsum g n
  | 0, _ => rfl
  | n + 1, h => by rw [bsum, bsum, bsum_same (n := n) (fun q hq => h q (by omega)), h n (by omega)]
theorem bsum_bd {f : Nat → Int} {n : Nat} (h : ∀ q, q < n → 0 ≤ f q ∧ f q ≤ 201000) : ∀ k, k ≤ n → 0 ≤ bsum f k ∧ bsum f k ≤ 201000 * (k : Int)
  | 0, _ => by simp [bsum]
  | k + 1, hk => by
    have h1 := bsum_bd h k (by omega)
    have h2 := h k (by omega)
    rw [bsum]
    omega
/-- nodes met on the way to the gap q: the deeper one of its neighbours is met last -/
def mtd (d : Int) (L : PL) (q : Nat) : Int := max (max d (if 0 < q then dp L (q - 1) + 1 else d)) (if q < L.length then dp L q + 1 else d)
def costH (hits : List Int) (i : Nat) (L : PL) (q : Nat) : Int := hits[i + q]?.getD 0 * (dp L q + 1)
def costG (gaps : List Int) (i : Nat) (d : Int) (L : PL) (q : Nat) : Int := gaps[i + q]?.getD 0 * mtd d L q
theorem rng_size : ∀ {t : Tr} {i j : Nat}, Rng t i j → j = i + t.size := by
  intro t
  induction t with
  | nil => intro i j h; exact h.symm
  | node a k b iha ihb =>
    intro i j h
    have h1 := iha h.2.1
    have h2 := ihb h.2.2
    simp only [Tr.size]
    omega
theorem ask_sums (hits gaps : List Int) : ∀ (t : Tr) (i j : Nat) (d : Int), Rng t i j → t.ask hits gaps i d = bsum (costH hits i (t.sp d)) t.size + bsum (costG gaps i d (t.sp d)) (t.size + 1) := by
  intro t
  induction t with
  | nil =>
    intro i j d h
    simp [Tr.ask, Tr.size, Tr.sp, bsum, costG, mtd]
  | node a k b iha ihb =>
    intro i j d h
    have ha := rng_size h.2.1
    have hk := h.1
    rw [Tr.ask, iha i _ (d + 1) h.2.1, ihb _ _ (d + 1) h.2.2]
    obtain ⟨x, hx⟩ : ∃ x, a.size = x := ⟨_, rfl⟩
    obtain ⟨y, hy⟩ : ∃ y, b.size = y := ⟨_, rfl⟩
    rw [show k.toNat = i + x by omega]
    have hla : (a.sp (d + 1)).length = x := by rw [sp_length, hx]
    have hlb : (b.sp (d + 1)).length = y := by rw [sp_length, hy]
    have dl : ∀ q, q < x → dp ((Tr.node a k b).sp d) q = dp (a.sp (d + 1)) q := fun q hq => by
      rw [Tr.sp, dp_left (by omega)]
    have dm : dp ((Tr.node a k b).sp d) x = d := by
      have := dp_mid (a.sp (d + 1)) (b.sp (d + 1)) (k, d)
      rw [hla] at this
      rw [Tr.sp, this]
    have dr : ∀ q, dp ((Tr.node a k b).sp d) (x + 1 + q) = dp (b.sp (d + 1)) q := fun q => by
      rw [Tr.sp, dp_right (by omega), hla, show x + 1 + q - x = q + 1 by omega]
      simp [dp]
    have ga : ∀ q, q < x → d + 1 ≤ dp (a.sp (d + 1)) q := fun q hq => sp_ge a (d + 1) q (by omega)
    have gb : ∀ q, q < y → d + 1 ≤ dp (b.sp (d + 1)) q := fun q hq => sp_ge b (d + 1) q (by omega)
    have hlen : ((Tr.node a k b).sp d).length = x + 1 + y := by rw [sp_length]; simp [Tr.size, hx, hy]
    have hsz : (Tr.node a k b).size = x + 1 + y := by simp [Tr.size, hx, hy]
    rw [hx, hy, hsz]
    have s1 : bsum (costH hits i ((Tr.node a k b).sp d)) (x + 1 + y) = bsum (costH hits i (a.sp (d + 1))) x + hits[i + x]?.getD 0 * (d + 1) + bsum (costH hits (i + x + 1) (b.sp (d + 1))) y := by
      rw [bsum_add, bsum]
      congr 1
      · congr 1
        · exact bsum_same fun q hq => by unfold costH; rw [dl q hq]
        · unfold costH; rw [dm]
      · exact bsum_same fun q hq => by unfold costH; rw [dr q, show i + (x + 1 + q) = i + x + 1 + q by omega]
    have s2 : bsum (costG gaps i d ((Tr.node a k b).sp d)) (x + 1 + y + 1) = bsum (costG gaps i (d + 1) (a.sp (d + 1))) (x + 1) + bsum (costG gaps (i + x + 1) (d + 1) (b.sp (d + 1))) (y + 1) := by
      rw [show x + 1 + y + 1 = (x + 1) + (y + 1) by omega, bsum_add]
      congr 1
      · refine bsum_same fun q hq => ?_
        unfold costG
        congr 1
        unfold mtd
        rw [hlen, hla]
        have e1 : (if 0 < q then dp ((Tr.node a k b).sp d) (q - 1) + 1 else d) = (if 0 < q then dp (a.sp (d + 1)) (q - 1) + 1 else d) := by
          by_cases h0 : 0 < q
          · rw [if_pos h0, if_pos h0, dl _ (by omega)]
          · rw [if_neg h0, if_neg h0]
        rw [e1, if_pos (show q < x + 1 + y by omega)]
        by_cases h0 : 0 < q
        · rw [if_pos h0, if_pos h0]
          have := ga (q - 1) (by omega)
          by_cases h1 : q < x
          · rw [if_pos h1, dl q h1]
            have := ga q h1
            omega
          · obtain rfl : q = x := by omega
            rw [if_neg h1, dm]
            omega
        · rw [if_neg h0, if_neg h0]
          by_cases h1 : q < x
          · rw [if_pos h1, dl q h1]
            have := ga q h1
            omega
          · obtain rfl : q = x := by omega
            rw [if_neg h1, dm]
            omega
      · refine bsum_same fun q hq => ?_
        unfold costG
        rw [show i + (x + 1 + q) = i + x + 1 + q by omega]
        congr 1
        unfold mtd
        rw [hlen, hlb, if_pos (show 0 < x + 1 + q by omega)]
        have e2 : (if x + 1 + q < x + 1 + y then dp ((Tr.node a k b).sp d) (x + 1 + q) + 1 else d) = (if q < y then dp (b.sp (d + 1)) q + 1 else d) := by
          by_cases h0 : q < y
          · rw [if_pos h0, if_pos (by omega), dr q]
          · rw [if_neg h0, if_neg (by omega)]
        rw [e2]
        by_cases h0 : 0 < q
        · rw [if_pos h0, show x + 1 + q - 1 = x + 1 + (q - 1) by omega, dr (q - 1)]
          have := gb (q - 1) (by omega)
          by_cases h1 : q < y
          · rw [if_pos h1, if_pos h1]
            have := gb q h1
            omega
          · rw [if_neg h1, if_neg h1]
            omega
        · obtain rfl : q = 0 := by omega
          rw [if_neg h0, show x + 1 + 0 - 1 = x by omega, dm]
          by_cases h1 : 0 < y
          · rw [if_pos h1, if_pos h1]
            have := gb 0 h1
            omega
          · rw [if_neg h1, if_neg h1]
            omega
    rw [s1, s2]
    omega

/-- spots whose keys are places -/
def keysR (l : PL) (n : Nat) : Bool := decide (l.length = n ∧ ∀ i, i < l.length → ky l i = i)
theorem rng_of : ∀ (t : Tr) (d : Int) (i : Nat), (∀ q, q < t.size → ky (t.sp d) q = ((i + q : Nat) : Int)) → Rng t i (i + t.size) := by
  intro t
  induction t with
  | nil => intro d i _; rfl
  | node a k b iha ihb =>
    intro d i h
    have hsz : (Tr.node a k b).size = a.size + 1 + b.size := rfl
    have hk : k = ((i + a.size : Nat) : Int) := by
      have := h a.size (by omega)
      have e := ky_mid (a.sp (d + 1)) (b.sp (d + 1)) (k, d)
      rw [sp_length] at e
      rw [Tr.sp, e] at this
      exact this
    have h1 := iha (d + 1) i fun q hq => by
      have := h q (by omega)
      rw [Tr.sp, ky_left (by rw [sp_length]; exact hq)] at this
      exact this
    have h2 := ihb (d + 1) (i + a.size + 1) fun q hq => by
      have := h (a.size + 1 + q) (by omega)
      rw [Tr.sp, ky_right (by rw [sp_length]; omega), sp_length, show a.size + 1 + q - a.size = q + 1 by omega] at this
      have e : ky ((k, d) :: b.sp (d + 1)) (q + 1) = ky (b.sp (d + 1)) q := by simp [ky]
      rw [e] at this
      rw [this]
      omega
    refine ⟨by omega, ?_, ?_⟩
    · rw [hk, Int.toNat_natCast]; exact h1
    · show Rng b (k.toNat + 1) (i + (a.size + 1 + b.size))
      rw [hk, Int.toNat_natCast, show i + (a.size + 1 + b.size) = i + a.size + 1 + b.size by omega]
      exact h2
theorem rng_keys : ∀ {t : Tr} {i j : Nat} (d : Int), Rng t i j → ∀ q, q < t.size → ky (t.sp d) q = ((i + q : Nat) : Int) := by
  intro t
  induction t with
  | nil => intro i j d _ q hq; simp [Tr.size] at hq
  | node a k b iha ihb =>
    intro i j d h q hq
    have ha := rng_size h.2.1
    have hk := h.1
    simp only [Tr.size] at hq
    rw [Tr.sp]
    rcases Nat.lt_trichotomy q a.size with h1 | h1 | h1
    · rw [ky_left (by rw [sp_length]; exact h1)]
      exact iha (d + 1) h.2.1 q h1
    · have e := ky_mid (a.sp (d + 1)) (b.sp (d + 1)) (k, d)
      rw [sp_length] at e
      rw [h1, e]
      show k = _
      omega
    · rw [ky_right (by rw [sp_length]; omega), sp_length]
      have e : ky ((k, d) :: b.sp (d + 1)) (q - a.size) = ky (b.sp (d + 1)) (q - a.size - 1) := by
        obtain ⟨m, hm⟩ : ∃ m, q - a.size = m + 1 := ⟨q - a.size - 1, by omega⟩
        rw [hm]; simp [ky]
      rw [e, ihb (d + 1) h.2.2 (q - a.size - 1) (by omega)]
      omega
/-- a tree of keys that are places is a tree -/
theorem rng_istree {t : Tr} {n : Nat} (h : Rng t 0 n) (hn : n ≤ 200) : IsTree (t.sp 0) := by
  have hs := rng_size h
  refine ⟨by rw [sp_length]; omega, fun i hi => ?_, t, rfl⟩
  rw [sp_length] at hi
  rw [rng_keys 0 h i (by omega), rng_keys 0 h (i + 1) hi]
  omega

end Go.Proofs.YtpnjnedfcdppaaaGreatDoor

/-
  NO TREE HAS LESS DEPTH THAN THE EVEN ONE (TopEven): what it costs when all keys are asked for once: plain mathematics. Nothing of the program.
-/
namespace Go.Proofs.YtpnjnedfcdppaaaGreatDoor

/-- the levels down to a place, in a tree that is full but for its lowest row -/
def glv : Nat → Nat
  | 0 => 1
  | n + 1 => glv (n / 2) + 1
theorem glv_mono : ∀ (n m : Nat), m ≤ n → glv m ≤ glv n
  | 0, m, h => by
    have : m = 0 := by omega
    subst this
    exact Nat.le_refl _
  | n + 1, 0, _ => by
    rw [glv, glv]
    omega
  | n + 1, m + 1, h => by
    have := glv_mono (n / 2) (m / 2) (by omega)
    rw [glv, glv]
    omega
termination_by n => n
def fSum : Nat → Nat
  | 0 => 0
  | n + 1 => fSum n + glv n
def hSum : Nat → Nat
  | 0 => 0
  | n + 1 => hSum n + glv (n / 2)
theorem fSum_hSum : ∀ m, fSum (m + 1) = m + 1 + hSum m
  | 0 => by simp [fSum, hSum, glv]
  | m + 1 => by
    have h1 := fSum_hSum m
    have h2 : fSum (m + 1 + 1) = fSum (m + 1) + glv (m + 1) := rfl
    have h3 : hSum (m + 1) = hSum m + glv (m / 2) := rfl
    have h4 : glv (m + 1) = glv (m / 2) + 1 := by rw [glv]
    omega
theorem sum_parts : ∀ (n a b : Nat), a + b = n → b ≤ a → hSum (a + b) ≤ fSum a + fSum b
  | 0, a, b, h, _ => by
    have e1 : a = 0 := by omega
    have e2 : b = 0 := by omega
    subst e1 e2
    exact Nat.le_refl _
  | n + 1, 0, b, h, hb => by omega
  | n + 1, a + 1, b, h, hb => by
    have h1 : fSum (a + 1) = fSum a + glv a := rfl
    have e : a + 1 + b = (a + b) + 1 := by omega
    have h2 : hSum (a + b + 1) = hSum (a + b) + glv ((a + b) / 2) := rfl
    have h3 := glv_mono a ((a + b) / 2) (by omega)
    rw [e, h2, h1]
    by_cases hc : b ≤ a
    · have := sum_parts n a b (by omega) hc
      omega
    · have := sum_parts n b a (by omega) (by omega)
      rw [Nat.add_comm b a] at this
      omega
theorem sum_even : ∀ b, hSum (2 * b) = fSum b + fSum b ∧ hSum (2 * b + 1) = fSum (b + 1) + fSum b
  | 0 => by simp [hSum, fSum, glv]
  | b + 1 => by
    obtain ⟨_, h2⟩ := sum_even b
    have e1 : 2 * (b + 1) = 2 * b + 1 + 1 := by omega
    have e2 : hSum (2 * b + 1 + 1) = hSum (2 * b + 1) + glv ((2 * b + 1) / 2) := rfl
    have e3 : hSum (2 * b + 1 + 1 + 1) = hSum (2 * b + 1 + 1) + glv ((2 * b + 1 + 1) / 2) := rfl
    have e4 : (2 * b + 1) / 2 = b := by omega
    have e5 : (2 * b + 1 + 1) / 2 = b + 1 := by omega
    have e6 : fSum (b + 1) = fSum b + glv b := rfl
    have e7 : fSum (b + 1 + 1) = fSum (b + 1) + glv (b + 1) := rfl
    rw [e4] at e2
    rw [e5] at e3
    rw [e1]
    constructor
    · omega
    · omega
/-- no tree has less Depth -/
theorem sd_least : ∀ (t : Tr), fSum t.size ≤ t.sd + t.size
  | .nil => Nat.le_refl _
  | .node a k b => by
    have h1 := sd_least a
    have h2 := sd_least b
    have h3 := fSum_hSum (a.size + b.size)
    have h4 : hSum (a.size + b.size) ≤ fSum a.size + fSum b.size := by
      by_cases hc : b.size ≤ a.size
      · exact sum_parts _ _ _ rfl hc
      · have := sum_parts _ b.size a.size rfl (by omega)
        rw [Nat.add_comm a.size b.size]
        omega
    have e : (Tr.node a k b).size = a.size + b.size + 1 := by simp only [Tr.size]; omega
    have e2 : (Tr.node a k b).sd = a.sd + a.size + (b.sd + b.size) := rfl
    rw [e, e2]
    omega
/-- the even one has just so much -/
theorem ev_sd : ∀ (n : Nat) (l : List Int), l.length ≤ n → (ev l).sd + l.length = fSum l.length
  | 0, l, h => by
    have : l = [] := List.eq_nil_of_length_eq_zero (by omega)
    subst this
    rfl
  | n + 1, l, h => by
    by_cases hl : l = []
    · subst hl; rfl
    · have hp : 0 < l.length := List.length_pos_iff.2 hl
      have l1 : (l.take (l.length / 2)).length = l.length / 2 := by rw [List.length_take]; omega
      have l2 : (l.drop (l.length / 2 + 1)).length = l.length - (l.length / 2 + 1) := List.length_drop
      have h1 := ev_sd n (l.take (l.length / 2)) (by omega)
      have h2 := ev_sd n (l.drop (l.length / 2 + 1)) (by omega)
      rw [ev_eq hl]
      have e2 : (Tr.node (ev (l.take (l.length / 2))) (l[l.length / 2]?.getD 0) (ev (l.drop (l.length / 2 + 1)))).sd = (ev (l.take (l.length / 2))).sd + (ev (l.take (l.length / 2))).size + ((ev (l.drop (l.length / 2 + 1))).sd + (ev (l.drop (l.length / 2 + 1))).size) := rfl
      rw [e2, ev_size, ev_size, l1, l2]
      rw [l1] at h1
      rw [l2] at h2
      generalize (ev (l.take (l.length / 2))).sd = x at h1 ⊢
      generalize (ev (l.drop (l.length / 2 + 1))).sd = y at h2 ⊢
      obtain ⟨m, hm⟩ : ∃ m, l.length = m + 1 := ⟨l.length - 1, by omega⟩
      rw [hm] at h1 h2 ⊢
      rw [fSum_hSum m]
      rcases Nat.mod_two_eq_zero_or_one m with h0 | h0
      · clear e2
        have e3 : m = 2 * (m / 2) := by omega
        have e4 : (m + 1) / 2 = m / 2 := by omega
        have e5 : m + 1 - ((m + 1) / 2 + 1) = m / 2 := by omega
        have h3 := (sum_even (m / 2)).1
        rw [← e3] at h3
        rw [e5] at h2
        rw [e4] at h1
        rw [e5, e4]
        omega
      · clear e2
        have e3 : m = 2 * (m / 2) + 1 := by omega
        have e4 : (m + 1) / 2 = m / 2 + 1 := by omega
        have e5 : m + 1 - ((m + 1) / 2 + 1) = m / 2 := by omega
        have h3 := (sum_even (m / 2)).2
        rw [← e3] at h3
        rw [e5] at h2
        rw [e4] at h1
        rw [e5, e4]
        omega
/-- what a tree costs when each key is asked for once -/
theorem ask_ones {hits gaps : List Int} {n : Nat} (hh : ∀ q : Nat, q < n → hits[q]?.getD 0 = 1) (hg : ∀ q : Nat, gaps[q]?.getD 0 = 0) : ∀ (t : Tr) (i j : Nat) (d : Int), Rng t i j → j ≤ n → t.ask hits gaps i d = (t.sd : Int) + (t.size : Int) * (d + 1)
  | .nil, i, j, d, _, _ => by
    show gaps[i]?.getD 0 * d = _
    rw [hg]
    simp [Tr.sd, Tr.size]
  | .node a k b, i, j, d, hr, hj => by
    obtain ⟨h0, h1, h2⟩ := hr
    have hb := rng_le h2
    have e1 := ask_ones hh hg a i k.toNat (d + 1) h1 (by omega)
    have e2 := ask_ones hh hg b (k.toNat + 1) j (d + 1) h2 hj
    show hits[k.toNat]?.getD 0 * (d + 1) + a.ask hits gaps i (d + 1) + b.ask hits gaps (k.toNat + 1) (d + 1) = _
    rw [e1, e2, hh _ (by omega)]
    have e : (Tr.node a k b).size = a.size + b.size + 1 := by simp only [Tr.size]; omega
    have e3 : (Tr.node a k b).sd = a.sd + a.size + (b.sd + b.size) := rfl
    rw [e, e3]
    push_cast
    simp only [Int.add_mul, Int.mul_add]
    omega
/-- the least is what the even one costs -/
theorem even_least {hits gaps : List Int} {c : Nat → Nat → Int} {n : Nat} (hh : ∀ q : Nat, q < n → hits[q]?.getD 0 = 1) (hg : ∀ q : Nat, gaps[q]?.getD 0 = 0) (hc : OptC (wij hits gaps) c n) {l : List Int} (hl : Rng (ev l) 0 n) {t : Tr} (ht : Rng t 0 n) (hct : t.ask hits gaps 0 0 = c 0 n) : c 0 n = ((ev l).sd : Int) + n := by
  have h1 := ask_least hc hl (Nat.le_refl _)
  have e1 := ask_ones hh hg _ 0 n 0 hl (Nat.le_refl _)
  have e2 := ask_ones hh hg _ 0 n 0 ht (Nat.le_refl _)
  have s1 := rng_size hl
  have s2 := rng_size ht
  have h2 := sd_least t
  have h3 := ev_sd _ l (Nat.le_refl _)
  have h4 := ev_size l
  have s3 : t.size = l.length := by omega
  rw [s3] at h2 e2
  rw [h4] at e1 s1
  have s4 : n = l.length := by omega
  rw [Int.zero_add, Int.mul_one] at e1 e2
  omega
end Go.Proofs.YtpnjnedfcdppaaaGreatDoor
