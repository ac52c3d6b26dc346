/-
  VINES THAT ARE PRESSED: how low they come: plain mathematics. Nothing of the program.
-/
import Derived.Test.YtpnjnedfcdppaaaGreatDoorOSpotsAll
namespace Go.Proofs.YtpnjnedfcdppaaaGreatDoor

/-- as many levels as are full, and one more at the most -/
def Bal : Nat → Tr → Prop
  | 0, t => t.tall ≤ 1
  | _ + 1, .nil => False
  | h + 1, .node a _ b => Bal h a ∧ Bal h b
theorem bal_tall : ∀ {h : Nat} {t : Tr}, Bal h t → t.tall ≤ h + 1
  | 0, _, hb => hb
  | h + 1, .nil, hb => absurd hb (by simp [Bal])
  | h + 1, .node a k b, hb => by
    have h1 := bal_tall hb.1
    have h2 := bal_tall hb.2
    rw [Tr.tall]
    omega
theorem bal_size : ∀ {h : Nat} {t : Tr}, Bal h t → 2 ^ h ≤ t.size + 1 ∧ (t.tall = h + 1 → 2 ^ h ≤ t.size)
  | 0, t, hb => by
    refine ⟨by simp, fun he => ?_⟩
    cases t with
    | nil => simp [Tr.tall] at he
    | node a k b => simp only [Tr.size]; omega
  | h + 1, .nil, hb => absurd hb (by simp [Bal])
  | h + 1, .node a k b, hb => by
    obtain ⟨h1, h2⟩ := bal_size hb.1
    obtain ⟨h3, h4⟩ := bal_size hb.2
    have h5 := bal_tall hb.1
    have h6 := bal_tall hb.2
    rw [Nat.pow_succ, Tr.size, Tr.tall]
    refine ⟨by omega, fun he => ?_⟩
    by_cases ha : a.tall = h + 1
    · have := h2 ha
      omega
    · have := h4 (by omega)
      omega
/-- it is as low as it can be -/
theorem bal_low {h : Nat} {t : Tr} (hb : Bal h t) (h2 : t.size < 2 ^ (h + 1)) : (2 ^ h ≤ t.size → t.tall = h + 1) ∧ (t.size + 1 = 2 ^ h → t.tall = h) := by
  obtain ⟨h3, h4⟩ := bal_size hb
  have h5 := bal_tall hb
  have h6 := size_tall t
  constructor
  · intro h7
    apply Classical.byContradiction
    intro h8
    have : 2 ^ t.tall ≤ 2 ^ h := Nat.pow_le_pow_right (by decide) (by omega)
    omega
  · intro h7
    have h8 : ¬ t.tall = h + 1 := fun e => by have := h4 e; omega
    apply Classical.byContradiction
    intro h9
    have h10 : t.tall + 1 ≤ h := by omega
    have : 2 ^ (t.tall + 1) ≤ 2 ^ h := Nat.pow_le_pow_right (by decide) h10
    rw [Nat.pow_succ] at this
    omega
/-- how many stand at a depth -/
def Tr.row : Tr → Nat → Nat
  | .nil, _ => 0
  | .node _ _ _, 0 => 1
  | .node a _ b, d + 1 => a.row d + b.row d
theorem bal_full : ∀ {h : Nat} {t : Tr}, Bal h t → ∀ d, d < h → t.row d = 2 ^ d
  | 0, _, _, d, hd => by omega
  | h + 1, .nil, hb, _, _ => absurd hb (by simp [Bal])
  | h + 1, .node a k b, hb, 0, _ => rfl
  | h + 1, .node a k b, hb, d + 1, hd => by
    show a.row d + b.row d = _
    rw [bal_full hb.1 d (by omega), bal_full hb.2 d (by omega), Nat.pow_succ]
    omega
theorem row_none : ∀ {t : Tr} {d : Nat}, t.tall ≤ d → t.row d = 0
  | .nil, _, _ => rfl
  | .node a k b, 0, h => by simp [Tr.tall] at h
  | .node a k b, d + 1, h => by
    rw [Tr.tall] at h
    show a.row d + b.row d = 0
    rw [row_none (by omega), row_none (by omega)]

/-- so many along the way to the right come up -/
def prs : Nat → Tr → Tr
  | 0, t => t
  | m + 1, .node a k (.node c k' d) => .node (.node a k c) k' (prs m d)
  | _ + 1, t => t
/-- a tree by what stands along the way to the right -/
def toT : List (Tr × Int) → Tr
  | [] => .nil
  | p :: r => .node p.1 p.2 (toT r)
def prL : Nat → List (Tr × Int) → List (Tr × Int)
  | 0, l => l
  | m + 1, p :: q :: r => (.node p.1 p.2 q.1, q.2) :: prL m r
  | _ + 1, l => l
theorem prs_toT : ∀ (m : Nat) (l : List (Tr × Int)), prs m (toT l) = toT (prL m l)
  | 0, l => rfl
  | m + 1, [] => rfl
  | m + 1, [p] => rfl
  | m + 1, p :: q :: r => by
    show Tr.node (Tr.node p.1 p.2 q.1) q.2 (prs m (toT r)) = _
    rw [prs_toT m r]
    rfl
theorem prs_ks : ∀ (m : Nat) (t : Tr), (prs m t).ks = t.ks
  | 0, t => rfl
  | m + 1, .nil => rfl
  | m + 1, .node a k .nil => rfl
  | m + 1, .node a k (.node c k' d) => by
    show (Tr.node (Tr.node a k c) k' (prs m d)).ks = _
    simp only [Tr.ks]
    rw [prs_ks m d]
    simp
/-- the vine of rising keys -/
def vnT : List Int → Tr
  | [] => .nil
  | k :: r => .node .nil k (vnT r)
theorem vnT_ks : ∀ l : List Int, (vnT l).ks = l
  | [] => rfl
  | k :: r => by
    show [] ++ k :: (vnT r).ks = _
    rw [vnT_ks r]
    rfl
theorem vnT_toT : ∀ l : List Int, vnT l = toT (l.map fun k => (.nil, k))
  | [] => rfl
  | k :: r => by
    show Tr.node .nil k (vnT r) = _
    rw [vnT_toT r]
    rfl

/-- pairs of level r make ones of the next level -/
theorem prL_pairs {r : Nat} : ∀ (m : Nat) (A R : List (Tr × Int)), A.length = 2 * m → (∀ p ∈ A, Bal r p.1) → ∃ A', prL m (A ++ R) = A' ++ R ∧ A'.length = m ∧ ∀ p ∈ A', Bal (r + 1) p.1
  | 0, A, R, hl, _ => by
    have : A = [] := List.eq_nil_of_length_eq_zero (by omega)
    subst this
    exact ⟨[], rfl, rfl, fun p hp => absurd hp (by simp)⟩
  | m + 1, [], R, hl, _ => by simp at hl
  | m + 1, [p], R, hl, _ => by simp at hl; omega
  | m + 1, p :: q :: A, R, hl, hb => by
    obtain ⟨A', e, h1, h2⟩ := prL_pairs m A R (by simp at hl; omega) (fun x hx => hb x (by simp [hx]))
    refine ⟨(.node p.1 p.2 q.1, q.2) :: A', ?_, by simp [h1], ?_⟩
    · show (Tr.node p.1 p.2 q.1, q.2) :: prL m (A ++ R) = _
      rw [e]
      rfl
    · intro x hx
      rcases List.mem_cons.1 hx with rfl | hx
      · exact ⟨hb p (by simp), hb q (by simp)⟩
      · exact h2 x hx
/-- the first pressing of a vine: ones alone, to the left of the first -/
theorem prL_first : ∀ (m : Nat) (l : List Int), 2 * m ≤ l.length → (prL m (l.map fun k => (Tr.nil, k))).length + m = l.length ∧ ∀ p ∈ prL m (l.map fun k => (Tr.nil, k)), Bal 0 p.1
  | 0, l, _ => by
    refine ⟨by simp [prL], fun p hp => ?_⟩
    obtain ⟨k, _, rfl⟩ := List.mem_map.1 (show p ∈ l.map fun k => (Tr.nil, k) from hp)
    exact Nat.zero_le _
  | m + 1, [], h => by simp at h
  | m + 1, [k], h => by simp at h; omega
  | m + 1, k :: k' :: r, h => by
    obtain ⟨h1, h2⟩ := prL_first m r (by simp at h; omega)
    refine ⟨?_, ?_⟩
    · show (prL m (r.map fun k => (Tr.nil, k))).length + 1 + (m + 1) = _
      simp only [List.length_cons]
      omega
    · intro p hp
      rcases List.mem_cons.1 (show p ∈ (Tr.node .nil k .nil, k') :: prL m (r.map fun k => (Tr.nil, k)) from hp) with rfl | hp
      · show (Tr.node .nil k .nil).tall ≤ 1
        simp [Tr.tall]
      · exact h2 p hp
/-- what is behind the pressed ones: one of each level, down to 0 -/
def VBk : Nat → List (Tr × Int) → Prop
  | 0, l => l = []
  | _ + 1, [] => False
  | r + 1, p :: q => Bal r p.1 ∧ VBk r q
theorem bb_bal : ∀ {r : Nat} {l : List (Tr × Int)}, VBk r l → Bal r (toT l)
  | 0, l, h => by rw [show l = [] from h]; exact Nat.zero_le _
  | r + 1, [], h => absurd h (by simp [VBk])
  | r + 1, p :: q, h => ⟨h.1, bb_bal h.2⟩
/-- pressed by halves -/
def prJ : Nat → Tr → Tr
  | 0, t => t
  | 1, t => t
  | j + 2, t => prJ (j + 1) (prs (2 ^ (j + 1) - 1) t)
theorem prJ_bal : ∀ (j r : Nat) (A B : List (Tr × Int)), A.length + 1 = 2 ^ (j + 1) → (∀ p ∈ A, Bal r p.1) → VBk r B → Bal (r + j + 1) (prJ (j + 1) (toT (A ++ B)))
  | 0, r, A, B, hl, hA, hB => by
    match A, hl with
    | [p], _ => exact ⟨hA p (by simp), bb_bal hB⟩
    | [], hl => simp at hl
    | p :: q :: A, hl => simp at hl
  | j + 1, r, A, B, hl, hA, hB => by
    have hpos : 0 < 2 ^ (j + 1) := Nat.two_pow_pos _
    rw [Nat.pow_succ] at hl
    have hlen : A.length = 2 * (2 ^ (j + 1) - 1) + 1 := by omega
    have hA1 : A = A.take (2 * (2 ^ (j + 1) - 1)) ++ A.drop (2 * (2 ^ (j + 1) - 1)) := (List.take_append_drop _ _).symm
    obtain ⟨x, hx⟩ : ∃ x, A.drop (2 * (2 ^ (j + 1) - 1)) = [x] := List.length_eq_one_iff.1 (by rw [List.length_drop]; omega)
    rw [hx] at hA1
    obtain ⟨A', e, h1, h2⟩ := prL_pairs (r := r) (2 ^ (j + 1) - 1) (A.take (2 * (2 ^ (j + 1) - 1))) (x :: B) (by rw [List.length_take]; omega) (fun p hp => hA p (List.mem_of_mem_take hp))
    have hxA : x ∈ A := by rw [hA1]; simp
    have e2 : prs (2 ^ (j + 1) - 1) (toT (A ++ B)) = toT (A' ++ (x :: B)) := by
      rw [prs_toT, show A ++ B = A.take (2 * (2 ^ (j + 1) - 1)) ++ (x :: B) by
        conv => lhs; rw [hA1]
        simp, e]
    show Bal (r + (j + 1) + 1) (prJ (j + 1) (prs (2 ^ (j + 1) - 1) (toT (A ++ B))))
    rw [e2, show r + (j + 1) + 1 = r + 1 + j + 1 by omega]
    exact prJ_bal j (r + 1) A' (x :: B) (by omega) h2 ⟨hA x hxA, hB⟩
theorem prJ_ks : ∀ (j : Nat) (t : Tr), (prJ j t).ks = t.ks
  | 0, _ => rfl
  | 1, _ => rfl
  | j + 2, t => by
    show (prJ (j + 1) (prs (2 ^ (j + 1) - 1) t)).ks = _
    rw [prJ_ks (j + 1), prs_ks]
/-- how many come up so -/
def upJ : Nat → Nat
  | 0 => 0
  | 1 => 0
  | j + 2 => 2 ^ (j + 1) - 1 + upJ (j + 1)
theorem upJ_le : ∀ j, upJ j + 1 ≤ 2 ^ j
  | 0 => by decide
  | 1 => by decide
  | j + 2 => by
    have := upJ_le (j + 1)
    have e : upJ (j + 2) = 2 ^ (j + 1) - 1 + upJ (j + 1) := rfl
    have hpos : 0 < 2 ^ (j + 1) := Nat.two_pow_pos _
    have e2 : 2 ^ (j + 2) = 2 ^ (j + 1) * 2 := Nat.pow_succ 2 (j + 1)
    rw [e, e2]
    omega
/-- the evened tree of keys, 2^j being no more than as many and one more -/
def evn (j : Nat) (l : List Int) : Tr := prJ j (prs (l.length + 1 - 2 ^ j) (vnT l))
theorem evn_ks (j : Nat) (l : List Int) : (evn j l).ks = l := by rw [evn, prJ_ks, prs_ks, vnT_ks]
theorem evn_bal {j : Nat} {l : List Int} (h1 : 2 ^ j ≤ l.length + 1) (h2 : l.length + 1 < 2 ^ (j + 1)) : Bal j (evn j l) := by
  cases j with
  | zero =>
    have : l = [] := List.eq_nil_of_length_eq_zero (by simp at h2; omega)
    subst this
    exact Nat.zero_le _
  | succ j =>
    rw [Nat.pow_succ] at h2
    obtain ⟨h3, h4⟩ := prL_first (l.length + 1 - 2 ^ (j + 1)) l (by omega)
    have := prJ_bal j 0 (prL (l.length + 1 - 2 ^ (j + 1)) (l.map fun k => (Tr.nil, k))) [] (by omega) h4 rfl
    rw [List.append_nil] at this
    unfold evn
    rw [vnT_toT, prs_toT]
    rwa [Nat.zero_add] at this
theorem evn_size (j : Nat) (l : List Int) : (evn j l).size = l.length := by rw [← ks_length, evn_ks]

/-- built by halves it is so, too -/
theorem ev_bal : ∀ (j : Nat) (l : List Int), 2 ^ j ≤ l.length + 1 → l.length + 1 ≤ 2 ^ (j + 1) → Bal j (ev l)
  | 0, l, _, h2 => by
    show (ev l).tall ≤ 1
    exact ev_tall 1 l (by rw [Nat.zero_add] at h2; omega)
  | j + 1, l, h1, h2 => by
    have hpos : 0 < 2 ^ j := Nat.two_pow_pos _
    have e1 : 2 ^ (j + 1) = 2 ^ j * 2 := Nat.pow_succ 2 j
    have e2 : 2 ^ (j + 1 + 1) = 2 ^ (j + 1) * 2 := Nat.pow_succ 2 (j + 1)
    have hl : l ≠ [] := fun e => by rw [e, List.length_nil, e1] at h1; omega
    rw [ev_eq hl]
    refine ⟨ev_bal j _ ?_ ?_, ev_bal j _ ?_ ?_⟩
    · rw [List.length_take]; omega
    · rw [List.length_take]; omega
    · rw [List.length_drop]; omega
    · rw [List.length_drop]; omega
/-- all Depths together -/
def Tr.sd : Tr → Nat
  | .nil => 0
  | .node a _ b => a.sd + a.size + (b.sd + b.size)
/-- what is full but for its lowest row has as little Depth in all as so many have -/
theorem bal_sd : ∀ {h : Nat} {t : Tr}, Bal h t → t.sd + 2 ^ (h + 1) = h * (t.size + 1) + 2
  | 0, .nil, _ => rfl
  | 0, .node a k b, hb => by
    have hb' : max a.tall b.tall + 1 ≤ 1 := hb
    have z : ∀ s : Tr, s.tall = 0 → s = .nil := fun s hs => by
      cases s with
      | nil => rfl
      | node x y z => simp [Tr.tall] at hs
    rw [z a (by omega), z b (by omega)]
    rfl
  | h + 1, .nil, hb => absurd hb (by simp [Bal])
  | h + 1, .node a k b, hb => by
    have h1 := bal_sd hb.1
    have h2 := bal_sd hb.2
    have e : 2 ^ (h + 1 + 1) = 2 ^ (h + 1) * 2 := Nat.pow_succ 2 (h + 1)
    rw [e]
    simp only [Tr.sd, Tr.size]
    have e3 : (h + 1) * (a.size + 1 + b.size + 1) = h * (a.size + 1) + h * (b.size + 1) + (a.size + 1 + b.size + 1) := by
      rw [Nat.add_mul, Nat.one_mul, show a.size + 1 + b.size + 1 = (a.size + 1) + (b.size + 1) by omega, Nat.mul_add]
    rw [e3]
    generalize h * (a.size + 1) = x at *
    generalize h * (b.size + 1) = y at *
    omega

end Go.Proofs.YtpnjnedfcdppaaaGreatDoor
