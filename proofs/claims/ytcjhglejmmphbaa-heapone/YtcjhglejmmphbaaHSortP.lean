/-
  SORTING THAT LEAVES WHAT IS ALIKE IN ITS ORDER: exchanges, moves, runs that are put together: plain mathematics. Nothing of the program.
-/
import Derived.Test.YtcjhglejmmphbaaHPure
namespace Go.Proofs.Ytcjhglejmmphbaa

abbrev pr (L : PL) (i : Nat) : Int × Int := (ky L i, dp L i)
theorem pr_in {L : PL} {i : Nat} (h : i < L.length) : pr L i = L[i] := by
  show (ky L i, dp L i) = L[i]
  rw [ky_in h, dp_in h]
theorem pr_mid {X Y : PL} {p : Int × Int} {i : Nat} (h : i = X.length) : pr (X ++ p :: Y) i = p := by
  subst h
  show (ky _ _, dp _ _) = p
  rw [ky_mid, dp_mid]
/-- two exchanged -/
def sw (L : PL) (i j : Nat) : PL := (L.set i (pr L j)).set j (pr L i)
theorem sw_length (L : PL) (i j : Nat) : (sw L i j).length = L.length := by simp [sw]
theorem set_mid {X Y : PL} {p q : Int × Int} {i : Nat} (h : i = X.length) : (X ++ p :: Y).set i q = X ++ q :: Y := by
  subst h
  simp
theorem sw_dec {X M Y : PL} {p q : Int × Int} {i j : Nat} (hi : i = X.length) (hj : j = X.length + 1 + M.length) : sw (X ++ p :: M ++ q :: Y) i j = X ++ q :: M ++ p :: Y := by
  have e1 : X ++ p :: M ++ q :: Y = X ++ p :: (M ++ q :: Y) := by simp
  have hj2 : j = (X ++ p :: M).length := by rw [hj]; simp; omega
  have p1 : pr (X ++ p :: M ++ q :: Y) i = p := by rw [e1]; exact pr_mid hi
  have p2 : pr (X ++ p :: M ++ q :: Y) j = q := pr_mid hj2
  unfold sw
  rw [p1, p2, e1, set_mid hi]
  have e2 : X ++ q :: (M ++ q :: Y) = X ++ q :: M ++ q :: Y := by simp
  rw [e2, set_mid (by rw [hj]; simp; omega)]
theorem sw_comm (L : PL) (i j : Nat) (h : i ≠ j) : sw L i j = sw L j i := by
  unfold sw
  rw [List.set_comm _ _ h]

/-- the one at a moves up, past d others -/
def mvU (L : PL) (a : Nat) : Nat → PL
  | 0 => L
  | d + 1 => sw (mvU L a d) (a + d) (a + d + 1)
theorem mvU_length (L : PL) (a : Nat) : ∀ d, (mvU L a d).length = L.length
  | 0 => rfl
  | d + 1 => by rw [mvU, sw_length, mvU_length L a d]
theorem mvU_dec {X B R : PL} {x : Int × Int} {a : Nat} (ha : a = X.length) : ∀ d, d ≤ B.length → mvU (X ++ x :: B ++ R) a d = X ++ B.take d ++ x :: (B.drop d ++ R)
  | 0, _ => by simp [mvU]
  | d + 1, h => by
    have hd : d < B.length := by omega
    rw [mvU, mvU_dec ha d (by omega), List.drop_eq_getElem_cons hd, List.take_succ_eq_append_getElem hd]
    generalize B[d] = q
    have e : X ++ B.take d ++ x :: (q :: B.drop (d + 1) ++ R) = X ++ B.take d ++ x :: [] ++ q :: (B.drop (d + 1) ++ R) := by simp
    have hl : (X ++ B.take d).length = a + d := by simp [ha]; omega
    rw [e, sw_dec (by rw [hl]) (by rw [hl]; simp)]
    simp
/-- the one at m moves down, past d others -/
def mvD (L : PL) (m : Nat) : Nat → PL
  | 0 => L
  | d + 1 => sw (mvD L m d) (m - d) (m - d - 1)
theorem mvD_length (L : PL) (a : Nat) : ∀ d, (mvD L a d).length = L.length
  | 0 => rfl
  | d + 1 => by rw [mvD, sw_length, mvD_length L a d]
theorem mvD_dec {X A R : PL} {y : Int × Int} {m : Nat} (hm : m = X.length + A.length) : ∀ d, d ≤ A.length → mvD (X ++ A ++ y :: R) m d = X ++ A.take (A.length - d) ++ y :: (A.drop (A.length - d) ++ R)
  | 0, _ => by simp [mvD]
  | d + 1, h => by
    obtain ⟨s, hs⟩ : ∃ s, A.length - d = s + 1 := ⟨A.length - d - 1, by omega⟩
    have hsl : s < A.length := by omega
    rw [mvD, mvD_dec hm d (by omega), hs, show A.length - (d + 1) = s by omega, List.take_succ_eq_append_getElem hsl, List.drop_eq_getElem_cons hsl]
    generalize A[s] = q
    have e : X ++ (A.take s ++ [q]) ++ y :: (A.drop (s + 1) ++ R) = X ++ A.take s ++ q :: [] ++ y :: (A.drop (s + 1) ++ R) := by simp
    have hl : (X ++ A.take s).length = m - d - 1 := by simp; omega
    rw [e, sw_comm _ _ _ (by omega), sw_dec (by rw [hl]) (by rw [hl]; simp; omega)]
    simp
/-- two ranges exchanged, the first n of each -/
def sr (L : PL) (a b : Nat) : Nat → PL
  | 0 => L
  | n + 1 => sw (sr L a b n) (a + n) (b + n)
theorem sr_length (L : PL) (a b : Nat) : ∀ n, (sr L a b n).length = L.length
  | 0 => rfl
  | n + 1 => by rw [sr, sw_length, sr_length L a b n]
theorem sr_part {X P M Q Y : PL} {a b : Nat} (ha : a = X.length) (hb : b = X.length + P.length + M.length) (hq : Q.length = P.length) : ∀ n, n ≤ P.length →
    sr (X ++ P ++ M ++ Q ++ Y) a b n = X ++ (Q.take n ++ P.drop n) ++ M ++ (P.take n ++ Q.drop n) ++ Y
  | 0, _ => by simp [sr]
  | n + 1, h => by
    have h1 : n < P.length := by omega
    have h2 : n < Q.length := by omega
    rw [sr, sr_part ha hb hq n (by omega), List.drop_eq_getElem_cons h1, List.drop_eq_getElem_cons h2, List.take_succ_eq_append_getElem h1, List.take_succ_eq_append_getElem h2]
    generalize P[n] = pn
    generalize Q[n] = qn
    have e : X ++ (Q.take n ++ pn :: P.drop (n + 1)) ++ M ++ (P.take n ++ qn :: Q.drop (n + 1)) ++ Y = (X ++ Q.take n) ++ pn :: (P.drop (n + 1) ++ M ++ P.take n) ++ qn :: (Q.drop (n + 1) ++ Y) := by simp
    have hl : (X ++ Q.take n).length = a + n := by simp [ha]; omega
    rw [e, sw_dec (by rw [hl]) (by rw [hl]; simp; omega)]
    simp
theorem sr_all {X P M Q Y : PL} {a b n : Nat} (ha : a = X.length) (hb : b = X.length + P.length + M.length) (hp : P.length = n) (hq : Q.length = n) : sr (X ++ P ++ M ++ Q ++ Y) a b n = X ++ Q ++ M ++ P ++ Y := by
  rw [sr_part ha hb (by omega) n (by omega), List.take_of_length_le (by omega), List.drop_of_length_le (by omega), List.take_of_length_le (by omega), List.drop_of_length_le (by omega)]
  simp

/-- comes ahead: ranks higher; of one rank the lesser key -/
def Lx (p q : Int × Int) : Prop := q.2 < p.2 ∨ (p.2 = q.2 ∧ p.1 < q.1)
abbrev Ord (l : PL) : Prop := l.Pairwise Lx
theorem ord_ni {A : PL} (h : Ord A) {i j : Nat} (hij : i ≤ j) (hj : j < A.length) : dp A j ≤ dp A i := by
  rcases Nat.lt_or_ge i j with h1 | h1
  · have := List.pairwise_iff_getElem.1 h i j (by omega) hj h1
    rw [dp_in hj, dp_in (by omega)]
    unfold Lx at this
    omega
  · rw [show i = j by omega]
    exact Int.le_refl _
theorem ord_mid {P Q : PL} {x : Int × Int} (hP : Ord (P ++ Q)) (h1 : ∀ p ∈ P, Lx p x) (h2 : ∀ q ∈ Q, Lx x q) : Ord (P ++ x :: Q) := by
  obtain ⟨a, b, c⟩ := List.pairwise_append.1 hP
  refine List.pairwise_append.2 ⟨a, List.pairwise_cons.2 ⟨h2, b⟩, ?_⟩
  intro p hp q hq
  rcases List.mem_cons.1 hq with rfl | hq
  · exact h1 p hp
  · exact c p hp q hq
theorem Lx.trans {p q r : Int × Int} (h : Lx p q) (h' : Lx q r) : Lx p r := by
  unfold Lx at *
  omega
/-- parts that are put together -/
theorem ord_parts {A1 A2 B1 B2 M1 M2 : PL} (hA : Ord (A1 ++ A2)) (hB : Ord (B1 ++ B2)) (hk : ∀ x ∈ A1 ++ A2, ∀ y ∈ B1 ++ B2, x.1 < y.1) (h12 : ∀ x ∈ A1, ∀ y ∈ B2, y.2 ≤ x.2) (h21 : ∀ x ∈ A2, ∀ y ∈ B1, x.2 < y.2)
    (p1 : M1.Perm (A1 ++ B1)) (o1 : Ord M1) (p2 : M2.Perm (A2 ++ B2)) (o2 : Ord M2) : Ord (M1 ++ M2) ∧ (M1 ++ M2).Perm (A1 ++ A2 ++ (B1 ++ B2)) := by
  refine ⟨List.pairwise_append.2 ⟨o1, o2, ?_⟩, ?_⟩
  · intro u hu v hv
    have hu' := p1.mem_iff.1 hu
    have hv' := p2.mem_iff.1 hv
    rcases List.mem_append.1 hu' with hu1 | hu1
    · rcases List.mem_append.1 hv' with hv1 | hv1
      · exact (List.pairwise_append.1 hA).2.2 u hu1 v hv1
      · have e1 := h12 u hu1 v hv1
        have e2 := hk u (List.mem_append.2 (.inl hu1)) v (List.mem_append.2 (.inr hv1))
        unfold Lx
        omega
    · rcases List.mem_append.1 hv' with hv1 | hv1
      · exact .inl (h21 v hv1 u hu1)
      · exact (List.pairwise_append.1 hB).2.2 u hu1 v hv1
  · refine (p1.append p2).trans ?_
    have e1 : (A1 ++ B1 ++ (A2 ++ B2)) = A1 ++ ((B1 ++ A2) ++ B2) := by simp
    have e2 : (A1 ++ A2 ++ (B1 ++ B2)) = A1 ++ ((A2 ++ B1) ++ B2) := by simp
    rw [e1, e2]
    exact ((List.perm_append_comm).append_right B2).append_left A1

/-- a range -/
def seg (L : PL) (lo hi : Nat) : PL := (L.drop lo).take (hi - lo)
theorem seg_length {L : PL} {lo hi : Nat} (h : lo ≤ hi) (h2 : hi ≤ L.length) : (seg L lo hi).length = hi - lo := by simp [seg]; omega
theorem seg_cut (L : PL) {lo hi : Nat} (h : lo ≤ hi) : L = L.take lo ++ seg L lo hi ++ L.drop hi := by
  conv => lhs; rw [← List.take_append_drop lo L, ← List.take_append_drop (hi - lo) (L.drop lo), List.drop_drop]
  rw [show lo + (hi - lo) = hi by omega, List.append_assoc]
  rfl
theorem seg_at {X S Y : PL} {lo hi : Nat} (h1 : lo = X.length) (h2 : hi = X.length + S.length) : seg (X ++ S ++ Y) lo hi = S := by
  subst h1 h2
  unfold seg
  rw [List.append_assoc, List.drop_left, Nat.add_sub_cancel_left, List.take_left]
theorem seg_join (L : PL) {a m b : Nat} (h1 : a ≤ m) (h2 : m ≤ b) : seg L a b = seg L a m ++ seg L m b := by
  unfold seg
  rw [show b - a = (m - a) + (b - m) by omega, List.take_add, List.drop_drop, show a + (m - a) = m by omega]
theorem seg_ahead {X S S' Y : PL} {lo hi : Nat} (h : hi ≤ X.length) : seg (X ++ S ++ Y) lo hi = seg (X ++ S' ++ Y) lo hi := by
  unfold seg
  rw [List.append_assoc, List.append_assoc]
  rcases Nat.lt_or_ge lo hi with h1 | h1
  · rw [List.drop_append_of_le_length (by omega), List.drop_append_of_le_length (by omega), List.take_append_of_le_length (by simp; omega), List.take_append_of_le_length (by simp; omega)]
  · rw [show hi - lo = 0 by omega]
    simp
theorem seg_behind {X S S' Y : PL} {lo hi : Nat} (hS : S.length = S'.length) (h : X.length + S.length ≤ lo) : seg (X ++ S ++ Y) lo hi = seg (X ++ S' ++ Y) lo hi := by
  unfold seg
  congr 1
  obtain ⟨d, hd⟩ : ∃ d, lo = X.length + S.length + d := ⟨lo - (X.length + S.length), by omega⟩
  subst hd
  have e1 : (X ++ S ++ Y).drop (X.length + S.length + d) = Y.drop d := by
    rw [show X.length + S.length + d = (X ++ S).length + d by simp, ← List.drop_drop, List.drop_left]
  have e2 : (X ++ S' ++ Y).drop (X.length + S.length + d) = Y.drop d := by
    rw [show X.length + S.length + d = (X ++ S').length + d by simp [hS], ← List.drop_drop, List.drop_left]
  rw [e1, e2]

/-- a range of L is that of L0, in order -/
def Good (L0 L : PL) (lo hi : Nat) : Prop := (seg L lo hi).Perm (seg L0 lo hi) ∧ Ord (seg L lo hi)
inductive GF (L0 L : PL) (n bs : Nat) : Nat → Prop
  | done {lo : Nat} : n ≤ lo → GF L0 L n bs lo
  | step {lo : Nat} : lo < n → Good L0 L lo (min (lo + bs) n) → GF L0 L n bs (lo + bs) → GF L0 L n bs lo
inductive GP (L0 L : PL) (bs : Nat) : Nat → Prop
  | zero : GP L0 L bs 0
  | step {a : Nat} : GP L0 L bs a → Good L0 L a (a + bs) → GP L0 L bs (a + bs)
theorem GP.join {L0 L : PL} {n bs a : Nat} (hb : 0 < bs) (h : GP L0 L bs a) : a ≤ n → GF L0 L n bs a → GF L0 L n bs 0 := by
  induction h with
  | zero => intro _ h; exact h
  | step _ hg ih =>
    rename_i a _
    intro hn hf
    exact ih (by omega) (.step (by omega) (by rw [Nat.min_eq_left hn]; exact hg) hf)
theorem GP.keep {L0 L L' : PL} {bs a : Nat} (h : GP L0 L bs a) : ∀ b, a ≤ b → (∀ lo hi, hi ≤ b → seg L' lo hi = seg L lo hi) → GP L0 L' bs a := by
  induction h with
  | zero => intro _ _ _; exact .zero
  | step _ hg ih =>
    rename_i a _
    intro b hb hk
    refine .step (ih b (by omega) hk) ?_
    unfold Good
    rw [hk _ _ hb]
    exact hg
theorem GF.keep {L0 L L' : PL} {n bs lo : Nat} (h : GF L0 L n bs lo) : ∀ b, b ≤ lo → (∀ x y, b ≤ x → seg L' x y = seg L x y) → GF L0 L' n bs lo := by
  induction h with
  | done h => intro _ _ _; exact .done h
  | step h1 hg _ ih =>
    intro b hb hk
    refine .step h1 ?_ (ih b (by omega) hk)
    unfold Good
    rw [hk _ _ hb]
    exact hg
theorem seg_mem {L : PL} {lo hi : Nat} {p : Int × Int} (h : p ∈ seg L lo hi) : ∃ i, ∃ hi' : i < L.length, lo ≤ i ∧ i < hi ∧ L[i] = p := by
  unfold seg at h
  obtain ⟨i, hi', e⟩ := List.getElem_of_mem h
  rw [List.getElem_take, List.getElem_drop] at e
  simp only [List.length_take, List.length_drop] at hi'
  exact ⟨lo + i, by omega, by omega, by omega, e⟩
/-- keys of what lies ahead are less -/
theorem good_keys {L0 L : PL} {a m b : Nat} (hr : L0.Pairwise fun p q => p.1 < q.1) (h1 : Good L0 L a m) (h2 : Good L0 L m b) : ∀ x ∈ seg L a m, ∀ y ∈ seg L m b, x.1 < y.1 := by
  intro x hx y hy
  obtain ⟨i, hi, _, him, rfl⟩ := seg_mem (h1.1.mem_iff.1 hx)
  obtain ⟨j, hj, hmj, _, rfl⟩ := seg_mem (h2.1.mem_iff.1 hy)
  exact List.pairwise_iff_getElem.1 hr i j hi hj (by omega)

/-- put in one behind the other, in order of ranks, they make the tree -/
theorem grow_hp : ∀ (t : Tr) (l M : PL), Hp t l → (l.Pairwise fun p q => p.1 < q.1) → M.Perm l → Ord M → gro .nil (M.map Prod.fst) = t := by
  intro t
  induction t with
  | nil =>
    intro l M hp _ hM _
    rw [show l = [] from hp] at hM
    rw [hM.eq_nil]
    rfl
  | node a k b iha ihb =>
    rintro l M ⟨la, v, lb, rfl, ha, hb, h1, h2⟩ hr hM hO
    obtain ⟨ra, rkb, rab⟩ := List.pairwise_append.1 hr
    obtain ⟨rk, rb⟩ := List.pairwise_cons.1 rkb
    have hak : ∀ p ∈ la, p.1 < k := fun p hp => rab p hp (k, v) (by simp)
    have hbk : ∀ p ∈ lb, k < p.1 := fun p hp => rk p hp
    obtain ⟨h, M', rfl⟩ : ∃ h M', M = h :: M' := by
      cases M with
      | nil => have := hM.length_eq; simp at this
      | cons h M' => exact ⟨h, M', rfl⟩
    obtain ⟨oh, oM⟩ := List.pairwise_cons.1 hO
    have hh : h = (k, v) := by
      have hin : (k, v) ∈ h :: M' := hM.mem_iff.2 (by simp)
      rcases List.mem_cons.1 hin with e | e
      · exact e.symm
      · exfalso
        have hlx := oh _ e
        have hhl : h ∈ la ++ (k, v) :: lb := hM.mem_iff.1 (by simp)
        unfold Lx at hlx
        rcases List.mem_append.1 hhl with h3 | h3
        · have := h1 h h3
          omega
        · rcases List.mem_cons.1 h3 with h4 | h4
          · rw [h4] at hlx
            omega
          · have e1 := h2 h h4
            have e2 := hbk h h4
            simp only at hlx
            omega
    subst hh
    have hM' : M'.Perm (la ++ lb) := (List.perm_cons (k, v)).1 (hM.trans List.perm_middle)
    have hnk : k ∉ M'.map Prod.fst := by
      intro hm
      obtain ⟨p, hp, e⟩ := List.mem_map.1 hm
      rcases List.mem_append.1 (hM'.mem_iff.1 hp) with h3 | h3
      · have := hak p h3
        omega
      · have := hbk p h3
        omega
    have hlo : lo k (M'.map Prod.fst) = (M'.filter fun p => decide (p.1 < k)).map Prod.fst := by
      unfold lo
      rw [List.filter_map]
      rfl
    have hhi : hi k (M'.map Prod.fst) = (M'.filter fun p => !decide (p.1 < k)).map Prod.fst := by
      unfold hi
      rw [List.filter_map]
      rfl
    have p1 : (M'.filter fun p => decide (p.1 < k)).Perm la := by
      refine (hM'.filter _).trans ?_
      rw [List.filter_append, List.filter_eq_self.2 (fun p hp => by simpa using hak p hp), List.filter_eq_nil_iff.2 (fun p hp => by have := hbk p hp; simp; omega), List.append_nil]
    have p2 : (M'.filter fun p => !decide (p.1 < k)).Perm lb := by
      refine (hM'.filter _).trans ?_
      rw [List.filter_append, List.filter_eq_nil_iff.2 (fun p hp => by have := hak p hp; simp; omega), List.filter_eq_self.2 (fun p hp => by have := hbk p hp; simp; omega), List.nil_append]
    show gro .nil (k :: M'.map Prod.fst) = _
    rw [gro_cons hnk, hlo, hhi, iha la _ ha ra p1 (oM.filter _), ihb lb _ hb rb p2 (oM.filter _)]

end Go.Proofs.Ytcjhglejmmphbaa
