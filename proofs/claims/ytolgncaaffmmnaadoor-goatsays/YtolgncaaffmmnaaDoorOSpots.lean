/-
  A TREE'S SPOTS WHERE A KEY COMES, GOES, WHERE A PART IS BUILT ANEW: plain mathematics. Nothing of the program.
-/
import Derived.Test.YtolgncaaffmmnaaDoorOPure
import Derived.Test.YtolgncaaffmmnaaDoorSPure
namespace Go.Proofs.YtolgncaaffmmnaaDoor

theorem sp_mem_ge (t : Tr) : ∀ (d : Int) (q : Int × Int), q ∈ t.sp d → d ≤ q.2 := by
  induction t with
  | nil => intro d q h; simp [Tr.sp] at h
  | node a k b iha ihb =>
    intro d q h
    simp only [Tr.sp, List.mem_append, List.mem_cons] at h
    rcases h with h | h | h
    · have := iha (d + 1) q h; omega
    · rw [h]; exact Int.le_refl _
    · have := ihb (d + 1) q h; omega
theorem sp_mem_ks {t : Tr} {d : Int} {q : Int × Int} (h : q ∈ t.sp d) : q.1 ∈ t.ks := by
  rw [← sp_ks t d]
  exact List.mem_map_of_mem h
/-- one lower than the last one, or d -/
def lstD (l : PL) (d : Int) : Int := match l.getLast? with
  | some q => q.2 + 1
  | none => d
def hdD (l : PL) (d : Int) : Int := match l.head? with
  | some q => q.2 + 1
  | none => d
theorem lstD_le {l : PL} {d : Int} (h : ∀ q ∈ l, d ≤ q.2) : d ≤ lstD l d := by
  unfold lstD
  split
  · rename_i q hq
    have := h q (List.mem_of_getLast? hq)
    omega
  · exact Int.le_refl _
theorem hdD_le {l : PL} {d : Int} (h : ∀ q ∈ l, d ≤ q.2) : d ≤ hdD l d := by
  unfold hdD
  split
  · rename_i q hq
    have := h q (List.mem_of_head? hq)
    omega
  · exact Int.le_refl _
theorem lstD_nil (d : Int) : lstD [] d = d := rfl
theorem hdD_nil (d : Int) : hdD [] d = d := rfl
theorem lstD_ne {l : PL} (h : l ≠ []) (d e : Int) : lstD l d = lstD l e := by
  unfold lstD
  cases hl : l.getLast? with
  | none => exact absurd (List.getLast?_eq_none_iff.1 hl) h
  | some q => rfl
theorem hdD_ne {l : PL} (h : l ≠ []) (d e : Int) : hdD l d = hdD l e := by
  unfold hdD
  cases hl : l.head? with
  | none => exact absurd (List.head?_eq_none_iff.1 hl) h
  | some q => rfl
theorem lstD_app (l m : PL) (q : Int × Int) (d : Int) : lstD (l ++ q :: m) d = if m = [] then q.2 + 1 else lstD m d := by
  cases m with
  | nil => simp [lstD]
  | cons p m =>
    obtain ⟨z, hz⟩ : ∃ z, (p :: m).getLast? = some z := by
      cases h : (p :: m).getLast? with
      | none => exact absurd (List.getLast?_eq_none_iff.1 h) (by simp)
      | some z => exact ⟨z, rfl⟩
    rw [if_neg (by simp)]
    unfold lstD
    rw [List.getLast?_append, List.getLast?_cons_cons, hz]
    rfl
theorem hdD_app (l m : PL) (q : Int × Int) (d : Int) : hdD (l ++ q :: m) d = if l = [] then q.2 + 1 else hdD l d := by
  cases l with
  | nil => simp [hdD]
  | cons p l => simp [hdD]

/-- a key comes: where, and how deep -/
theorem ins_spots {x : Int} : ∀ {t : Tr}, Up t.ks → x ∉ t.ks → ∀ d : Int, ∃ l1 l2, t.sp d = l1 ++ l2 ∧ (t.ins x).sp d = l1 ++ (x, d + ((t.ins x).dpx x : Int)) :: l2 ∧ (∀ q ∈ l1, q.1 < x) ∧ (∀ q ∈ l2, x < q.1) ∧ d + ((t.ins x).dpx x : Int) = max (lstD l1 d) (hdD l2 d) := by
  intro t
  induction t with
  | nil =>
    intro _ _ d
    refine ⟨[], [], rfl, ?_, by simp, by simp, ?_⟩
    · simp [Tr.ins, Tr.leaf, Tr.sp, Tr.dpx]
    · simp [Tr.ins, Tr.leaf, Tr.dpx, lstD, hdD]
  | node a k b iha ihb =>
    intro hu hx d
    obtain ⟨u1, u2, u3, u4⟩ := up_node.1 hu
    simp only [mem_node, not_or] at hx
    by_cases h1 : x < k
    · obtain ⟨l1, l2, e1, e2, e3, e4, e5⟩ := iha u1 hx.1 (d + 1)
      have hi : (Tr.node a k b).ins x = .node (a.ins x) k b := by rw [Tr.ins, if_pos h1]
      have hdp : ((Tr.node a k b).ins x).dpx x = (a.ins x).dpx x + 1 := by rw [hi, Tr.dpx, if_pos h1]
      have hdp' : d + ((((Tr.node a k b).ins x).dpx x : Nat) : Int) = d + 1 + ((a.ins x).dpx x : Int) := by rw [hdp]; omega
      have hge : ∀ q ∈ a.sp (d + 1), d + 1 ≤ q.2 := sp_mem_ge a (d + 1)
      refine ⟨l1, l2 ++ (k, d) :: b.sp (d + 1), by rw [Tr.sp, e1]; simp, ?_, e3, ?_, ?_⟩
      · rw [hdp', hi, Tr.sp, e2]; simp
      · intro q hq
        simp only [List.mem_append, List.mem_cons] at hq
        rcases hq with hq | hq | hq
        · exact e4 q hq
        · rw [hq]; exact h1
        · have := u4 q.1 (sp_mem_ks hq); omega
      · rw [hdp', e5, hdD_app]
        have hb1 : d + 1 ≤ lstD l1 (d + 1) := lstD_le fun q hq => hge q (by rw [e1]; simp [hq])
        have hb2 : d + 1 ≤ hdD l2 (d + 1) := hdD_le fun q hq => hge q (by rw [e1]; simp [hq])
        have hc1 : lstD l1 d = lstD l1 (d + 1) ∨ (lstD l1 d = d ∧ lstD l1 (d + 1) = d + 1) := by
          by_cases hl : l1 = []
          · subst hl; exact .inr ⟨rfl, rfl⟩
          · exact .inl (lstD_ne hl _ _)
        have hm2 : ∀ y, d + 1 ≤ y → hdD l2 (d + 1) = y → (l2 ≠ [] → d + 2 ≤ y) := by
          intro y _ hy hn
          cases l2 with
          | nil => exact absurd rfl hn
          | cons p m =>
            have := hge p (by rw [e1]; simp)
            simp [hdD] at hy
            omega
        by_cases hl2 : l2 = []
        · subst hl2
          rw [if_pos rfl, hdD_nil]
          show max (lstD l1 (d + 1)) (d + 1) = max (lstD l1 d) (d + 1)
          rcases hc1 with h | ⟨h, h'⟩
          · rw [h]
          · rw [h, h']; omega
        · rw [if_neg hl2, hdD_ne hl2 d (d + 1)]
          have := hm2 _ hb2 rfl hl2
          rcases hc1 with h | ⟨h, h'⟩
          · rw [h]
          · rw [h, h']; omega
    · have h2 : k < x := by omega
      obtain ⟨l1, l2, e1, e2, e3, e4, e5⟩ := ihb u2 hx.2.2 (d + 1)
      have hi : (Tr.node a k b).ins x = .node a k (b.ins x) := by rw [Tr.ins, if_neg h1, if_pos h2]
      have hdp : ((Tr.node a k b).ins x).dpx x = (b.ins x).dpx x + 1 := by rw [hi, Tr.dpx, if_neg h1, if_pos h2]
      have hdp' : d + ((((Tr.node a k b).ins x).dpx x : Nat) : Int) = d + 1 + ((b.ins x).dpx x : Int) := by rw [hdp]; omega
      have hge : ∀ q ∈ b.sp (d + 1), d + 1 ≤ q.2 := sp_mem_ge b (d + 1)
      refine ⟨a.sp (d + 1) ++ (k, d) :: l1, l2, by rw [Tr.sp, e1]; simp, ?_, ?_, e4, ?_⟩
      · rw [hdp', hi, Tr.sp, e2]; simp
      · intro q hq
        simp only [List.mem_append, List.mem_cons] at hq
        rcases hq with hq | hq | hq
        · have := u3 q.1 (sp_mem_ks hq); omega
        · rw [hq]; exact h2
        · exact e3 q hq
      · rw [hdp', e5, lstD_app]
        have hb1 : d + 1 ≤ lstD l1 (d + 1) := lstD_le fun q hq => hge q (by rw [e1]; simp [hq])
        have hb2 : d + 1 ≤ hdD l2 (d + 1) := hdD_le fun q hq => hge q (by rw [e1]; simp [hq])
        have hc2 : hdD l2 d = hdD l2 (d + 1) ∨ (hdD l2 d = d ∧ hdD l2 (d + 1) = d + 1) := by
          by_cases hl : l2 = []
          · subst hl; exact .inr ⟨rfl, rfl⟩
          · exact .inl (hdD_ne hl _ _)
        by_cases hl1 : l1 = []
        · subst hl1
          rw [if_pos rfl, lstD_nil]
          show max (d + 1) (hdD l2 (d + 1)) = max (d + 1) (hdD l2 d)
          rcases hc2 with h | ⟨h, h'⟩
          · rw [h]
          · rw [h, h']; omega
        · rw [if_neg hl1, lstD_ne hl1 d (d + 1)]
          have hm : d + 2 ≤ lstD l1 (d + 1) := by
            unfold lstD
            cases hq : l1.getLast? with
            | none => exact absurd (List.getLast?_eq_none_iff.1 hq) hl1
            | some q =>
              have := hge q (by rw [e1]; simp [List.mem_of_getLast? hq])
              show d + 2 ≤ q.2 + 1
              omega
          rcases hc2 with h | ⟨h, h'⟩
          · rw [h]
          · rw [h, h']; omega

/-- how deep a key that comes at place p of l stands -/
def dAt (l : PL) (p : Nat) : Int := max (if 0 < p then dp l (p - 1) + 1 else 0) (if p < l.length then dp l p + 1 else 0)
theorem dAt_app (l1 l2 : PL) : dAt (l1 ++ l2) l1.length = max (lstD l1 0) (hdD l2 0) := by
  unfold dAt
  congr 1
  · cases h : l1.getLast? with
    | none =>
      have := List.getLast?_eq_none_iff.1 h
      subst this
      rfl
    | some q =>
      have hp : 0 < l1.length := List.length_pos_iff.2 (fun e => by subst e; simp at h)
      rw [if_pos hp, dp_left (by omega)]
      unfold lstD
      rw [h]
      rw [List.getLast?_eq_getElem?] at h
      show dp l1 _ + 1 = q.2 + 1
      simp [dp, h]
  · cases l2 with
    | nil => simp [hdD]
    | cons q m =>
      rw [if_pos (by simp), dp_right (Nat.le_refl _), Nat.sub_self]
      simp [dp, hdD]

/-- a key that is there: where it stands, and what stands there when it goes -/
theorem find_key {x : Int} : ∀ (t : Tr) (d : Int) (pre post : PL), Ctx 0 d pre post → Up t.ks → x ∈ t.ks →
    ∃ d' a b pre' post', Ctx 0 d' pre' post' ∧ Up (Tr.node a x b).ks ∧ pre ++ t.sp d ++ post = pre' ++ (Tr.node a x b).sp d' ++ post' ∧ pre ++ (t.del x).sp d ++ post = pre' ++ ((Tr.node a x b).del x).sp d' ++ post' := by
  intro t
  induction t with
  | nil => intro d pre post _ _ h; simp [Tr.ks] at h
  | node a k b iha ihb =>
    intro d pre post hc hu hx
    obtain ⟨u1, u2, u3, u4⟩ := up_node.1 hu
    rw [mem_node] at hx
    rcases Int.lt_trichotomy x k with h1 | h1 | h1
    · have hxa : x ∈ a.ks := by
        rcases hx with hx | hx | hx
        · exact hx
        · omega
        · have := u4 x hx; omega
      obtain ⟨d', a', b', pre', post', c1, c2, c3, c4⟩ := iha (d + 1) pre ((k, d) :: b.sp (d + 1) ++ post) (.left k b hc) u1 hxa
      refine ⟨d', a', b', pre', post', c1, c2, by rw [← c3]; simp [Tr.sp], ?_⟩
      rw [← c4, Tr.del, if_pos h1]
      simp [Tr.sp]
    · subst h1
      exact ⟨d, a, b, pre, post, hc, hu, rfl, rfl⟩
    · have hxb : x ∈ b.ks := by
        rcases hx with hx | hx | hx
        · have := u3 x hx; omega
        · omega
        · exact hx
      obtain ⟨d', a', b', pre', post', c1, c2, c3, c4⟩ := ihb (d + 1) (pre ++ a.sp (d + 1) ++ [(k, d)]) post (.right a k hc) u2 hxb
      refine ⟨d', a', b', pre', post', c1, c2, by rw [← c3]; simp [Tr.sp], ?_⟩
      rw [← c4, Tr.del, if_neg (by omega), if_pos h1]
      simp [Tr.sp]
/-- the least one of a part stands first, with none to the left -/
theorem find_least : ∀ (b : Tr), b ≠ .nil → ∀ (d : Int) (pre post : PL), Ctx 0 d pre post →
    ∃ d' c post', Ctx 0 d' pre post' ∧ pre ++ b.sp d ++ post = pre ++ (Tr.node .nil b.least c).sp d' ++ post' ∧ pre ++ b.cutl.sp d ++ post = pre ++ c.sp d' ++ post' := by
  intro b
  induction b with
  | nil => intro h; exact absurd rfl h
  | node a k c iha _ =>
    intro _ d pre post hc
    by_cases ha : a = .nil
    · subst ha
      exact ⟨d, c, post, hc, by simp [Tr.least, Tr.isNil, Tr.sp], by simp [Tr.cutl, Tr.isNil]⟩
    · have hn : a.isNil = false := by cases a <;> simp_all [Tr.isNil]
      obtain ⟨d', c', post', c1, c2, c3⟩ := iha ha (d + 1) pre ((k, d) :: c.sp (d + 1) ++ post) (.left k c hc)
      refine ⟨d', c', post', c1, ?_, ?_⟩
      · rw [show (Tr.node a k c).least = a.least by simp [Tr.least, hn], ← c2]
        simp [Tr.sp]
      · rw [show (Tr.node a k c).cutl = .node a.cutl k c by simp [Tr.cutl, hn], ← c3]
        simp [Tr.sp]
/-- in rising keys all ahead of one are less -/
theorem up_place {t : Tr} {d : Int} (hu : Up t.ks) {p : Nat} (hp : p < t.size) : ∀ i, i < p → ky (t.sp d) i < ky (t.sp d) p := by
  intro i hi
  rw [ks_ky t d i (by omega), ks_ky t d p hp]
  exact (List.pairwise_iff_getElem.1 hu) i p _ _ hi

/-- one side of the part has more than two thirds -/
def leansAt (l : PL) (i : Nat) : Prop := 2 * (toR l i - frR l i) < 3 * max (i - frR l i) (toR l i - i - 1)
/-- going up from at: what is found -/
inductive Clm (l : PL) : Nat → Int → Option (Nat × Nat × Int) → Prop
  | out {n : Nat} : Clm l n (-1) none
  | hit {n i : Nat} : i < l.length → leansAt l i → Clm l (n + 1) i (some (frR l i, toR l i, dp l i))
  | up {n i : Nat} {r : Option (Nat × Nat × Int)} : i < l.length → ¬ leansAt l i → Clm l n (par l i) r → Clm l (n + 1) i r
theorem At.leans {l : PL} {i : Nat} {d : Int} {a : Tr} {k : Int} {b : Tr} {pre post : PL} (h : At l i d a k b pre post) : leansAt l i ↔ 2 * (a.size + b.size + 1) < 3 * max a.size b.size := by
  have hp := h.part
  have hi := h.idx
  unfold leansAt
  rw [hp.1, hp.2]
  have e1 : i - pre.length = a.size := by omega
  have e2 : pre.length + (a.size + 1 + b.size) - i - 1 = b.size := by omega
  have e3 : pre.length + (a.size + 1 + b.size) - pre.length = a.size + b.size + 1 := by omega
  rw [e1, e2, e3]
/-- climbing from the key x of a part s up to its top -/
theorem climb {x : Int} {l : PL} : ∀ (s : Tr) (d : Int) (pre post : PL), Ctx 0 d pre post → Up s.ks → x ∈ s.ks → l = pre ++ s.sp d ++ post →
    ∃ i r : Nat, i < l.length ∧ ky l i = x ∧ pre.length ≤ i ∧ i < pre.length + s.size ∧ (∃ a k b, s = .node a k b ∧ r = pre.length + a.size) ∧
      match s.reb x with
      | none => ∀ n R, Clm l n (par l r) R → ∃ m, m ≤ n + s.tall ∧ Clm l m (par l i) R
      | some p => ∃ (u : Tr) (e : Int) (p1 q1 : PL) (m : Nat), m ≤ s.tall ∧ Ctx 0 e p1 q1 ∧ 0 < u.size ∧ l = p1 ++ u.sp e ++ q1 ∧ pre ++ p.1.sp d ++ post = p1 ++ (ev u.ks).sp e ++ q1 ∧ p.2 = u.size ∧ Clm l m (par l i) (some (p1.length, p1.length + u.size, e)) := by
  intro s
  induction s with
  | nil => intro d pre post _ _ h; simp [Tr.ks] at h
  | node a k b iha ihb =>
    intro d pre post hc hu hx hl
    obtain ⟨u1, u2, u3, u4⟩ := up_node.1 hu
    rw [mem_node] at hx
    have hat : At l (pre.length + a.size) d a k b pre post := ⟨hc, hl, rfl⟩
    have hlen := hat.len
    have hroot := hat.root
    have hpart := hat.part
    have hleans := hat.leans
    -- what is done at the top, once the part below found nothing
    have top : ∀ (n : Nat) (R), (leanT a k b = none → Clm l n (par l ((pre.length + a.size : Nat))) R) → match leanT a k b with
        | none => Clm l (n + 1) ((pre.length + a.size : Nat) : Int) R
        | some p => ∃ (u : Tr) (e : Int) (p1 q1 : PL), Ctx 0 e p1 q1 ∧ 0 < u.size ∧ l = p1 ++ u.sp e ++ q1 ∧ pre ++ p.1.sp d ++ post = p1 ++ (ev u.ks).sp e ++ q1 ∧ p.2 = u.size ∧ Clm l (n + 1) ((pre.length + a.size : Nat) : Int) (some (p1.length, p1.length + u.size, e)) := by
      intro n R hR
      cases hq : leanT a k b with
      | none => exact .up (by omega) (fun h => lean_none hq (hleans.1 h)) (hR hq)
      | some p =>
        obtain ⟨f1, f2, f3⟩ := lean_facts hq
        refine ⟨.node a k b, d, pre, post, hc, by simp only [Tr.size]; omega, hl, by rw [f1], by rw [f2]; simp only [Tr.size]; omega, ?_⟩
        have := Clm.hit (n := n) (l := l) (i := pre.length + a.size) (by omega) (hleans.2 f3)
        rw [hpart.1, hpart.2, hroot.1] at this
        exact this
    rcases Int.lt_trichotomy x k with h1 | h1 | h1
    · have hxa : x ∈ a.ks := by
        rcases hx with hx | hx | hx
        · exact hx
        · omega
        · have := u4 x hx; omega
      obtain ⟨i, r, hi, hk, hi1, hi2, ⟨a', k', b', ea, er⟩, hm⟩ := iha (d + 1) pre ((k, d) :: b.sp (d + 1) ++ post) (.left k b hc) u1 hxa (by rw [hl]; simp [Tr.sp])
      refine ⟨i, pre.length + a.size, hi, hk, hi1, by simp only [Tr.size]; omega, ⟨a, k, b, rfl, rfl⟩, ?_⟩
      have hpar : par l r = ((pre.length + a.size : Nat) : Int) := by
        subst ea
        have hll : LL l r (pre.length + (Tr.node a' k' b').size) d a' k' b' k b pre post := ⟨hc, hl, er, by simp only [Tr.size]⟩
        exact hll.par_i
      rw [hpar] at hm
      rw [Tr.reb, if_pos h1]
      cases hr : a.reb x with
      | some p =>
        rw [hr] at hm
        obtain ⟨u, e, p1, q1, m, g0, g1, g2, g3, g4, g5, g6⟩ := hm
        exact ⟨u, e, p1, q1, m, by simp only [Tr.tall]; omega, g1, g2, g3, by rw [← g4]; simp [Tr.sp], g5, g6⟩
      | none =>
        rw [hr] at hm
        show match leanT a k b with
          | none => _
          | some p => _
        cases hq : leanT a k b with
        | none =>
          intro n R hR
          have ht := top n R (fun _ => hR)
          rw [hq] at ht
          obtain ⟨m, hm1, hm2⟩ := hm (n + 1) R ht
          exact ⟨m, by simp only [Tr.tall]; omega, hm2⟩
        | some p =>
          have ht := top 0 none (fun h => by rw [hq] at h; cases h)
          rw [hq] at ht
          obtain ⟨u, e, p1, q1, g1, g2, g3, g4, g5, g6⟩ := ht
          obtain ⟨m, hm1, hm2⟩ := hm _ _ g6
          exact ⟨u, e, p1, q1, m, by simp only [Tr.tall]; omega, g1, g2, g3, g4, g5, hm2⟩
    · subst h1
      refine ⟨pre.length + a.size, pre.length + a.size, by omega, hroot.2, by omega, by simp only [Tr.size]; omega, ⟨a, x, b, rfl, rfl⟩, ?_⟩
      rw [Tr.reb, if_neg (Int.lt_irrefl _), if_neg (Int.lt_irrefl _)]
      exact fun n R h => ⟨n, by omega, h⟩
    · have hxb : x ∈ b.ks := by
        rcases hx with hx | hx | hx
        · have := u3 x hx; omega
        · omega
        · exact hx
      obtain ⟨i, r, hi, hk, hi1, hi2, ⟨a', k', b', ea, er⟩, hm⟩ := ihb (d + 1) (pre ++ a.sp (d + 1) ++ [(k, d)]) post (.right a k hc) u2 hxb (by rw [hl]; simp [Tr.sp])
      have e1 : (pre ++ a.sp (d + 1) ++ [(k, d)]).length = pre.length + a.size + 1 := by simp [sp_length]; omega
      rw [e1] at hi1 hi2 er
      refine ⟨i, pre.length + a.size, hi, hk, by omega, by simp only [Tr.size]; omega, ⟨a, k, b, rfl, rfl⟩, ?_⟩
      have hpar : par l r = ((pre.length + a.size : Nat) : Int) := by
        subst ea
        have hrr : RR l (pre.length + a.size) r d a k a' k' b' pre post := ⟨hc, hl, rfl, by omega⟩
        exact hrr.par_j
      rw [hpar] at hm
      rw [Tr.reb, if_neg (by omega), if_pos h1]
      cases hr : b.reb x with
      | some p =>
        rw [hr] at hm
        obtain ⟨u, e, p1, q1, m, g0, g1, g2, g3, g4, g5, g6⟩ := hm
        exact ⟨u, e, p1, q1, m, by simp only [Tr.tall]; omega, g1, g2, g3, by rw [← g4]; simp [Tr.sp], g5, g6⟩
      | none =>
        rw [hr] at hm
        show match leanT a k b with
          | none => _
          | some p => _
        cases hq : leanT a k b with
        | none =>
          intro n R hR
          have ht := top n R (fun _ => hR)
          rw [hq] at ht
          obtain ⟨m, hm1, hm2⟩ := hm (n + 1) R ht
          exact ⟨m, by simp only [Tr.tall]; omega, hm2⟩
        | some p =>
          have ht := top 0 none (fun h => by rw [hq] at h; cases h)
          rw [hq] at ht
          obtain ⟨u, e, p1, q1, g1, g2, g3, g4, g5, g6⟩ := ht
          obtain ⟨m, hm1, hm2⟩ := hm _ _ g6
          exact ⟨u, e, p1, q1, m, by simp only [Tr.tall]; omega, g1, g2, g3, g4, g5, hm2⟩
/-- from a key of a whole tree -/
theorem climb_all {x : Int} {t : Tr} (hu : Up t.ks) (hx : x ∈ t.ks) {p : Nat} (hp : p < t.size) (hk : ky (t.sp 0) p = x) : ∃ m,
      match t.reb x with
      | none => Clm (t.sp 0) m (par (t.sp 0) p) none
      | some q => ∃ (u : Tr) (e : Int) (p1 q1 : PL), Ctx 0 e p1 q1 ∧ 0 < u.size ∧ t.sp 0 = p1 ++ u.sp e ++ q1 ∧ q.1.sp 0 = p1 ++ (ev u.ks).sp e ++ q1 ∧ q.2 = u.size ∧ Clm (t.sp 0) m (par (t.sp 0) p) (some (p1.length, p1.length + u.size, e)) := by
  obtain ⟨i, r, hi, hki, h1, h2, ⟨a, k, b, et, er⟩, hm⟩ := climb (l := t.sp 0) t 0 [] [] .hole hu hx (by simp)
  have hip : i = p := by
    rw [sp_length] at hi
    rcases Nat.lt_trichotomy i p with h | h | h
    · have := up_place (d := 0) hu hp i h; omega
    · exact h
    · have := up_place (d := 0) hu hi p h; omega
  subst hip
  cases hr : t.reb x with
  | none =>
    rw [hr] at hm
    have hroot : par (t.sp 0) r = -1 := by
      refine par_root rfl (by rw [sp_length, er, et]; simp [Tr.size]; omega) ?_
      rw [et, er]
      simpa using (sp_root a b k 0).1
    rw [hroot] at hm
    obtain ⟨m, _, hm2⟩ := hm 0 none .out
    exact ⟨m, hm2⟩
  | some q =>
    rw [hr] at hm
    obtain ⟨u, e, p1, q1, m, _, g1, g2, g3, g4, g5, g6⟩ := hm
    exact ⟨m, u, e, p1, q1, g1, g2, g3, by simpa using g4, g5, g6⟩

end Go.Proofs.YtolgncaaffmmnaaDoor
