/-
  Joined texts: YtpnjnedfcdppaaaGreatDoorOSpots, YtpnjnedfcdppaaaGreatDoorOLeaf.
-/
import Derived.Test.YtpnjnedfcdppaaaGreatDoorOPureAll
import Derived.Test.YtpnjnedfcdppaaaGreatDoorSPureAll
import Derived.Test.YtpnjnedfcdppaaaGreatDoorSParAll
import Derived.Test.YtpnjnedfcdppaaaGreatDoorSpotBAll
import Derived.Deep.LoopGhost
/-
  A TREE'S SPOTS WHERE A KEY COMES, GOES, WHERE A PART IS BUILT ANEW: plain mathematics. Nothing of the program.
-/
namespace Go.Proofs.YtpnjnedfcdppaaaGreatDoor

theorem sp_mem_ge (t : Tr) : ∀ (d : Int) (q : Int × Int), q ∈ t.sp d → d ≤ q.2 := by
  induction t with
  | nil => intro d q h; simp [Tr.sp] at h
  | node a k b iha ihb =>
    intro d q h
    simp only [Tr.sp, List.mem_append, List.mem_cons] at h
    rcases h with h | h | h
    · have := iha (d + 1) q h; omega
    · rw [h]; exact Int.le_refl _
    · have := ihb (d + 1) q h; omega
theorem sp_mem_ks {t : Tr} {d : Int} {q : Int × Int} (h : q ∈ t.sp d) : q.1 ∈ t.ks := by
  rw [← sp_ks t d]
  exact List.mem_map_of_mem h
/-- one lower than the last one, or d -/
def lstD (l : PL) (d : Int) : Int := match l.getLast? with
  | some q => q.2 + 1
  | none => d
def hdD (l : PL) (d : Int) : Int := match l.head? with
  | some q => q.2 + 1
  | none => d
theorem lstD_le {l : PL} {d : Int} (h : ∀ q ∈ l, d ≤ q.2) : d ≤ lstD l d := by
  unfold lstD
  split
  · rename_i q hq
    have := h q (List.mem_of_getLast? hq)
    omega
  · exact Int.le_refl _
theorem hdD_le {l : PL} {d : Int} (h : ∀ q ∈ l, d ≤ q.2) : d ≤ hdD l d := by
  unfold hdD
  split
  · rename_i q hq
    have := h q (List.mem_of_head? hq)
    omega
  · exact Int.le_refl _
theorem lstD_nil (d : Int) : lstD [] d = d := rfl
theorem hdD_nil (d : Int) : hdD [] d = d := rfl
theorem lstD_ne {l : PL} (h : l ≠ []) (d e : Int) : lstD l d = lstD l e := by
  unfold lstD
  cases hl : l.getLast? with
  | none => exact absurd (List.getLast?_eq_none_iff.1 hl) h
  | some q => rfl
theorem hdD_ne {l : PL} (h : l ≠ []) (d e : Int) : hdD l d = hdD l e := by
  unfold hdD
  cases hl : l.head? with
  | none => exact absurd (List.head?_eq_none_iff.1 hl) h
  | some q => rfl
theorem lstD_app (l m : PL) (q : Int × Int) (d : Int) : lstD (l ++ q :: m) d = if m = [] then q.2 + 1 else lstD m d := by
  cases m with
  | nil => simp [lstD]
  | cons p m =>
    obtain ⟨z, hz⟩ : ∃ z, (p :: m).getLast? = some z := by
      cases h : (p :: m).getLast? with
      | none => exact absurd (List.getLast?_eq_none_iff.1 h) (by simp)
      | some z => exact ⟨z, rfl⟩
    rw [if_neg (by simp)]
    unfold lstD
    rw [List.getLast?_append, List.getLast?_cons_cons, hz]
    rfl
theorem hdD_app (l m : PL) (q : Int × Int) (d : Int) : hdD (l ++ q :: m) d = if l = [] then q.2 + 1 else hdD l d := by
  cases l with
  | nil => simp [hdD]
  | cons p l => simp [hdD]

/-- a key comes: where, and how deep -/
theorem ins_spots {x : Int} : ∀ {t : Tr}, Up t.ks → x ∉ t.ks → ∀ d : Int, ∃ l1 l2, t.sp d = l1 ++ l2 ∧ (t.ins x).sp d = l1 ++ (x, d + ((t.ins x).dpx x : Int)) :: l2 ∧ (∀ q ∈ l1, q.1 < x) ∧ (∀ q ∈ l2, x < q.1) ∧ d + ((t.ins x).dpx x : Int) = max (lstD l1 d) (hdD l2 d) := by
  intro t
  induction t with
  | nil =>
    intro _ _ d
    refine ⟨[], [], rfl, ?_, by simp, by simp, ?_⟩
    · simp [Tr.ins, Tr.leaf, Tr.sp, Tr.dpx]
    · simp [Tr.ins, Tr.leaf, Tr.dpx, lstD, hdD]
  | node a k b iha ihb =>
    intro hu hx d
    obtain ⟨u1, u2, u3, u4⟩ := up_node.1 hu
    simp only [mem_node, not_or] at hx
    by_cases h1 : x < k
    · obtain ⟨l1, l2, e1, e2, e3, e4, e5⟩ := iha u1 hx.1 (d + 1)
      have hi : (Tr.node a k b).ins x = .node (a.ins x) k b := by rw [Tr.ins, if_pos h1]
      have hdp : ((Tr.node a k b).ins x).dpx x = (a.ins x).dpx x + 1 := by rw [hi, Tr.dpx, if_pos h1]
      have hdp' : d + ((((Tr.node a k b).ins x).dpx x : Nat) : Int) = d + 1 + ((a.ins x).dpx x : Int) := by rw [hdp]; omega
      have hge : ∀ q ∈ a.sp (d + 1), d + 1 ≤ q.2 := sp_mem_ge a (d + 1)
      refine ⟨l1, l2 ++ (k, d) :: b.sp (d + 1), by rw [Tr.sp, e1]; simp, ?_, e3, ?_, ?_⟩
      · rw [hdp', hi, Tr.sp, e2]; simp
      · intro q hq
        simp only [List.mem_append, List.mem_cons] at hq
        rcases hq with hq | hq | hq
        · exact e4 q hq
        · rw [hq]; exact h1
        · have := u4 q.1 (sp_mem_ks hq); omega
      · rw [hdp', e5, hdD_app]
        have hb1 : d + 1 ≤ lstD l1 (d + 1) := lstD_le fun q hq => hge q (by rw [e1]; simp [hq])
        have hb2 : d + 1 ≤ hdD l2 (d + 1) := hdD_le fun q hq => hge q (by rw [e1]; simp [hq])
        have hc1 : lstD l1 d = lstD l1 (d + 1) ∨ (lstD l1 d = d ∧ lstD l1 (d + 1) = d + 1) := by
          by_cases hl : l1 = []
          · subst hl; exact .inr ⟨rfl, rfl⟩
          · exact .inl (lstD_ne hl _ _)
        have hm2 : ∀ y, d + 1 ≤ y → hdD l2 (d + 1) = y → (l2 ≠ [] → d + 2 ≤ y) := by
          intro y _ hy hn
          cases l2 with
          | nil => exact absurd rfl hn
          | cons p m =>
            have := hge p (by rw [e1]; simp)
            simp [hdD] at hy
            omega
        by_cases hl2 : l2 = []
        · subst hl2
          rw [if_pos rfl, hdD_nil]
          show max (lstD l1 (d + 1)) (d + 1) = max (lstD l1 d) (d + 1)
          rcases hc1 with h | ⟨h, h'⟩
          · rw [h]
          · rw [h, h']; omega
        · rw [if_neg hl2, hdD_ne hl2 d (d + 1)]
          have := hm2 _ hb2 rfl hl2
          rcases hc1 with h | ⟨h, h'⟩
          · rw [h]
          · rw [h, h']; omega
    · have h2 : k < x := by omega
      obtain ⟨l1, l2, e1, e2, e3, e4, e5⟩ := ihb u2 hx.2.2 (d + 1)
      have hi : (Tr.node a k b).ins x = .node a k (b.ins x) := by rw [Tr.ins, if_neg h1, if_pos h2]
      have hdp : ((Tr.node a k b).ins x).dpx x = (b.ins x).dpx x + 1 := by rw [hi, Tr.dpx, if_neg h1, if_pos h2]
      have hdp' : d + ((((Tr.node a k b).ins x).dpx x : Nat) : Int) = d + 1 + ((b.ins x).dpx x : Int) := by rw [hdp]; omega
      have hge : ∀ q ∈ b.sp (d + 1), d + 1 ≤ q.2 := sp_mem_ge b (d + 1)
      refine ⟨a.sp (d + 1) ++ (k, d) :: l1, l2, by rw [Tr.sp, e1]; simp, ?_, ?_, e4, ?_⟩
      · rw [hdp', hi, Tr.sp, e2]; simp
      · intro q hq
        simp only [List.mem_append, List.mem_cons] at hq
        rcases hq with hq | hq | hq
        · have := u3 q.1 (sp_mem_ks hq); omega
        · rw [hq]; exact h2
        · exact e3 q hq
      · rw [hdp', e5, lstD_app]
        have hb1 : d + 1 ≤ lstD l1 (d + 1) := lstD_le fun q hq => hge q (by rw [e1]; simp [hq])
        have hb2 : d + 1 ≤ hdD l2 (d + 1) := hdD_le fun q hq => hge q (by rw [e1]; simp [hq])
        have hc2 : hdD l2 d = hdD l2 (d + 1) ∨ (hdD l2 d = d ∧ hdD l2 (d + 1) = d + 1) := by
          by_cases hl : l2 = []
          · subst hl; exact .inr ⟨rfl, rfl⟩
          · exact .inl (hdD_ne hl _ _)
        by_cases hl1 : l1 = []
        · subst hl1
          rw [if_pos rfl, lstD_nil]
          show max (d + 1) (hdD l2 (d + 1)) = max (d + 1) (hdD l2 d)
          rcases hc2 with h | ⟨h, h'⟩
          · rw [h]
          · rw [h, h']; omega
        · rw [if_neg hl1, lstD_ne hl1 d (d + 1)]
          have hm : d + 2 ≤ lstD l1 (d + 1) := by
            unfold lstD
            cases hq : l1.getLast? with
            | none => exact absurd (List.getLast?_eq_none_iff.1 hq) hl1
            | some q =>
              have := hge q (by rw [e1]; simp [List.mem_of_getLast? hq])
              show d + 2 ≤ q.2 + 1
              omega
          rcases hc2 with h | ⟨h, h'⟩
          · rw [h]
          · rw [h, h']; omega

/-- how deep a key that comes at place p of l stands -/
def dAt (l : PL) (p : Nat) : Int := max (if 0 < p then dp l (p - 1) + 1 else 0) (if p < l.length then dp l p + 1 else 0)
theorem dAt_app (l1 l2 : PL) : dAt (l1 ++ l2) l1.length = max (lstD l1 0) (hdD l2 0) := by
  unfold dAt
  congr 1
  · cases h : l1.getLast? with
    | none =>
      have := List.getLast?_eq_none_iff.1 h
      subst this
      rfl
    | some q =>
      have hp : 0 < l1.length := List.length_pos_iff.2 (fun e => by subst e; simp at h)
      rw [if_pos hp, dp_left (by omega)]
      unfold lstD
      rw [h]
      rw [List.getLast?_eq_getElem?] at h
      show dp l1 _ + 1 = q.2 + 1
      simp [dp, h]
  · cases l2 with
    | nil => simp [hdD]
    | cons q m =>
      rw [if_pos (by simp), dp_right (Nat.le_refl _), Nat.sub_self]
      simp [dp, hdD]

/-- a key that is there: where it stands, and what stands there when it goes -/
theorem find_key {x : Int} : ∀ (t : Tr) (d : Int) (pre post : PL), Ctx 0 d pre post → Up t.ks → x ∈ t.ks →
    ∃ d' a b pre' post', Ctx 0 d' pre' post' ∧ Up (Tr.node a x b).ks ∧ pre ++ t.sp d ++ post = pre' ++ (Tr.node a x b).sp d' ++ post' ∧ pre ++ (t.del x).sp d ++ post = pre' ++ ((Tr.node a x b).del x).sp d' ++ post' := by
  intro t
  induction t with
  | nil => intro d pre post _ _ h; simp [Tr.ks] at h
  | node a k b iha ihb =>
    intro d pre post hc hu hx
    obtain ⟨u1, u2, u3, u4⟩ := up_node.1 hu
    rw [mem_node] at hx
    rcases Int.lt_trichotomy x k with h1 | h1 | h1
    · have hxa : x ∈ a.ks := by
        rcases hx with hx | hx | hx
        · exact hx
        · omega
        · have := u4 x hx; omega
      obtain ⟨d', a', b', pre', post', c1, c2, c3, c4⟩ := iha (d + 1) pre ((k, d) :: b.sp (d + 1) ++ post) (.left k b hc) u1 hxa
      refine ⟨d', a', b', pre', post', c1, c2, by rw [← c3]; simp [Tr.sp], ?_⟩
      rw [← c4, Tr.del, if_pos h1]
      simp [Tr.sp]
    · subst h1
      exact ⟨d, a, b, pre, post, hc, hu, rfl, rfl⟩
    · have hxb : x ∈ b.ks := by
        rcases hx with hx | hx | hx
        · have := u3 x hx; omega
        · omega
        · exact hx
      obtain ⟨d', a', b', pre', post', c1, c2, c3, c4⟩ := ihb (d + 1) (pre ++ a.sp (d + 1) ++ [(k, d)]) post (.right a k hc) u2 hxb
      refine ⟨d', a', b', pre', post', c1, c2, by rw [← c3]; simp [Tr.sp], ?_⟩
      rw [← c4, Tr.del, if_neg (by omega), if_pos h1]
      simp [Tr.sp]
/-- the least one of a part stands first, with none to the left -/
theorem find_least : ∀ (b : Tr), b ≠ .nil → ∀ (d : Int) (pre post : PL), Ctx 0 d pre post →
    ∃ d' c post', Ctx 0 d' pre post' ∧ pre ++ b.sp d ++ post = pre ++ (Tr.node .nil b.least c).sp d' ++ post' ∧ pre ++ b.cutl.sp d ++ post = pre ++ c.sp d' ++ post' := by
  intro b
  induction b with
  | nil => intro h; exact absurd rfl h
  | node a k c iha _ =>
    intro _ d pre post hc
    by_cases ha : a = .nil
    · subst ha
      exact ⟨d, c, post, hc, by simp [Tr.least, Tr.isNil, Tr.sp], by simp [Tr.cutl, Tr.isNil]⟩
    · have hn : a.isNil = false := by cases a <;> simp_all [Tr.isNil]
      obtain ⟨d', c', post', c1, c2, c3⟩ := iha ha (d + 1) pre ((k, d) :: c.sp (d + 1) ++ post) (.left k c hc)
      refine ⟨d', c', post', c1, ?_, ?_⟩
      · rw [show (Tr.node a k c).least = a.least by simp [Tr.least, hn], ← c2]
        simp [Tr.sp]
      · rw [show (Tr.node a k c).cutl = .node a.cutl k c by simp [Tr.cutl, hn], ← c3]
        simp [Tr.sp]
/-- in rising keys all ahead of one are less -/
theorem up_place {t : Tr} {d : Int} (hu : Up t.ks) {p : Nat} (hp : p < t.size) : ∀ i, i < p → ky (t.sp d) i < ky (t.sp d) p := by
  intro i hi
  rw [ks_ky t d i (by omega), ks_ky t d p hp]
  exact (List.pairwise_iff_getElem.1 hu) i p _ _ hi

/-- one side of the part has more than two thirds -/
def leansAt (l : PL) (i : Nat) : Prop := 2 * (toR l i - frR l i) < 3 * max (i - frR l i) (toR l i - i - 1)
/-- going up from at: what is found -/
inductive Clm (l : PL) : Nat → Int → Option (Nat × Nat × Int) → Prop
  | out {n : Nat} : Clm l n (-1) none
  | hit {n i : Nat} : i < l.length → leansAt l i → Clm l (n + 1) i (some (frR l i, toR l i, dp l i))
  | up {n i : Nat} {r : Option (Nat × Nat × Int)} : i < l.length → ¬ leansAt l i → Clm l n (par l i) r → Clm l (n + 1) i r
theorem At.leans {l : PL} {i : Nat} {d : Int} {a : Tr} {k : Int} {b : Tr} {pre post : PL} (h : At l i d a k b pre post) : leansAt l i ↔ 2 * (a.size + b.size + 1) < 3 * max a.size b.size := by
  have hp := h.part
  have hi := h.idx
  unfold leansAt
  rw [hp.1, hp.2]
  have e1 : i - pre.length = a.size := by omega
  have e2 : pre.length + (a.size + 1 + b.size) - i - 1 = b.size := by omega
  have e3 : pre.length + (a.size + 1 + b.size) - pre.length = a.size + b.size + 1 := by omega
  rw [e1, e2, e3]
/-- climbing from the key x of a part s up to its top -/
theorem climb {x : Int} {l : PL} : ∀ (s : Tr) (d : Int) (pre post : PL), Ctx 0 d pre post → Up s.ks → x ∈ s.ks → l = pre ++ s.sp d ++ post →
    ∃ i r : Nat, i < l.length ∧ ky l i = x ∧ pre.length ≤ i ∧ i < pre.length + s.size ∧ (∃ a k b, s = .node a k b ∧ r = pre.length + a.size) ∧
      match s.reb x with
      | none => ∀ n R, Clm l n (par l r) R → ∃ m, m ≤ n + s.tall ∧ Clm l m (par l i) R
      | some p => ∃ (u : Tr) (e : Int) (p1 q1 : PL) (m : Nat), m ≤ s.tall ∧ Ctx 0 e p1 q1 ∧ 0 < u.size ∧ l = p1 ++ u.sp e ++ q1 ∧ pre ++ p.1.sp d ++ post = p1 ++ (ev u.ks).sp e ++ q1 ∧ p.2 = u.size ∧ Clm l m (par l i) (some (p1.length, p1.length + u.size, e)) := by
  intro s
  induction s with
  | nil => intro d pre post _ _ h; simp [Tr.ks] at h
  | node a k b iha ihb =>
    intro d pre post hc hu hx hl
    obtain ⟨u1, u2, u3, u4⟩ := up_node.1 hu
    rw [mem_node] at hx
    have hat : At l (pre.length + a.size) d a k b pre post := ⟨hc, hl, rfl⟩
    have hlen := hat.len
    have hroot := hat.root
    have hpart := hat.part
    have hleans := hat.leans
    -- what is done at the top, once the part below found nothing
    have top : ∀ (n : Nat) (R), (leanT a k b = none → Clm l n (par l ((pre.length + a.size : Nat))) R) → match leanT a k b with
        | none => Clm l (n + 1) ((pre.length + a.size : Nat) : Int) R
        | some p => ∃ (u : Tr) (e : Int) (p1 q1 : PL), Ctx 0 e p1 q1 ∧ 0 < u.size ∧ l = p1 ++ u.sp e ++ q1 ∧ pre ++ p.1.sp d ++ post = p1 ++ (ev u.ks).sp e ++ q1 ∧ p.2 = u.size ∧ Clm l (n + 1) ((pre.length + a.size : Nat) : Int) (some (p1.length, p1.length + u.size, e)) := by
      intro n R hR
      cases hq : leanT a k b with
      | none => exact .up (by omega) (fun h => lean_none hq (hleans.1 h)) (hR hq)
      | some p =>
        obtain ⟨f1, f2, f3⟩ := lean_facts hq
        refine ⟨.node a k b, d, pre, post, hc, by simp only [Tr.size]; omega, hl, by rw [f1], by rw [f2]; simp only [Tr.size]; omega, ?_⟩
        have := Clm.hit (n := n) (l := l) (i := pre.length + a.size) (by omega) (hleans.2 f3)
        rw [hpart.1, hpart.2, hroot.1] at this
        exact this
    rcases Int.lt_trichotomy x k with h1 | h1 | h1
    · have hxa : x ∈ a.ks := by
        rcases hx with hx | hx | hx
        · exact hx
        · omega
        · have := u4 x hx; omega
      obtain ⟨i, r, hi, hk, hi1, hi2, ⟨a', k', b', ea, er⟩, hm⟩ := iha (d + 1) pre ((k, d) :: b.sp (d + 1) ++ post) (.left k b hc) u1 hxa (by rw [hl]; simp [Tr.sp])
      refine ⟨i, pre.length + a.size, hi, hk, hi1, by simp only [Tr.size]; omega, ⟨a, k, b, rfl, rfl⟩, ?_⟩
      have hpar : par l r = ((pre.length + a.size : Nat) : Int) := by
        subst ea
        have hll : LL l r (pre.length + (Tr.node a' k' b').size) d a' k' b' k b pre post := ⟨hc, hl, er, by simp only [Tr.size]⟩
        exact hll.par_i
      rw [hpar] at hm
      rw [Tr.reb, if_pos h1]
      cases hr : a.reb x with
      | some p =>
        rw [hr] at hm
        obtain ⟨u, e, p1, q1, m, g0, g1, g2, g3, g4, g5, g6⟩ := hm
        exact ⟨u, e, p1, q1, m, by simp only [Tr.tall]; omega, g1, g2, g3, by rw [← g4]; simp [Tr.sp], g5, g6⟩
      | none =>
        rw [hr] at hm
        show match leanT a k b with
          | none => _
          | some p => _
        cases hq : leanT a k b with
        | none =>
          intro n R hR
          have ht := top n R (fun _ => hR)
          rw [hq] at ht
          obtain ⟨m, hm1, hm2⟩ := hm (n + 1) R ht
          exact ⟨m, by simp only [Tr.tall]; omega, hm2⟩
        | some p =>
          have ht := top 0 none (fun h => by rw [hq] at h; cases h)
          rw [hq] at ht
          obtain ⟨u, e, p1, q1, g1, g2, g3, g4, g5, g6⟩ := ht
          obtain ⟨m, hm1, hm2⟩ := hm _ _ g6
          exact ⟨u, e, p1, q1, m, by simp only [Tr.tall]; omega, g1, g2, g3, g4, g5, hm2⟩
    · subst h1
      refine ⟨pre.length + a.size, pre.length + a.size, by omega, hroot.2, by omega, by simp only [Tr.size]; omega, ⟨a, x, b, rfl, rfl⟩, ?_⟩
      rw [Tr.reb, if_neg (Int.lt_irrefl _), if_neg (Int.lt_irrefl _)]
      exact fun n R h => ⟨n, by omega, h⟩
    · have hxb : x ∈ b.ks := by
        rcases hx with hx | hx | hx
        · have := u3 x hx; omega
        · omega
        · exact hx
      obtain ⟨i, r, hi, hk, hi1, hi2, ⟨a', k', b', ea, er⟩, hm⟩ := ihb (d + 1) (pre ++ a.sp (d + 1) ++ [(k, d)]) post (.right a k hc) u2 hxb (by rw [hl]; simp [Tr.sp])
      have e1 : (pre ++ a.sp (d + 1) ++ [(k, d)]).length = pre.length + a.size + 1 := by simp [sp_length]; omega
      rw [e1] at hi1 hi2 er
      refine ⟨i, pre.length + a.size, hi, hk, by omega, by simp only [Tr.size]; omega, ⟨a, k, b, rfl, rfl⟩, ?_⟩
      have hpar : par l r = ((pre.length + a.size : Nat) : Int) := by
        subst ea
        have hrr : RR l (pre.length + a.size) r d a k a' k' b' pre post := ⟨hc, hl, rfl, by omega⟩
        exact hrr.par_j
      rw [hpar] at hm
      rw [Tr.reb, if_neg (by omega), if_pos h1]
      cases hr : b.reb x with
      | some p =>
        rw [hr] at hm
        obtain ⟨u, e, p1, q1, m, g0, g1, g2, g3, g4, g5, g6⟩ := hm
        exact ⟨u, e, p1, q1, m, by simp only [Tr.tall]; omega, g1, g2, g3, by rw [← g4]; simp [Tr.sp], g5, g6⟩
      | none =>
        rw [hr] at hm
        show match leanT a k b with
          | none => _
          | some p => _
        cases hq : leanT a k b with
        | none =>
          intro n R hR
          have ht := top n R (fun _ => hR)
          rw [hq] at ht
          obtain ⟨m, hm1, hm2⟩ := hm (n + 1) R ht
          exact ⟨m, by simp only [Tr.tall]; omega, hm2⟩
        | some p =>
          have ht := top 0 none (fun h => by rw [hq] at h; cases h)
          rw [hq] at ht
          obtain ⟨u, e, p1, q1, g1, g2, g3, g4, g5, g6⟩ := ht
          obtain ⟨m, hm1, hm2⟩ := hm _ _ g6
          exact ⟨u, e, p1, q1, m, by simp only [Tr.tall]; omega, g1, g2, g3, g4, g5, hm2⟩
/-- from a key of a whole tree -/
theorem climb_all {x : Int} {t : Tr} (hu : Up t.ks) (hx : x ∈ t.ks) {p : Nat} (hp : p < t.size) (hk : ky (t.sp 0) p = x) : ∃ m,
      match t.reb x with
      | none => Clm (t.sp 0) m (par (t.sp 0) p) none
      | some q => ∃ (u : Tr) (e : Int) (p1 q1 : PL), Ctx 0 e p1 q1 ∧ 0 < u.size ∧ t.sp 0 = p1 ++ u.sp e ++ q1 ∧ q.1.sp 0 = p1 ++ (ev u.ks).sp e ++ q1 ∧ q.2 = u.size ∧ Clm (t.sp 0) m (par (t.sp 0) p) (some (p1.length, p1.length + u.size, e)) := by
  obtain ⟨i, r, hi, hki, h1, h2, ⟨a, k, b, et, er⟩, hm⟩ := climb (l := t.sp 0) t 0 [] [] .hole hu hx (by simp)
  have hip : i = p := by
    rw [sp_length] at hi
    rcases Nat.lt_trichotomy i p with h | h | h
    · have := up_place (d := 0) hu hp i h; omega
    · exact h
    · have := up_place (d := 0) hu hi p h; omega
  subst hip
  cases hr : t.reb x with
  | none =>
    rw [hr] at hm
    have hroot : par (t.sp 0) r = -1 := by
      refine par_root rfl (by rw [sp_length, er, et]; simp [Tr.size]; omega) ?_
      rw [et, er]
      simpa using (sp_root a b k 0).1
    rw [hroot] at hm
    obtain ⟨m, _, hm2⟩ := hm 0 none .out
    exact ⟨m, hm2⟩
  | some q =>
    rw [hr] at hm
    obtain ⟨u, e, p1, q1, m, _, g1, g2, g3, g4, g5, g6⟩ := hm
    exact ⟨m, u, e, p1, q1, g1, g2, g3, by simpa using g4, g5, g6⟩

end Go.Proofs.YtpnjnedfcdppaaaGreatDoor

/-
  package goat: placeOf, depthAt, partOf, deepest, Deepest.
-/
namespace Go.Proofs.YtpnjnedfcdppaaaGreatDoor
open Go.RowKit

set_option maxRecDepth 100000 in
set_option maxHeartbeats 1000000 in
theorem oplace_any (A : Option Addr) (n c p : Nat) (l : PL) (x : Int) (w : World) (h : PS w A n c l) (hn : n ≤ 1000) (hp : p ≤ n) (hlo : ∀ i, i < p → ky l i < x) (hhi : p < n → ¬ ky l p < x) :
    Calls Tryz.prog 133 #[.slice A n c, I x] w fun e w' => e = .returned (I p) ∧ w' = w := by
  have H := Lib.hid h
  have HLO := Lib.hid hlo
  have HHI := Lib.hid hhi
  clear h hlo hhi
  go_enter Tryz.func133, Tryz.ntmps133
  go_wp2
  go_loop [5] (fun i => ∃ k : Nat, k ≤ p ∧ i = .int .i64 k) (fun i => p - (intOf i).toNat)
  case atStart => exact ⟨0, Nat.zero_le _, rfl⟩
  case round =>
    obtain ⟨k, hk, rfl⟩ := hrel
    by_cases hlt : k < p
    · obtain ⟨b, off, rfl, hb, hc⟩ := H.out.dat (by omega)
      have hc0 := (hc k (by omega)).1
      have hkx := HLO.out k hlt
      have hkn : k < n := by omega
      clear hc
      go_wp2
      go_round
      case rel => exact ⟨k + 1, by omega, by go_num⟩
      case measure => simp [intOf]; omega
    · obtain rfl : k = p := by omega
      by_cases hkn : k < n
      · obtain ⟨b, off, rfl, hb, hc⟩ := H.out.dat (by omega)
        have hc0 := (hc k (by omega)).1
        have hkx := HHI.out hkn
        clear hc
        go_wp2
        go_ret
        exact ⟨rfl, rfl⟩
      · go_wp2
        go_ret
        exact ⟨rfl, rfl⟩

def dTo (l : PL) (lo : Nat) : Nat → Int
  | 0 => 0
  | k + 1 => max (dTo l lo k) (dp l (lo + k) + 1)
theorem dTo_all {l : PL} {p n : Nat} (hl : l.length = n) (h0 : 0 < n) (hp : p ≤ n) (hd : ∀ i, 0 ≤ dp l i ∧ dp l i ≤ 1000) : dTo l (p - 1) (min (p + 1) n - (p - 1)) = dAt l p := by
  unfold dAt
  rw [hl]
  rcases Nat.eq_zero_or_pos p with h | h
  · subst h
    rw [show min (0 + 1) n - (0 - 1) = 1 by omega, if_neg (by omega), if_pos h0]
    simp [dTo]
  · have h1 := hd (p - 1)
    rw [if_pos h]
    by_cases hpn : p < n
    · rw [show min (p + 1) n - (p - 1) = 2 by omega, if_pos hpn]
      simp only [dTo, Nat.add_zero]
      rw [show p - 1 + 1 = p by omega]
      omega
    · rw [show min (p + 1) n - (p - 1) = 1 by omega, if_neg hpn]
      simp only [dTo, Nat.add_zero]
      omega
theorem dTo_bd {l : PL} {lo : Nat} (hd : ∀ i, 0 ≤ dp l i ∧ dp l i ≤ 1000) : ∀ k, 0 ≤ dTo l lo k ∧ dTo l lo k ≤ 1001
  | 0 => by simp [dTo]
  | k + 1 => by
    have := dTo_bd (lo := lo) hd k
    have := hd (lo + k)
    simp only [dTo]
    omega

theorem odepth_nil (A : Option Addr) (c : Nat) (w : World) :
    Calls Tryz.prog 134 #[.slice A 0 c, I 0] w fun e w' => e = .returned (I 0) ∧ w' = w := by
  go_enter Tryz.func134, Tryz.ntmps134
  go_wp2
  all_goals
    go_loop [5, 19] (fun u i => u = I 0 ∧ i = .int .i64 0) (fun _ _ => 0)
    case atStart => exact ⟨rfl, rfl⟩
    case round =>
      obtain ⟨rfl, rfl⟩ := hrel
      go_wp2
      go_ret
      exact ⟨rfl, rfl⟩

set_option maxRecDepth 100000 in
set_option maxHeartbeats 1000000 in
theorem odepth_first (n c : Nat) (A : Option Addr) (l : PL) (w : World) (h : PS w A n c l) (hn : n ≤ 1000) (h0 : 0 < n) (hd : ∀ i, 0 ≤ dp l i ∧ dp l i ≤ 1000) :
    Calls Tryz.prog 134 #[.slice A n c, I (0)] w fun e w' => e = .returned (I (dTo l (0) 1)) ∧ Below w.heap.size w w' := by
  have HBD := Lib.hid (fun k => dTo_bd (lo := 0) hd k)
  have HD := Lib.hid hd
  have hcap := h.rd.1
  obtain ⟨b, off, rfl, hb, hc⟩ := h.dat (by omega)
  have HC := Lib.hid hc
  clear h hd hc
  go_enter Tryz.func134, Tryz.ntmps134
  go_wp2
  go_loopg [5, 19] 1 (fun m u i wr => ∃ k : Nat, k ≤ 1 ∧ 1 - k ≤ m ∧ i = .int .i64 k ∧ u = I (dTo l (0) k) ∧ Below w.heap.size w wr)
  case atStart => exact ⟨0, Nat.zero_le _, by omega, rfl, rfl, Below.refl _ _⟩
  case round =>
    obtain ⟨k, hk, hkm, rfl, rfl, hnx⟩ := hrel
    have HNX := Lib.hid hnx
    have hsz := hnx.size
    clear hnx
    by_cases hlt : k < 1
    · have hx := HC.out (0 + k) (by omega)
      have hc0 : wr.cell? ⟨b, off + k * 2, none⟩ = some (I (ky l (0 + k))) := by
        rw [show off + k * 2 = off + (0 + k) * 2 by omega]
        exact (HNX.out.cell (by exact hb)).trans hx.1
      have hc1 : wr.cell? ⟨b, off + k * 2 + 1, none⟩ = some (I (dp l (0 + k))) := by
        rw [show off + k * 2 + 1 = off + (0 + k) * 2 + 1 by omega]
        exact (HNX.out.cell (by exact hb)).trans hx.2
      have hbd := HBD.out k
      have hdk := HD.out (0 + k)
      have HM := Lib.hid (show dTo l (0) (k + 1) = max (dTo l (0) k) (dp l (0 + k) + 1) from rfl)
      have hbw : b < wr.heap.size := by omega
      clear hx
      generalize dTo l (0) k = u at *
      generalize dp l (0 + k) = dd at *
      generalize ky l (0 + k) = kk at *
      obtain ⟨q1, q2⟩ := hbd
      obtain ⟨q3, q4⟩ := hdk
      go_wp2
      all_goals go_roundg (gk - 1)
      all_goals first
        | omega
        | exact ⟨k + 1, by omega, by omega, by go_num, by rw [HM.out]; congr 1; omega, HNX.out.alloc hsz _⟩
    · obtain rfl : k = 1 := by omega
      go_wp2
      go_ret
      exact ⟨rfl, HNX.out⟩

set_option maxRecDepth 100000 in
set_option maxHeartbeats 1000000 in
theorem odepth_mid (n c q : Nat) (A : Option Addr) (l : PL) (w : World) (h : PS w A n c l) (hn : n ≤ 1000) (h0 : q + 1 < n) (hd : ∀ i, 0 ≤ dp l i ∧ dp l i ≤ 1000) :
    Calls Tryz.prog 134 #[.slice A n c, I ((q + 1 : Nat))] w fun e w' => e = .returned (I (dTo l (q) 2)) ∧ Below w.heap.size w w' := by
  have HBD := Lib.hid (fun k => dTo_bd (lo := q) hd k)
  have HD := Lib.hid hd
  have hcap := h.rd.1
  obtain ⟨b, off, rfl, hb, hc⟩ := h.dat (by omega)
  have HC := Lib.hid hc
  clear h hd hc
  go_enter Tryz.func134, Tryz.ntmps134
  go_wp2
  go_loopg [5, 19] 2 (fun m u i wr => ∃ k : Nat, k ≤ 2 ∧ 2 - k ≤ m ∧ i = .int .i64 k ∧ u = I (dTo l (q) k) ∧ Below w.heap.size w wr)
  case atStart => exact ⟨0, Nat.zero_le _, by omega, rfl, rfl, Below.refl _ _⟩
  case round =>
    obtain ⟨k, hk, hkm, rfl, rfl, hnx⟩ := hrel
    have HNX := Lib.hid hnx
    have hsz := hnx.size
    clear hnx
    by_cases hlt : k < 2
    · have hx := HC.out (q + k) (by omega)
      have hc0 : wr.cell? ⟨b, off + q * 2 + k * 2, none⟩ = some (I (ky l (q + k))) := by
        rw [show off + q * 2 + k * 2 = off + (q + k) * 2 by omega]
        exact (HNX.out.cell (by exact hb)).trans hx.1
      have hc1 : wr.cell? ⟨b, off + q * 2 + k * 2 + 1, none⟩ = some (I (dp l (q + k))) := by
        rw [show off + q * 2 + k * 2 + 1 = off + (q + k) * 2 + 1 by omega]
        exact (HNX.out.cell (by exact hb)).trans hx.2
      have hbd := HBD.out k
      have hdk := HD.out (q + k)
      have HM := Lib.hid (show dTo l (q) (k + 1) = max (dTo l (q) k) (dp l (q + k) + 1) from rfl)
      have hbw : b < wr.heap.size := by omega
      clear hx
      generalize dTo l (q) k = u at *
      generalize dp l (q + k) = dd at *
      generalize ky l (q + k) = kk at *
      obtain ⟨q1, q2⟩ := hbd
      obtain ⟨q3, q4⟩ := hdk
      go_wp2
      all_goals go_roundg (gk - 1)
      all_goals first
        | omega
        | exact ⟨k + 1, by omega, by omega, by go_num, by rw [HM.out]; congr 1; omega, HNX.out.alloc hsz _⟩
    · obtain rfl : k = 2 := by omega
      go_wp2
      go_ret
      exact ⟨rfl, HNX.out⟩

set_option maxRecDepth 100000 in
set_option maxHeartbeats 1000000 in
theorem odepth_last (n c q : Nat) (A : Option Addr) (l : PL) (w : World) (h : PS w A n c l) (hn : n ≤ 1000) (h0 : n = q + 1) (hd : ∀ i, 0 ≤ dp l i ∧ dp l i ≤ 1000) :
    Calls Tryz.prog 134 #[.slice A n c, I ((q + 1 : Nat))] w fun e w' => e = .returned (I (dTo l (q) 1)) ∧ Below w.heap.size w w' := by
  have HBD := Lib.hid (fun k => dTo_bd (lo := q) hd k)
  have HD := Lib.hid hd
  have hcap := h.rd.1
  obtain ⟨b, off, rfl, hb, hc⟩ := h.dat (by omega)
  have HC := Lib.hid hc
  clear h hd hc
  subst h0
  go_enter Tryz.func134, Tryz.ntmps134
  go_wp2
  go_loopg [5, 19] 1 (fun m u i wr => ∃ k : Nat, k ≤ 1 ∧ 1 - k ≤ m ∧ i = .int .i64 k ∧ u = I (dTo l (q) k) ∧ Below w.heap.size w wr)
  case atStart => exact ⟨0, Nat.zero_le _, by omega, rfl, rfl, Below.refl _ _⟩
  case round =>
    obtain ⟨k, hk, hkm, rfl, rfl, hnx⟩ := hrel
    have HNX := Lib.hid hnx
    have hsz := hnx.size
    clear hnx
    by_cases hlt : k < 1
    · have hx := HC.out (q + k) (by omega)
      have hc0 : wr.cell? ⟨b, off + q * 2 + k * 2, none⟩ = some (I (ky l (q + k))) := by
        rw [show off + q * 2 + k * 2 = off + (q + k) * 2 by omega]
        exact (HNX.out.cell (by exact hb)).trans hx.1
      have hc1 : wr.cell? ⟨b, off + q * 2 + k * 2 + 1, none⟩ = some (I (dp l (q + k))) := by
        rw [show off + q * 2 + k * 2 + 1 = off + (q + k) * 2 + 1 by omega]
        exact (HNX.out.cell (by exact hb)).trans hx.2
      have hbd := HBD.out k
      have hdk := HD.out (q + k)
      have HM := Lib.hid (show dTo l (q) (k + 1) = max (dTo l (q) k) (dp l (q + k) + 1) from rfl)
      have hbw : b < wr.heap.size := by omega
      clear hx
      generalize dTo l (q) k = u at *
      generalize dp l (q + k) = dd at *
      generalize ky l (q + k) = kk at *
      obtain ⟨q1, q2⟩ := hbd
      obtain ⟨q3, q4⟩ := hdk
      go_wp2
      all_goals go_roundg (gk - 1)
      all_goals first
        | omega
        | exact ⟨k + 1, by omega, by omega, by go_num, by rw [HM.out]; congr 1; omega, HNX.out.alloc hsz _⟩
    · obtain rfl : k = 1 := by omega
      go_wp2
      go_ret
      exact ⟨rfl, HNX.out⟩

theorem odepth_any (A : Option Addr) (n c p : Nat) (l : PL) (w : World) (h : PS w A n c l) (hn : n ≤ 1000) (h0 : 0 < n) (hp : p ≤ n) (hd : ∀ i, 0 ≤ dp l i ∧ dp l i ≤ 1000) :
    Calls Tryz.prog 134 #[.slice A n c, I p] w fun e w' => e = .returned (I (dAt l p)) ∧ Below w.heap.size w w' := by
  rw [← dTo_all h.len h0 hp hd]
  rcases Nat.eq_zero_or_pos p with h1 | h1
  · subst h1
    rw [show min (0 + 1) n - (0 - 1) = 1 by omega]
    exact odepth_first n c A l w h hn h0 hd
  · obtain ⟨q, rfl⟩ : ∃ q, p = q + 1 := ⟨p - 1, by omega⟩
    rw [Nat.add_sub_cancel]
    by_cases h2 : q + 1 < n
    · rw [show min (q + 1 + 1) n - q = 2 by omega]
      exact odepth_mid n c q A l w h hn h2 hd
    · rw [show min (q + 1 + 1) n - q = 1 by omega]
      exact odepth_last n c q A l w h hn (by omega) hd

set_option maxRecDepth 100000 in
set_option maxHeartbeats 1000000 in
theorem opartOf_any (A : Option Addr) (n c i : Nat) (l : PL) (w : World) (h : PS w A n c l) (hn : n ≤ 1000) (hi : i < n) :
    Calls Tryz.prog 197 #[.slice A n c, I i] w fun e w' => e = .returned (.tuple #[I (frR l i), I (toR l i)]) ∧ Below w.heap.size w w' := by
  have H := Lib.hid h
  have Hlen := Lib.hid h.len
  clear h
  obtain ⟨b, off, rfl, hb, hc⟩ := H.out.dat (by omega)
  have HC : Hid (∀ wr, Below w.heap.size w wr → ∀ j, j < n → wr.cell? ⟨b, off + j * 2 + 1, none⟩ = some (I (dp l j))) := fun wr hnx j hj => (hnx.cell (by exact hb)).trans (hc j hj).2
  clear hc
  go_enter Tryz.func197, Tryz.ntmps197
  go_wp2
  go_loopw [6] (fun x wr => ∃ f : Nat, f ≤ i ∧ x = .int .i64 f ∧ frA l (dp l i) f = frR l i ∧ Below w.heap.size w wr) (fun x _ => (intOf x).toNat)
  case atStart => exact ⟨i, Nat.le_refl _, rfl, rfl, Below.refl _ _⟩
  case round =>
    obtain ⟨f, hf, rfl, hfr, hnx⟩ := hrel
    have hci : wr.cell? ⟨b, off + i * 2 + 1, none⟩ = some (I (dp l i)) := HC.out wr hnx i hi
    by_cases hgo : 0 < f ∧ dp l i < dp l (f - 1)
    · obtain ⟨hf0, hd⟩ := hgo
      have hcf : wr.cell? ⟨b, off + (f - 1) * 2 + 1, none⟩ = some (I (dp l (f - 1))) := HC.out wr hnx (f - 1) (by omega)
      have HR : Hid (frA l (dp l i) (f - 1) = frR l i) := (frA_go hf0 hd).trans hfr
      clear hfr
      go_wp2
      go_quiet (fail)
      go_wp2
      go_roundw
      case rel => exact ⟨f - 1, by omega, by congr 1; omega, HR.out, below_drewN hnx _⟩
      case measure => simp [intOf]; omega
    · have HR : Hid (frR l i = f) := by
        show _ = _
        rw [← hfr]
        exact frA_stop (fun h0 hd => hgo ⟨h0, hd⟩)
      clear hfr
      have hb1 : ∀ q, Below w.heap.size w (wr.drewN q) := fun q => below_drewN hnx q
      have HB1 := Lib.hid hb1
      clear hb1
      by_cases hf0 : 0 < f
      · have hd : ¬ dp l i < dp l (f - 1) := fun h => hgo ⟨hf0, h⟩
        have hcf : wr.cell? ⟨b, off + (f - 1) * 2 + 1, none⟩ = some (I (dp l (f - 1))) := HC.out wr hnx (f - 1) (by omega)
        clear hgo
        go_wp2
        go_quiet (fail)
        go_wp2
        go_loopw [7] (fun x wz => ∃ t : Nat, i + 1 ≤ t ∧ t ≤ n ∧ x = .int .i64 t ∧ toA l (dp l i) (n - t) t = toR l i ∧ Below w.heap.size w wz) (fun x _ => n - (intOf x).toNat)
        case atStart => exact ⟨i + 1, Nat.le_refl _, by omega, by go_num, by unfold toR; rw [Hlen.out], HB1.out _⟩
        case round =>
          obtain ⟨t, ht1, ht2, rfl, hto, hnz⟩ := hrel
          have hci : wr.cell? ⟨b, off + i * 2 + 1, none⟩ = some (I (dp l i)) := HC.out wr hnz i hi
          by_cases hgo : t < n ∧ dp l i < dp l t
          · obtain ⟨htn, hd⟩ := hgo
            have hcf : wr.cell? ⟨b, off + t * 2 + 1, none⟩ = some (I (dp l t)) := HC.out wr hnz t htn
            have HT : Hid (toA l (dp l i) (n - (t + 1)) (t + 1) = toR l i) := (toA_go htn hd).trans hto
            clear hto
            go_wp2
            go_quiet (fail)
            go_wp2
            go_roundw
            case rel => exact ⟨t + 1, by omega, by omega, by go_num, HT.out, below_drewN hnz _⟩
            case measure => simp [intOf]; omega
          · have HT : Hid (toR l i = t) := by
              show _ = _
              rw [← hto]
              exact toA_stop (fun h0 hd => hgo ⟨h0, hd⟩)
            clear hto
            by_cases htn : t < n
            · have hd : ¬ dp l i < dp l t := fun h => hgo ⟨htn, h⟩
              have hcf : wr.cell? ⟨b, off + t * 2 + 1, none⟩ = some (I (dp l t)) := HC.out wr hnz t htn
              clear hgo
              go_wp2
              go_quiet (fail)
              go_wp2
              go_ret2
              exact ⟨by rw [HR.out, HT.out]; rfl, below_drewN hnz _⟩
            · have hd : decide (t < n) = false := by simpa using htn
              clear hgo
              go_wp2
              go_quiet (fail)
              go_wp2
              go_ret2
              exact ⟨by rw [HR.out, HT.out]; rfl, below_drewN hnz _⟩
      · have hd : decide (0 < f) = false := by simpa using hf0
        clear hgo
        go_wp2
        go_quiet (fail)
        go_wp2
        go_loopw [7] (fun x wz => ∃ t : Nat, i + 1 ≤ t ∧ t ≤ n ∧ x = .int .i64 t ∧ toA l (dp l i) (n - t) t = toR l i ∧ Below w.heap.size w wz) (fun x _ => n - (intOf x).toNat)
        case atStart => exact ⟨i + 1, Nat.le_refl _, by omega, by go_num, by unfold toR; rw [Hlen.out], HB1.out _⟩
        case round =>
          obtain ⟨t, ht1, ht2, rfl, hto, hnz⟩ := hrel
          have hci : wr.cell? ⟨b, off + i * 2 + 1, none⟩ = some (I (dp l i)) := HC.out wr hnz i hi
          by_cases hgo : t < n ∧ dp l i < dp l t
          · obtain ⟨htn, hd⟩ := hgo
            have hcf : wr.cell? ⟨b, off + t * 2 + 1, none⟩ = some (I (dp l t)) := HC.out wr hnz t htn
            have HT : Hid (toA l (dp l i) (n - (t + 1)) (t + 1) = toR l i) := (toA_go htn hd).trans hto
            clear hto
            go_wp2
            go_quiet (fail)
            go_wp2
            go_roundw
            case rel => exact ⟨t + 1, by omega, by omega, by go_num, HT.out, below_drewN hnz _⟩
            case measure => simp [intOf]; omega
          · have HT : Hid (toR l i = t) := by
              show _ = _
              rw [← hto]
              exact toA_stop (fun h0 hd => hgo ⟨h0, hd⟩)
            clear hto
            by_cases htn : t < n
            · have hd : ¬ dp l i < dp l t := fun h => hgo ⟨htn, h⟩
              have hcf : wr.cell? ⟨b, off + t * 2 + 1, none⟩ = some (I (dp l t)) := HC.out wr hnz t htn
              clear hgo
              go_wp2
              go_quiet (fail)
              go_wp2
              go_ret2
              exact ⟨by rw [HR.out, HT.out]; rfl, below_drewN hnz _⟩
            · have hd : decide (t < n) = false := by simpa using htn
              clear hgo
              go_wp2
              go_quiet (fail)
              go_wp2
              go_ret2
              exact ⟨by rw [HR.out, HT.out]; rfl, below_drewN hnz _⟩


theorem pow_stop {m a b : Nat} (h : m * 2 ^ a < 3 ^ a) (hab : a ≤ b) : m * 2 ^ b < 3 ^ b := by
  obtain ⟨r, rfl⟩ : ∃ r, b = a + r := ⟨b - a, by omega⟩
  clear hab
  induction r with
  | zero => exact h
  | succ r ih =>
    rw [← Nat.add_assoc, Nat.pow_succ, Nat.pow_succ, ← Nat.mul_assoc]
    generalize m * 2 ^ (a + r) = x at *
    generalize 3 ^ (a + r) = y at *
    omega
theorem dpst_is {m k : Nat} (hk : k ≤ 30) (h1 : k = 0 ∨ 3 ^ k ≤ m * 2 ^ k) (h2 : m * 2 ^ (k + 1) < 3 ^ (k + 1)) : dpst m = k := by
  have hle : k ≤ dpst m := by
    rcases h1 with h | h
    · omega
    · exact dpS_ge hk h
  rcases Nat.eq_zero_or_pos m with h0 | h0
  · subst h0
    have : dpst 0 = 0 := by decide
    omega
  · have h3 := dpS_is h0 30
    have : ¬ k + 1 ≤ dpst m := fun hh => by
      have := pow_stop h2 hh
      unfold dpst at this
      omega
    omega
theorem pow_14 : 3 ^ 14 = 4782969 ∧ 2 ^ 14 = 16384 := by decide +kernel
theorem pow_200 {m : Nat} (hm : m ≤ 200) : m * 2 ^ 14 < 3 ^ 14 := by
  rw [pow_14.1, pow_14.2]
  omega
theorem pow_small {k : Nat} (hk : k ≤ 14) : 3 ^ k ≤ 4782969 ∧ 2 ^ k ≤ 16384 := by
  have h1 : 3 ^ k ≤ 3 ^ 14 := Nat.pow_le_pow_right (by decide) hk
  have h2 : 2 ^ k ≤ 2 ^ 14 := Nat.pow_le_pow_right (by decide) hk
  rw [pow_14.1] at h1
  rw [pow_14.2] at h2
  exact ⟨h1, h2⟩

set_option maxRecDepth 100000 in
set_option maxHeartbeats 1000000 in
theorem odeepest_any (m : Nat) (w : World) (hm : m ≤ 200) :
    Calls Tryz.prog 136 #[I m] w fun e w' => e = .returned (I (dpst m)) ∧ w' = w := by
  go_enter Tryz.func136, Tryz.ntmps136
  go_wp2
  go_loopg [3, 4, 5] 14 (fun q u a b wr => wr = w ∧ ∃ k : Nat, k ≤ 13 ∧ 14 - k ≤ q ∧ u = .int .i64 k ∧ a = .int .i64 ((3 ^ (k + 1) : Nat) : Int) ∧ b = .int .i64 ((2 ^ (k + 1) : Nat) : Int) ∧ (k = 0 ∨ 3 ^ k ≤ m * 2 ^ k))
  case atStart => exact ⟨rfl, 0, by omega, by omega, rfl, rfl, rfl, .inl rfl⟩
  case round =>
    obtain ⟨rfl, k, hk, hkq, rfl, rfl, rfl, hor⟩ := hrel
    have hps := pow_small (k := k + 1) (by omega)
    have H14 : Hid (k = 13 → m * 2 ^ (k + 1) < 3 ^ (k + 1)) := fun e => by subst e; exact pow_200 hm
    have HIS : Hid (m * 2 ^ (k + 1) < 3 ^ (k + 1) → dpst m = k) := fun h2 => dpst_is (by omega) hor h2
    have HUP : Hid (3 ^ (k + 1 + 1) = 3 ^ (k + 1) * 3 ∧ 2 ^ (k + 1 + 1) = 2 ^ (k + 1) * 2) := ⟨Nat.pow_succ .., Nat.pow_succ ..⟩
    obtain ⟨x, hx0⟩ : ∃ x, 3 ^ (k + 1) = x := ⟨_, rfl⟩
    obtain ⟨y, hy0⟩ : ∃ y, 2 ^ (k + 1) = y := ⟨_, rfl⟩
    have HOR : Hid (x ≤ m * y → (k + 1 = 0 ∨ Hid (3 ^ (k + 1) ≤ m * 2 ^ (k + 1)))) := fun h => .inr (by rw [← hx0, ← hy0] at h; exact h)
    rw [hx0, hy0] at hps H14 HIS ⊢
    rw [hx0, hy0] at HUP
    clear hor hx0 hy0
    obtain ⟨hx, hy⟩ := hps
    have hmy : m * y ≤ 200 * 16384 := Nat.mul_le_mul hm hy
    obtain ⟨z, hz⟩ : ∃ z, m * y = z := ⟨_, rfl⟩
    have hz' : (m : Int) * (y : Int) = (z : Int) := by rw [← hz]; simp
    rw [hz] at hmy H14 HIS HOR
    clear hz
    by_cases hlt : x ≤ z
    · have hkk : k ≠ 13 := fun e => by have := H14.out e; omega
      have HR := Lib.hid (HOR.out hlt)
      go_wp2
      go_roundg (gk - 1)
      case measure => omega
      case rel =>
        refine ⟨rfl, k + 1, by omega, by omega, by go_num, ?_, ?_, ?_⟩
        · rw [HUP.out.1]; congr 1
        · rw [HUP.out.2]; congr 1
        · rcases HR.out with h | h
          · omega
          · exact .inr h.out
    · have HE := Lib.hid (HIS.out (by omega))
      go_wp2
      go_ret
      exact ⟨ret_int (by rw [HE.out]), rfl⟩

end Go.Proofs.YtpnjnedfcdppaaaGreatDoor
