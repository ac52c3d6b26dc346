/-
  Joined texts: YtpnjnedfcdppaaaGreatDoorWords, YtpnjnedfcdppaaaGreatDoorSTree, YtpnjnedfcdppaaaGreatDoorSCtx, YtpnjnedfcdppaaaGreatDoorSPure, YtpnjnedfcdppaaaGreatDoorGPure, YtpnjnedfcdppaaaGreatDoorOPure, YtpnjnedfcdppaaaGreatDoorHPure, YtpnjnedfcdppaaaGreatDoorGHeap, YtpnjnedfcdppaaaGreatDoorOSpots.
-/
import Derived.WalkKit
import Derived.WalkSpells
import Derived.WalkLawsBesides
import Derived.Lib.Hide
/-
  WORDS: what it means that a slice of pairs, of ops, of answers, of numbers reads as a list; plain facts on them. Nothing of the program.
-/
namespace Go.Proofs.YtpnjnedfcdppaaaGreatDoor
open Go.RowKit

theorem ret_int {k : IntKind} {a b : Int} (h : a = b) : Ending.returned (.int k a) = .returned (.int k b) := by rw [h]

abbrev I (n : Int) : Value := .int .i64 n

def Rd (w : World) (B s : Nat) (A : Option Addr) (n c : Nat) (f : Nat → Nat → Value) : Prop :=
  n ≤ c ∧ (0 < n → ∃ b off, A = some ⟨b, off, none⟩ ∧ b < B ∧ ∀ i, i < n → ∀ j, j < s → w.cell? ⟨b, off + (i * s + j), none⟩ = some (f i j))

theorem Rd.none_ {w : World} {B s c : Nat} {A : Option Addr} {f : Nat → Nat → Value} : Rd w B s A 0 c f := ⟨Nat.zero_le _, fun h => absurd h (by omega)⟩
theorem Rd.keep {w w' : World} {B B' s n c : Nat} {A : Option Addr} {f : Nat → Nat → Value} (h : Rd w B s A n c f) (hB : B ≤ B') (hk : ∀ p : Addr, p.block < B → w'.cell? p = w.cell? p) : Rd w' B' s A n c f :=
  ⟨h.1, fun hn => by
    obtain ⟨b, off, e, hb, hc⟩ := h.2 hn
    exact ⟨b, off, e, by omega, fun i hi j hj => (hk _ hb).trans (hc i hi j hj)⟩⟩
theorem Rd.below {w w' : World} {s n c : Nat} {A : Option Addr} {f : Nat → Nat → Value} (h : Rd w w.heap.size s A n c f) (hb : Below w.heap.size w w') : Rd w' w'.heap.size s A n c f :=
  h.keep hb.size fun _ hp => hb.cell hp

abbrev PL := List (Int × Int)
def pf (l : PL) (i j : Nat) : Value := I (if j = 0 then (l[i]?.getD (0, 0)).1 else (l[i]?.getD (0, 0)).2)
structure PS (w : World) (A : Option Addr) (n c : Nat) (l : PL) : Prop where
  len : l.length = n
  rd : Rd w w.heap.size 2 A n c (pf l)

theorem PS.below {w w' : World} {n c : Nat} {A : Option Addr} {l : PL} (h : PS w A n c l) (hb : Below w.heap.size w w') : PS w' A n c l := ⟨h.len, h.rd.below hb⟩
theorem PS.at_ {w : World} {n c : Nat} {A : Option Addr} {l : PL} (h : PS w A n c l) (hn : 0 < n) :
    ∃ b off, A = some ⟨b, off, none⟩ ∧ b < w.heap.size ∧ ∀ i (hi : i < n), w.cell? ⟨b, off + i * 2, none⟩ = some (I (l[i]'(by rw [h.len]; exact hi)).1) ∧ w.cell? ⟨b, off + (i * 2 + 1), none⟩ = some (I (l[i]'(by rw [h.len]; exact hi)).2) := by
  obtain ⟨b, off, e, hb, hc⟩ := h.rd.2 hn
  refine ⟨b, off, e, hb, fun i hi => ?_⟩
  have hl : i < l.length := by rw [h.len]; exact hi
  have h0 := hc i hi 0 (by omega)
  have h1 := hc i hi 1 (by omega)
  simp [pf, List.getElem?_eq_getElem hl] at h0 h1
  exact ⟨h0, h1⟩

theorem PS.alloc {w : World} {n c : Nat} {A : Option Addr} {l : PL} (h : PS w A n c l) (o : Obj) : PS (w.alloc o) A n c l := h.below ((Below.refl _ _).alloc (Nat.le_refl _) _)
theorem PS.drew {w : World} {n c : Nat} {A : Option Addr} {l : PL} (h : PS w A n c l) : PS w.drew A n c l := ⟨h.len, h.rd⟩
theorem PS.drewN {w : World} {n c : Nat} {A : Option Addr} {l : PL} (h : PS w A n c l) (k : Nat) : PS (w.drewN k) A n c l := ⟨h.len, h.rd⟩
theorem PS.far {w : World} {n c : Nat} {A : Option Addr} {l : PL} (h : PS w A n c l) {p : Addr} (hA : ∀ ad, A = some ad → ad.block ≠ p.block) (u : Value) : PS (w.setCell p u) A n c l := by
  refine ⟨h.len, h.rd.1, fun hn => ?_⟩
  obtain ⟨b, off, e, hb, hc⟩ := h.rd.2 hn
  refine ⟨b, off, e, by simpa [World.setCell] using hb, fun i hi j hj => ?_⟩
  rw [World.cell?_setCell_other]
  · exact hc i hi j hj
  · intro he
    exact hA _ e (by rw [he])
theorem below_drewN {B : Nat} {a w : World} (h : Below B a w) (n : Nat) : Below B a (w.drewN n) := ⟨h.os, h.tape, h.output, h.size, h.block⟩

theorem PS.low {w w' : World} {base n c : Nat} {A : Option Addr} {l : PL} (h : PS w A n c l) (hA : ∀ ad, A = some ad → ad.block < base) (hb : Below base w w') : PS w' A n c l := by
  refine ⟨h.len, h.rd.1, fun hn => ?_⟩
  obtain ⟨b, off, e, hlt, hc⟩ := h.rd.2 hn
  have hbb := hA _ e
  exact ⟨b, off, e, by have := hb.size; exact Nat.lt_of_lt_of_le hlt this, fun i hi j hj => (hb.cell (by exact hbb)).trans (hc i hi j hj)⟩
theorem below_next {w w1 w' : World} (h : Below w.heap.size w w1) (hb : Below w1.heap.size w1 w') : Below w.heap.size w w' := h.trans (hb.mono h.size)
structure An where
  e : Int
  k : Int
  v : Int
  b : Bool
abbrev anV (a : An) : Value := .agg #[I a.e, I a.k, I a.v, .bool a.b]
abbrev an0 : An := ⟨0, 0, 0, false⟩

end Go.Proofs.YtpnjnedfcdppaaaGreatDoor

/-
  TREES AND THEIR SPOTS: plain mathematics. Nothing of the program.
-/
namespace Go.Proofs.YtpnjnedfcdppaaaGreatDoor

def ky (l : PL) (i : Nat) : Int := (l[i]?.getD (0, 0)).1
def dp (l : PL) (i : Nat) : Int := (l[i]?.getD (0, 0)).2

theorem dp_in {l : PL} {i : Nat} (h : i < l.length) : dp l i = l[i].2 := by simp [dp, List.getElem?_eq_getElem h]
theorem ky_in {l : PL} {i : Nat} (h : i < l.length) : ky l i = l[i].1 := by simp [ky, List.getElem?_eq_getElem h]
theorem dp_left {x y : PL} {i : Nat} (h : i < x.length) : dp (x ++ y) i = dp x i := by simp [dp, List.getElem?_append_left h]
theorem dp_right {x y : PL} {i : Nat} (h : x.length ≤ i) : dp (x ++ y) i = dp y (i - x.length) := by simp [dp, List.getElem?_append_right h]
theorem ky_left {x y : PL} {i : Nat} (h : i < x.length) : ky (x ++ y) i = ky x i := by simp [ky, List.getElem?_append_left h]
theorem ky_right {x y : PL} {i : Nat} (h : x.length ≤ i) : ky (x ++ y) i = ky y (i - x.length) := by simp [ky, List.getElem?_append_right h]
theorem dp_mid (x y : PL) (p : Int × Int) : dp (x ++ p :: y) x.length = p.2 := by simp [dp]
theorem ky_mid (x y : PL) (p : Int × Int) : ky (x ++ p :: y) x.length = p.1 := by simp [ky]
inductive Tr
  | nil
  | node (l : Tr) (k : Int) (r : Tr)
def Tr.sp : Tr → Int → PL
  | .nil, _ => []
  | .node a k b, d => a.sp (d + 1) ++ (k, d) :: b.sp (d + 1)
def Tr.size : Tr → Nat
  | .nil => 0
  | .node a _ b => a.size + 1 + b.size
theorem sp_length (t : Tr) (d : Int) : (t.sp d).length = t.size := by
  induction t generalizing d with
  | nil => rfl
  | node a k b iha ihb => simp [Tr.sp, Tr.size, iha, ihb]; omega
theorem sp_ge (t : Tr) (d : Int) : ∀ i, i < t.size → d ≤ dp (t.sp d) i := by
  induction t generalizing d with
  | nil => intro i h; simp [Tr.size] at h
  | node a k b iha ihb =>
    intro i h
    simp only [Tr.size] at h
    simp only [Tr.sp]
    rcases Nat.lt_trichotomy i a.size with h1 | h1 | h1
    · rw [dp_left (by rw [sp_length]; exact h1)]
      have := iha (d + 1) i h1
      omega
    · have := dp_mid (a.sp (d + 1)) (b.sp (d + 1)) (k, d)
      rw [sp_length] at this
      rw [h1, this]
      exact Int.le_refl _
    · rw [dp_right (by rw [sp_length]; omega), sp_length]
      have e : dp ((k, d) :: b.sp (d + 1)) (i - a.size) = dp (b.sp (d + 1)) (i - a.size - 1) := by
        obtain ⟨m, hm⟩ : ∃ m, i - a.size = m + 1 := ⟨i - a.size - 1, by omega⟩
        rw [hm]; simp [dp]
      rw [e]
      have := ihb (d + 1) (i - a.size - 1) (by omega)
      omega
theorem sp_root (a b : Tr) (k d : Int) : dp ((Tr.node a k b).sp d) a.size = d ∧ ky ((Tr.node a k b).sp d) a.size = k := by
  have h1 := dp_mid (a.sp (d + 1)) (b.sp (d + 1)) (k, d)
  have h2 := ky_mid (a.sp (d + 1)) (b.sp (d + 1)) (k, d)
  rw [sp_length] at h1 h2
  exact ⟨h1, h2⟩
theorem sp_gt (a b : Tr) (k d : Int) : ∀ i, i < (Tr.node a k b).size → i ≠ a.size → d < dp ((Tr.node a k b).sp d) i := by
  intro i h hne
  simp only [Tr.size] at h
  simp only [Tr.sp]
  rcases Nat.lt_or_ge i a.size with h1 | h1
  · rw [dp_left (by rw [sp_length]; exact h1)]
    have := sp_ge a (d + 1) i h1
    omega
  · rw [dp_right (by rw [sp_length]; omega), sp_length]
    have e : dp ((k, d) :: b.sp (d + 1)) (i - a.size) = dp (b.sp (d + 1)) (i - a.size - 1) := by
      obtain ⟨m, hm⟩ : ∃ m, i - a.size = m + 1 := ⟨i - a.size - 1, by omega⟩
      rw [hm]; simp [dp]
    rw [e]
    have := sp_ge b (d + 1) (i - a.size - 1) (by omega)
    omega

def IsTop (l : PL) (j : Nat) : Prop := j < l.length ∧ (∀ i, i < l.length → dp l j ≤ dp l i) ∧ ∀ i, i < j → dp l j < dp l i
theorem isTop_one {l : PL} {i j : Nat} (h : IsTop l i) (h' : IsTop l j) : i = j := by
  obtain ⟨a1, a2, a3⟩ := h
  obtain ⟨b1, b2, b3⟩ := h'
  rcases Nat.lt_trichotomy i j with h | h | h
  · have := b3 i h; have := a2 j b1; omega
  · exact h
  · have := a3 j h; have := b2 i a1; omega
theorem isTop_has : ∀ (l : PL), l ≠ [] → ∃ j, IsTop l j := by
  intro l
  induction l with
  | nil => intro h; exact absurd rfl h
  | cons p t ih =>
    intro _
    by_cases ht : t = []
    · subst ht
      refine ⟨0, by simp, ?_, ?_⟩
      · intro i hi
        have : i = 0 := by simp at hi; exact hi
        subst this
        exact Int.le_refl _
      · intro i hi; omega
    · obtain ⟨j, h1, h2, h3⟩ := ih ht
      have es : ∀ i, dp (p :: t) (i + 1) = dp t i := fun i => by simp [dp]
      have e0 : dp (p :: t) 0 = p.2 := by simp [dp]
      by_cases hp : p.2 ≤ dp t j
      · refine ⟨0, by simp, ?_, fun i hi => by omega⟩
        intro i hi
        rw [e0]
        cases i with
        | zero => rw [e0]; exact Int.le_refl _
        | succ i => rw [es]; have := h2 i (by simpa using hi); omega
      · refine ⟨j + 1, by simpa using h1, ?_, ?_⟩
        · intro i hi
          rw [es]
          cases i with
          | zero => rw [e0]; omega
          | succ i => rw [es]; exact h2 i (by simpa using hi)
        · intro i hi
          rw [es]
          cases i with
          | zero => rw [e0]; omega
          | succ i => rw [es]; exact h3 i (by omega)
open Classical in
noncomputable def topR (l : PL) : Nat := if h : ∃ j, IsTop l j then Classical.choose h else 0
theorem topR_is {l : PL} (h : l ≠ []) : IsTop l (topR l) := by
  have hx := isTop_has l h
  unfold topR
  rw [dif_pos hx]
  exact Classical.choose_spec hx
theorem topR_eq {l : PL} {j : Nat} (h : IsTop l j) : topR l = j := isTop_one (topR_is (by intro e; subst e; exact absurd h.1 (by simp))) h
theorem topR_lt {l : PL} (h : l ≠ []) : topR l < l.length := (topR_is h).1
theorem topR_sp (a b : Tr) (k d : Int) : topR ((Tr.node a k b).sp d) = a.size := by
  have hr := (sp_root a b k d).1
  refine topR_eq ⟨by rw [sp_length, Tr.size]; omega, fun i hi => ?_, fun i hi => ?_⟩
  · rw [hr]
    rw [sp_length] at hi
    exact sp_ge _ d i hi
  · rw [hr]
    exact sp_gt a b k d i (by rw [Tr.size]; omega) (by omega)

theorem split_at (l : PL) (j : Nat) (h : j < l.length) : l = l.take j ++ (ky l j, dp l j) :: l.drop (j + 1) := by
  rw [ky_in h, dp_in h]
  conv => lhs; rw [← List.take_append_drop j l]
  rw [List.drop_eq_getElem_cons h]

noncomputable def stB (l : PL) (d : Int) : Bool :=
  if h : l = [] then true else decide (dp l (topR l) = d) && (stB (l.take (topR l)) (d + 1) && stB (l.drop (topR l + 1)) (d + 1))
termination_by l.length
decreasing_by
  · have := topR_lt h; simp; omega
  · have := topR_lt h; simp; omega
theorem stB_nil (d : Int) : stB [] d = true := by unfold stB; simp
theorem stB_cons {l : PL} (h : l ≠ []) (d : Int) : stB l d = (decide (dp l (topR l) = d) && (stB (l.take (topR l)) (d + 1) && stB (l.drop (topR l + 1)) (d + 1))) := by
  rw [stB.eq_def, dif_neg h]
theorem sp_parts (a b : Tr) (k d : Int) : ((Tr.node a k b).sp d).take a.size = a.sp (d + 1) ∧ ((Tr.node a k b).sp d).drop (a.size + 1) = b.sp (d + 1) := by
  constructor
  · simp only [Tr.sp]
    rw [← sp_length a (d + 1), List.take_left]
  · simp only [Tr.sp]
    rw [← sp_length a (d + 1), List.drop_append]
    simp
theorem stB_sp (t : Tr) (d : Int) : stB (t.sp d) d = true := by
  induction t generalizing d with
  | nil => exact stB_nil d
  | node a k b iha ihb =>
    rw [stB_cons (by simp [Tr.sp]), topR_sp, (sp_root a b k d).1, (sp_parts a b k d).1, (sp_parts a b k d).2, iha, ihb]
    simp
theorem stB_tree : ∀ (n : Nat) (l : PL) (d : Int), l.length ≤ n → stB l d = true → ∃ t : Tr, l = t.sp d := by
  intro n
  induction n with
  | zero =>
    intro l d h _
    exact ⟨.nil, List.eq_nil_of_length_eq_zero (by omega)⟩
  | succ n ih =>
    intro l d h hs
    by_cases hl : l = []
    · exact ⟨.nil, hl⟩
    · rw [stB_cons hl] at hs
      simp only [Bool.and_eq_true, decide_eq_true_eq] at hs
      obtain ⟨h1, h2, h3⟩ := hs
      have hlt := topR_lt hl
      obtain ⟨a, ha⟩ := ih _ _ (by simp; omega) h2
      obtain ⟨b, hb⟩ := ih _ _ (by simp; omega) h3
      refine ⟨.node a (ky l (topR l)) b, ?_⟩
      rw [Tr.sp, ← ha, ← hb]
      have := split_at l (topR l) hlt
      rw [h1] at this
      exact this
def upTo (l : PL) (k : Nat) : Prop := ∀ i, i + 1 < k → ky l i < ky l (i + 1)
open Classical in
noncomputable def chkS (l : PL) : Int := if 200 < l.length then 2 else if upTo l l.length ∧ stB l 0 = true then 0 else 3
def IsTree (l : PL) : Prop := l.length ≤ 200 ∧ upTo l l.length ∧ ∃ t : Tr, l = t.sp 0
theorem chkS_zero {l : PL} : chkS l = 0 ↔ IsTree l := by
  unfold chkS IsTree
  by_cases h : 200 < l.length
  · rw [if_pos h]
    constructor
    · intro e; cases e
    · rintro ⟨h1, _⟩; omega
  · rw [if_neg h]
    by_cases h2 : upTo l l.length ∧ stB l 0 = true
    · rw [if_pos h2]
      exact ⟨fun _ => ⟨by omega, h2.1, stB_tree _ l 0 (Nat.le_refl _) h2.2⟩, fun _ => rfl⟩
    · rw [if_neg h2]
      constructor
      · intro e; cases e
      · rintro ⟨_, h3, t, h4⟩
        refine absurd ⟨h3, ?_⟩ h2
        rw [h4]
        exact stB_sp t 0
end Go.Proofs.YtpnjnedfcdppaaaGreatDoor

/-
  PARTS OF TREES, WHO STANDS ABOVE, TURNS: plain mathematics. Nothing of the program.
-/
namespace Go.Proofs.YtpnjnedfcdppaaaGreatDoor

inductive Ctx (d0 : Int) : Int → PL → PL → Prop
  | hole : Ctx d0 d0 [] []
  | left {d : Int} {pre post : PL} (k : Int) (b : Tr) : Ctx d0 d pre post → Ctx d0 (d + 1) pre ((k, d) :: b.sp (d + 1) ++ post)
  | right {d : Int} {pre post : PL} (a : Tr) (k : Int) : Ctx d0 d pre post → Ctx d0 (d + 1) (pre ++ a.sp (d + 1) ++ [(k, d)]) post

theorem Ctx.fill {d0 d : Int} {pre post : PL} (h : Ctx d0 d pre post) : ∀ s : Tr, ∃ t : Tr, t.sp d0 = pre ++ s.sp d ++ post := by
  induction h with
  | hole => intro s; exact ⟨s, by simp⟩
  | left k b _ ih => intro s; obtain ⟨t, ht⟩ := ih (.node s k b); exact ⟨t, by rw [ht]; simp [Tr.sp]⟩
  | right a k _ ih => intro s; obtain ⟨t, ht⟩ := ih (.node a k s); exact ⟨t, by rw [ht]; simp [Tr.sp]⟩
theorem Ctx.ahead {d0 d : Int} {pre post : PL} (h : Ctx d0 d pre post) : 0 < pre.length → dp pre (pre.length - 1) < d := by
  induction h with
  | hole => intro h; simp at h
  | left k b _ ih => intro h; have := ih h; omega
  | right a k _ ih =>
    rename_i d pre post _
    intro _
    have := dp_mid (pre ++ a.sp (d + 1)) [] (k, d)
    have e : (pre ++ a.sp (d + 1) ++ [(k, d)]).length - 1 = (pre ++ a.sp (d + 1)).length := by simp
    rw [e, this]
    show d < d + 1
    omega
theorem Ctx.behind {d0 d : Int} {pre post : PL} (h : Ctx d0 d pre post) : 0 < post.length → dp post 0 < d := by
  induction h with
  | hole => intro h; simp at h
  | left k b _ ih => rename_i d pre post _; intro _; show d < d + 1; omega
  | right a k _ ih => intro h; have := ih h; omega
theorem Ctx.ge {d0 d : Int} {pre post : PL} (h : Ctx d0 d pre post) : d0 ≤ d := by
  induction h with
  | hole => exact Int.le_refl _
  | left k b _ ih => omega
  | right a k _ ih => omega

structure At (l : PL) (i : Nat) (d : Int) (a : Tr) (k : Int) (b : Tr) (pre post : PL) : Prop where
  ctx : Ctx 0 d pre post
  eq : l = pre ++ (Tr.node a k b).sp d ++ post
  idx : i = pre.length + a.size

theorem find_at : ∀ (t : Tr) (d : Int) (pre post : PL), Ctx 0 d pre post → ∀ i, i < t.size → ∃ d' a k b pre' post', At (pre ++ t.sp d ++ post) (pre.length + i) d' a k b pre' post' := by
  intro t
  induction t with
  | nil => intro d pre post _ i hi; simp [Tr.size] at hi
  | node a k b iha ihb =>
    intro d pre post hc i hi
    simp only [Tr.size] at hi
    rcases Nat.lt_trichotomy i a.size with h1 | h1 | h1
    · obtain ⟨d', a', k', b', pre', post', h⟩ := iha (d + 1) pre ((k, d) :: b.sp (d + 1) ++ post) (.left k b hc) i h1
      refine ⟨d', a', k', b', pre', post', ?_⟩
      have e : pre ++ a.sp (d + 1) ++ ((k, d) :: b.sp (d + 1) ++ post) = pre ++ (Tr.node a k b).sp d ++ post := by simp [Tr.sp]
      rw [e] at h
      exact h
    · exact ⟨d, a, k, b, pre, post, hc, rfl, by omega⟩
    · obtain ⟨d', a', k', b', pre', post', h⟩ := ihb (d + 1) (pre ++ a.sp (d + 1) ++ [(k, d)]) post (.right a k hc) (i - a.size - 1) (by omega)
      refine ⟨d', a', k', b', pre', post', ?_⟩
      have e : pre ++ a.sp (d + 1) ++ [(k, d)] ++ b.sp (d + 1) ++ post = pre ++ (Tr.node a k b).sp d ++ post := by simp [Tr.sp]
      have e2 : (pre ++ a.sp (d + 1) ++ [(k, d)]).length + (i - a.size - 1) = pre.length + i := by simp [sp_length]; omega
      rw [e, e2] at h
      exact h
theorem at_of {l : PL} {t : Tr} (h : l = t.sp 0) {i : Nat} (hi : i < l.length) : ∃ d a k b pre post, At l i d a k b pre post := by
  have := find_at t 0 [] [] .hole i (by rw [h, sp_length] at hi; exact hi)
  simp only [List.nil_append, List.append_nil, List.length_nil, Nat.zero_add] at this
  rw [← h] at this
  exact this

theorem dp_in3 (x y z : PL) (j : Nat) (h1 : x.length ≤ j) (h2 : j < x.length + y.length) : dp (x ++ y ++ z) j = dp y (j - x.length) := by
  rw [dp_left (by simp; omega), dp_right h1]
theorem ky_in3 (x y z : PL) (j : Nat) (h1 : x.length ≤ j) (h2 : j < x.length + y.length) : ky (x ++ y ++ z) j = ky y (j - x.length) := by
  rw [ky_left (by simp; omega), ky_right h1]

theorem At.len {l : PL} {i : Nat} {d : Int} {a : Tr} {k : Int} {b : Tr} {pre post : PL} (h : At l i d a k b pre post) : l.length = pre.length + (a.size + 1 + b.size) + post.length := by
  rw [h.eq]; simp [sp_length, Tr.size]; omega
theorem At.root {l : PL} {i : Nat} {d : Int} {a : Tr} {k : Int} {b : Tr} {pre post : PL} (h : At l i d a k b pre post) : dp l i = d ∧ ky l i = k := by
  have hr := sp_root a b k d
  rw [h.eq, h.idx]
  constructor
  · rw [dp_in3 _ _ _ _ (by omega) (by simp [sp_length, Tr.size]; omega), Nat.add_sub_cancel_left]; exact hr.1
  · rw [ky_in3 _ _ _ _ (by omega) (by simp [sp_length, Tr.size]; omega), Nat.add_sub_cancel_left]; exact hr.2
theorem At.inside {l : PL} {i : Nat} {d : Int} {a : Tr} {k : Int} {b : Tr} {pre post : PL} (h : At l i d a k b pre post) (j : Nat) (h1 : pre.length ≤ j) (h2 : j < pre.length + (a.size + 1 + b.size)) (hne : j ≠ i) : d < dp l j := by
  rw [h.eq, dp_in3 _ _ _ _ h1 (by simp [sp_length, Tr.size]; omega)]
  exact sp_gt a b k d _ (by simp [Tr.size]; omega) (by have := h.idx; omega)
theorem At.ahead {l : PL} {i : Nat} {d : Int} {a : Tr} {k : Int} {b : Tr} {pre post : PL} (h : At l i d a k b pre post) (h0 : 0 < pre.length) : dp l (pre.length - 1) = dp pre (pre.length - 1) := by
  rw [h.eq, List.append_assoc, dp_left (by omega)]
theorem At.behind {l : PL} {i : Nat} {d : Int} {a : Tr} {k : Int} {b : Tr} {pre post : PL} (h : At l i d a k b pre post) : dp l (pre.length + (a.size + 1 + b.size)) = dp post 0 := by
  rw [h.eq, dp_right (by simp [sp_length, Tr.size])]
  congr 1
  simp [sp_length, Tr.size]

def frA (l : PL) (d : Int) : Nat → Nat
  | 0 => 0
  | f + 1 => if d < dp l f then frA l d f else f + 1
def toA (l : PL) (d : Int) : Nat → Nat → Nat
  | 0, t => t
  | m + 1, t => if d < dp l t then toA l d m (t + 1) else t
def frR (l : PL) (i : Nat) : Nat := frA l (dp l i) i
def toR (l : PL) (i : Nat) : Nat := toA l (dp l i) (l.length - (i + 1)) (i + 1)
theorem frA_le (l : PL) (d : Int) (f : Nat) : frA l d f ≤ f := by
  induction f with
  | zero => exact Nat.le_refl _
  | succ f ih => rw [frA]; split <;> omega
theorem toA_le (l : PL) (d : Int) : ∀ m t, t ≤ toA l d m t ∧ toA l d m t ≤ t + m := by
  intro m
  induction m with
  | zero => intro t; simp [toA]
  | succ m ih => intro t; rw [toA]; have := ih (t + 1); split <;> omega
theorem frA_eq (l : PL) (d : Int) (f0 : Nat) : ∀ f, f0 ≤ f → (∀ j, f0 ≤ j → j < f → d < dp l j) → (0 < f0 → ¬ d < dp l (f0 - 1)) → frA l d f = f0 := by
  intro f
  induction f with
  | zero => intro h _ _; rw [frA]; omega
  | succ f ih =>
    intro h h1 h2
    rw [frA]
    by_cases hf : f0 = f + 1
    · subst hf
      rw [if_neg (by simpa using h2 (by omega))]
    · rw [if_pos (h1 f (by omega) (by omega))]
      exact ih (by omega) (fun j a b => h1 j a (by omega)) h2
theorem toA_eq (l : PL) (d : Int) (t1 : Nat) : ∀ m t, t ≤ t1 → t1 ≤ t + m → (∀ j, t ≤ j → j < t1 → d < dp l j) → (t1 < t + m → ¬ d < dp l t1) → toA l d m t = t1 := by
  intro m
  induction m with
  | zero => intro t h h' _ _; rw [toA]; omega
  | succ m ih =>
    intro t h h' h1 h2
    rw [toA]
    by_cases ht : t1 = t
    · subst ht
      rw [if_neg (h2 (by omega))]
    · rw [if_pos (h1 t (by omega) (by omega))]
      exact ih (t + 1) (by omega) (by omega) (fun j a b => h1 j (by omega) b) (fun h3 => h2 (by omega))
theorem At.part {l : PL} {i : Nat} {d : Int} {a : Tr} {k : Int} {b : Tr} {pre post : PL} (h : At l i d a k b pre post) : frR l i = pre.length ∧ toR l i = pre.length + (a.size + 1 + b.size) := by
  have hi := h.idx
  have hl := h.len
  unfold frR toR
  rw [h.root.1]
  constructor
  · refine frA_eq l d _ i (by omega) (fun j h1 h2 => h.inside j h1 (by omega) (by omega)) (fun h0 => ?_)
    rw [h.ahead h0]
    have := h.ctx.ahead h0
    omega
  · refine toA_eq l d _ _ _ (by omega) (by omega) (fun j h1 h2 => h.inside j (by omega) h2 (by omega)) (fun h0 => ?_)
    rw [h.behind]
    have := h.ctx.behind (by omega)
    omega

def par (l : PL) (i : Nat) : Int := if toR l i = l.length then (frR l i : Int) - 1 else if frR l i = 0 ∨ dp l (frR l i - 1) < dp l (toR l i) then toR l i else (frR l i : Int) - 1
def shf (l : PL) (x y : Nat) (by_ : Int) : PL := l.take x ++ ((l.drop x).take (y - x)).map (fun p => (p.1, p.2 + by_)) ++ l.drop y
theorem shf_at {l X Y Z : PL} {x y : Nat} {by_ : Int} (h : l = X ++ Y ++ Z) (hx : x = X.length) (hy : y = X.length + Y.length) : shf l x y by_ = X ++ Y.map (fun p => (p.1, p.2 + by_)) ++ Z := by
  subst h hx hy
  unfold shf
  have h1 : (X ++ Y ++ Z).take X.length = X := by rw [List.append_assoc, List.take_left]
  have h2 : (X ++ Y ++ Z).drop X.length = Y ++ Z := by rw [List.append_assoc, List.drop_left]
  have h3 : (X ++ Y ++ Z).drop (X.length + Y.length) = Z := by rw [← List.length_append, List.drop_left]
  rw [h1, h2, h3, Nat.add_sub_cancel_left, List.take_left]
theorem shf_length (l : PL) (x y : Nat) (by_ : Int) (h : x ≤ y) : (shf l x y by_).length = l.length := by simp [shf]; omega
theorem sp_shift (t : Tr) (d by_ : Int) : (t.sp d).map (fun p => (p.1, p.2 + by_)) = t.sp (d + by_) := by
  induction t generalizing d with
  | nil => rfl
  | node a k b iha ihb =>
    simp only [Tr.sp, List.map_append, List.map_cons, iha, ihb]
    rw [show d + 1 + by_ = d + by_ + 1 by omega]

def turnL (l : PL) (i : Nat) : PL :=
  if i < (par l i).toNat then shf (shf l (frR l (par l i).toNat) (i + 1) (-1)) (par l i).toNat (toR l (par l i).toNat) 1
  else shf (shf l (frR l (par l i).toNat) ((par l i).toNat + 1) 1) i (toR l (par l i).toNat) (-1)

structure LL (l : PL) (i j : Nat) (d : Int) (a : Tr) (k : Int) (b : Tr) (p : Int) (c : Tr) (pre post : PL) : Prop where
  ctx : Ctx 0 d pre post
  eq : l = pre ++ (Tr.node (.node a k b) p c).sp d ++ post
  idx : i = pre.length + a.size
  jdx : j = pre.length + (a.size + 1 + b.size)
structure RR (l : PL) (i j : Nat) (d : Int) (a : Tr) (k : Int) (b : Tr) (p : Int) (c : Tr) (pre post : PL) : Prop where
  ctx : Ctx 0 d pre post
  eq : l = pre ++ (Tr.node a k (.node b p c)).sp d ++ post
  idx : i = pre.length + a.size
  jdx : j = pre.length + (a.size + 1 + b.size)

section
variable {l : PL} {i j : Nat} {d : Int} {a : Tr} {k : Int} {b : Tr} {p : Int} {c : Tr} {pre post : PL}
theorem LL.at_i (h : LL l i j d a k b p c pre post) : At l i (d + 1) a k b pre ((p, d) :: c.sp (d + 1) ++ post) := ⟨.left p c h.ctx, by rw [h.eq]; simp [Tr.sp], h.idx⟩
theorem LL.at_j (h : LL l i j d a k b p c pre post) : At l j d (.node a k b) p c pre post := ⟨h.ctx, h.eq, by rw [h.jdx]; simp [Tr.size]⟩
theorem RR.at_i (h : RR l i j d a k b p c pre post) : At l i d a k (.node b p c) pre post := ⟨h.ctx, h.eq, h.idx⟩
theorem RR.at_j (h : RR l i j d a k b p c pre post) : At l j (d + 1) b p c (pre ++ a.sp (d + 1) ++ [(k, d)]) post := ⟨.right a k h.ctx, by rw [h.eq]; simp [Tr.sp], by rw [h.jdx]; simp [sp_length]; omega⟩
theorem LL.par_i (h : LL l i j d a k b p c pre post) : par l i = j := by
  have hp := h.at_i.part
  have hl := h.at_i.len
  have hj := h.jdx
  unfold par
  rw [hp.1, hp.2, ← hj]
  have hlt : j < l.length := by rw [hl]; simp; omega
  rw [if_neg (by omega)]
  rw [if_pos]
  rcases Nat.eq_zero_or_pos pre.length with h0 | h0
  · exact .inl h0
  · right
    rw [h.at_i.ahead h0, h.at_j.root.1]
    exact h.ctx.ahead h0
theorem RR.par_j (h : RR l i j d a k b p c pre post) : par l j = i := by
  have hp := h.at_j.part
  have hl := h.at_j.len
  have hi := h.idx
  have e1 : (pre ++ a.sp (d + 1) ++ [(k, d)]).length = i + 1 := by simp [sp_length]; omega
  rw [e1] at hp hl
  unfold par
  rw [hp.1, hp.2]
  by_cases h0 : i + 1 + (b.size + 1 + c.size) = l.length
  · rw [if_pos h0]; omega
  · rw [if_neg h0, if_neg]
    · omega
    · rintro (h1 | h1)
      · omega
      · have e2 := h.at_j.behind
        rw [e1] at e2
        rw [e2, Nat.add_sub_cancel, h.at_i.root.1] at h1
        have := h.ctx.behind (by omega)
        omega
end

theorem par_root {l : PL} {t : Tr} (h : l = t.sp 0) {i : Nat} (hi : i < l.length) (hd : dp l i = 0) : par l i = -1 := by
  obtain ⟨d, a, k, b, pre, post, hat⟩ := at_of h hi
  have hr := hat.root.1
  have hp := hat.part
  have hl := hat.len
  obtain ⟨hc, he, hx⟩ := hat
  cases hc with
  | hole =>
    unfold par
    rw [hp.1, hp.2]
    simp at hl ⊢
    omega
  | left p c hc' => have := hc'.ge; omega
  | right a' k' hc' => have := hc'.ge; omega

end Go.Proofs.YtpnjnedfcdppaaaGreatDoor

/-
  TURNS THERE AND BACK; THE WAY TO A ROW: plain mathematics. Nothing of the program.
-/
namespace Go.Proofs.YtpnjnedfcdppaaaGreatDoor

structure Turned (l s : PL) (i j : Nat) : Prop where
  lt : j < l.length
  ne : j ≠ i
  fr : frR l j ≤ i
  to : i < toR l j
  len : s.length = l.length
  keys : ∀ x, ky s x = ky l x
  near : ∀ x, dp s x ≤ dp l x + 1 ∧ dp l x - 1 ≤ dp s x
  tree : IsTree s
  low : dp s j ≠ 0
  back : turnL s j = l
end Go.Proofs.YtpnjnedfcdppaaaGreatDoor

/-
  TREES AS THEY GROW: put, taken away, told; sorting by the first one: plain mathematics. Nothing of the program.
-/
namespace Go.Proofs.YtpnjnedfcdppaaaGreatDoor

def Tr.ks : Tr → List Int
  | .nil => []
  | .node a k b => a.ks ++ k :: b.ks
theorem sp_ks (t : Tr) (d : Int) : (t.sp d).map Prod.fst = t.ks := by
  induction t generalizing d with
  | nil => rfl
  | node a k b iha ihb => simp [Tr.sp, Tr.ks, iha, ihb]
theorem ks_length (t : Tr) : t.ks.length = t.size := by
  induction t with
  | nil => rfl
  | node a k b iha ihb => simp [Tr.ks, Tr.size, iha, ihb]; omega

abbrev Up (l : List Int) : Prop := l.Pairwise (· < ·)
theorem up_ext : ∀ {l m : List Int}, Up l → Up m → (∀ x, x ∈ l ↔ x ∈ m) → l = m
  | [], [], _, _, _ => rfl
  | [], y :: m, _, _, h => absurd ((h y).2 (by simp)) (by simp)
  | x :: l, [], _, _, h => absurd ((h x).1 (by simp)) (by simp)
  | x :: l, y :: m, hl, hm, h => by
    rw [Up, List.pairwise_cons] at hl hm
    have hxy : x = y := by
      have h1 := (h x).1 (by simp)
      have h2 := (h y).2 (by simp)
      rcases List.mem_cons.1 h1 with e | e
      · exact e
      · rcases List.mem_cons.1 h2 with e' | e'
        · exact e'.symm
        · have := hm.1 x e
          have := hl.1 y e'
          omega
    subst hxy
    have : l = m := up_ext hl.2 hm.2 fun z => by
      have hz := h z
      simp only [List.mem_cons] at hz
      constructor
      · intro h1
        rcases hz.1 (Or.inr h1) with e | e
        · have := hl.1 z h1
          omega
        · exact e
      · intro h1
        rcases hz.2 (Or.inr h1) with e | e
        · have := hm.1 z h1
          omega
        · exact e
    rw [this]
theorem up_node {a b : Tr} {k : Int} : Up (Tr.node a k b).ks ↔ Up a.ks ∧ Up b.ks ∧ (∀ x ∈ a.ks, x < k) ∧ (∀ x ∈ b.ks, k < x) := by
  simp only [Tr.ks, Up, List.pairwise_append, List.pairwise_cons, List.mem_cons]
  constructor
  · rintro ⟨h1, ⟨h2, h3⟩, h4⟩
    exact ⟨h1, h3, fun x hx => h4 x hx k (.inl rfl), h2⟩
  · rintro ⟨h1, h2, h3, h4⟩
    refine ⟨h1, ⟨h4, h2⟩, fun x hx y hy => ?_⟩
    rcases hy with rfl | hy
    · exact h3 x hx
    · have := h3 x hx
      have := h4 y hy
      omega
theorem mem_node {a b : Tr} {k x : Int} : x ∈ (Tr.node a k b).ks ↔ x ∈ a.ks ∨ x = k ∨ x ∈ b.ks := by simp [Tr.ks]

def Tr.sub (x : Int) : Tr → Tr
  | .nil => .nil
  | .node a k b => if x < k then a.sub x else if k < x then b.sub x else .node a k b
def Tr.alter (x : Int) (f : Tr → Tr) : Tr → Tr
  | .nil => f .nil
  | .node a k b => if x < k then .node (a.alter x f) k b else if k < x then .node a k (b.alter x f) else f (.node a k b)
def Tr.leaf (x : Int) : Tr := .node .nil x .nil
def Tr.ins (x : Int) : Tr → Tr
  | .nil => .leaf x
  | .node a k b => if x < k then .node (a.ins x) k b else if k < x then .node a k (b.ins x) else .node a k b
def Tr.isNil : Tr → Bool
  | .nil => true
  | .node _ _ _ => false
def Tr.least : Tr → Int
  | .nil => 0
  | .node a k _ => if a.isNil then k else a.least
def Tr.cutl : Tr → Tr
  | .nil => .nil
  | .node a k b => if a.isNil then b else .node a.cutl k b
def Tr.del : Tr → Int → Tr
  | .nil, _ => .nil
  | .node a k b, x => if x < k then .node (a.del x) k b else if k < x then .node a k (b.del x) else if a.isNil then b else if b.isNil then a else .node a b.least (b.del b.least)
def Tr.cutTop : Tr → Tr
  | .nil => .nil
  | .node a _ b => if a.isNil then b else if b.isNil then a else .node a b.least b.cutl

theorem isNil_ks {t : Tr} : t.isNil = true ↔ t = .nil := by cases t <;> simp [Tr.isNil]
theorem sub_has {x : Int} {t : Tr} (hu : Up t.ks) (h : x ∈ t.ks) : ∃ a b, t.sub x = .node a x b := by
  induction t with
  | nil => simp [Tr.ks] at h
  | node a k b iha ihb =>
    obtain ⟨h1, h2, h3, h4⟩ := up_node.1 hu
    rw [mem_node] at h
    unfold Tr.sub
    split
    · rcases h with h | h | h
      · exact iha h1 h
      · omega
      · have := h4 x h
        omega
    · split
      · rcases h with h | h | h
        · have := h3 x h
          omega
        · omega
        · exact ihb h2 h
      · have : x = k := by omega
        exact ⟨a, b, by rw [this]⟩
theorem alter_ins {x : Int} {t : Tr} (h : x ∉ t.ks) : t.alter x (fun _ => .leaf x) = t.ins x := by
  induction t with
  | nil => rfl
  | node a k b iha ihb =>
    simp only [mem_node, not_or] at h
    unfold Tr.alter Tr.ins
    rw [iha h.1, ihb h.2.2]
    split
    · rfl
    · split
      · rfl
      · exact absurd (by omega : x = k) h.2.1
theorem ins_has {x : Int} {t : Tr} (hu : Up t.ks) (h : x ∈ t.ks) : t.ins x = t := by
  induction t with
  | nil => simp [Tr.ks] at h
  | node a k b iha ihb =>
    obtain ⟨h1, h2, h3, h4⟩ := up_node.1 hu
    rw [mem_node] at h
    unfold Tr.ins
    split
    · rcases h with h | h | h
      · rw [iha h1 h]
      · omega
      · have := h4 x h
        omega
    · split
      · rcases h with h | h | h
        · have := h3 x h
          omega
        · omega
        · rw [ihb h2 h]
      · rfl
theorem del_none {x : Int} {t : Tr} (h : x ∉ t.ks) : t.del x = t := by
  induction t with
  | nil => rfl
  | node a k b iha ihb =>
    simp only [mem_node, not_or] at h
    unfold Tr.del
    rw [iha h.1, ihb h.2.2]
    split
    · rfl
    · split
      · rfl
      · exact absurd (by omega : x = k) h.2.1
theorem least_mem {t : Tr} (h : t ≠ .nil) : t.least ∈ t.ks := by
  induction t with
  | nil => exact absurd rfl h
  | node a k b iha ihb =>
    rw [mem_node]
    unfold Tr.least
    split
    · exact .inr (.inl rfl)
    · rename_i hn
      exact .inl (iha (fun e => hn (by rw [e]; rfl)))
theorem least_le {t : Tr} (hu : Up t.ks) : ∀ x ∈ t.ks, t.least ≤ x := by
  induction t with
  | nil => simp [Tr.ks]
  | node a k b iha ihb =>
    obtain ⟨h1, h2, h3, h4⟩ := up_node.1 hu
    intro x hx
    rw [mem_node] at hx
    unfold Tr.least
    split
    · rename_i hn
      rw [isNil_ks.1 hn] at hx
      rcases hx with h | h | h
      · simp [Tr.ks] at h
      · omega
      · have := h4 x h
        omega
    · rename_i hn
      have hm := h3 _ (least_mem (t := a) (fun e => hn (by rw [e]; rfl)))
      rcases hx with h | h | h
      · exact iha h1 x h
      · omega
      · have := h4 x h
        omega
theorem del_least {t : Tr} (hu : Up t.ks) (h : t ≠ .nil) : t.del t.least = t.cutl := by
  induction t with
  | nil => rfl
  | node a k b iha ihb =>
    obtain ⟨h1, h2, h3, h4⟩ := up_node.1 hu
    by_cases hn : a.isNil = true
    · have e : (Tr.node a k b).least = k := by rw [Tr.least, if_pos hn]
      have e2 : (Tr.node a k b).cutl = b := by rw [Tr.cutl, if_pos hn]
      rw [e, e2, Tr.del, if_neg (Int.lt_irrefl _), if_neg (Int.lt_irrefl _), if_pos hn]
    · have ha : a ≠ .nil := fun e => hn (by rw [e]; rfl)
      have e : (Tr.node a k b).least = a.least := by rw [Tr.least, if_neg hn]
      have e2 : (Tr.node a k b).cutl = .node a.cutl k b := by rw [Tr.cutl, if_neg hn]
      rw [e, e2, Tr.del, if_pos (h3 _ (least_mem ha)), iha h1 ha]
theorem del_alter {x : Int} {t : Tr} (hu : Up t.ks) : t.del x = t.alter x Tr.cutTop := by
  induction t with
  | nil => rfl
  | node a k b iha ihb =>
    obtain ⟨h1, h2, h3, h4⟩ := up_node.1 hu
    unfold Tr.del Tr.alter
    rw [iha h1, ihb h2]
    split
    · rfl
    · split
      · rfl
      · show _ = (if a.isNil = true then b else if b.isNil = true then a else .node a b.least b.cutl)
        split
        · rfl
        · split
          · rfl
          · rename_i hb
            rw [del_least h2 (fun e => hb (by rw [e]; rfl))]
theorem mem_ins {x y : Int} {t : Tr} : y ∈ (t.ins x).ks ↔ y = x ∨ y ∈ t.ks := by
  induction t with
  | nil => simp [Tr.ins, Tr.leaf, Tr.ks]
  | node a k b iha ihb =>
    unfold Tr.ins
    split
    · rw [mem_node, mem_node, iha]
      constructor
      · rintro ((h | h) | h | h)
        · exact .inl h
        · exact .inr (.inl h)
        · exact .inr (.inr (.inl h))
        · exact .inr (.inr (.inr h))
      · rintro (h | h | h | h)
        · exact .inl (.inl h)
        · exact .inl (.inr h)
        · exact .inr (.inl h)
        · exact .inr (.inr h)
    · split
      · rw [mem_node, mem_node, ihb]
        constructor
        · rintro (h | h | h | h)
          · exact .inr (.inl h)
          · exact .inr (.inr (.inl h))
          · exact .inl h
          · exact .inr (.inr (.inr h))
        · rintro (h | h | h | h)
          · exact .inr (.inr (.inl h))
          · exact .inl h
          · exact .inr (.inl h)
          · exact .inr (.inr (.inr h))
      · have e : x = k := by omega
        rw [mem_node]
        constructor
        · exact .inr
        · rintro (h | h)
          · exact .inr (.inl (by omega))
          · exact h
theorem up_ins {x : Int} {t : Tr} (hu : Up t.ks) : Up (t.ins x).ks := by
  induction t with
  | nil => simp [Tr.ins, Tr.leaf, Tr.ks, Up]
  | node a k b iha ihb =>
    obtain ⟨h1, h2, h3, h4⟩ := up_node.1 hu
    unfold Tr.ins
    split
    · refine up_node.2 ⟨iha h1, h2, fun y hy => ?_, h4⟩
      rcases mem_ins.1 hy with e | e
      · omega
      · exact h3 y e
    · split
      · refine up_node.2 ⟨h1, ihb h2, h3, fun y hy => ?_⟩
        rcases mem_ins.1 hy with e | e
        · omega
        · exact h4 y e
      · exact hu
theorem mem_del {t : Tr} (hu : Up t.ks) : ∀ x y : Int, y ∈ (t.del x).ks ↔ y ∈ t.ks ∧ y ≠ x := by
  induction t with
  | nil => intro x y; simp [Tr.del, Tr.ks]
  | node a k b iha ihb =>
    obtain ⟨h1, h2, h3, h4⟩ := up_node.1 hu
    intro x y
    unfold Tr.del
    have ha : ∀ z ∈ a.ks, z < k := h3
    have hb : ∀ z ∈ b.ks, k < z := h4
    split
    · rw [mem_node, mem_node, iha h1]
      constructor
      · rintro (h | h | h)
        · exact ⟨.inl h.1, h.2⟩
        · exact ⟨.inr (.inl h), by omega⟩
        · exact ⟨.inr (.inr h), by have := hb y h; omega⟩
      · rintro ⟨h | h | h, hne⟩
        · exact .inl ⟨h, hne⟩
        · exact .inr (.inl h)
        · exact .inr (.inr h)
    · split
      · rw [mem_node, mem_node, ihb h2]
        constructor
        · rintro (h | h | h)
          · exact ⟨.inl h, by have := ha y h; omega⟩
          · exact ⟨.inr (.inl h), by omega⟩
          · exact ⟨.inr (.inr h.1), h.2⟩
        · rintro ⟨h | h | h, hne⟩
          · exact .inl h
          · exact .inr (.inl h)
          · exact .inr (.inr ⟨h, hne⟩)
      · have e : x = k := by omega
        subst e
        rw [mem_node]
        split
        · rename_i hn
          rw [isNil_ks.1 hn]
          constructor
          · exact fun h => ⟨.inr (.inr h), by have := hb y h; omega⟩
          · rintro ⟨h | h | h, hne⟩
            · simp [Tr.ks] at h
            · exact absurd h hne
            · exact h
        · split
          · rename_i hn
            rw [isNil_ks.1 hn]
            constructor
            · exact fun h => ⟨.inl h, by have := ha y h; omega⟩
            · rintro ⟨h | h | h, hne⟩
              · exact h
              · exact absurd h hne
              · simp [Tr.ks] at h
          · rename_i hn
            have hm := least_mem (t := b) (fun e => hn (by rw [e]; rfl))
            rw [mem_node, ihb h2]
            constructor
            · rintro (h | h | h)
              · exact ⟨.inl h, by have := ha y h; omega⟩
              · exact ⟨.inr (.inr (by rw [h]; exact hm)), by have := hb _ hm; omega⟩
              · exact ⟨.inr (.inr h.1), by have := hb _ h.1; omega⟩
            · rintro ⟨h | h | h, hne⟩
              · exact .inl h
              · exact absurd h hne
              · by_cases e : y = b.least
                · exact .inr (.inl e)
                · exact .inr (.inr ⟨h, e⟩)
theorem up_del {t : Tr} (hu : Up t.ks) : ∀ x : Int, Up (t.del x).ks := by
  induction t with
  | nil => intro x; simp [Tr.del, Tr.ks, Up]
  | node a k b iha ihb =>
    obtain ⟨h1, h2, h3, h4⟩ := up_node.1 hu
    intro x
    unfold Tr.del
    split
    · exact up_node.2 ⟨iha h1 x, h2, fun y hy => h3 y ((mem_del h1 x y).1 hy).1, h4⟩
    · split
      · exact up_node.2 ⟨h1, ihb h2 x, h3, fun y hy => h4 y ((mem_del h2 x y).1 hy).1⟩
      · split
        · exact h2
        · split
          · exact h1
          · rename_i hn
            have hm := least_mem (t := b) (fun e => hn (by rw [e]; rfl))
            refine up_node.2 ⟨h1, ihb h2 _, fun y hy => ?_, fun y hy => ?_⟩
            · have := h3 y hy
              have := h4 _ hm
              omega
            · have hy' := (mem_del h2 _ y).1 hy
              have := least_le h2 y hy'.1
              omega
theorem size_ins {x : Int} {t : Tr} (h : x ∉ t.ks) : (t.ins x).size = t.size + 1 := by
  induction t with
  | nil => rfl
  | node a k b iha ihb =>
    simp only [mem_node, not_or] at h
    unfold Tr.ins
    split
    · simp only [Tr.size, iha h.1]; omega
    · split
      · simp only [Tr.size, ihb h.2.2]; omega
      · exact absurd (by omega : x = k) h.2.1
def lo (x : Int) (r : List Int) : List Int := r.filter (fun y => decide (y < x))
def hi (x : Int) (r : List Int) : List Int := r.filter (fun y => !decide (y < x))
theorem lo_le (x : Int) (r : List Int) : (lo x r).length ≤ r.length := List.length_filter_le _ _
theorem hi_le (x : Int) (r : List Int) : (hi x r).length ≤ r.length := List.length_filter_le _ _

def hel : List Int → Int
  | [] => 0
  | x :: r => (r.length : Int) + hel (lo x r) + hel (hi x r)
termination_by l => l.length
decreasing_by
  · have := lo_le x r; simp only [List.length_cons]; omega
  · have := hi_le x r; simp only [List.length_cons]; omega
def dsum (l : PL) : Int := (l.map Prod.snd).foldr (· + ·) 0
theorem dsum_app (a b : PL) : dsum (a ++ b) = dsum a + dsum b := by
  unfold dsum
  induction a with
  | nil => simp
  | cons p a ih => simp only [List.cons_append, List.map_cons, List.foldr_cons, ih]; omega
theorem dsum_cons (p : Int × Int) (b : PL) : dsum (p :: b) = p.2 + dsum b := rfl
theorem ks_ky (t : Tr) (d : Int) (i : Nat) (h : i < t.size) : ky (t.sp d) i = t.ks[i]'(by rw [ks_length]; exact h) := by
  have hl : i < (t.sp d).length := by rw [sp_length]; exact h
  rw [ky_in hl]
  have e := sp_ks t d
  have : ((t.sp d).map Prod.fst)[i]'(by simpa using hl) = t.ks[i]'(by rw [ks_length]; exact h) := by congr 1
  rw [← this]
  simp
theorem istree_of {t : Tr} (hu : Up t.ks) (hs : t.size ≤ 200) : IsTree (t.sp 0) := by
  refine ⟨by rw [sp_length]; exact hs, fun i hi => ?_, t, rfl⟩
  rw [sp_length] at hi
  rw [ks_ky t 0 i (by omega), ks_ky t 0 (i + 1) hi]
  exact List.pairwise_iff_getElem.1 hu i (i + 1) _ _ (by omega)

theorem dsum_take (l : PL) (k : Nat) (h : k < l.length) : dsum (l.take (k + 1)) = dsum (l.take k) + dp l k := by
  rw [List.take_succ_eq_append_getElem h, dsum_app, dsum_cons, dp_in h]
  simp [dsum]
theorem dsum_bd {l : PL} (h : ∀ i, 0 ≤ dp l i ∧ dp l i ≤ 200) : ∀ k, k ≤ l.length → 0 ≤ dsum (l.take k) ∧ dsum (l.take k) ≤ 200 * (k : Int)
  | 0, _ => by simp [dsum]
  | k + 1, hk => by
    have ih := dsum_bd h k (by omega)
    have := h k
    rw [dsum_take l k (by omega)]
    omega

end Go.Proofs.YtpnjnedfcdppaaaGreatDoor

/-
  TREES THAT ARE BUILT ANEW WHERE THEY LEAN TOO MUCH: how deep they are, how much is built: plain mathematics. Nothing of the program.
-/
namespace Go.Proofs.YtpnjnedfcdppaaaGreatDoor

def Tr.tall : Tr → Nat
  | .nil => 0
  | .node a _ b => max a.tall b.tall + 1
theorem size_tall (t : Tr) : t.size + 1 ≤ 2 ^ t.tall := by
  induction t with
  | nil => simp [Tr.size, Tr.tall]
  | node a k b iha ihb =>
    simp only [Tr.size, Tr.tall]
    have h1 : 2 ^ a.tall ≤ 2 ^ (max a.tall b.tall) := Nat.pow_le_pow_right (by decide) (Nat.le_max_left _ _)
    have h2 : 2 ^ b.tall ≤ 2 ^ (max a.tall b.tall) := Nat.pow_le_pow_right (by decide) (Nat.le_max_right _ _)
    rw [Nat.pow_succ]
    omega

def evF : Nat → List Int → Tr
  | 0, _ => .nil
  | _ + 1, [] => .nil
  | n + 1, k :: t => .node (evF n ((k :: t).take ((k :: t).length / 2))) ((k :: t)[(k :: t).length / 2]?.getD 0) (evF n ((k :: t).drop ((k :: t).length / 2 + 1)))
def ev (l : List Int) : Tr := evF l.length l
theorem evF_fuel : ∀ (n m : Nat) (l : List Int), l.length ≤ n → l.length ≤ m → evF n l = evF m l
  | 0, m, l, h, _ => by
    have : l = [] := List.eq_nil_of_length_eq_zero (by omega)
    subst this
    cases m <;> rfl
  | n + 1, 0, l, _, h => by
    have : l = [] := List.eq_nil_of_length_eq_zero (by omega)
    subst this
    rfl
  | n + 1, m + 1, [], _, _ => rfl
  | n + 1, m + 1, k :: t, h1, h2 => by
    rw [List.length_cons] at h1 h2
    have e1 := evF_fuel n m ((k :: t).take ((k :: t).length / 2)) (by rw [List.length_take, List.length_cons]; omega) (by rw [List.length_take, List.length_cons]; omega)
    have e2 := evF_fuel n m ((k :: t).drop ((k :: t).length / 2 + 1)) (by rw [List.length_drop, List.length_cons]; omega) (by rw [List.length_drop, List.length_cons]; omega)
    rw [evF, evF, e1, e2]
theorem ev_eq {l : List Int} (h : l ≠ []) : ev l = .node (ev (l.take (l.length / 2))) (l[l.length / 2]?.getD 0) (ev (l.drop (l.length / 2 + 1))) := by
  cases l with
  | nil => exact absurd rfl h
  | cons k t =>
    have e1 := evF_fuel t.length ((k :: t).take ((k :: t).length / 2)).length ((k :: t).take ((k :: t).length / 2)) (by rw [List.length_take, List.length_cons]; omega) (Nat.le_refl _)
    have e2 := evF_fuel t.length ((k :: t).drop ((k :: t).length / 2 + 1)).length ((k :: t).drop ((k :: t).length / 2 + 1)) (by rw [List.length_drop, List.length_cons]; omega) (Nat.le_refl _)
    show evF (t.length + 1) (k :: t) = _
    rw [evF, e1, e2]
    rfl
theorem ev_ks : ∀ (n : Nat) (l : List Int), l.length ≤ n → (ev l).ks = l
  | 0, l, h => by
    have : l = [] := List.eq_nil_of_length_eq_zero (by omega)
    subst this
    rfl
  | n + 1, l, h => by
    by_cases hl : l = []
    · subst hl; rfl
    · have hp : 0 < l.length := List.length_pos_iff.2 hl
      have hm : l.length / 2 < l.length := by omega
      rw [ev_eq hl, Tr.ks, ev_ks n _ (by rw [List.length_take]; omega), ev_ks n _ (by rw [List.length_drop]; omega), List.getElem?_eq_getElem hm, Option.getD_some, ← List.drop_eq_getElem_cons hm, List.take_append_drop]
theorem ev_size (l : List Int) : (ev l).size = l.length := by rw [← ks_length, ev_ks _ l (Nat.le_refl _)]
theorem ev_tall : ∀ (L : Nat) (l : List Int), l.length < 2 ^ L → (ev l).tall ≤ L
  | 0, l, h => by
    have : l = [] := List.eq_nil_of_length_eq_zero (by simp at h; simpa using h)
    subst this
    exact Nat.le_refl _
  | L + 1, l, h => by
    by_cases hl : l = []
    · subst hl; exact Nat.zero_le _
    · rw [Nat.pow_succ] at h
      have hp : 0 < l.length := List.length_pos_iff.2 hl
      have h1 := ev_tall L (l.take (l.length / 2)) (by rw [List.length_take]; omega)
      have h2 := ev_tall L (l.drop (l.length / 2 + 1)) (by rw [List.length_drop]; omega)
      rw [ev_eq hl, Tr.tall]
      omega

def Tr.phi : Tr → Nat
  | .nil => 0
  | .node a _ b => a.phi + b.phi + ((a.size - b.size - 1) + (b.size - a.size - 1))
theorem ev_phi : ∀ (n : Nat) (l : List Int), l.length ≤ n → (ev l).phi = 0
  | 0, l, h => by
    have : l = [] := List.eq_nil_of_length_eq_zero (by omega)
    subst this
    rfl
  | n + 1, l, h => by
    by_cases hl : l = []
    · subst hl; rfl
    · have hp : 0 < l.length := List.length_pos_iff.2 hl
      rw [ev_eq hl, Tr.phi, ev_phi n _ (by rw [List.length_take]; omega), ev_phi n _ (by rw [List.length_drop]; omega), ev_size, ev_size, List.length_take, List.length_drop]
      omega

def Tr.dpx (x : Int) : Tr → Nat
  | .nil => 0
  | .node a k b => if x < k then a.dpx x + 1 else if k < x then b.dpx x + 1 else 0
def leanT (a : Tr) (k : Int) (b : Tr) : Option (Tr × Nat) := if 2 * (a.size + b.size + 1) < 3 * max a.size b.size then some (ev (Tr.node a k b).ks, a.size + b.size + 1) else none
def Tr.reb (x : Int) : Tr → Option (Tr × Nat)
  | .nil => none
  | .node a k b =>
    if x < k then (match a.reb x with
      | some p => some (.node p.1 k b, p.2)
      | none => leanT a k b)
    else if k < x then (match b.reb x with
      | some p => some (.node a k p.1, p.2)
      | none => leanT a k b)
    else none
theorem lean_facts {a b : Tr} {k : Int} {p : Tr × Nat} (h : leanT a k b = some p) : p.1 = ev (Tr.node a k b).ks ∧ p.2 = a.size + b.size + 1 ∧ 2 * (a.size + b.size + 1) < 3 * max a.size b.size := by
  unfold leanT at h
  split at h
  · rename_i hl
    cases h
    exact ⟨rfl, rfl, hl⟩
  · cases h
theorem lean_none {a b : Tr} {k : Int} (h : leanT a k b = none) : ¬ 2 * (a.size + b.size + 1) < 3 * max a.size b.size := by
  unfold leanT at h
  split at h
  · cases h
  · assumption
theorem reb_cases {x : Int} {a b : Tr} {k : Int} {p : Tr × Nat} (h : (Tr.node a k b).reb x = some p) :
    (x < k ∧ ∃ q, a.reb x = some q ∧ p = (.node q.1 k b, q.2)) ∨ (k < x ∧ ∃ q, b.reb x = some q ∧ p = (.node a k q.1, q.2)) ∨ leanT a k b = some p := by
  unfold Tr.reb at h
  split at h
  · rename_i hx
    split at h
    · rename_i q hq
      cases h
      exact .inl ⟨hx, q, hq, rfl⟩
    · exact .inr (.inr h)
  · split at h
    · rename_i hx
      split at h
      · rename_i q hq
        cases h
        exact .inr (.inl ⟨hx, q, hq, rfl⟩)
      · exact .inr (.inr h)
    · cases h
theorem reb_ks {x : Int} : ∀ {t : Tr} {p : Tr × Nat}, t.reb x = some p → p.1.ks = t.ks := by
  intro t
  induction t with
  | nil => intro p h; cases h
  | node a k b iha ihb =>
    intro p h
    rcases reb_cases h with ⟨_, q, hq, rfl⟩ | ⟨_, q, hq, rfl⟩ | hl
    · simp only [Tr.ks]
      rw [iha hq]
    · simp only [Tr.ks]
      rw [ihb hq]
    · rw [(lean_facts hl).1, ev_ks _ _ (Nat.le_refl _)]
theorem reb_size {x : Int} {t : Tr} {p : Tr × Nat} (h : t.reb x = some p) : p.1.size = t.size := by rw [← ks_length, reb_ks h, ks_length]
theorem reb_phi {x : Int} : ∀ {t : Tr} {p : Tr × Nat}, t.reb x = some p → p.2 + 3 * p.1.phi ≤ 3 * t.phi := by
  intro t
  induction t with
  | nil => intro p h; cases h
  | node a k b iha ihb =>
    intro p h
    rcases reb_cases h with ⟨_, q, hq, rfl⟩ | ⟨_, q, hq, rfl⟩ | hl
    · have h1 := iha hq
      have h2 := reb_size hq
      simp only [Tr.phi]
      rw [h2]
      omega
    · have h1 := ihb hq
      have h2 := reb_size hq
      simp only [Tr.phi]
      rw [h2]
      omega
    · obtain ⟨h1, h2, h3⟩ := lean_facts hl
      rw [h1, h2, ev_phi _ _ (Nat.le_refl _)]
      simp only [Tr.phi]
      omega
theorem reb_none {x : Int} : ∀ {t : Tr}, Up t.ks → x ∈ t.ks → t.reb x = none → 3 ^ t.dpx x ≤ t.size * 2 ^ t.dpx x := by
  intro t
  induction t with
  | nil => intro _ h; simp [Tr.ks] at h
  | node a k b iha ihb =>
    intro hu hx h
    obtain ⟨u1, u2, u3, u4⟩ := up_node.1 hu
    rw [mem_node] at hx
    unfold Tr.reb at h
    unfold Tr.dpx
    simp only [Tr.size]
    by_cases h1 : x < k
    · rw [if_pos h1] at h ⊢
      have hxa : x ∈ a.ks := by
        rcases hx with hx | hx | hx
        · exact hx
        · omega
        · have := u4 x hx; omega
      cases hq : a.reb x with
      | some q => rw [hq] at h; cases h
      | none =>
        rw [hq] at h
        have h2 := iha u1 hxa hq
        have h3 := lean_none h
        generalize a.dpx x = d at *
        rw [Nat.pow_succ, Nat.pow_succ]
        have h4 : 3 * a.size ≤ 2 * (a.size + 1 + b.size) := by omega
        have h5 : 3 * a.size * 2 ^ d ≤ 2 * (a.size + 1 + b.size) * 2 ^ d := Nat.mul_le_mul_right _ h4
        have e1 : 3 * a.size * 2 ^ d = (a.size * 2 ^ d) * 3 := by rw [Nat.mul_assoc, Nat.mul_comm 3]
        have e2 : 2 * (a.size + 1 + b.size) * 2 ^ d = (a.size + 1 + b.size) * (2 ^ d * 2) := by rw [Nat.mul_comm 2, Nat.mul_assoc, Nat.mul_comm 2]
        rw [e1, e2] at h5
        have h6 : 3 ^ d * 3 ≤ (a.size * 2 ^ d) * 3 := Nat.mul_le_mul_right _ h2
        exact Nat.le_trans h6 h5
    · rw [if_neg h1] at h ⊢
      by_cases h1' : k < x
      · rw [if_pos h1'] at h ⊢
        have hxb : x ∈ b.ks := by
          rcases hx with hx | hx | hx
          · have := u3 x hx; omega
          · omega
          · exact hx
        cases hq : b.reb x with
        | some q => rw [hq] at h; cases h
        | none =>
          rw [hq] at h
          have h2 := ihb u2 hxb hq
          have h3 := lean_none h
          generalize b.dpx x = d at *
          rw [Nat.pow_succ, Nat.pow_succ]
          have h4 : 3 * b.size ≤ 2 * (a.size + 1 + b.size) := by omega
          have h5 : 3 * b.size * 2 ^ d ≤ 2 * (a.size + 1 + b.size) * 2 ^ d := Nat.mul_le_mul_right _ h4
          have e1 : 3 * b.size * 2 ^ d = (b.size * 2 ^ d) * 3 := by rw [Nat.mul_assoc, Nat.mul_comm 3]
          have e2 : 2 * (a.size + 1 + b.size) * 2 ^ d = (a.size + 1 + b.size) * (2 ^ d * 2) := by rw [Nat.mul_comm 2, Nat.mul_assoc, Nat.mul_comm 2]
          rw [e1, e2] at h5
          have h6 : 3 ^ d * 3 ≤ (b.size * 2 ^ d) * 3 := Nat.mul_le_mul_right _ h2
          exact Nat.le_trans h6 h5
      · rw [if_neg h1']
        simp
        omega

theorem dpx_ins {x : Int} : ∀ {t : Tr}, x ∉ t.ks → (t.ins x).dpx x ≤ t.tall := by
  intro t
  induction t with
  | nil => intro _; simp [Tr.ins, Tr.leaf, Tr.dpx, Tr.tall]
  | node a k b iha ihb =>
    intro h
    simp only [mem_node, not_or] at h
    unfold Tr.ins
    by_cases h1 : x < k
    · rw [if_pos h1, Tr.dpx, if_pos h1, Tr.tall]
      have := iha h.1
      omega
    · have h2 : k < x := by omega
      rw [if_neg h1, if_pos h2, Tr.dpx, if_neg h1, if_pos h2, Tr.tall]
      have := ihb h.2.2
      omega
theorem tall_ins {x : Int} : ∀ {t : Tr}, x ∉ t.ks → (t.ins x).tall ≤ max t.tall ((t.ins x).dpx x + 1) := by
  intro t
  induction t with
  | nil => intro _; simp [Tr.ins, Tr.leaf, Tr.tall]
  | node a k b iha ihb =>
    intro h
    simp only [mem_node, not_or] at h
    unfold Tr.ins
    by_cases h1 : x < k
    · rw [if_pos h1, Tr.dpx, if_pos h1, Tr.tall, Tr.tall]
      have := iha h.1
      omega
    · have h2 : k < x := by omega
      rw [if_neg h1, if_pos h2, Tr.dpx, if_neg h1, if_pos h2, Tr.tall, Tr.tall]
      have := ihb h.2.2
      omega
theorem phi_ins {x : Int} : ∀ {t : Tr}, x ∉ t.ks → (t.ins x).phi ≤ t.phi + (t.ins x).dpx x := by
  intro t
  induction t with
  | nil => intro _; simp [Tr.ins, Tr.leaf, Tr.phi, Tr.size]
  | node a k b iha ihb =>
    intro h
    simp only [mem_node, not_or] at h
    unfold Tr.ins
    by_cases h1 : x < k
    · rw [if_pos h1, Tr.dpx, if_pos h1, Tr.phi, Tr.phi, size_ins h.1]
      have := iha h.1
      omega
    · have h2 : k < x := by omega
      rw [if_neg h1, if_pos h2, Tr.dpx, if_neg h1, if_pos h2, Tr.phi, Tr.phi, size_ins h.2.2]
      have := ihb h.2.2
      omega
theorem reb_tall {x : Int} : ∀ {t : Tr} {L : Nat} {p : Tr × Nat}, x ∉ t.ks → t.tall ≤ L → (t.ins x).dpx x = L → (t.ins x).reb x = some p → p.1.tall ≤ L := by
  intro t
  induction t with
  | nil =>
    intro L p _ _ _ h
    unfold Tr.ins Tr.leaf Tr.reb at h
    rw [if_neg (by omega), if_neg (by omega)] at h
    cases h
  | node a k b iha ihb =>
    intro L p hx hL hd h
    simp only [mem_node, not_or] at hx
    rw [Tr.tall] at hL
    obtain ⟨M, rfl⟩ : ∃ M, L = M + 1 := ⟨L - 1, by omega⟩
    have ha2 := size_tall a
    have hb2 := size_tall b
    have pa : 2 ^ a.tall ≤ 2 ^ M := Nat.pow_le_pow_right (by decide) (by omega)
    have pb : 2 ^ b.tall ≤ 2 ^ M := Nat.pow_le_pow_right (by decide) (by omega)
    unfold Tr.ins at h hd
    by_cases h1 : x < k
    · rw [if_pos h1] at h hd
      rw [Tr.dpx, if_pos h1] at hd
      rcases reb_cases h with ⟨_, q, hq, rfl⟩ | ⟨h2, _⟩ | hl
      · have := iha (L := M) hx.1 (by omega) (by omega) hq
        show (Tr.node q.1 k b).tall ≤ _
        rw [Tr.tall]
        omega
      · omega
      · obtain ⟨e1, _, e3⟩ := lean_facts hl
        rw [e1]
        refine ev_tall _ _ ?_
        rw [size_ins hx.1] at e3
        rw [ks_length, Tr.size, size_ins hx.1, Nat.pow_succ]
        omega
    · have h2 : k < x := by omega
      rw [if_neg h1, if_pos h2] at h hd
      rw [Tr.dpx, if_neg h1, if_pos h2] at hd
      rcases reb_cases h with ⟨h3, _⟩ | ⟨_, q, hq, rfl⟩ | hl
      · omega
      · have := ihb (L := M) hx.2.2 (by omega) (by omega) hq
        show (Tr.node a k q.1).tall ≤ _
        rw [Tr.tall]
        omega
      · obtain ⟨e1, _, e3⟩ := lean_facts hl
        rw [e1]
        refine ev_tall _ _ ?_
        rw [size_ins hx.2.2] at e3
        rw [ks_length, Tr.size, size_ins hx.2.2, Nat.pow_succ]
        omega

theorem isNil_not {t : Tr} (h : ¬ t.isNil = true) : t ≠ .nil := fun e => h (by rw [e]; rfl)
theorem tall_pos {t : Tr} {x : Int} (h : x ∈ t.ks) : 0 < t.tall := by
  cases t with
  | nil => simp [Tr.ks] at h
  | node a k b => rw [Tr.tall]; omega
theorem del_all : ∀ {t : Tr} {x : Int}, Up t.ks → x ∈ t.ks → (t.del x).size + 1 = t.size ∧ (t.del x).tall ≤ t.tall ∧ (t.del x).phi + 1 ≤ t.phi + t.tall := by
  intro t
  induction t with
  | nil => intro x _ h; simp [Tr.ks] at h
  | node a k b iha ihb =>
    intro x hu hx
    obtain ⟨u1, u2, u3, u4⟩ := up_node.1 hu
    rw [mem_node] at hx
    unfold Tr.del
    by_cases h1 : x < k
    · rw [if_pos h1]
      have hxa : x ∈ a.ks := by
        rcases hx with hx | hx | hx
        · exact hx
        · omega
        · have := u4 x hx; omega
      obtain ⟨e1, e2, e3⟩ := iha u1 hxa
      have := tall_pos hxa
      simp only [Tr.size, Tr.tall, Tr.phi]
      omega
    · rw [if_neg h1]
      by_cases h2 : k < x
      · rw [if_pos h2]
        have hxb : x ∈ b.ks := by
          rcases hx with hx | hx | hx
          · have := u3 x hx; omega
          · omega
          · exact hx
        obtain ⟨e1, e2, e3⟩ := ihb u2 hxb
        have := tall_pos hxb
        simp only [Tr.size, Tr.tall, Tr.phi]
        omega
      · rw [if_neg h2]
        by_cases h3 : a.isNil = true
        · rw [if_pos h3]
          have ea := isNil_ks.1 h3
          subst ea
          have z1 : (Tr.node .nil k b).size = 0 + 1 + b.size := rfl
          have z2 : (Tr.node .nil k b).tall = max 0 b.tall + 1 := rfl
          have z3 : (Tr.node .nil k b).phi = 0 + b.phi + ((0 - b.size - 1) + (b.size - 0 - 1)) := rfl
          rw [z1, z2, z3]
          omega
        · rw [if_neg h3]
          by_cases h4 : b.isNil = true
          · rw [if_pos h4]
            have ea := isNil_ks.1 h4
            subst ea
            have z1 : (Tr.node a k .nil).size = a.size + 1 + 0 := rfl
            have z2 : (Tr.node a k .nil).tall = max a.tall 0 + 1 := rfl
            have z3 : (Tr.node a k .nil).phi = a.phi + 0 + ((a.size - 0 - 1) + (0 - a.size - 1)) := rfl
            rw [z1, z2, z3]
            omega
          · rw [if_neg h4]
            have hm := least_mem (isNil_not h4)
            obtain ⟨e1, e2, e3⟩ := ihb u2 hm
            have := tall_pos hm
            simp only [Tr.size, Tr.tall, Tr.phi]
            omega

def dpS (m : Nat) : Nat → Nat
  | 0 => 0
  | k + 1 => if 3 ^ (k + 1) ≤ m * 2 ^ (k + 1) then k + 1 else dpS m k
def dpst (m : Nat) : Nat := dpS m 30
theorem dpS_le (m : Nat) : ∀ k, dpS m k ≤ k
  | 0 => Nat.le_refl _
  | k + 1 => by
    rw [dpS]
    split
    · exact Nat.le_refl _
    · have := dpS_le m k
      omega
theorem dpS_ge {m : Nat} : ∀ {k d : Nat}, d ≤ k → 3 ^ d ≤ m * 2 ^ d → d ≤ dpS m k
  | 0, d, h, _ => by omega
  | k + 1, d, h, hd => by
    rw [dpS]
    split
    · exact h
    · rename_i hn
      rcases Nat.lt_or_ge d (k + 1) with h1 | h1
      · exact dpS_ge (by omega) hd
      · have : d = k + 1 := by omega
        subst this
        exact absurd hd hn
theorem dpS_is {m : Nat} (hm : 1 ≤ m) : ∀ k, 3 ^ dpS m k ≤ m * 2 ^ dpS m k
  | 0 => by simpa [dpS] using hm
  | k + 1 => by
    rw [dpS]
    split
    · assumption
    · exact dpS_is hm k
theorem dpst_mono {m n : Nat} (h : m ≤ n) : dpst m ≤ dpst n := by
  rcases Nat.eq_zero_or_pos m with h0 | h0
  · subst h0
    have : dpst 0 = 0 := by decide
    omega
  · exact dpS_ge (dpS_le m 30) (Nat.le_trans (dpS_is h0 30) (Nat.mul_le_mul_right _ h))
theorem pow_32 : ∀ d, 3 ^ d ≤ 2 ^ d * 2 ^ d
  | 0 => by decide
  | d + 1 => by
    have := pow_32 d
    rw [Nat.pow_succ, Nat.pow_succ]
    generalize 3 ^ d = x at *
    rw [Nat.mul_mul_mul_comm]
    generalize 2 ^ d * 2 ^ d = y at *
    omega
theorem dpst_lt {m : Nat} (hm : m ≤ 200) : m < 2 ^ (dpst m + 1) := by
  apply Classical.byContradiction
  intro hge
  have h1 : 3 ^ (dpst m + 1) ≤ m * 2 ^ (dpst m + 1) := Nat.le_trans (pow_32 _) (Nat.mul_le_mul_right _ (by omega))
  have h30 : dpst m + 1 ≤ 30 := by
    apply Classical.byContradiction
    intro h
    have h2 : 2 ^ 30 ≤ 2 ^ (dpst m + 1) := Nat.pow_le_pow_right (by decide) (by omega)
    omega
  have := dpS_ge (m := m) h30 h1
  unfold dpst at this
  omega

theorem dpst_200 : dpst 200 = 13 := by decide +kernel

structure GS where
  t : Tr
  most : Nat
  built : Nat
def goP (s : GS) (x : Int) : GS :=
  if dpst (max s.most (s.t.ins x).size) < (s.t.ins x).dpx x then
    (match (s.t.ins x).reb x with
      | some p => ⟨p.1, max s.most (s.t.ins x).size, s.built + p.2⟩
      | none => ⟨s.t.ins x, max s.most (s.t.ins x).size, s.built⟩)
  else ⟨s.t.ins x, max s.most (s.t.ins x).size, s.built⟩
def goC (s : GS) (x : Int) : GS :=
  if 3 * (s.t.del x).size < 2 * s.most then ⟨ev (s.t.del x).ks, (s.t.del x).size, s.built + (s.t.del x).size⟩ else ⟨s.t.del x, s.most, s.built⟩
structure GI (s : GS) (came went top : Nat) : Prop where
  up : Up s.t.ks
  size : s.t.size ≤ s.most
  most : s.most ≤ top
  cap : top ≤ 200
  tall : s.t.tall ≤ dpst s.most + 1
  work : s.built + 3 * s.t.phi + 2 * (s.most - s.t.size) ≤ 3 * ((came + went) * (dpst top + 1))
theorem GI.start : GI ⟨.nil, 0, 0⟩ 0 0 0 := ⟨by simp [Tr.ks, Up], Nat.le_refl _, Nat.le_refl _, by decide, Nat.zero_le _, by simp [Tr.phi, Tr.size]⟩
theorem work_more {W n T D d : Nat} (h : W ≤ 3 * (n * (T + 1))) (hT : T ≤ D) (hd : d ≤ 3 * (D + 1)) : W + d ≤ 3 * ((n + 1) * (D + 1)) := by
  have h1 : n * (T + 1) ≤ n * (D + 1) := Nat.mul_le_mul_left _ (by omega)
  rw [Nat.add_mul, Nat.one_mul]
  omega
theorem GI.put {s : GS} {came went top : Nat} {x : Int} (h : GI s came went top) (hx : x ∉ s.t.ks) (h2 : s.t.size + 1 ≤ 200) : GI (goP s x) (came + 1) went (max top (s.t.size + 1)) := by
  have hs := size_ins hx
  have hd := dpx_ins hx
  have ht := tall_ins hx
  have hf := phi_ins hx
  have hu := up_ins (x := x) h.up
  have hsz := h.size
  have hmo := h.most
  have hto := h.cap
  have hta := h.tall
  have hwo := h.work
  obtain ⟨m, hm⟩ : ∃ m, max s.most (s.t.ins x).size = m := ⟨_, rfl⟩
  rw [hs] at hm
  have hD1 : dpst s.most ≤ dpst m := dpst_mono (by omega)
  have hD2 : dpst m ≤ dpst (max top (s.t.size + 1)) := dpst_mono (by omega)
  have hD3 : dpst top ≤ dpst (max top (s.t.size + 1)) := dpst_mono (by omega)
  have hwork : ∀ b f : Nat, b + 3 * f ≤ s.built + 3 * (s.t.ins x).phi → b + 3 * f + 2 * (m - (s.t.size + 1)) ≤ 3 * ((came + 1 + went) * (dpst (max top (s.t.size + 1)) + 1)) := fun b f hbf => by
    have := work_more (d := 3 * (dpst (max top (s.t.size + 1)) + 1)) hwo hD3 (Nat.le_refl _)
    rw [show came + 1 + went = came + went + 1 by omega]
    omega
  unfold goP
  rw [hs, hm]
  by_cases hdp : dpst m < (s.t.ins x).dpx x
  · rw [if_pos hdp]
    cases hr : (s.t.ins x).reb x with
    | none =>
      exfalso
      have h3 := reb_none hu (mem_ins.2 (.inl rfl)) hr
      have h30 : (s.t.ins x).dpx x ≤ 30 := by
        have h4 : s.t.tall ≤ dpst s.most + 1 := hta
        have h5 : dpst s.most ≤ dpst 200 := dpst_mono (by omega)
        have h6 := dpst_200
        omega
      have h4 := dpS_ge h30 h3
      have h5 : dpst (s.t.ins x).size ≤ dpst m := dpst_mono (by omega)
      unfold dpst at h5 hdp
      omega
    | some p =>
      have e1 := reb_size hr
      have e2 := reb_phi hr
      have e3 := reb_tall hx (show s.t.tall ≤ dpst m + 1 by omega) (by omega) hr
      refine ⟨by rw [reb_ks hr]; exact hu, by show p.1.size ≤ m; omega, by show m ≤ _; omega, by omega, e3, ?_⟩
      show s.built + p.2 + 3 * p.1.phi + 2 * (m - p.1.size) ≤ _
      rw [e1, hs]
      exact hwork _ _ (by omega)
  · rw [if_neg hdp]
    refine ⟨hu, by show (s.t.ins x).size ≤ m; omega, by show m ≤ _; omega, by omega, by show (s.t.ins x).tall ≤ dpst m + 1; omega, ?_⟩
    show s.built + 3 * (s.t.ins x).phi + 2 * (m - (s.t.ins x).size) ≤ _
    rw [hs]
    exact hwork _ _ (Nat.le_refl _)
theorem GI.cut {s : GS} {came went top : Nat} {x : Int} (h : GI s came went top) (hx : x ∈ s.t.ks) : GI (goC s x) came (went + 1) top := by
  obtain ⟨h1, h2, h3⟩ := del_all h.up hx
  have hsz := h.size
  have hmo := h.most
  have hto := h.cap
  have hta := h.tall
  have hD : dpst s.most ≤ dpst top := dpst_mono hmo
  have hw := work_more (d := 3 * (dpst top + 1)) h.work (Nat.le_refl _) (Nat.le_refl _)
  have hu := up_del h.up x
  unfold goC
  by_cases hc : 3 * (s.t.del x).size < 2 * s.most
  · rw [if_pos hc]
    refine ⟨by rw [ev_ks _ _ (Nat.le_refl _)]; exact hu, by rw [ev_size, ks_length]; exact Nat.le_refl _, by show (s.t.del x).size ≤ top; omega, hto, ?_, ?_⟩
    · refine ev_tall _ _ ?_
      rw [ks_length]
      exact dpst_lt (by omega)
    · show s.built + (s.t.del x).size + 3 * (ev (s.t.del x).ks).phi + 2 * ((s.t.del x).size - (ev (s.t.del x).ks).size) ≤ _
      rw [ev_phi _ _ (Nat.le_refl _), ev_size, ks_length, ← Nat.add_assoc]
      omega
  · rw [if_neg hc]
    refine ⟨hu, by show (s.t.del x).size ≤ s.most; omega, hmo, hto, by show (s.t.del x).tall ≤ dpst s.most + 1; omega, ?_⟩
    show s.built + 3 * (s.t.del x).phi + 2 * (s.most - (s.t.del x).size) ≤ _
    rw [← Nat.add_assoc]
    omega

theorem sp_tall (t : Tr) : ∀ d i, i < t.size → dp (t.sp d) i < d + t.tall := by
  induction t with
  | nil => intro d i h; simp [Tr.size] at h
  | node a k b iha ihb =>
    intro d i h
    simp only [Tr.size] at h
    simp only [Tr.sp, Tr.tall]
    rcases Nat.lt_trichotomy i a.size with h1 | h1 | h1
    · rw [dp_left (by rw [sp_length]; exact h1)]
      have := iha (d + 1) i h1
      omega
    · have := dp_mid (a.sp (d + 1)) (b.sp (d + 1)) (k, d)
      rw [sp_length] at this
      rw [h1, this]
      show d < _
      omega
    · rw [dp_right (by rw [sp_length]; omega), sp_length]
      have e : dp ((k, d) :: b.sp (d + 1)) (i - a.size) = dp (b.sp (d + 1)) (i - a.size - 1) := by
        obtain ⟨m, hm⟩ : ∃ m, i - a.size = m + 1 := ⟨i - a.size - 1, by omega⟩
        rw [hm]; simp [dp]
      rw [e]
      have := ihb (d + 1) (i - a.size - 1) (by omega)
      omega
theorem sp_tall_has (t : Tr) : ∀ d, 0 < t.size → ∃ i, i < t.size ∧ dp (t.sp d) i + 1 = d + t.tall := by
  induction t with
  | nil => intro d h; simp [Tr.size] at h
  | node a k b iha ihb =>
    intro d _
    have hmid : dp ((Tr.node a k b).sp d) a.size = d := (sp_root a b k d).1
    by_cases ha : a.tall = 0 ∧ b.tall = 0
    · refine ⟨a.size, by simp only [Tr.size]; omega, ?_⟩
      rw [hmid, Tr.tall]
      omega
    · have pos : ∀ s : Tr, 0 < s.tall → 0 < s.size := fun s hs => by
        cases s with
        | nil => simp [Tr.tall] at hs
        | node x y z => simp only [Tr.size]; omega
      by_cases hab : b.tall ≤ a.tall
      · obtain ⟨i, hi, he⟩ := iha (d + 1) (pos a (by omega))
        refine ⟨i, by simp only [Tr.size]; omega, ?_⟩
        simp only [Tr.sp, Tr.tall]
        rw [dp_left (by rw [sp_length]; exact hi)]
        omega
      · obtain ⟨i, hi, he⟩ := ihb (d + 1) (pos b (by omega))
        refine ⟨a.size + 1 + i, by simp only [Tr.size]; omega, ?_⟩
        simp only [Tr.sp, Tr.tall]
        rw [dp_right (by rw [sp_length]; omega), sp_length]
        have e : dp ((k, d) :: b.sp (d + 1)) (a.size + 1 + i - a.size) = dp (b.sp (d + 1)) i := by
          rw [show a.size + 1 + i - a.size = i + 1 by omega]
          simp [dp]
        rw [e]
        omega

end Go.Proofs.YtpnjnedfcdppaaaGreatDoor

/-
  TREES IN WHICH WHO RANKS HIGHER STANDS ABOVE: plain mathematics. Nothing of the program.
-/
namespace Go.Proofs.YtpnjnedfcdppaaaGreatDoor

def Hp : Tr → PL → Prop
  | .nil, l => l = []
  | .node a k b, l => ∃ la v lb, l = la ++ (k, v) :: lb ∧ Hp a la ∧ Hp b lb ∧ (∀ p ∈ la, p.2 < v) ∧ (∀ p ∈ lb, p.2 ≤ v)
theorem hp_len {t : Tr} : ∀ {l : PL}, Hp t l → l.length = t.size := by
  induction t with
  | nil => intro l h; rw [show l = [] from h]; rfl
  | node a k b iha ihb =>
    rintro l ⟨la, v, lb, rfl, ha, hb, _, _⟩
    simp [Tr.size, iha ha, ihb hb]
    omega
theorem hp_ks {t : Tr} : ∀ {l : PL}, Hp t l → t.ks = l.map Prod.fst := by
  induction t with
  | nil => intro l h; rw [show l = [] from h]; rfl
  | node a k b iha ihb =>
    rintro l ⟨la, v, lb, rfl, ha, hb, _, _⟩
    simp [Tr.ks, iha ha, ihb hb]
def topTo (l : PL) : Nat → Nat
  | 0 => 0
  | k + 1 => if dp l (topTo l k) < dp l k then k else topTo l k
theorem topTo_lt (l : PL) : ∀ k, 0 < k → topTo l k < k
  | 0, h => absurd h (by omega)
  | 1, _ => by simp [topTo]
  | k + 2, _ => by
    have := topTo_lt l (k + 1) (by omega)
    rw [topTo]
    split <;> omega
theorem topTo_ahead {la lb : PL} {k v : Int} (h1 : ∀ p ∈ la, p.2 < v) : ∀ j, j < la.length → dp (la ++ (k, v) :: lb) j < v := by
  intro j hj
  rw [dp_left hj, dp_in hj]
  exact h1 _ (List.getElem_mem hj)
theorem topTo_behind {la lb : PL} {k v : Int} (h2 : ∀ p ∈ lb, p.2 ≤ v) : ∀ j, la.length < j → j < la.length + 1 + lb.length → dp (la ++ (k, v) :: lb) j ≤ v := by
  intro j hj hj2
  rw [dp_right (by omega)]
  obtain ⟨m, hm⟩ : ∃ m, j - la.length = m + 1 := ⟨j - la.length - 1, by omega⟩
  have hml : m < lb.length := by omega
  rw [hm]
  have : dp ((k, v) :: lb) (m + 1) = lb[m].2 := by simp [dp, List.getElem?_eq_getElem hml]
  rw [this]
  exact h2 _ (List.getElem_mem hml)
theorem topTo_at {l la lb : PL} {k v : Int} (e : l = la ++ (k, v) :: lb) (h1 : ∀ p ∈ la, p.2 < v) (h2 : ∀ p ∈ lb, p.2 ≤ v) : ∀ j, j ≤ lb.length → topTo l (la.length + 1 + j) = la.length := by
  subst e
  have hv : dp (la ++ (k, v) :: lb) la.length = v := dp_mid la lb (k, v)
  intro j
  induction j with
  | zero =>
    intro _
    rw [Nat.add_zero, topTo, hv]
    rcases Nat.eq_zero_or_pos la.length with h0 | h0
    · have hn := List.eq_nil_of_length_eq_zero h0
      subst hn
      simp [topTo, dp]
    · rw [if_pos (topTo_ahead h1 _ (topTo_lt _ _ h0))]
  | succ j ih =>
    intro hj
    rw [← Nat.add_assoc, topTo, ih (by omega), hv, if_neg]
    have := topTo_behind (la := la) (k := k) h2 (la.length + 1 + j) (by omega) (by omega)
    omega
theorem topTo_top {l la lb : PL} {k v : Int} (e : l = la ++ (k, v) :: lb) (h1 : ∀ p ∈ la, p.2 < v) (h2 : ∀ p ∈ lb, p.2 ≤ v) : topTo l l.length = la.length := by
  have := topTo_at e h1 h2 lb.length (Nat.le_refl _)
  rw [← this, e]
  congr 1
  simp
  omega

def Tr.above : Tr → Nat → Int → Nat → Int
  | .nil, _, r, _ => r
  | .node a _ b, o, r, i => if i < a.size then a.above o ((o + a.size : Nat) : Int) i else if i = a.size then r else b.above (o + a.size + 1) ((o + a.size : Nat) : Int) (i - a.size - 1)
def Out (l : PL) (u m : Nat) : Prop := dp l m < dp l u ∨ (dp l m = dp l u ∧ u < m)
def Anc (l : PL) (u i : Nat) : Prop := ∀ m, (u ≤ m ∨ i ≤ m) → (m ≤ u ∨ m ≤ i) → m ≠ u → Out l u m
theorem Anc.refl (l : PL) (u : Nat) : Anc l u u := fun m h1 h2 h3 => absurd (by omega : m = u) h3
theorem Anc.out {l : PL} {u i : Nat} (h : Anc l u i) (hne : u ≠ i) : Out l u i := h i (.inr (Nat.le_refl _)) (.inr (Nat.le_refl _)) (fun e => hne e.symm)
theorem Out.trans {l : PL} {a b c : Nat} (h : Out l a b) (h' : Out l b c) : Out l a c := by
  unfold Out at *
  omega
theorem Anc.trans {l : PL} {r q k : Nat} (h : Anc l r q) (h' : Anc l q k) : Anc l r k := by
  intro m h1 h2 h3
  by_cases hq : m = q
  · subst hq
    exact h m (.inr (Nat.le_refl _)) (.inr (Nat.le_refl _)) h3
  · by_cases hb : (r ≤ m ∨ q ≤ m) ∧ (m ≤ r ∨ m ≤ q)
    · exact h m hb.1 hb.2 h3
    · have h4 : Out l q m := h' m (by omega) (by omega) hq
      by_cases hrq : r = q
      · subst hrq
        exact h4
      · exact (h.out hrq).trans h4
structure Par (t : Tr) (l : PL) (i p : Nat) : Prop where
  lt : p < t.size
  ne : p ≠ i
  anc : Anc l p i
  all : ∀ u, u < t.size → u ≠ i → Anc l u i → Anc l u p
  deep : ∀ d, dp (t.sp d) p < dp (t.sp d) i
def lst (l : List Int) (x : Int) : Nat → Int
  | 0 => -1
  | k + 1 => if l[k]?.getD 0 < x then (k : Int) else lst l x k
def near (l : List Int) (i : Nat) : Int := lst l (l[i]?.getD 0) i
end Go.Proofs.YtpnjnedfcdppaaaGreatDoor

/-
  A TREE OF NODES IN MEMORY, each in a block of its own; a place in it (a cell that holds a node or nil), and what is around it.
-/
namespace Go.Proofs.YtpnjnedfcdppaaaGreatDoor
open Go.RowKit

inductive PT
  | nil
  | node (g : Nat) (l : PT) (k : Int) (r : PT)
def PT.tr : PT → Tr
  | .nil => .nil
  | .node _ l k r => .node l.tr k r.tr
def PT.bs : PT → List Nat
  | .nil => []
  | .node g l _ r => g :: (l.bs ++ r.bs)
def PT.q : PT → Option Addr
  | .nil => none
  | .node g _ _ _ => some ⟨g, 0, none⟩
abbrev PT.v (t : PT) : Value := .pointer t.q
def NB (w : World) (g : Nat) (k : Int) (x y : Value) : Prop := w.heap[g]? = some (.cells #[I k, x, y] 111 (0, 0))
theorem NB.facts {w : World} {g : Nat} {k : Int} {x y : Value} (h : NB w g k x y) :
    (w.cell? ⟨g, 0, none⟩ = some (I k) ∧ w.cell? ⟨g, 1, none⟩ = some x ∧ w.cell? ⟨g, 2, none⟩ = some y) ∧ (w.frozen? ⟨g, 0, none⟩ = false ∧ w.frozen? ⟨g, 1, none⟩ = false ∧ w.frozen? ⟨g, 2, none⟩ = false) := by
  unfold NB at h
  refine ⟨⟨?_, ?_, ?_⟩, ?_, ?_, ?_⟩ <;> simp [World.cell?, World.frozen?, h]
theorem NB.keep {w w' : World} {g : Nat} {k : Int} {x y : Value} (h : NB w g k x y) (e : w'.heap[g]? = w.heap[g]?) : NB w' g k x y := e.trans h
theorem NB.lt {w : World} {g : Nat} {k : Int} {x y : Value} (h : NB w g k x y) : g < w.heap.size := (Array.getElem?_eq_some_iff.1 h).1
theorem NB.set0 {w : World} {g : Nat} {k : Int} {x y : Value} (h : NB w g k x y) (k' : Int) : NB (w.setCell ⟨g, 0, none⟩ (I k')) g k' x y := by
  unfold NB at h ⊢
  rw [heap_setCell_same w g 0 _ _ _ h]
  rfl
theorem NB.set1 {w : World} {g : Nat} {k : Int} {x y : Value} (h : NB w g k x y) (x' : Value) : NB (w.setCell ⟨g, 1, none⟩ x') g k x' y := by
  unfold NB at h ⊢
  rw [heap_setCell_same w g 1 _ _ _ h]
  rfl
theorem NB.set2 {w : World} {g : Nat} {k : Int} {x y : Value} (h : NB w g k x y) (y' : Value) : NB (w.setCell ⟨g, 2, none⟩ y') g k x y' := by
  unfold NB at h ⊢
  rw [heap_setCell_same w g 2 _ _ _ h]
  rfl
def PT.Lay (w : World) : PT → Prop
  | .nil => True
  | .node g l k r => NB w g k l.v r.v ∧ l.Lay w ∧ r.Lay w
theorem PT.Lay.keep {w w' : World} : ∀ {t : PT}, t.Lay w → (∀ x ∈ t.bs, w'.heap[x]? = w.heap[x]?) → t.Lay w'
  | .nil, _, _ => trivial
  | .node g l k r, h, hx => ⟨h.1.keep (hx g (by simp [PT.bs])), PT.Lay.keep h.2.1 (fun x h' => hx x (by simp [PT.bs, h'])), PT.Lay.keep h.2.2 (fun x h' => hx x (by simp [PT.bs, h']))⟩
theorem PT.Lay.lt {w : World} : ∀ {t : PT}, t.Lay w → ∀ x ∈ t.bs, x < w.heap.size
  | .nil, _, x, hx => by simp [PT.bs] at hx
  | .node g l k r, h, x, hx => by
    simp only [PT.bs, List.mem_cons, List.mem_append] at hx
    rcases hx with rfl | hx | hx
    · exact h.1.lt
    · exact h.2.1.lt x hx
    · exact h.2.2.lt x hx

inductive PC
  | top
  | left (u : PC) (g : Nat) (k : Int) (r : PT)
  | right (u : PC) (g : Nat) (l : PT) (k : Int)
def PC.fill : PC → Tr → Tr
  | .top, t => t
  | .left u _ k r, t => u.fill (.node t k r.tr)
  | .right u _ l k, t => u.fill (.node l.tr k t)
def PC.bs (T : Nat) : PC → List Nat
  | .top => [T]
  | .left u g _ r => g :: (r.bs ++ u.bs T)
  | .right u g l _ => g :: (l.bs ++ u.bs T)
def PC.ad (T : Nat) : PC → Addr
  | .top => ⟨T, 0, none⟩
  | .left _ g _ _ => ⟨g, 1, none⟩
  | .right _ g _ _ => ⟨g, 2, none⟩
def TB (w : World) (T : Nat) (v : Value) : Prop := w.heap[T]? = some (.cells #[v] 109 (0, 0))
theorem TB.facts {w : World} {T : Nat} {v : Value} (h : TB w T v) : w.cell? ⟨T, 0, none⟩ = some v ∧ w.frozen? ⟨T, 0, none⟩ = false := by
  unfold TB at h
  constructor <;> simp [World.cell?, World.frozen?, h]
theorem TB.set {w : World} {T : Nat} {v : Value} (h : TB w T v) (v' : Value) : TB (w.setCell ⟨T, 0, none⟩ v') T v' := by
  unfold TB at h ⊢
  rw [heap_setCell_same w T 0 _ _ _ h]
  rfl
def PC.Lay (w : World) (T : Nat) : PC → Value → Prop
  | .top, v => TB w T v
  | .left u g k r, v => NB w g k v r.v ∧ r.Lay w ∧ u.Lay w T (.pointer (some ⟨g, 0, none⟩))
  | .right u g l k, v => NB w g k l.v v ∧ l.Lay w ∧ u.Lay w T (.pointer (some ⟨g, 0, none⟩))
theorem PC.Lay.keep {w w' : World} {T : Nat} : ∀ {c : PC} {v : Value}, c.Lay w T v → (∀ x ∈ c.bs T, w'.heap[x]? = w.heap[x]?) → c.Lay w' T v
  | .top, _, h, hx => (hx T (by simp [PC.bs])).trans h
  | .left u g k r, v, h, hx => ⟨h.1.keep (hx g (by simp [PC.bs])), h.2.1.keep (fun x h' => hx x (by simp [PC.bs, h'])), PC.Lay.keep h.2.2 (fun x h' => hx x (by simp [PC.bs, h']))⟩
  | .right u g l k, v, h, hx => ⟨h.1.keep (hx g (by simp [PC.bs])), h.2.1.keep (fun x h' => hx x (by simp [PC.bs, h'])), PC.Lay.keep h.2.2 (fun x h' => hx x (by simp [PC.bs, h']))⟩
theorem PC.Lay.lt {w : World} {T : Nat} : ∀ {c : PC} {v : Value}, c.Lay w T v → ∀ x ∈ c.bs T, x < w.heap.size
  | .top, _, h, x, hx => by
    simp only [PC.bs, List.mem_singleton] at hx
    subst hx
    exact (Array.getElem?_eq_some_iff.1 h).1
  | .left u g k r, v, h, x, hx => by
    simp only [PC.bs, List.mem_cons, List.mem_append] at hx
    rcases hx with rfl | hx | hx
    · exact h.1.lt
    · exact h.2.1.lt x hx
    · exact PC.Lay.lt h.2.2 x hx
  | .right u g l k, v, h, x, hx => by
    simp only [PC.bs, List.mem_cons, List.mem_append] at hx
    rcases hx with rfl | hx | hx
    · exact h.1.lt
    · exact h.2.1.lt x hx
    · exact PC.Lay.lt h.2.2 x hx
theorem PC.Lay.cell {w : World} {T : Nat} {c : PC} {v : Value} (h : c.Lay w T v) : w.cell? (c.ad T) = some v ∧ w.frozen? (c.ad T) = false := by
  cases c with
  | top => exact h.facts
  | left u g k r => exact ⟨h.1.facts.1.2.1, h.1.facts.2.2.1⟩
  | right u g l k => exact ⟨h.1.facts.1.2.2, h.1.facts.2.2.2⟩
theorem PC.ad_none (T : Nat) (c : PC) : ∃ b o, c.ad T = ⟨b, o, none⟩ ∧ b ∈ c.bs T := by
  cases c with
  | top => exact ⟨_, _, rfl, by simp [PC.bs]⟩
  | left u g k r => exact ⟨_, _, rfl, by simp [PC.bs]⟩
  | right u g l k => exact ⟨_, _, rfl, by simp [PC.bs]⟩

structure Rep (B : Nat) (w : World) (T : Nat) (c : PC) (t : PT) : Prop where
  ctx : c.Lay w T t.v
  lay : t.Lay w
  nd : (t.bs ++ c.bs T).Nodup
  ge : ∀ x ∈ t.bs ++ c.bs T, B ≤ x

theorem perm_l (g : Nat) (l r C : List Nat) : (l ++ (g :: (r ++ C))).Perm ((g :: (l ++ r)) ++ C) := by
  have : (g :: (l ++ r)) ++ C = g :: (l ++ (r ++ C)) := by simp
  rw [this]
  exact List.perm_middle
theorem perm_r (g : Nat) (l r C : List Nat) : (r ++ (g :: (l ++ C))).Perm ((g :: (l ++ r)) ++ C) := by
  have : (g :: (l ++ r)) ++ C = g :: (l ++ (r ++ C)) := by simp
  rw [this]
  exact List.perm_middle.trans (List.Perm.cons _ (List.perm_append_comm_assoc _ _ _))
theorem Rep.left {B : Nat} {w : World} {T : Nat} {c : PC} {g : Nat} {l r : PT} {k : Int} (h : Rep B w T c (.node g l k r)) : Rep B w T (.left c g k r) l :=
  ⟨⟨h.lay.1, h.lay.2.2, h.ctx⟩, h.lay.2.1, ((perm_l g l.bs r.bs (c.bs T)).nodup_iff).2 h.nd, fun x hx => h.ge x ((perm_l g l.bs r.bs (c.bs T)).mem_iff.1 hx)⟩
theorem Rep.right {B : Nat} {w : World} {T : Nat} {c : PC} {g : Nat} {l r : PT} {k : Int} (h : Rep B w T c (.node g l k r)) : Rep B w T (.right c g l k) r :=
  ⟨⟨h.lay.1, h.lay.2.1, h.ctx⟩, h.lay.2.2, ((perm_r g l.bs r.bs (c.bs T)).nodup_iff).2 h.nd, fun x hx => h.ge x ((perm_r g l.bs r.bs (c.bs T)).mem_iff.1 hx)⟩
theorem Rep.up_left {B : Nat} {w : World} {T : Nat} {c : PC} {g : Nat} {l r : PT} {k : Int} (h : Rep B w T (.left c g k r) l) : Rep B w T c (.node g l k r) :=
  ⟨h.ctx.2.2, ⟨h.ctx.1, h.lay, h.ctx.2.1⟩, ((perm_l g l.bs r.bs (c.bs T)).nodup_iff).1 h.nd, fun x hx => h.ge x ((perm_l g l.bs r.bs (c.bs T)).mem_iff.2 hx)⟩
theorem Rep.up_right {B : Nat} {w : World} {T : Nat} {c : PC} {g : Nat} {l r : PT} {k : Int} (h : Rep B w T (.right c g l k) r) : Rep B w T c (.node g l k r) :=
  ⟨h.ctx.2.2, ⟨h.ctx.1, h.ctx.2.1, h.lay⟩, ((perm_r g l.bs r.bs (c.bs T)).nodup_iff).1 h.nd, fun x hx => h.ge x ((perm_r g l.bs r.bs (c.bs T)).mem_iff.2 hx)⟩
theorem Rep.up {B : Nat} {w : World} {T : Nat} {c : PC} : ∀ {t : PT}, Rep B w T c t → ∃ s : PT, Rep B w T .top s ∧ s.tr = c.fill t.tr := by
  induction c with
  | top => exact fun {t} h => ⟨t, h, rfl⟩
  | left u g k r ih => exact fun {t} h => ih h.up_left
  | right u g l k ih => exact fun {t} h => ih h.up_right
theorem Rep.lt {B : Nat} {w : World} {T : Nat} {c : PC} {t : PT} (h : Rep B w T c t) : ∀ x ∈ t.bs ++ c.bs T, x < w.heap.size := fun x hx => by
  rcases List.mem_append.1 hx with hx | hx
  · exact h.lay.lt x hx
  · exact h.ctx.lt x hx
theorem Rep.keep {B : Nat} {w w' : World} {T : Nat} {c : PC} {t : PT} (h : Rep B w T c t) (hx : ∀ x ∈ t.bs ++ c.bs T, w'.heap[x]? = w.heap[x]?) : Rep B w' T c t :=
  ⟨h.ctx.keep fun x h' => hx x (List.mem_append.2 (.inr h')), h.lay.keep fun x h' => hx x (List.mem_append.2 (.inl h')), h.nd, h.ge⟩
theorem Rep.below {B : Nat} {w w' : World} {T : Nat} {c : PC} {t : PT} (h : Rep B w T c t) (hb : Below w.heap.size w w') : Rep B w' T c t :=
  h.keep fun x hx => hb.block x (h.lt x hx)
theorem Rep.alloc {B : Nat} {w : World} {T : Nat} {c : PC} {t : PT} (h : Rep B w T c t) (o : Obj) : Rep B (w.alloc o) T c t := h.below ((Below.refl _ _).alloc (Nat.le_refl _) _)
theorem Rep.far {B : Nat} {w : World} {T : Nat} {c : PC} {t : PT} (h : Rep B w T c t) {p : Addr} (hp : p.block ∉ t.bs ++ c.bs T) (u : Value) : Rep B (w.setCell p u) T c t :=
  h.keep fun x hx => Below.heap_setCell w p u x (fun e => hp (by rw [← e]; exact hx))
theorem Rep.put {B : Nat} {w : World} {T : Nat} {c : PC} {v : Value} {t : PT} (hc : c.Lay w T v) (ht : t.Lay w) (hn : (t.bs ++ c.bs T).Nodup) (hg : ∀ x ∈ t.bs ++ c.bs T, B ≤ x) : Rep B (w.setCell (c.ad T) t.v) T c t := by
  have hd := (List.nodup_append.1 hn).2.2
  have hk : ∀ x, x ≠ (c.ad T).block → (w.setCell (c.ad T) t.v).heap[x]? = w.heap[x]? := fun x hx => Below.heap_setCell w _ _ x hx
  refine ⟨?_, ht.keep fun x hx => hk x (fun e => ?_), hn, hg⟩
  · cases c with
    | top => exact hc.set _
    | left u g k r =>
      have hnd := (List.nodup_append.1 hn).2.1
      simp only [PC.bs, List.nodup_cons, List.mem_append, not_or] at hnd
      exact ⟨hc.1.set1 _, hc.2.1.keep fun x hx => hk x (fun e => hnd.1.1 (by have e' : x = g := e; rw [← e']; exact hx)), hc.2.2.keep fun x hx => hk x (fun e => hnd.1.2 (by have e' : x = g := e; rw [← e']; exact hx))⟩
    | right u g l k =>
      have hnd := (List.nodup_append.1 hn).2.1
      simp only [PC.bs, List.nodup_cons, List.mem_append, not_or] at hnd
      exact ⟨hc.1.set2 _, hc.2.1.keep fun x hx => hk x (fun e => hnd.1.1 (by have e' : x = g := e; rw [← e']; exact hx)), hc.2.2.keep fun x hx => hk x (fun e => hnd.1.2 (by have e' : x = g := e; rw [← e']; exact hx))⟩
  · obtain ⟨b, o, eb, hb⟩ := c.ad_none T
    rw [eb] at e
    exact hd x hx b hb e
theorem Rep.key {B : Nat} {w : World} {T : Nat} {c : PC} {g : Nat} {l r : PT} {k : Int} (h : Rep B w T c (.node g l k r)) (k' : Int) : Rep B (w.setCell ⟨g, 0, none⟩ (I k')) T c (.node g l k' r) := by
  have hnd := h.nd
  simp only [PT.bs, List.cons_append, List.nodup_cons, List.mem_append, not_or] at hnd
  have hk : ∀ x, x ≠ g → (w.setCell ⟨g, 0, none⟩ (I k')).heap[x]? = w.heap[x]? := fun x hx => Below.heap_setCell w _ _ x hx
  refine ⟨h.ctx.keep fun x hx => hk x (fun e => hnd.1.2 (by rw [← e]; exact hx)), ⟨h.lay.1.set0 k', h.lay.2.1.keep fun x hx => hk x (fun e => hnd.1.1.1 (by rw [← e]; exact hx)), h.lay.2.2.keep fun x hx => hk x (fun e => hnd.1.1.2 (by rw [← e]; exact hx))⟩, h.nd, h.ge⟩
theorem Rep.blk {B : Nat} {w : World} {T : Nat} {c : PC} {t : PT} (h : Rep B w T c t) : B ≤ (c.ad T).block := by
  obtain ⟨b, o, eb, hb⟩ := c.ad_none T
  rw [eb]
  exact h.ge b (List.mem_append.2 (.inr hb))

end Go.Proofs.YtpnjnedfcdppaaaGreatDoor

/-
  A TREE'S SPOTS WHERE A KEY COMES, GOES, WHERE A PART IS BUILT ANEW: plain mathematics. Nothing of the program.
-/
namespace Go.Proofs.YtpnjnedfcdppaaaGreatDoor

theorem sp_mem_ge (t : Tr) : ∀ (d : Int) (q : Int × Int), q ∈ t.sp d → d ≤ q.2 := by
  induction t with
  | nil => intro d q h; simp [Tr.sp] at h
  | node a k b iha ihb =>
    intro d q h
    simp only [Tr.sp, List.mem_append, List.mem_cons] at h
    rcases h with h | h | h
    · have := iha (d + 1) q h; omega
    · rw [h]; exact Int.le_refl _
    · have := ihb (d + 1) q h; omega
theorem sp_mem_ks {t : Tr} {d : Int} {q : Int × Int} (h : q ∈ t.sp d) : q.1 ∈ t.ks := by
  rw [← sp_ks t d]
  exact List.mem_map_of_mem h
def lstD (l : PL) (d : Int) : Int := match l.getLast? with
  | some q => q.2 + 1
  | none => d
def hdD (l : PL) (d : Int) : Int := match l.head? with
  | some q => q.2 + 1
  | none => d
theorem lstD_le {l : PL} {d : Int} (h : ∀ q ∈ l, d ≤ q.2) : d ≤ lstD l d := by
  unfold lstD
  split
  · rename_i q hq
    have := h q (List.mem_of_getLast? hq)
    omega
  · exact Int.le_refl _
theorem hdD_le {l : PL} {d : Int} (h : ∀ q ∈ l, d ≤ q.2) : d ≤ hdD l d := by
  unfold hdD
  split
  · rename_i q hq
    have := h q (List.mem_of_head? hq)
    omega
  · exact Int.le_refl _
theorem lstD_nil (d : Int) : lstD [] d = d := rfl
theorem hdD_nil (d : Int) : hdD [] d = d := rfl
theorem lstD_ne {l : PL} (h : l ≠ []) (d e : Int) : lstD l d = lstD l e := by
  unfold lstD
  cases hl : l.getLast? with
  | none => exact absurd (List.getLast?_eq_none_iff.1 hl) h
  | some q => rfl
theorem hdD_ne {l : PL} (h : l ≠ []) (d e : Int) : hdD l d = hdD l e := by
  unfold hdD
  cases hl : l.head? with
  | none => exact absurd (List.head?_eq_none_iff.1 hl) h
  | some q => rfl
theorem lstD_app (l m : PL) (q : Int × Int) (d : Int) : lstD (l ++ q :: m) d = if m = [] then q.2 + 1 else lstD m d := by
  cases m with
  | nil => simp [lstD]
  | cons p m =>
    obtain ⟨z, hz⟩ : ∃ z, (p :: m).getLast? = some z := by
      cases h : (p :: m).getLast? with
      | none => exact absurd (List.getLast?_eq_none_iff.1 h) (by simp)
      | some z => exact ⟨z, rfl⟩
    rw [if_neg (by simp)]
    unfold lstD
    rw [List.getLast?_append, List.getLast?_cons_cons, hz]
    rfl
theorem hdD_app (l m : PL) (q : Int × Int) (d : Int) : hdD (l ++ q :: m) d = if l = [] then q.2 + 1 else hdD l d := by
  cases l with
  | nil => simp [hdD]
  | cons p l => simp [hdD]

theorem ins_spots {x : Int} : ∀ {t : Tr}, Up t.ks → x ∉ t.ks → ∀ d : Int, ∃ l1 l2, t.sp d = l1 ++ l2 ∧ (t.ins x).sp d = l1 ++ (x, d + ((t.ins x).dpx x : Int)) :: l2 ∧ (∀ q ∈ l1, q.1 < x) ∧ (∀ q ∈ l2, x < q.1) ∧ d + ((t.ins x).dpx x : Int) = max (lstD l1 d) (hdD l2 d) := by
  intro t
  induction t with
  | nil =>
    intro _ _ d
    refine ⟨[], [], rfl, ?_, by simp, by simp, ?_⟩
    · simp [Tr.ins, Tr.leaf, Tr.sp, Tr.dpx]
    · simp [Tr.ins, Tr.leaf, Tr.dpx, lstD, hdD]
  | node a k b iha ihb =>
    intro hu hx d
    obtain ⟨u1, u2, u3, u4⟩ := up_node.1 hu
    simp only [mem_node, not_or] at hx
    by_cases h1 : x < k
    · obtain ⟨l1, l2, e1, e2, e3, e4, e5⟩ := iha u1 hx.1 (d + 1)
      have hi : (Tr.node a k b).ins x = .node (a.ins x) k b := by rw [Tr.ins, if_pos h1]
      have hdp : ((Tr.node a k b).ins x).dpx x = (a.ins x).dpx x + 1 := by rw [hi, Tr.dpx, if_pos h1]
      have hdp' : d + ((((Tr.node a k b).ins x).dpx x : Nat) : Int) = d + 1 + ((a.ins x).dpx x : Int) := by rw [hdp]; omega
      have hge : ∀ q ∈ a.sp (d + 1), d + 1 ≤ q.2 := sp_mem_ge a (d + 1)
      refine ⟨l1, l2 ++ (k, d) :: b.sp (d + 1), by rw [Tr.sp, e1]; simp, ?_, e3, ?_, ?_⟩
      · rw [hdp', hi, Tr.sp, e2]; simp
      · intro q hq
        simp only [List.mem_append, List.mem_cons] at hq
        rcases hq with hq | hq | hq
        · exact e4 q hq
        · rw [hq]; exact h1
        · have := u4 q.1 (sp_mem_ks hq); omega
      · rw [hdp', e5, hdD_app]
        have hb1 : d + 1 ≤ lstD l1 (d + 1) := lstD_le fun q hq => hge q (by rw [e1]; simp [hq])
        have hb2 : d + 1 ≤ hdD l2 (d + 1) := hdD_le fun q hq => hge q (by rw [e1]; simp [hq])
        have hc1 : lstD l1 d = lstD l1 (d + 1) ∨ (lstD l1 d = d ∧ lstD l1 (d + 1) = d + 1) := by
          by_cases hl : l1 = []
          · subst hl; exact .inr ⟨rfl, rfl⟩
          · exact .inl (lstD_ne hl _ _)
        have hm2 : ∀ y, d + 1 ≤ y → hdD l2 (d + 1) = y → (l2 ≠ [] → d + 2 ≤ y) := by
          intro y _ hy hn
          cases l2 with
          | nil => exact absurd rfl hn
          | cons p m =>
            have := hge p (by rw [e1]; simp)
            simp [hdD] at hy
            omega
        by_cases hl2 : l2 = []
        · subst hl2
          rw [if_pos rfl, hdD_nil]
          show max (lstD l1 (d + 1)) (d + 1) = max (lstD l1 d) (d + 1)
          rcases hc1 with h | ⟨h, h'⟩
          · rw [h]
          · rw [h, h']; omega
        · rw [if_neg hl2, hdD_ne hl2 d (d + 1)]
          have := hm2 _ hb2 rfl hl2
          rcases hc1 with h | ⟨h, h'⟩
          · rw [h]
          · rw [h, h']; omega
    · have h2 : k < x := by omega
      obtain ⟨l1, l2, e1, e2, e3, e4, e5⟩ := ihb u2 hx.2.2 (d + 1)
      have hi : (Tr.node a k b).ins x = .node a k (b.ins x) := by rw [Tr.ins, if_neg h1, if_pos h2]
      have hdp : ((Tr.node a k b).ins x).dpx x = (b.ins x).dpx x + 1 := by rw [hi, Tr.dpx, if_neg h1, if_pos h2]
      have hdp' : d + ((((Tr.node a k b).ins x).dpx x : Nat) : Int) = d + 1 + ((b.ins x).dpx x : Int) := by rw [hdp]; omega
      have hge : ∀ q ∈ b.sp (d + 1), d + 1 ≤ q.2 := sp_mem_ge b (d + 1)
      refine ⟨a.sp (d + 1) ++ (k, d) :: l1, l2, by rw [Tr.sp, e1]; simp, ?_, ?_, e4, ?_⟩
      · rw [hdp', hi, Tr.sp, e2]; simp
      · intro q hq
        simp only [List.mem_append, List.mem_cons] at hq
        rcases hq with hq | hq | hq
        · have := u3 q.1 (sp_mem_ks hq); omega
        · rw [hq]; exact h2
        · exact e3 q hq
      · rw [hdp', e5, lstD_app]
        have hb1 : d + 1 ≤ lstD l1 (d + 1) := lstD_le fun q hq => hge q (by rw [e1]; simp [hq])
        have hb2 : d + 1 ≤ hdD l2 (d + 1) := hdD_le fun q hq => hge q (by rw [e1]; simp [hq])
        have hc2 : hdD l2 d = hdD l2 (d + 1) ∨ (hdD l2 d = d ∧ hdD l2 (d + 1) = d + 1) := by
          by_cases hl : l2 = []
          · subst hl; exact .inr ⟨rfl, rfl⟩
          · exact .inl (hdD_ne hl _ _)
        by_cases hl1 : l1 = []
        · subst hl1
          rw [if_pos rfl, lstD_nil]
          show max (d + 1) (hdD l2 (d + 1)) = max (d + 1) (hdD l2 d)
          rcases hc2 with h | ⟨h, h'⟩
          · rw [h]
          · rw [h, h']; omega
        · rw [if_neg hl1, lstD_ne hl1 d (d + 1)]
          have hm : d + 2 ≤ lstD l1 (d + 1) := by
            unfold lstD
            cases hq : l1.getLast? with
            | none => exact absurd (List.getLast?_eq_none_iff.1 hq) hl1
            | some q =>
              have := hge q (by rw [e1]; simp [List.mem_of_getLast? hq])
              show d + 2 ≤ q.2 + 1
              omega
          rcases hc2 with h | ⟨h, h'⟩
          · rw [h]
          · rw [h, h']; omega

def dAt (l : PL) (p : Nat) : Int := max (if 0 < p then dp l (p - 1) + 1 else 0) (if p < l.length then dp l p + 1 else 0)
theorem dAt_app (l1 l2 : PL) : dAt (l1 ++ l2) l1.length = max (lstD l1 0) (hdD l2 0) := by
  unfold dAt
  congr 1
  · cases h : l1.getLast? with
    | none =>
      have := List.getLast?_eq_none_iff.1 h
      subst this
      rfl
    | some q =>
      have hp : 0 < l1.length := List.length_pos_iff.2 (fun e => by subst e; simp at h)
      rw [if_pos hp, dp_left (by omega)]
      unfold lstD
      rw [h]
      rw [List.getLast?_eq_getElem?] at h
      show dp l1 _ + 1 = q.2 + 1
      simp [dp, h]
  · cases l2 with
    | nil => simp [hdD]
    | cons q m =>
      rw [if_pos (by simp), dp_right (Nat.le_refl _), Nat.sub_self]
      simp [dp, hdD]

theorem find_key {x : Int} : ∀ (t : Tr) (d : Int) (pre post : PL), Ctx 0 d pre post → Up t.ks → x ∈ t.ks →
    ∃ d' a b pre' post', Ctx 0 d' pre' post' ∧ Up (Tr.node a x b).ks ∧ pre ++ t.sp d ++ post = pre' ++ (Tr.node a x b).sp d' ++ post' ∧ pre ++ (t.del x).sp d ++ post = pre' ++ ((Tr.node a x b).del x).sp d' ++ post' := by
  intro t
  induction t with
  | nil => intro d pre post _ _ h; simp [Tr.ks] at h
  | node a k b iha ihb =>
    intro d pre post hc hu hx
    obtain ⟨u1, u2, u3, u4⟩ := up_node.1 hu
    rw [mem_node] at hx
    rcases Int.lt_trichotomy x k with h1 | h1 | h1
    · have hxa : x ∈ a.ks := by
        rcases hx with hx | hx | hx
        · exact hx
        · omega
        · have := u4 x hx; omega
      obtain ⟨d', a', b', pre', post', c1, c2, c3, c4⟩ := iha (d + 1) pre ((k, d) :: b.sp (d + 1) ++ post) (.left k b hc) u1 hxa
      refine ⟨d', a', b', pre', post', c1, c2, by rw [← c3]; simp [Tr.sp], ?_⟩
      rw [← c4, Tr.del, if_pos h1]
      simp [Tr.sp]
    · subst h1
      exact ⟨d, a, b, pre, post, hc, hu, rfl, rfl⟩
    · have hxb : x ∈ b.ks := by
        rcases hx with hx | hx | hx
        · have := u3 x hx; omega
        · omega
        · exact hx
      obtain ⟨d', a', b', pre', post', c1, c2, c3, c4⟩ := ihb (d + 1) (pre ++ a.sp (d + 1) ++ [(k, d)]) post (.right a k hc) u2 hxb
      refine ⟨d', a', b', pre', post', c1, c2, by rw [← c3]; simp [Tr.sp], ?_⟩
      rw [← c4, Tr.del, if_neg (by omega), if_pos h1]
      simp [Tr.sp]
theorem find_least : ∀ (b : Tr), b ≠ .nil → ∀ (d : Int) (pre post : PL), Ctx 0 d pre post →
    ∃ d' c post', Ctx 0 d' pre post' ∧ pre ++ b.sp d ++ post = pre ++ (Tr.node .nil b.least c).sp d' ++ post' ∧ pre ++ b.cutl.sp d ++ post = pre ++ c.sp d' ++ post' := by
  intro b
  induction b with
  | nil => intro h; exact absurd rfl h
  | node a k c iha _ =>
    intro _ d pre post hc
    by_cases ha : a = .nil
    · subst ha
      exact ⟨d, c, post, hc, by simp [Tr.least, Tr.isNil, Tr.sp], by simp [Tr.cutl, Tr.isNil]⟩
    · have hn : a.isNil = false := by cases a <;> simp_all [Tr.isNil]
      obtain ⟨d', c', post', c1, c2, c3⟩ := iha ha (d + 1) pre ((k, d) :: c.sp (d + 1) ++ post) (.left k c hc)
      refine ⟨d', c', post', c1, ?_, ?_⟩
      · rw [show (Tr.node a k c).least = a.least by simp [Tr.least, hn], ← c2]
        simp [Tr.sp]
      · rw [show (Tr.node a k c).cutl = .node a.cutl k c by simp [Tr.cutl, hn], ← c3]
        simp [Tr.sp]
theorem up_place {t : Tr} {d : Int} (hu : Up t.ks) {p : Nat} (hp : p < t.size) : ∀ i, i < p → ky (t.sp d) i < ky (t.sp d) p := by
  intro i hi
  rw [ks_ky t d i (by omega), ks_ky t d p hp]
  exact (List.pairwise_iff_getElem.1 hu) i p _ _ hi

def leansAt (l : PL) (i : Nat) : Prop := 2 * (toR l i - frR l i) < 3 * max (i - frR l i) (toR l i - i - 1)
inductive Clm (l : PL) : Nat → Int → Option (Nat × Nat × Int) → Prop
  | out {n : Nat} : Clm l n (-1) none
  | hit {n i : Nat} : i < l.length → leansAt l i → Clm l (n + 1) i (some (frR l i, toR l i, dp l i))
  | up {n i : Nat} {r : Option (Nat × Nat × Int)} : i < l.length → ¬ leansAt l i → Clm l n (par l i) r → Clm l (n + 1) i r
theorem At.leans {l : PL} {i : Nat} {d : Int} {a : Tr} {k : Int} {b : Tr} {pre post : PL} (h : At l i d a k b pre post) : leansAt l i ↔ 2 * (a.size + b.size + 1) < 3 * max a.size b.size := by
  have hp := h.part
  have hi := h.idx
  unfold leansAt
  rw [hp.1, hp.2]
  have e1 : i - pre.length = a.size := by omega
  have e2 : pre.length + (a.size + 1 + b.size) - i - 1 = b.size := by omega
  have e3 : pre.length + (a.size + 1 + b.size) - pre.length = a.size + b.size + 1 := by omega
  rw [e1, e2, e3]
theorem climb {x : Int} {l : PL} : ∀ (s : Tr) (d : Int) (pre post : PL), Ctx 0 d pre post → Up s.ks → x ∈ s.ks → l = pre ++ s.sp d ++ post →
    ∃ i r : Nat, i < l.length ∧ ky l i = x ∧ pre.length ≤ i ∧ i < pre.length + s.size ∧ (∃ a k b, s = .node a k b ∧ r = pre.length + a.size) ∧
      match s.reb x with
      | none => ∀ n R, Clm l n (par l r) R → ∃ m, m ≤ n + s.tall ∧ Clm l m (par l i) R
      | some p => ∃ (u : Tr) (e : Int) (p1 q1 : PL) (m : Nat), m ≤ s.tall ∧ Ctx 0 e p1 q1 ∧ 0 < u.size ∧ l = p1 ++ u.sp e ++ q1 ∧ pre ++ p.1.sp d ++ post = p1 ++ (ev u.ks).sp e ++ q1 ∧ p.2 = u.size ∧ Clm l m (par l i) (some (p1.length, p1.length + u.size, e)) := by
  intro s
  induction s with
  | nil => intro d pre post _ _ h; simp [Tr.ks] at h
  | node a k b iha ihb =>
    intro d pre post hc hu hx hl
    obtain ⟨u1, u2, u3, u4⟩ := up_node.1 hu
    rw [mem_node] at hx
    have hat : At l (pre.length + a.size) d a k b pre post := ⟨hc, hl, rfl⟩
    have hlen := hat.len
    have hroot := hat.root
    have hpart := hat.part
    have hleans := hat.leans
    have top : ∀ (n : Nat) (R), (leanT a k b = none → Clm l n (par l ((pre.length + a.size : Nat))) R) → match leanT a k b with
        | none => Clm l (n + 1) ((pre.length + a.size : Nat) : Int) R
        | some p => ∃ (u : Tr) (e : Int) (p1 q1 : PL), Ctx 0 e p1 q1 ∧ 0 < u.size ∧ l = p1 ++ u.sp e ++ q1 ∧ pre ++ p.1.sp d ++ post = p1 ++ (ev u.ks).sp e ++ q1 ∧ p.2 = u.size ∧ Clm l (n + 1) ((pre.length + a.size : Nat) : Int) (some (p1.length, p1.length + u.size, e)) := by
      intro n R hR
      cases hq : leanT a k b with
      | none => exact .up (by omega) (fun h => lean_none hq (hleans.1 h)) (hR hq)
      | some p =>
        obtain ⟨f1, f2, f3⟩ := lean_facts hq
        refine ⟨.node a k b, d, pre, post, hc, by simp only [Tr.size]; omega, hl, by rw [f1], by rw [f2]; simp only [Tr.size]; omega, ?_⟩
        have := Clm.hit (n := n) (l := l) (i := pre.length + a.size) (by omega) (hleans.2 f3)
        rw [hpart.1, hpart.2, hroot.1] at this
        exact this
    rcases Int.lt_trichotomy x k with h1 | h1 | h1
    · have hxa : x ∈ a.ks := by
        rcases hx with hx | hx | hx
        · exact hx
        · omega
        · have := u4 x hx; omega
      obtain ⟨i, r, hi, hk, hi1, hi2, ⟨a', k', b', ea, er⟩, hm⟩ := iha (d + 1) pre ((k, d) :: b.sp (d + 1) ++ post) (.left k b hc) u1 hxa (by rw [hl]; simp [Tr.sp])
      refine ⟨i, pre.length + a.size, hi, hk, hi1, by simp only [Tr.size]; omega, ⟨a, k, b, rfl, rfl⟩, ?_⟩
      have hpar : par l r = ((pre.length + a.size : Nat) : Int) := by
        subst ea
        have hll : LL l r (pre.length + (Tr.node a' k' b').size) d a' k' b' k b pre post := ⟨hc, hl, er, by simp only [Tr.size]⟩
        exact hll.par_i
      rw [hpar] at hm
      rw [Tr.reb, if_pos h1]
      cases hr : a.reb x with
      | some p =>
        rw [hr] at hm
        obtain ⟨u, e, p1, q1, m, g0, g1, g2, g3, g4, g5, g6⟩ := hm
        exact ⟨u, e, p1, q1, m, by simp only [Tr.tall]; omega, g1, g2, g3, by rw [← g4]; simp [Tr.sp], g5, g6⟩
      | none =>
        rw [hr] at hm
        show match leanT a k b with
          | none => _
          | some p => _
        cases hq : leanT a k b with
        | none =>
          intro n R hR
          have ht := top n R (fun _ => hR)
          rw [hq] at ht
          obtain ⟨m, hm1, hm2⟩ := hm (n + 1) R ht
          exact ⟨m, by simp only [Tr.tall]; omega, hm2⟩
        | some p =>
          have ht := top 0 none (fun h => by rw [hq] at h; cases h)
          rw [hq] at ht
          obtain ⟨u, e, p1, q1, g1, g2, g3, g4, g5, g6⟩ := ht
          obtain ⟨m, hm1, hm2⟩ := hm _ _ g6
          exact ⟨u, e, p1, q1, m, by simp only [Tr.tall]; omega, g1, g2, g3, g4, g5, hm2⟩
    · subst h1
      refine ⟨pre.length + a.size, pre.length + a.size, by omega, hroot.2, by omega, by simp only [Tr.size]; omega, ⟨a, x, b, rfl, rfl⟩, ?_⟩
      rw [Tr.reb, if_neg (Int.lt_irrefl _), if_neg (Int.lt_irrefl _)]
      exact fun n R h => ⟨n, by omega, h⟩
    · have hxb : x ∈ b.ks := by
        rcases hx with hx | hx | hx
        · have := u3 x hx; omega
        · omega
        · exact hx
      obtain ⟨i, r, hi, hk, hi1, hi2, ⟨a', k', b', ea, er⟩, hm⟩ := ihb (d + 1) (pre ++ a.sp (d + 1) ++ [(k, d)]) post (.right a k hc) u2 hxb (by rw [hl]; simp [Tr.sp])
      have e1 : (pre ++ a.sp (d + 1) ++ [(k, d)]).length = pre.length + a.size + 1 := by simp [sp_length]; omega
      rw [e1] at hi1 hi2 er
      refine ⟨i, pre.length + a.size, hi, hk, by omega, by simp only [Tr.size]; omega, ⟨a, k, b, rfl, rfl⟩, ?_⟩
      have hpar : par l r = ((pre.length + a.size : Nat) : Int) := by
        subst ea
        have hrr : RR l (pre.length + a.size) r d a k a' k' b' pre post := ⟨hc, hl, rfl, by omega⟩
        exact hrr.par_j
      rw [hpar] at hm
      rw [Tr.reb, if_neg (by omega), if_pos h1]
      cases hr : b.reb x with
      | some p =>
        rw [hr] at hm
        obtain ⟨u, e, p1, q1, m, g0, g1, g2, g3, g4, g5, g6⟩ := hm
        exact ⟨u, e, p1, q1, m, by simp only [Tr.tall]; omega, g1, g2, g3, by rw [← g4]; simp [Tr.sp], g5, g6⟩
      | none =>
        rw [hr] at hm
        show match leanT a k b with
          | none => _
          | some p => _
        cases hq : leanT a k b with
        | none =>
          intro n R hR
          have ht := top n R (fun _ => hR)
          rw [hq] at ht
          obtain ⟨m, hm1, hm2⟩ := hm (n + 1) R ht
          exact ⟨m, by simp only [Tr.tall]; omega, hm2⟩
        | some p =>
          have ht := top 0 none (fun h => by rw [hq] at h; cases h)
          rw [hq] at ht
          obtain ⟨u, e, p1, q1, g1, g2, g3, g4, g5, g6⟩ := ht
          obtain ⟨m, hm1, hm2⟩ := hm _ _ g6
          exact ⟨u, e, p1, q1, m, by simp only [Tr.tall]; omega, g1, g2, g3, g4, g5, hm2⟩
theorem climb_all {x : Int} {t : Tr} (hu : Up t.ks) (hx : x ∈ t.ks) {p : Nat} (hp : p < t.size) (hk : ky (t.sp 0) p = x) : ∃ m,
      match t.reb x with
      | none => Clm (t.sp 0) m (par (t.sp 0) p) none
      | some q => ∃ (u : Tr) (e : Int) (p1 q1 : PL), Ctx 0 e p1 q1 ∧ 0 < u.size ∧ t.sp 0 = p1 ++ u.sp e ++ q1 ∧ q.1.sp 0 = p1 ++ (ev u.ks).sp e ++ q1 ∧ q.2 = u.size ∧ Clm (t.sp 0) m (par (t.sp 0) p) (some (p1.length, p1.length + u.size, e)) := by
  obtain ⟨i, r, hi, hki, h1, h2, ⟨a, k, b, et, er⟩, hm⟩ := climb (l := t.sp 0) t 0 [] [] .hole hu hx (by simp)
  have hip : i = p := by
    rw [sp_length] at hi
    rcases Nat.lt_trichotomy i p with h | h | h
    · have := up_place (d := 0) hu hp i h; omega
    · exact h
    · have := up_place (d := 0) hu hi p h; omega
  subst hip
  cases hr : t.reb x with
  | none =>
    rw [hr] at hm
    have hroot : par (t.sp 0) r = -1 := by
      refine par_root rfl (by rw [sp_length, er, et]; simp [Tr.size]; omega) ?_
      rw [et, er]
      simpa using (sp_root a b k 0).1
    rw [hroot] at hm
    obtain ⟨m, _, hm2⟩ := hm 0 none .out
    exact ⟨m, hm2⟩
  | some q =>
    rw [hr] at hm
    obtain ⟨u, e, p1, q1, m, _, g1, g2, g3, g4, g5, g6⟩ := hm
    exact ⟨m, u, e, p1, q1, g1, g2, g3, by simpa using g4, g5, g6⟩

end Go.Proofs.YtpnjnedfcdppaaaGreatDoor
