/-
  Joined texts: YtpnjnedfcdppaaaGreatDoorWords, YtpnjnedfcdppaaaGreatDoorSTree, YtpnjnedfcdppaaaGreatDoorSCtx, YtpnjnedfcdppaaaGreatDoorSPure.
-/
import Derived.WalkKit
import Derived.WalkSpells
import Derived.WalkLawsBesides
import Derived.Lib.Hide
/-
  WORDS: what it means that a slice of pairs, of ops, of answers, of numbers reads as a list; plain facts on them. Nothing of the program.
-/
namespace Go.Proofs.YtpnjnedfcdppaaaGreatDoor
open Go.RowKit

theorem ret_int {k : IntKind} {a b : Int} (h : a = b) : Ending.returned (.int k a) = .returned (.int k b) := by rw [h]

abbrev I (n : Int) : Value := .int .i64 n

/-- The slice value '.slice A n c' holds n elements of 's' cells each: element i's cell j is 'f i j'. Its block lies below B. -/
def Rd (w : World) (B s : Nat) (A : Option Addr) (n c : Nat) (f : Nat → Nat → Value) : Prop :=
  n ≤ c ∧ (0 < n → ∃ b off, A = some ⟨b, off, none⟩ ∧ b < B ∧ ∀ i, i < n → ∀ j, j < s → w.cell? ⟨b, off + (i * s + j), none⟩ = some (f i j))

theorem Rd.none_ {w : World} {B s c : Nat} {A : Option Addr} {f : Nat → Nat → Value} : Rd w B s A 0 c f := ⟨Nat.zero_le _, fun h => absurd h (by omega)⟩
theorem Rd.keep {w w' : World} {B B' s n c : Nat} {A : Option Addr} {f : Nat → Nat → Value} (h : Rd w B s A n c f) (hB : B ≤ B') (hk : ∀ p : Addr, p.block < B → w'.cell? p = w.cell? p) : Rd w' B' s A n c f :=
  ⟨h.1, fun hn => by
    obtain ⟨b, off, e, hb, hc⟩ := h.2 hn
    exact ⟨b, off, e, by omega, fun i hi j hj => (hk _ hb).trans (hc i hi j hj)⟩⟩
theorem Rd.below {w w' : World} {s n c : Nat} {A : Option Addr} {f : Nat → Nat → Value} (h : Rd w w.heap.size s A n c f) (hb : Below w.heap.size w w') : Rd w' w'.heap.size s A n c f :=
  h.keep hb.size fun _ hp => hb.cell hp

/-- pairs -/
abbrev PL := List (Int × Int)
def pf (l : PL) (i j : Nat) : Value := I (if j = 0 then (l[i]?.getD (0, 0)).1 else (l[i]?.getD (0, 0)).2)
/-- the slice reads as the list of pairs l -/
structure PS (w : World) (A : Option Addr) (n c : Nat) (l : PL) : Prop where
  len : l.length = n
  rd : Rd w w.heap.size 2 A n c (pf l)

theorem PS.below {w w' : World} {n c : Nat} {A : Option Addr} {l : PL} (h : PS w A n c l) (hb : Below w.heap.size w w') : PS w' A n c l := ⟨h.len, h.rd.below hb⟩
theorem PS.at_ {w : World} {n c : Nat} {A : Option Addr} {l : PL} (h : PS w A n c l) (hn : 0 < n) :
    ∃ b off, A = some ⟨b, off, none⟩ ∧ b < w.heap.size ∧ ∀ i (hi : i < n), w.cell? ⟨b, off + i * 2, none⟩ = some (I (l[i]'(by rw [h.len]; exact hi)).1) ∧ w.cell? ⟨b, off + (i * 2 + 1), none⟩ = some (I (l[i]'(by rw [h.len]; exact hi)).2) := by
  obtain ⟨b, off, e, hb, hc⟩ := h.rd.2 hn
  refine ⟨b, off, e, hb, fun i hi => ?_⟩
  have hl : i < l.length := by rw [h.len]; exact hi
  have h0 := hc i hi 0 (by omega)
  have h1 := hc i hi 1 (by omega)
  simp [pf, List.getElem?_eq_getElem hl] at h0 h1
  exact ⟨h0, h1⟩

theorem PS.alloc {w : World} {n c : Nat} {A : Option Addr} {l : PL} (h : PS w A n c l) (o : Obj) : PS (w.alloc o) A n c l := h.below ((Below.refl _ _).alloc (Nat.le_refl _) _)
theorem PS.drew {w : World} {n c : Nat} {A : Option Addr} {l : PL} (h : PS w A n c l) : PS w.drew A n c l := ⟨h.len, h.rd⟩
theorem PS.drewN {w : World} {n c : Nat} {A : Option Addr} {l : PL} (h : PS w A n c l) (k : Nat) : PS (w.drewN k) A n c l := ⟨h.len, h.rd⟩
theorem PS.far {w : World} {n c : Nat} {A : Option Addr} {l : PL} (h : PS w A n c l) {p : Addr} (hA : ∀ ad, A = some ad → ad.block ≠ p.block) (u : Value) : PS (w.setCell p u) A n c l := by
  refine ⟨h.len, h.rd.1, fun hn => ?_⟩
  obtain ⟨b, off, e, hb, hc⟩ := h.rd.2 hn
  refine ⟨b, off, e, by simpa [World.setCell] using hb, fun i hi j hj => ?_⟩
  rw [World.cell?_setCell_other]
  · exact hc i hi j hj
  · intro he
    exact hA _ e (by rw [he])
theorem below_drewN {B : Nat} {a w : World} (h : Below B a w) (n : Nat) : Below B a (w.drewN n) := ⟨h.os, h.tape, h.output, h.size, h.block⟩

theorem PS.low {w w' : World} {base n c : Nat} {A : Option Addr} {l : PL} (h : PS w A n c l) (hA : ∀ ad, A = some ad → ad.block < base) (hb : Below base w w') : PS w' A n c l := by
  refine ⟨h.len, h.rd.1, fun hn => ?_⟩
  obtain ⟨b, off, e, hlt, hc⟩ := h.rd.2 hn
  have hbb := hA _ e
  exact ⟨b, off, e, by have := hb.size; exact Nat.lt_of_lt_of_le hlt this, fun i hi j hj => (hb.cell (by exact hbb)).trans (hc i hi j hj)⟩
theorem below_next {w w1 w' : World} (h : Below w.heap.size w w1) (hb : Below w1.heap.size w1 w') : Below w.heap.size w w' := h.trans (hb.mono h.size)
theorem gbelow_on {w w1 w2 : World} (h : Below w.heap.size w w1) (h2 : Below w1.heap.size w1 w2) : Below w.heap.size w w2 := h.trans (h2.mono h.size)
theorem gbelow_box {w w1 : World} {o : Obj} (h : Below (w.alloc o).heap.size (w.alloc o) w1) : Below w.heap.size w w1 := ((Below.refl _ _).alloc (Nat.le_refl _) o).trans (h.mono (by simp))

/-- an answer -/
structure An where
  e : Int
  k : Int
  v : Int
  b : Bool
abbrev anV (a : An) : Value := .agg #[I a.e, I a.k, I a.v, .bool a.b]
abbrev an0 : An := ⟨0, 0, 0, false⟩

end Go.Proofs.YtpnjnedfcdppaaaGreatDoor

/-
  TREES AND THEIR SPOTS: plain mathematics. Nothing of the program.
-/
namespace Go.Proofs.YtpnjnedfcdppaaaGreatDoor

def ky (l : PL) (i : Nat) : Int := (l[i]?.getD (0, 0)).1
def dp (l : PL) (i : Nat) : Int := (l[i]?.getD (0, 0)).2

theorem dp_in {l : PL} {i : Nat} (h : i < l.length) : dp l i = l[i].2 := by simp [dp, List.getElem?_eq_getElem h]
theorem ky_in {l : PL} {i : Nat} (h : i < l.length) : ky l i = l[i].1 := by simp [ky, List.getElem?_eq_getElem h]
theorem dp_left {x y : PL} {i : Nat} (h : i < x.length) : dp (x ++ y) i = dp x i := by simp [dp, List.getElem?_append_left h]
theorem dp_right {x y : PL} {i : Nat} (h : x.length ≤ i) : dp (x ++ y) i = dp y (i - x.length) := by simp [dp, List.getElem?_append_right h]
theorem ky_left {x y : PL} {i : Nat} (h : i < x.length) : ky (x ++ y) i = ky x i := by simp [ky, List.getElem?_append_left h]
theorem ky_right {x y : PL} {i : Nat} (h : x.length ≤ i) : ky (x ++ y) i = ky y (i - x.length) := by simp [ky, List.getElem?_append_right h]
theorem dp_mid (x y : PL) (p : Int × Int) : dp (x ++ p :: y) x.length = p.2 := by simp [dp]
theorem ky_mid (x y : PL) (p : Int × Int) : ky (x ++ p :: y) x.length = p.1 := by simp [ky]
theorem pl_ext {l m : PL} (h : l.length = m.length) (hk : ∀ i, i < l.length → ky l i = ky m i) (hd : ∀ i, i < l.length → dp l i = dp m i) : l = m := by
  apply List.ext_getElem h
  intro i h1 h2
  have a := hk i h1
  have b := hd i h1
  rw [ky_in h1, ky_in h2] at a
  rw [dp_in h1, dp_in h2] at b
  exact Prod.ext a b

inductive Tr
  | nil
  | node (l : Tr) (k : Int) (r : Tr)
def Tr.sp : Tr → Int → PL
  | .nil, _ => []
  | .node a k b, d => a.sp (d + 1) ++ (k, d) :: b.sp (d + 1)
def Tr.size : Tr → Nat
  | .nil => 0
  | .node a _ b => a.size + 1 + b.size
theorem sp_length (t : Tr) (d : Int) : (t.sp d).length = t.size := by
  induction t generalizing d with
  | nil => rfl
  | node a k b iha ihb => simp [Tr.sp, Tr.size, iha, ihb]; omega
theorem sp_ge (t : Tr) (d : Int) : ∀ i, i < t.size → d ≤ dp (t.sp d) i := by
  induction t generalizing d with
  | nil => intro i h; simp [Tr.size] at h
  | node a k b iha ihb =>
    intro i h
    simp only [Tr.size] at h
    simp only [Tr.sp]
    rcases Nat.lt_trichotomy i a.size with h1 | h1 | h1
    · rw [dp_left (by rw [sp_length]; exact h1)]
      have := iha (d + 1) i h1
      omega
    · have := dp_mid (a.sp (d + 1)) (b.sp (d + 1)) (k, d)
      rw [sp_length] at this
      rw [h1, this]
      exact Int.le_refl _
    · rw [dp_right (by rw [sp_length]; omega), sp_length]
      have e : dp ((k, d) :: b.sp (d + 1)) (i - a.size) = dp (b.sp (d + 1)) (i - a.size - 1) := by
        obtain ⟨m, hm⟩ : ∃ m, i - a.size = m + 1 := ⟨i - a.size - 1, by omega⟩
        rw [hm]; simp [dp]
      rw [e]
      have := ihb (d + 1) (i - a.size - 1) (by omega)
      omega
theorem sp_root (a b : Tr) (k d : Int) : dp ((Tr.node a k b).sp d) a.size = d ∧ ky ((Tr.node a k b).sp d) a.size = k := by
  have h1 := dp_mid (a.sp (d + 1)) (b.sp (d + 1)) (k, d)
  have h2 := ky_mid (a.sp (d + 1)) (b.sp (d + 1)) (k, d)
  rw [sp_length] at h1 h2
  exact ⟨h1, h2⟩
theorem sp_gt (a b : Tr) (k d : Int) : ∀ i, i < (Tr.node a k b).size → i ≠ a.size → d < dp ((Tr.node a k b).sp d) i := by
  intro i h hne
  simp only [Tr.size] at h
  simp only [Tr.sp]
  rcases Nat.lt_or_ge i a.size with h1 | h1
  · rw [dp_left (by rw [sp_length]; exact h1)]
    have := sp_ge a (d + 1) i h1
    omega
  · rw [dp_right (by rw [sp_length]; omega), sp_length]
    have e : dp ((k, d) :: b.sp (d + 1)) (i - a.size) = dp (b.sp (d + 1)) (i - a.size - 1) := by
      obtain ⟨m, hm⟩ : ∃ m, i - a.size = m + 1 := ⟨i - a.size - 1, by omega⟩
      rw [hm]; simp [dp]
    rw [e]
    have := sp_ge b (d + 1) (i - a.size - 1) (by omega)
    omega

/-- the first place of the least depth -/
def IsTop (l : PL) (j : Nat) : Prop := j < l.length ∧ (∀ i, i < l.length → dp l j ≤ dp l i) ∧ ∀ i, i < j → dp l j < dp l i
theorem isTop_one {l : PL} {i j : Nat} (h : IsTop l i) (h' : IsTop l j) : i = j := by
  obtain ⟨a1, a2, a3⟩ := h
  obtain ⟨b1, b2, b3⟩ := h'
  rcases Nat.lt_trichotomy i j with h | h | h
  · have := b3 i h; have := a2 j b1; omega
  · exact h
  · have := a3 j h; have := b2 i a1; omega
theorem isTop_has : ∀ (l : PL), l ≠ [] → ∃ j, IsTop l j := by
  intro l
  induction l with
  | nil => intro h; exact absurd rfl h
  | cons p t ih =>
    intro _
    by_cases ht : t = []
    · subst ht
      refine ⟨0, by simp, ?_, ?_⟩
      · intro i hi
        have : i = 0 := by simp at hi; exact hi
        subst this
        exact Int.le_refl _
      · intro i hi; omega
    · obtain ⟨j, h1, h2, h3⟩ := ih ht
      have es : ∀ i, dp (p :: t) (i + 1) = dp t i := fun i => by simp [dp]
      have e0 : dp (p :: t) 0 = p.2 := by simp [dp]
      by_cases hp : p.2 ≤ dp t j
      · refine ⟨0, by simp, ?_, fun i hi => by omega⟩
        intro i hi
        rw [e0]
        cases i with
        | zero => rw [e0]; exact Int.le_refl _
        | succ i => rw [es]; have := h2 i (by simpa using hi); omega
      · refine ⟨j + 1, by simpa using h1, ?_, ?_⟩
        · intro i hi
          rw [es]
          cases i with
          | zero => rw [e0]; omega
          | succ i => rw [es]; exact h2 i (by simpa using hi)
        · intro i hi
          rw [es]
          cases i with
          | zero => rw [e0]; omega
          | succ i => rw [es]; exact h3 i (by omega)
open Classical in
noncomputable def topR (l : PL) : Nat := if h : ∃ j, IsTop l j then Classical.choose h else 0
theorem topR_is {l : PL} (h : l ≠ []) : IsTop l (topR l) := by
  have hx := isTop_has l h
  unfold topR
  rw [dif_pos hx]
  exact Classical.choose_spec hx
theorem topR_eq {l : PL} {j : Nat} (h : IsTop l j) : topR l = j := isTop_one (topR_is (by intro e; subst e; exact absurd h.1 (by simp))) h
theorem topR_lt {l : PL} (h : l ≠ []) : topR l < l.length := (topR_is h).1
theorem topR_sp (a b : Tr) (k d : Int) : topR ((Tr.node a k b).sp d) = a.size := by
  have hr := (sp_root a b k d).1
  refine topR_eq ⟨by rw [sp_length, Tr.size]; omega, fun i hi => ?_, fun i hi => ?_⟩
  · rw [hr]
    rw [sp_length] at hi
    exact sp_ge _ d i hi
  · rw [hr]
    exact sp_gt a b k d i (by rw [Tr.size]; omega) (by omega)

theorem split_at (l : PL) (j : Nat) (h : j < l.length) : l = l.take j ++ (ky l j, dp l j) :: l.drop (j + 1) := by
  rw [ky_in h, dp_in h]
  conv => lhs; rw [← List.take_append_drop j l]
  rw [List.drop_eq_getElem_cons h]

noncomputable def stB (l : PL) (d : Int) : Bool :=
  if h : l = [] then true else decide (dp l (topR l) = d) && (stB (l.take (topR l)) (d + 1) && stB (l.drop (topR l + 1)) (d + 1))
termination_by l.length
decreasing_by
  · have := topR_lt h; simp; omega
  · have := topR_lt h; simp; omega
theorem stB_nil (d : Int) : stB [] d = true := by unfold stB; simp
theorem stB_cons {l : PL} (h : l ≠ []) (d : Int) : stB l d = (decide (dp l (topR l) = d) && (stB (l.take (topR l)) (d + 1) && stB (l.drop (topR l + 1)) (d + 1))) := by
  rw [stB.eq_def, dif_neg h]
theorem sp_parts (a b : Tr) (k d : Int) : ((Tr.node a k b).sp d).take a.size = a.sp (d + 1) ∧ ((Tr.node a k b).sp d).drop (a.size + 1) = b.sp (d + 1) := by
  constructor
  · simp only [Tr.sp]
    rw [← sp_length a (d + 1), List.take_left]
  · simp only [Tr.sp]
    rw [← sp_length a (d + 1), List.drop_append]
    simp
theorem stB_sp (t : Tr) (d : Int) : stB (t.sp d) d = true := by
  induction t generalizing d with
  | nil => exact stB_nil d
  | node a k b iha ihb =>
    rw [stB_cons (by simp [Tr.sp]), topR_sp, (sp_root a b k d).1, (sp_parts a b k d).1, (sp_parts a b k d).2, iha, ihb]
    simp
theorem stB_tree : ∀ (n : Nat) (l : PL) (d : Int), l.length ≤ n → stB l d = true → ∃ t : Tr, l = t.sp d := by
  intro n
  induction n with
  | zero =>
    intro l d h _
    exact ⟨.nil, List.eq_nil_of_length_eq_zero (by omega)⟩
  | succ n ih =>
    intro l d h hs
    by_cases hl : l = []
    · exact ⟨.nil, hl⟩
    · rw [stB_cons hl] at hs
      simp only [Bool.and_eq_true, decide_eq_true_eq] at hs
      obtain ⟨h1, h2, h3⟩ := hs
      have hlt := topR_lt hl
      obtain ⟨a, ha⟩ := ih _ _ (by simp; omega) h2
      obtain ⟨b, hb⟩ := ih _ _ (by simp; omega) h3
      refine ⟨.node a (ky l (topR l)) b, ?_⟩
      rw [Tr.sp, ← ha, ← hb]
      have := split_at l (topR l) hlt
      rw [h1] at this
      exact this
theorem sp_inj (t t' : Tr) (d : Int) (h : t.sp d = t'.sp d) : t = t' := by
  induction t generalizing t' d with
  | nil => cases t' with
    | nil => rfl
    | node a k b => simp [Tr.sp] at h
  | node a k b iha ihb => cases t' with
    | nil => simp [Tr.sp] at h
    | node a' k' b' =>
      have h0 : a.size = a'.size := by rw [← topR_sp a b k d, ← topR_sp a' b' k' d, h]
      have h1 := (sp_parts a b k d).1
      have h2 := (sp_parts a b k d).2
      have h3 := (sp_root a b k d).2
      rw [h, h0] at h1 h2 h3
      rw [(sp_parts a' b' k' d).1] at h1
      rw [(sp_parts a' b' k' d).2] at h2
      rw [(sp_root a' b' k' d).2] at h3
      rw [iha a' _ h1.symm, ihb b' _ h2.symm, h3]

/-- rising keys, up to k -/
def upTo (l : PL) (k : Nat) : Prop := ∀ i, i + 1 < k → ky l i < ky l (i + 1)
open Classical in
noncomputable def chkS (l : PL) : Int := if 200 < l.length then 2 else if upTo l l.length ∧ stB l 0 = true then 0 else 3
/-- it is a tree -/
def IsTree (l : PL) : Prop := l.length ≤ 200 ∧ upTo l l.length ∧ ∃ t : Tr, l = t.sp 0
theorem chkS_zero {l : PL} : chkS l = 0 ↔ IsTree l := by
  unfold chkS IsTree
  by_cases h : 200 < l.length
  · rw [if_pos h]
    constructor
    · intro e; cases e
    · rintro ⟨h1, _⟩; omega
  · rw [if_neg h]
    by_cases h2 : upTo l l.length ∧ stB l 0 = true
    · rw [if_pos h2]
      exact ⟨fun _ => ⟨by omega, h2.1, stB_tree _ l 0 (Nat.le_refl _) h2.2⟩, fun _ => rfl⟩
    · rw [if_neg h2]
      constructor
      · intro e; cases e
      · rintro ⟨_, h3, t, h4⟩
        refine absurd ⟨h3, ?_⟩ h2
        rw [h4]
        exact stB_sp t 0
theorem up_lt {l : PL} (h : upTo l l.length) : ∀ i j, i < j → j < l.length → ky l i < ky l j := by
  intro i j hij hj
  induction j with
  | zero => omega
  | succ j ih =>
    rcases Nat.lt_or_ge i j with h1 | h1
    · have := ih h1 (by omega); have := h j hj; omega
    · obtain rfl : i = j := by omega
      exact h i hj
theorem up_inj {l : PL} (h : upTo l l.length) {i j : Nat} (hi : i < l.length) (hj : j < l.length) (e : ky l i = ky l j) : i = j := by
  rcases Nat.lt_trichotomy i j with h1 | h1 | h1
  · have := up_lt h i j h1 hj; omega
  · exact h1
  · have := up_lt h j i h1 hi; omega

end Go.Proofs.YtpnjnedfcdppaaaGreatDoor

/-
  PARTS OF TREES, WHO STANDS ABOVE, TURNS: plain mathematics. Nothing of the program.
-/
namespace Go.Proofs.YtpnjnedfcdppaaaGreatDoor

/-- around a part whose top is at depth d: what is ahead of it, what is behind it -/
inductive Ctx (d0 : Int) : Int → PL → PL → Prop
  | hole : Ctx d0 d0 [] []
  | left {d : Int} {pre post : PL} (k : Int) (b : Tr) : Ctx d0 d pre post → Ctx d0 (d + 1) pre ((k, d) :: b.sp (d + 1) ++ post)
  | right {d : Int} {pre post : PL} (a : Tr) (k : Int) : Ctx d0 d pre post → Ctx d0 (d + 1) (pre ++ a.sp (d + 1) ++ [(k, d)]) post

theorem Ctx.fill {d0 d : Int} {pre post : PL} (h : Ctx d0 d pre post) : ∀ s : Tr, ∃ t : Tr, t.sp d0 = pre ++ s.sp d ++ post := by
  induction h with
  | hole => intro s; exact ⟨s, by simp⟩
  | left k b _ ih => intro s; obtain ⟨t, ht⟩ := ih (.node s k b); exact ⟨t, by rw [ht]; simp [Tr.sp]⟩
  | right a k _ ih => intro s; obtain ⟨t, ht⟩ := ih (.node a k s); exact ⟨t, by rw [ht]; simp [Tr.sp]⟩
theorem Ctx.ahead {d0 d : Int} {pre post : PL} (h : Ctx d0 d pre post) : 0 < pre.length → dp pre (pre.length - 1) < d := by
  induction h with
  | hole => intro h; simp at h
  | left k b _ ih => intro h; have := ih h; omega
  | right a k _ ih =>
    rename_i d pre post _
    intro _
    have := dp_mid (pre ++ a.sp (d + 1)) [] (k, d)
    have e : (pre ++ a.sp (d + 1) ++ [(k, d)]).length - 1 = (pre ++ a.sp (d + 1)).length := by simp
    rw [e, this]
    show d < d + 1
    omega
theorem Ctx.behind {d0 d : Int} {pre post : PL} (h : Ctx d0 d pre post) : 0 < post.length → dp post 0 < d := by
  induction h with
  | hole => intro h; simp at h
  | left k b _ ih => rename_i d pre post _; intro _; show d < d + 1; omega
  | right a k _ ih => intro h; have := ih h; omega
theorem Ctx.ge {d0 d : Int} {pre post : PL} (h : Ctx d0 d pre post) : d0 ≤ d := by
  induction h with
  | hole => exact Int.le_refl _
  | left k b _ ih => omega
  | right a k _ ih => omega

/-- place i of l is the top of the part 'node a k b' -/
structure At (l : PL) (i : Nat) (d : Int) (a : Tr) (k : Int) (b : Tr) (pre post : PL) : Prop where
  ctx : Ctx 0 d pre post
  eq : l = pre ++ (Tr.node a k b).sp d ++ post
  idx : i = pre.length + a.size

theorem find_at : ∀ (t : Tr) (d : Int) (pre post : PL), Ctx 0 d pre post → ∀ i, i < t.size → ∃ d' a k b pre' post', At (pre ++ t.sp d ++ post) (pre.length + i) d' a k b pre' post' := by
  intro t
  induction t with
  | nil => intro d pre post _ i hi; simp [Tr.size] at hi
  | node a k b iha ihb =>
    intro d pre post hc i hi
    simp only [Tr.size] at hi
    rcases Nat.lt_trichotomy i a.size with h1 | h1 | h1
    · obtain ⟨d', a', k', b', pre', post', h⟩ := iha (d + 1) pre ((k, d) :: b.sp (d + 1) ++ post) (.left k b hc) i h1
      refine ⟨d', a', k', b', pre', post', ?_⟩
      have e : pre ++ a.sp (d + 1) ++ ((k, d) :: b.sp (d + 1) ++ post) = pre ++ (Tr.node a k b).sp d ++ post := by simp [Tr.sp]
      rw [e] at h
      exact h
    · exact ⟨d, a, k, b, pre, post, hc, rfl, by omega⟩
    · obtain ⟨d', a', k', b', pre', post', h⟩ := ihb (d + 1) (pre ++ a.sp (d + 1) ++ [(k, d)]) post (.right a k hc) (i - a.size - 1) (by omega)
      refine ⟨d', a', k', b', pre', post', ?_⟩
      have e : pre ++ a.sp (d + 1) ++ [(k, d)] ++ b.sp (d + 1) ++ post = pre ++ (Tr.node a k b).sp d ++ post := by simp [Tr.sp]
      have e2 : (pre ++ a.sp (d + 1) ++ [(k, d)]).length + (i - a.size - 1) = pre.length + i := by simp [sp_length]; omega
      rw [e, e2] at h
      exact h
theorem at_of {l : PL} {t : Tr} (h : l = t.sp 0) {i : Nat} (hi : i < l.length) : ∃ d a k b pre post, At l i d a k b pre post := by
  have := find_at t 0 [] [] .hole i (by rw [h, sp_length] at hi; exact hi)
  simp only [List.nil_append, List.append_nil, List.length_nil, Nat.zero_add] at this
  rw [← h] at this
  exact this

theorem dp_in3 (x y z : PL) (j : Nat) (h1 : x.length ≤ j) (h2 : j < x.length + y.length) : dp (x ++ y ++ z) j = dp y (j - x.length) := by
  rw [dp_left (by simp; omega), dp_right h1]
theorem ky_in3 (x y z : PL) (j : Nat) (h1 : x.length ≤ j) (h2 : j < x.length + y.length) : ky (x ++ y ++ z) j = ky y (j - x.length) := by
  rw [ky_left (by simp; omega), ky_right h1]

theorem At.len {l : PL} {i : Nat} {d : Int} {a : Tr} {k : Int} {b : Tr} {pre post : PL} (h : At l i d a k b pre post) : l.length = pre.length + (a.size + 1 + b.size) + post.length := by
  rw [h.eq]; simp [sp_length, Tr.size]; omega
theorem At.root {l : PL} {i : Nat} {d : Int} {a : Tr} {k : Int} {b : Tr} {pre post : PL} (h : At l i d a k b pre post) : dp l i = d ∧ ky l i = k := by
  have hr := sp_root a b k d
  rw [h.eq, h.idx]
  constructor
  · rw [dp_in3 _ _ _ _ (by omega) (by simp [sp_length, Tr.size]; omega), Nat.add_sub_cancel_left]; exact hr.1
  · rw [ky_in3 _ _ _ _ (by omega) (by simp [sp_length, Tr.size]; omega), Nat.add_sub_cancel_left]; exact hr.2
theorem At.inside {l : PL} {i : Nat} {d : Int} {a : Tr} {k : Int} {b : Tr} {pre post : PL} (h : At l i d a k b pre post) (j : Nat) (h1 : pre.length ≤ j) (h2 : j < pre.length + (a.size + 1 + b.size)) (hne : j ≠ i) : d < dp l j := by
  rw [h.eq, dp_in3 _ _ _ _ h1 (by simp [sp_length, Tr.size]; omega)]
  exact sp_gt a b k d _ (by simp [Tr.size]; omega) (by have := h.idx; omega)
theorem At.ahead {l : PL} {i : Nat} {d : Int} {a : Tr} {k : Int} {b : Tr} {pre post : PL} (h : At l i d a k b pre post) (h0 : 0 < pre.length) : dp l (pre.length - 1) = dp pre (pre.length - 1) := by
  rw [h.eq, List.append_assoc, dp_left (by omega)]
theorem At.behind {l : PL} {i : Nat} {d : Int} {a : Tr} {k : Int} {b : Tr} {pre post : PL} (h : At l i d a k b pre post) : dp l (pre.length + (a.size + 1 + b.size)) = dp post 0 := by
  rw [h.eq, dp_right (by simp [sp_length, Tr.size])]
  congr 1
  simp [sp_length, Tr.size]

/-- from where all stand that are below one of depth d, going down from f -/
def frA (l : PL) (d : Int) : Nat → Nat
  | 0 => 0
  | f + 1 => if d < dp l f then frA l d f else f + 1
def toA (l : PL) (d : Int) : Nat → Nat → Nat
  | 0, t => t
  | m + 1, t => if d < dp l t then toA l d m (t + 1) else t
def frR (l : PL) (i : Nat) : Nat := frA l (dp l i) i
def toR (l : PL) (i : Nat) : Nat := toA l (dp l i) (l.length - (i + 1)) (i + 1)
theorem frA_le (l : PL) (d : Int) (f : Nat) : frA l d f ≤ f := by
  induction f with
  | zero => exact Nat.le_refl _
  | succ f ih => rw [frA]; split <;> omega
theorem toA_le (l : PL) (d : Int) : ∀ m t, t ≤ toA l d m t ∧ toA l d m t ≤ t + m := by
  intro m
  induction m with
  | zero => intro t; simp [toA]
  | succ m ih => intro t; rw [toA]; have := ih (t + 1); split <;> omega
theorem frA_eq (l : PL) (d : Int) (f0 : Nat) : ∀ f, f0 ≤ f → (∀ j, f0 ≤ j → j < f → d < dp l j) → (0 < f0 → ¬ d < dp l (f0 - 1)) → frA l d f = f0 := by
  intro f
  induction f with
  | zero => intro h _ _; rw [frA]; omega
  | succ f ih =>
    intro h h1 h2
    rw [frA]
    by_cases hf : f0 = f + 1
    · subst hf
      rw [if_neg (by simpa using h2 (by omega))]
    · rw [if_pos (h1 f (by omega) (by omega))]
      exact ih (by omega) (fun j a b => h1 j a (by omega)) h2
theorem toA_eq (l : PL) (d : Int) (t1 : Nat) : ∀ m t, t ≤ t1 → t1 ≤ t + m → (∀ j, t ≤ j → j < t1 → d < dp l j) → (t1 < t + m → ¬ d < dp l t1) → toA l d m t = t1 := by
  intro m
  induction m with
  | zero => intro t h h' _ _; rw [toA]; omega
  | succ m ih =>
    intro t h h' h1 h2
    rw [toA]
    by_cases ht : t1 = t
    · subst ht
      rw [if_neg (h2 (by omega))]
    · rw [if_pos (h1 t (by omega) (by omega))]
      exact ih (t + 1) (by omega) (by omega) (fun j a b => h1 j (by omega) b) (fun h3 => h2 (by omega))
theorem At.part {l : PL} {i : Nat} {d : Int} {a : Tr} {k : Int} {b : Tr} {pre post : PL} (h : At l i d a k b pre post) : frR l i = pre.length ∧ toR l i = pre.length + (a.size + 1 + b.size) := by
  have hi := h.idx
  have hl := h.len
  unfold frR toR
  rw [h.root.1]
  constructor
  · refine frA_eq l d _ i (by omega) (fun j h1 h2 => h.inside j h1 (by omega) (by omega)) (fun h0 => ?_)
    rw [h.ahead h0]
    have := h.ctx.ahead h0
    omega
  · refine toA_eq l d _ _ _ (by omega) (by omega) (fun j h1 h2 => h.inside j (by omega) h2 (by omega)) (fun h0 => ?_)
    rw [h.behind]
    have := h.ctx.behind (by omega)
    omega

/-- the place of the one next above -/
def par (l : PL) (i : Nat) : Int := if toR l i = l.length then (frR l i : Int) - 1 else if frR l i = 0 ∨ dp l (frR l i - 1) < dp l (toR l i) then toR l i else (frR l i : Int) - 1
theorem par_bd {l : PL} {i : Nat} (h : i < l.length) : -1 ≤ par l i ∧ par l i < l.length := by
  have h1 := frA_le l (dp l i) i
  have h2 := toA_le l (dp l i) (l.length - (i + 1)) (i + 1)
  unfold par
  unfold frR toR
  split
  · omega
  · split <;> omega

/-- the same, some of them shifted -/
def shf (l : PL) (x y : Nat) (by_ : Int) : PL := l.take x ++ ((l.drop x).take (y - x)).map (fun p => (p.1, p.2 + by_)) ++ l.drop y
theorem shf_at {l X Y Z : PL} {x y : Nat} {by_ : Int} (h : l = X ++ Y ++ Z) (hx : x = X.length) (hy : y = X.length + Y.length) : shf l x y by_ = X ++ Y.map (fun p => (p.1, p.2 + by_)) ++ Z := by
  subst h hx hy
  unfold shf
  have h1 : (X ++ Y ++ Z).take X.length = X := by rw [List.append_assoc, List.take_left]
  have h2 : (X ++ Y ++ Z).drop X.length = Y ++ Z := by rw [List.append_assoc, List.drop_left]
  have h3 : (X ++ Y ++ Z).drop (X.length + Y.length) = Z := by rw [← List.length_append, List.drop_left]
  rw [h1, h2, h3, Nat.add_sub_cancel_left, List.take_left]
theorem shf_length (l : PL) (x y : Nat) (by_ : Int) (h : x ≤ y) : (shf l x y by_).length = l.length := by simp [shf]; omega
theorem sp_shift (t : Tr) (d by_ : Int) : (t.sp d).map (fun p => (p.1, p.2 + by_)) = t.sp (d + by_) := by
  induction t generalizing d with
  | nil => rfl
  | node a k b iha ihb =>
    simp only [Tr.sp, List.map_append, List.map_cons, iha, ihb]
    rw [show d + 1 + by_ = d + by_ + 1 by omega]

/-- what Turn makes of the tree l, at place i -/
def turnL (l : PL) (i : Nat) : PL :=
  if i < (par l i).toNat then shf (shf l (frR l (par l i).toNat) (i + 1) (-1)) (par l i).toNat (toR l (par l i).toNat) 1
  else shf (shf l (frR l (par l i).toNat) ((par l i).toNat + 1) 1) i (toR l (par l i).toNat) (-1)

/-- k stands to the left below p -/
structure LL (l : PL) (i j : Nat) (d : Int) (a : Tr) (k : Int) (b : Tr) (p : Int) (c : Tr) (pre post : PL) : Prop where
  ctx : Ctx 0 d pre post
  eq : l = pre ++ (Tr.node (.node a k b) p c).sp d ++ post
  idx : i = pre.length + a.size
  jdx : j = pre.length + (a.size + 1 + b.size)
/-- p stands to the right below k -/
structure RR (l : PL) (i j : Nat) (d : Int) (a : Tr) (k : Int) (b : Tr) (p : Int) (c : Tr) (pre post : PL) : Prop where
  ctx : Ctx 0 d pre post
  eq : l = pre ++ (Tr.node a k (.node b p c)).sp d ++ post
  idx : i = pre.length + a.size
  jdx : j = pre.length + (a.size + 1 + b.size)

section
variable {l : PL} {i j : Nat} {d : Int} {a : Tr} {k : Int} {b : Tr} {p : Int} {c : Tr} {pre post : PL}
theorem LL.at_i (h : LL l i j d a k b p c pre post) : At l i (d + 1) a k b pre ((p, d) :: c.sp (d + 1) ++ post) := ⟨.left p c h.ctx, by rw [h.eq]; simp [Tr.sp], h.idx⟩
theorem LL.at_j (h : LL l i j d a k b p c pre post) : At l j d (.node a k b) p c pre post := ⟨h.ctx, h.eq, by rw [h.jdx]; simp [Tr.size]⟩
theorem RR.at_i (h : RR l i j d a k b p c pre post) : At l i d a k (.node b p c) pre post := ⟨h.ctx, h.eq, h.idx⟩
theorem RR.at_j (h : RR l i j d a k b p c pre post) : At l j (d + 1) b p c (pre ++ a.sp (d + 1) ++ [(k, d)]) post := ⟨.right a k h.ctx, by rw [h.eq]; simp [Tr.sp], by rw [h.jdx]; simp [sp_length]; omega⟩
theorem LL.par_i (h : LL l i j d a k b p c pre post) : par l i = j := by
  have hp := h.at_i.part
  have hl := h.at_i.len
  have hj := h.jdx
  unfold par
  rw [hp.1, hp.2, ← hj]
  have hlt : j < l.length := by rw [hl]; simp; omega
  rw [if_neg (by omega)]
  rw [if_pos]
  rcases Nat.eq_zero_or_pos pre.length with h0 | h0
  · exact .inl h0
  · right
    rw [h.at_i.ahead h0, h.at_j.root.1]
    exact h.ctx.ahead h0
theorem RR.par_j (h : RR l i j d a k b p c pre post) : par l j = i := by
  have hp := h.at_j.part
  have hl := h.at_j.len
  have hi := h.idx
  have e1 : (pre ++ a.sp (d + 1) ++ [(k, d)]).length = i + 1 := by simp [sp_length]; omega
  rw [e1] at hp hl
  unfold par
  rw [hp.1, hp.2]
  by_cases h0 : i + 1 + (b.size + 1 + c.size) = l.length
  · rw [if_pos h0]; omega
  · rw [if_neg h0, if_neg]
    · omega
    · rintro (h1 | h1)
      · omega
      · have e2 := h.at_j.behind
        rw [e1] at e2
        rw [e2, Nat.add_sub_cancel, h.at_i.root.1] at h1
        have := h.ctx.behind (by omega)
        omega
theorem LL.turn (h : LL l i j d a k b p c pre post) : turnL l i = pre ++ (Tr.node a k (.node b p c)).sp d ++ post := by
  have hj := h.jdx
  have hi := h.idx
  have hp := h.at_j.part
  unfold turnL
  rw [h.par_i, Int.toNat_natCast, hp.1, hp.2, if_pos (by omega)]
  have s1 : shf l pre.length (i + 1) (-1) = pre ++ (a.sp (d + 1 + 1) ++ [(k, d + 1)]).map (fun p => (p.1, p.2 + -1)) ++ (b.sp (d + 1 + 1) ++ (p, d) :: c.sp (d + 1) ++ post) :=
    shf_at (by rw [h.eq]; simp [Tr.sp]) rfl (by simp [sp_length]; omega)
  rw [s1]
  have s2 : shf (pre ++ (a.sp (d + 1 + 1) ++ [(k, d + 1)]).map (fun p => (p.1, p.2 + -1)) ++ (b.sp (d + 1 + 1) ++ (p, d) :: c.sp (d + 1) ++ post)) j (pre.length + ((Tr.node a k b).size + 1 + c.size)) 1 =
      (pre ++ (a.sp (d + 1 + 1) ++ [(k, d + 1)]).map (fun p => (p.1, p.2 + -1)) ++ b.sp (d + 1 + 1)) ++ ((p, d) :: c.sp (d + 1)).map (fun p => (p.1, p.2 + 1)) ++ post :=
    shf_at (by simp) (by simp [sp_length]; omega) (by simp [sp_length, Tr.size]; omega)
  rw [s2]
  simp only [List.map_append, List.map_cons, List.map_nil, sp_shift, Tr.sp]
  rw [show d + 1 + 1 + -1 = d + 1 by omega, show d + 1 + -1 = d by omega]
  simp
theorem RR.turn (h : RR l i j d a k b p c pre post) : turnL l j = pre ++ (Tr.node (.node a k b) p c).sp d ++ post := by
  have hj := h.jdx
  have hi := h.idx
  have hp := h.at_i.part
  unfold turnL
  rw [h.par_j, Int.toNat_natCast, hp.1, hp.2, if_neg (by omega)]
  have s1 : shf l pre.length (i + 1) 1 = pre ++ (a.sp (d + 1) ++ [(k, d)]).map (fun p => (p.1, p.2 + 1)) ++ (b.sp (d + 1 + 1) ++ (p, d + 1) :: c.sp (d + 1 + 1) ++ post) :=
    shf_at (by rw [h.eq]; simp [Tr.sp]) rfl (by simp [sp_length]; omega)
  rw [s1]
  have s2 : shf (pre ++ (a.sp (d + 1) ++ [(k, d)]).map (fun p => (p.1, p.2 + 1)) ++ (b.sp (d + 1 + 1) ++ (p, d + 1) :: c.sp (d + 1 + 1) ++ post)) j (pre.length + (a.size + 1 + (Tr.node b p c).size)) (-1) =
      (pre ++ (a.sp (d + 1) ++ [(k, d)]).map (fun p => (p.1, p.2 + 1)) ++ b.sp (d + 1 + 1)) ++ ((p, d + 1) :: c.sp (d + 1 + 1)).map (fun p => (p.1, p.2 + -1)) ++ post :=
    shf_at (by simp) (by simp [sp_length]; omega) (by simp [sp_length, Tr.size]; omega)
  rw [s2]
  simp only [List.map_append, List.map_cons, List.map_nil, sp_shift, Tr.sp]
  rw [show d + 1 + 1 + -1 = d + 1 by omega, show d + 1 + -1 = d by omega]
  simp
end

/-- whoever does not stand at the top stands to the left or to the right below another one -/
theorem above_of {l : PL} {t : Tr} (h : l = t.sp 0) {i : Nat} (hi : i < l.length) (hd : dp l i ≠ 0) :
    (∃ j d a k b p c pre post, LL l i j d a k b p c pre post) ∨ (∃ j d a k b p c pre post, RR l j i d a k b p c pre post) := by
  obtain ⟨d, a, k, b, pre, post, hat⟩ := at_of h hi
  have hr := hat.root.1
  obtain ⟨hc, he, hx⟩ := hat
  cases hc with
  | hole => exact absurd hr hd
  | left p c hc' =>
    rename_i d' post'
    exact .inl ⟨_, d', a, k, b, p, c, pre, post', hc', by rw [he]; simp [Tr.sp], hx, rfl⟩
  | right a' k' hc' =>
    rename_i d' pre'
    exact .inr ⟨_, d', a', k', a, k, b, pre', post, hc', by rw [he]; simp [Tr.sp], rfl, by rw [hx]; simp [sp_length]; omega⟩
theorem par_root {l : PL} {t : Tr} (h : l = t.sp 0) {i : Nat} (hi : i < l.length) (hd : dp l i = 0) : par l i = -1 := by
  obtain ⟨d, a, k, b, pre, post, hat⟩ := at_of h hi
  have hr := hat.root.1
  have hp := hat.part
  have hl := hat.len
  obtain ⟨hc, he, hx⟩ := hat
  cases hc with
  | hole =>
    unfold par
    rw [hp.1, hp.2]
    simp at hl ⊢
    omega
  | left p c hc' => have := hc'.ge; omega
  | right a' k' hc' => have := hc'.ge; omega

end Go.Proofs.YtpnjnedfcdppaaaGreatDoor

/-
  TURNS THERE AND BACK; THE WAY TO A ROW: plain mathematics. Nothing of the program.
-/
namespace Go.Proofs.YtpnjnedfcdppaaaGreatDoor

theorem shf_pt (l : PL) (x y : Nat) (by_ : Int) (hxy : x ≤ y) (hy : y ≤ l.length) (i : Nat) : ky (shf l x y by_) i = ky l i ∧ (dp (shf l x y by_) i = dp l i ∨ dp (shf l x y by_) i = dp l i + by_) := by
  have he : l = l.take x ++ (l.drop x).take (y - x) ++ l.drop y := by
    conv => lhs; rw [← List.take_append_drop x l, ← List.take_append_drop (y - x) (l.drop x), List.drop_drop]
    rw [show x + (y - x) = y by omega, List.append_assoc]
  have hX : (l.take x).length = x := by simp; omega
  have hY : ((l.drop x).take (y - x)).length = y - x := by simp; omega
  have hs := shf_at (by_ := by_) he hX.symm (y := y) (by rw [hX, hY]; omega)
  rw [hs]
  generalize l.take x = X at *
  generalize (l.drop x).take (y - x) = Y at *
  generalize l.drop y = Z at *
  rw [he]
  rcases Nat.lt_or_ge i x with h1 | h1
  · rw [List.append_assoc, List.append_assoc, ky_left (by omega), ky_left (by omega), dp_left (by omega), dp_left (by omega)]
    exact ⟨rfl, .inl rfl⟩
  · rcases Nat.lt_or_ge i y with h2 | h2
    · rw [ky_in3 _ _ _ _ (by omega) (by simp; omega), ky_in3 _ _ _ _ (by omega) (by omega), dp_in3 _ _ _ _ (by omega) (by simp; omega), dp_in3 _ _ _ _ (by omega) (by omega)]
      have hi : i - X.length < Y.length := by omega
      simp only [ky, dp, List.getElem?_map, List.getElem?_eq_getElem hi, Option.map_some, Option.getD_some]
      exact ⟨trivial, .inr trivial⟩
    · rw [ky_right (by simp; omega), ky_right (by simp; omega), dp_right (by simp; omega), dp_right (by simp; omega)]
      simp

theorem isTree_same {l m : PL} (h : IsTree l) (hl : m.length = l.length) (hk : ∀ i, ky m i = ky l i) (ht : ∃ t : Tr, m = t.sp 0) : IsTree m := by
  refine ⟨by rw [hl]; exact h.1, ?_, ht⟩
  intro i hi
  rw [hk, hk]
  exact h.2.1 i (by omega)

/-- all of what Turn does -/
structure Turned (l s : PL) (i j : Nat) : Prop where
  lt : j < l.length
  ne : j ≠ i
  fr : frR l j ≤ i
  to : i < toR l j
  len : s.length = l.length
  keys : ∀ x, ky s x = ky l x
  near : ∀ x, dp s x ≤ dp l x + 1 ∧ dp l x - 1 ≤ dp s x
  tree : IsTree s
  low : dp s j ≠ 0
  back : turnL s j = l
theorem turned_of {l : PL} (h : IsTree l) {i : Nat} (hi : i < l.length) (hd : dp l i ≠ 0) : ∃ j : Nat, par l i = j ∧ Turned l (turnL l i) i j := by
  obtain ⟨t, ht⟩ := h.2.2
  rcases above_of ht hi hd with ⟨j, d, a, k, b, p, c, pre, post, hL⟩ | ⟨j, d, a, k, b, p, c, pre, post, hR⟩
  · refine ⟨j, hL.par_i, ?_⟩
    have hs := hL.turn
    have hj := hL.jdx
    have hix := hL.idx
    have hlen := hL.at_j.len
    have hp := hL.at_j.part
    simp only [Tr.size] at hlen hp
    have hjl : j < l.length := by omega
    have hRR : RR (turnL l i) i j d a k b p c pre post := ⟨hL.ctx, hs, hix, hj⟩
    have hsl : (turnL l i).length = l.length := by rw [hs, hL.eq]; simp [sp_length, Tr.size]; omega
    have e1 : turnL l i = shf (shf l pre.length (i + 1) (-1)) j (pre.length + (a.size + 1 + b.size + 1 + c.size)) 1 := by
      unfold turnL
      rw [hL.par_i, Int.toNat_natCast, hp.1, hp.2, if_pos (by omega)]
    have p1 := fun x => shf_pt l pre.length (i + 1) (-1) (by omega) (by omega) x
    have p2 := fun x => shf_pt (shf l pre.length (i + 1) (-1)) j (pre.length + (a.size + 1 + b.size + 1 + c.size)) 1 (by omega) (by rw [shf_length _ _ _ _ (by omega)]; omega) x
    have hk : ∀ x, ky (turnL l i) x = ky l x := fun x => by rw [e1, (p2 x).1, (p1 x).1]
    refine ⟨hjl, by omega, by rw [hp.1]; omega, by rw [hp.2]; omega, hsl, hk, fun x => ?_, isTree_same h hsl hk ?_, ?_, ?_⟩
    · rw [e1]
      rcases (p2 x).2 with h2 | h2 <;> rcases (p1 x).2 with h1 | h1 <;> rw [h2, h1] <;> omega
    · obtain ⟨t', ht'⟩ := hL.ctx.fill (.node a k (.node b p c))
      exact ⟨t', by rw [hs, ht']⟩
    · rw [hRR.at_j.root.1]
      have := hL.ctx.ge
      omega
    · rw [hRR.turn, ← hL.eq]
  · refine ⟨j, hR.par_j, ?_⟩
    have hs := hR.turn
    have hj := hR.jdx
    have hix := hR.idx
    have hlen := hR.at_i.len
    have hp := hR.at_i.part
    simp only [Tr.size] at hlen hp
    have hjl : j < l.length := by omega
    have hLL : LL (turnL l i) j i d a k b p c pre post := ⟨hR.ctx, hs, hix, hj⟩
    have hsl : (turnL l i).length = l.length := by rw [hs, hR.eq]; simp [sp_length, Tr.size]; omega
    have e1 : turnL l i = shf (shf l pre.length (j + 1) 1) i (pre.length + (a.size + 1 + (b.size + 1 + c.size))) (-1) := by
      unfold turnL
      rw [hR.par_j, Int.toNat_natCast, hp.1, hp.2, if_neg (by omega)]
    have p1 := fun x => shf_pt l pre.length (j + 1) 1 (by omega) (by omega) x
    have p2 := fun x => shf_pt (shf l pre.length (j + 1) 1) i (pre.length + (a.size + 1 + (b.size + 1 + c.size))) (-1) (by omega) (by rw [shf_length _ _ _ _ (by omega)]; omega) x
    have hk : ∀ x, ky (turnL l i) x = ky l x := fun x => by rw [e1, (p2 x).1, (p1 x).1]
    refine ⟨hjl, by omega, by rw [hp.1]; omega, by rw [hp.2]; omega, hsl, hk, fun x => ?_, isTree_same h hsl hk ?_, ?_, ?_⟩
    · rw [e1]
      rcases (p2 x).2 with h2 | h2 <;> rcases (p1 x).2 with h1 | h1 <;> rw [h2, h1] <;> omega
    · obtain ⟨t', ht'⟩ := hR.ctx.fill (.node (.node a k b) p c)
      exact ⟨t', by rw [hs, ht']⟩
    · rw [hLL.at_i.root.1]
      have := hR.ctx.ge
      omega
    · rw [hLL.turn, ← hR.eq]

/-- how many stand along the way to the right -/
def Tr.spine : Tr → Nat
  | .nil => 0
  | .node _ _ b => b.spine + 1
theorem spine_le (t : Tr) : t.spine ≤ t.size := by
  induction t with
  | nil => exact Nat.le_refl _
  | node a k b _ ih => simp [Tr.spine, Tr.size]; omega
theorem spine_pos {t : Tr} (h : 0 < t.size) : 0 < t.spine := by
  cases t with
  | nil => simp [Tr.size] at h
  | node a k b => simp [Tr.spine]

/-- if none stands to the left they stand in a row -/
theorem row_of : ∀ (t : Tr) (d : Int) (pre post : PL), Ctx 0 d pre post → (∀ i, pre.length ≤ i → i < pre.length + t.size → ¬ (i : Int) < par (pre ++ t.sp d ++ post) i) → ∀ i, i < t.size → dp (t.sp d) i = d + i := by
  intro t
  induction t with
  | nil => intro d pre post _ _ i hi; simp [Tr.size] at hi
  | node a k b _ ihb =>
    intro d pre post hc hno i hi
    cases a with
    | node a1 k1 a2 =>
      have hL : LL (pre ++ (Tr.node (.node a1 k1 a2) k b).sp d ++ post) (pre.length + a1.size) (pre.length + (a1.size + 1 + a2.size)) d a1 k1 a2 k b pre post := ⟨hc, rfl, rfl, rfl⟩
      refine absurd ?_ (hno (pre.length + a1.size) (by omega) (by simp [Tr.size]; omega))
      rw [hL.par_i]
      omega
    | nil =>
      simp only [Tr.sp, List.nil_append]
      cases i with
      | zero => simp [dp]
      | succ i =>
        have e : dp ((k, d) :: b.sp (d + 1)) (i + 1) = dp (b.sp (d + 1)) i := by simp [dp]
        rw [e]
        have hc' := Ctx.right Tr.nil k hc
        have e2 : pre ++ Tr.nil.sp (d + 1) ++ [(k, d)] ++ b.sp (d + 1) ++ post = pre ++ (Tr.node .nil k b).sp d ++ post := by simp [Tr.sp]
        have := ihb (d + 1) _ post hc' (by
          intro i h1 h2
          rw [e2]
          refine hno i ?_ ?_
          · simp [Tr.sp] at h1; omega
          · simp [Tr.sp] at h2; simp [Tr.size]; omega) i (by simp [Tr.size] at hi; omega)
        rw [this]
        omega
theorem row_tree {l : PL} {t : Tr} (h : l = t.sp 0) (hno : ∀ i, i < l.length → ¬ (i : Int) < par l i) : ∀ i, i < l.length → dp l i = i := by
  intro i hi
  have := row_of t 0 [] [] .hole (by
    intro i _ h2
    simp only [List.nil_append, List.append_nil, ← h]
    exact hno i (by rw [h, sp_length]; simpa using h2)) i (by rw [h, sp_length] at hi; exact hi)
  rw [h, this]
  omega

theorem up_ctx {d : Int} {pre post : PL} (hc : Ctx 0 d pre post) : ∀ (ua : Tr) (uk : Int) (ub : Tr),
    (∀ i, i < (pre ++ (Tr.node ua uk ub).sp d ++ post).length → (i : Int) < par (pre ++ (Tr.node ua uk ub).sp d ++ post) i → d < dp (pre ++ (Tr.node ua uk ub).sp d ++ post) i) →
    ∃ m : Nat, ∀ u : Tr, ∃ t : Tr, t.sp 0 = pre ++ u.sp d ++ post ∧ t.spine = m + u.spine := by
  induction hc with
  | hole => intro _ _ _ _; exact ⟨0, fun u => ⟨u, by simp, by omega⟩⟩
  | left k b hc ih =>
    rename_i d pre post
    intro ua uk ub h
    have hL : LL (pre ++ (Tr.node ua uk ub).sp (d + 1) ++ ((k, d) :: b.sp (d + 1) ++ post)) (pre.length + ua.size) (pre.length + (ua.size + 1 + ub.size)) d ua uk ub k b pre post := ⟨hc, by simp [Tr.sp], rfl, rfl⟩
    have h1 := h (pre.length + ua.size) (by simp [sp_length, Tr.size]; omega) (by rw [hL.par_i]; omega)
    rw [hL.at_i.root.1] at h1
    omega
  | right a k hc ih =>
    rename_i d pre post
    intro ua uk ub h
    have e : ∀ u : Tr, pre ++ a.sp (d + 1) ++ [(k, d)] ++ u.sp (d + 1) ++ post = pre ++ (Tr.node a k u).sp d ++ post := fun u => by simp [Tr.sp]
    rw [e] at h
    obtain ⟨m, hm⟩ := ih a k (.node ua uk ub) (fun i h1 h2 => by have := h i h1 h2; omega)
    refine ⟨m + 1, fun u => ?_⟩
    obtain ⟨t, ht, hs⟩ := hm (.node a k u)
    exact ⟨t, by rw [ht, e], by rw [hs]; simp [Tr.spine]; omega⟩

/-- the highest left one comes up: one more along the way to the right -/
theorem way_step {l : PL} {t : Tr} (h : l = t.sp 0) {i : Nat} (hi : i < l.length) (hleft : (i : Int) < par l i) (hmin : ∀ x, x < l.length → (x : Int) < par l x → dp l i ≤ dp l x) :
    dp l i ≠ 0 ∧ ∃ t' : Tr, turnL l i = t'.sp 0 ∧ t'.spine = t.spine + 1 := by
  have hd : dp l i ≠ 0 := by
    intro h0
    rw [par_root h hi h0] at hleft
    omega
  refine ⟨hd, ?_⟩
  rcases above_of h hi hd with ⟨j, d, a, k, b, p, c, pre, post, hL⟩ | ⟨j, d, a, k, b, p, c, pre, post, hR⟩
  · have hdi := hL.at_i.root.1
    have hu := up_ctx hL.ctx (.node a k b) p c (by
      rw [← hL.eq]
      intro x h1 h2
      have := hmin x h1 h2
      omega)
    obtain ⟨m, hm⟩ := hu
    obtain ⟨t0, h0, hs0⟩ := hm (.node (.node a k b) p c)
    have : t0 = t := sp_inj _ _ 0 (by rw [h0, ← h, hL.eq])
    subst this
    obtain ⟨t', h1, hs1⟩ := hm (.node a k (.node b p c))
    refine ⟨t', by rw [hL.turn, h1], ?_⟩
    rw [hs1, hs0]
    simp [Tr.spine]
    omega
  · rw [hR.par_j] at hleft
    have := hR.idx
    have := hR.jdx
    omega

end Go.Proofs.YtpnjnedfcdppaaaGreatDoor
