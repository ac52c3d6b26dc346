/-
  Joined texts: YtfmdpmebllepeaaWords, YtfmdpmebllepeaaSTree, YtfmdpmebllepeaaSCtx, YtfmdpmebllepeaaSPure.
-/
import Derived.WalkKit
import Derived.WalkSpells
import Derived.WalkLawsBesides
import Derived.Lib.Hide
/-
  WORDS: what it means that a slice of pairs, of ops, of answers, of numbers reads as a list; plain facts on them. Nothing of the program.
-/
namespace Go.Proofs.Ytfmdpmebllepeaa
open Go.RowKit

theorem ret_int {k : IntKind} {a b : Int} (h : a = b) : Ending.returned (.int k a) = .returned (.int k b) := by rw [h]

abbrev I (n : Int) : Value := .int .i64 n

def Rd (w : World) (B s : Nat) (A : Option Addr) (n c : Nat) (f : Nat → Nat → Value) : Prop :=
  n ≤ c ∧ (0 < n → ∃ b off, A = some ⟨b, off, none⟩ ∧ b < B ∧ ∀ i, i < n → ∀ j, j < s → w.cell? ⟨b, off + (i * s + j), none⟩ = some (f i j))

theorem Rd.none_ {w : World} {B s c : Nat} {A : Option Addr} {f : Nat → Nat → Value} : Rd w B s A 0 c f := ⟨Nat.zero_le _, fun h => absurd h (by omega)⟩
theorem Rd.keep {w w' : World} {B B' s n c : Nat} {A : Option Addr} {f : Nat → Nat → Value} (h : Rd w B s A n c f) (hB : B ≤ B') (hk : ∀ p : Addr, p.block < B → w'.cell? p = w.cell? p) : Rd w' B' s A n c f :=
  ⟨h.1, fun hn => by
    obtain ⟨b, off, e, hb, hc⟩ := h.2 hn
    exact ⟨b, off, e, by omega, fun i hi j hj => (hk _ hb).trans (hc i hi j hj)⟩⟩
theorem Rd.below {w w' : World} {s n c : Nat} {A : Option Addr} {f : Nat → Nat → Value} (h : Rd w w.heap.size s A n c f) (hb : Below w.heap.size w w') : Rd w' w'.heap.size s A n c f :=
  h.keep hb.size fun _ hp => hb.cell hp

abbrev PL := List (Int × Int)
def pf (l : PL) (i j : Nat) : Value := I (if j = 0 then (l[i]?.getD (0, 0)).1 else (l[i]?.getD (0, 0)).2)
structure PS (w : World) (A : Option Addr) (n c : Nat) (l : PL) : Prop where
  len : l.length = n
  rd : Rd w w.heap.size 2 A n c (pf l)

theorem PS.below {w w' : World} {n c : Nat} {A : Option Addr} {l : PL} (h : PS w A n c l) (hb : Below w.heap.size w w') : PS w' A n c l := ⟨h.len, h.rd.below hb⟩
theorem PS.at_ {w : World} {n c : Nat} {A : Option Addr} {l : PL} (h : PS w A n c l) (hn : 0 < n) :
    ∃ b off, A = some ⟨b, off, none⟩ ∧ b < w.heap.size ∧ ∀ i (hi : i < n), w.cell? ⟨b, off + i * 2, none⟩ = some (I (l[i]'(by rw [h.len]; exact hi)).1) ∧ w.cell? ⟨b, off + (i * 2 + 1), none⟩ = some (I (l[i]'(by rw [h.len]; exact hi)).2) := by
  obtain ⟨b, off, e, hb, hc⟩ := h.rd.2 hn
  refine ⟨b, off, e, hb, fun i hi => ?_⟩
  have hl : i < l.length := by rw [h.len]; exact hi
  have h0 := hc i hi 0 (by omega)
  have h1 := hc i hi 1 (by omega)
  simp [pf, List.getElem?_eq_getElem hl] at h0 h1
  exact ⟨h0, h1⟩

theorem PS.alloc {w : World} {n c : Nat} {A : Option Addr} {l : PL} (h : PS w A n c l) (o : Obj) : PS (w.alloc o) A n c l := h.below ((Below.refl _ _).alloc (Nat.le_refl _) _)
theorem PS.drew {w : World} {n c : Nat} {A : Option Addr} {l : PL} (h : PS w A n c l) : PS w.drew A n c l := ⟨h.len, h.rd⟩
theorem PS.drewN {w : World} {n c : Nat} {A : Option Addr} {l : PL} (h : PS w A n c l) (k : Nat) : PS (w.drewN k) A n c l := ⟨h.len, h.rd⟩
theorem PS.far {w : World} {n c : Nat} {A : Option Addr} {l : PL} (h : PS w A n c l) {p : Addr} (hA : ∀ ad, A = some ad → ad.block ≠ p.block) (u : Value) : PS (w.setCell p u) A n c l := by
  refine ⟨h.len, h.rd.1, fun hn => ?_⟩
  obtain ⟨b, off, e, hb, hc⟩ := h.rd.2 hn
  refine ⟨b, off, e, by simpa [World.setCell] using hb, fun i hi j hj => ?_⟩
  rw [World.cell?_setCell_other]
  · exact hc i hi j hj
  · intro he
    exact hA _ e (by rw [he])
theorem below_drewN {B : Nat} {a w : World} (h : Below B a w) (n : Nat) : Below B a (w.drewN n) := ⟨h.os, h.tape, h.output, h.size, h.block⟩

theorem PS.low {w w' : World} {base n c : Nat} {A : Option Addr} {l : PL} (h : PS w A n c l) (hA : ∀ ad, A = some ad → ad.block < base) (hb : Below base w w') : PS w' A n c l := by
  refine ⟨h.len, h.rd.1, fun hn => ?_⟩
  obtain ⟨b, off, e, hlt, hc⟩ := h.rd.2 hn
  have hbb := hA _ e
  exact ⟨b, off, e, by have := hb.size; exact Nat.lt_of_lt_of_le hlt this, fun i hi j hj => (hb.cell (by exact hbb)).trans (hc i hi j hj)⟩
structure An where
  e : Int
  k : Int
  v : Int
  b : Bool
end Go.Proofs.Ytfmdpmebllepeaa

/-
  TREES AND THEIR SPOTS: plain mathematics. Nothing of the program.
-/
namespace Go.Proofs.Ytfmdpmebllepeaa

def ky (l : PL) (i : Nat) : Int := (l[i]?.getD (0, 0)).1
def dp (l : PL) (i : Nat) : Int := (l[i]?.getD (0, 0)).2

theorem dp_in {l : PL} {i : Nat} (h : i < l.length) : dp l i = l[i].2 := by simp [dp, List.getElem?_eq_getElem h]
theorem ky_in {l : PL} {i : Nat} (h : i < l.length) : ky l i = l[i].1 := by simp [ky, List.getElem?_eq_getElem h]
theorem dp_left {x y : PL} {i : Nat} (h : i < x.length) : dp (x ++ y) i = dp x i := by simp [dp, List.getElem?_append_left h]
theorem dp_right {x y : PL} {i : Nat} (h : x.length ≤ i) : dp (x ++ y) i = dp y (i - x.length) := by simp [dp, List.getElem?_append_right h]
theorem ky_left {x y : PL} {i : Nat} (h : i < x.length) : ky (x ++ y) i = ky x i := by simp [ky, List.getElem?_append_left h]
theorem ky_right {x y : PL} {i : Nat} (h : x.length ≤ i) : ky (x ++ y) i = ky y (i - x.length) := by simp [ky, List.getElem?_append_right h]
theorem dp_mid (x y : PL) (p : Int × Int) : dp (x ++ p :: y) x.length = p.2 := by simp [dp]
theorem ky_mid (x y : PL) (p : Int × Int) : ky (x ++ p :: y) x.length = p.1 := by simp [ky]
inductive Tr
  | nil
  | node (l : Tr) (k : Int) (r : Tr)
def Tr.sp : Tr → Int → PL
  | .nil, _ => []
  | .node a k b, d => a.sp (d + 1) ++ (k, d) :: b.sp (d + 1)
def Tr.size : Tr → Nat
  | .nil => 0
  | .node a _ b => a.size + 1 + b.size
theorem sp_length (t : Tr) (d : Int) : (t.sp d).length = t.size := by
  induction t generalizing d with
  | nil => rfl
  | node a k b iha ihb => simp [Tr.sp, Tr.size, iha, ihb]; omega
theorem sp_ge (t : Tr) (d : Int) : ∀ i, i < t.size → d ≤ dp (t.sp d) i := by
  induction t generalizing d with
  | nil => intro i h; simp [Tr.size] at h
  | node a k b iha ihb =>
    intro i h
    simp only [Tr.size] at h
    simp only [Tr.sp]
    rcases Nat.lt_trichotomy i a.size with h1 | h1 | h1
    · rw [dp_left (by rw [sp_length]; exact h1)]
      have := iha (d + 1) i h1
      omega
    · have := dp_mid (a.sp (d + 1)) (b.sp (d + 1)) (k, d)
      rw [sp_length] at this
      rw [h1, this]
      exact Int.le_refl _
    · rw [dp_right (by rw [sp_length]; omega), sp_length]
      have e : dp ((k, d) :: b.sp (d + 1)) (i - a.size) = dp (b.sp (d + 1)) (i - a.size - 1) := by
        obtain ⟨m, hm⟩ : ∃ m, i - a.size = m + 1 := ⟨i - a.size - 1, by omega⟩
        rw [hm]; simp [dp]
      rw [e]
      have := ihb (d + 1) (i - a.size - 1) (by omega)
      omega
theorem sp_root (a b : Tr) (k d : Int) : dp ((Tr.node a k b).sp d) a.size = d ∧ ky ((Tr.node a k b).sp d) a.size = k := by
  have h1 := dp_mid (a.sp (d + 1)) (b.sp (d + 1)) (k, d)
  have h2 := ky_mid (a.sp (d + 1)) (b.sp (d + 1)) (k, d)
  rw [sp_length] at h1 h2
  exact ⟨h1, h2⟩
theorem sp_gt (a b : Tr) (k d : Int) : ∀ i, i < (Tr.node a k b).size → i ≠ a.size → d < dp ((Tr.node a k b).sp d) i := by
  intro i h hne
  simp only [Tr.size] at h
  simp only [Tr.sp]
  rcases Nat.lt_or_ge i a.size with h1 | h1
  · rw [dp_left (by rw [sp_length]; exact h1)]
    have := sp_ge a (d + 1) i h1
    omega
  · rw [dp_right (by rw [sp_length]; omega), sp_length]
    have e : dp ((k, d) :: b.sp (d + 1)) (i - a.size) = dp (b.sp (d + 1)) (i - a.size - 1) := by
      obtain ⟨m, hm⟩ : ∃ m, i - a.size = m + 1 := ⟨i - a.size - 1, by omega⟩
      rw [hm]; simp [dp]
    rw [e]
    have := sp_ge b (d + 1) (i - a.size - 1) (by omega)
    omega

def IsTop (l : PL) (j : Nat) : Prop := j < l.length ∧ (∀ i, i < l.length → dp l j ≤ dp l i) ∧ ∀ i, i < j → dp l j < dp l i
theorem isTop_has : ∀ (l : PL), l ≠ [] → ∃ j, IsTop l j := by
  intro l
  induction l with
  | nil => intro h; exact absurd rfl h
  | cons p t ih =>
    intro _
    by_cases ht : t = []
    · subst ht
      refine ⟨0, by simp, ?_, ?_⟩
      · intro i hi
        have : i = 0 := by simp at hi; exact hi
        subst this
        exact Int.le_refl _
      · intro i hi; omega
    · obtain ⟨j, h1, h2, h3⟩ := ih ht
      have es : ∀ i, dp (p :: t) (i + 1) = dp t i := fun i => by simp [dp]
      have e0 : dp (p :: t) 0 = p.2 := by simp [dp]
      by_cases hp : p.2 ≤ dp t j
      · refine ⟨0, by simp, ?_, fun i hi => by omega⟩
        intro i hi
        rw [e0]
        cases i with
        | zero => rw [e0]; exact Int.le_refl _
        | succ i => rw [es]; have := h2 i (by simpa using hi); omega
      · refine ⟨j + 1, by simpa using h1, ?_, ?_⟩
        · intro i hi
          rw [es]
          cases i with
          | zero => rw [e0]; omega
          | succ i => rw [es]; exact h2 i (by simpa using hi)
        · intro i hi
          rw [es]
          cases i with
          | zero => rw [e0]; omega
          | succ i => rw [es]; exact h3 i (by omega)
open Classical in
noncomputable def topR (l : PL) : Nat := if h : ∃ j, IsTop l j then Classical.choose h else 0
theorem topR_is {l : PL} (h : l ≠ []) : IsTop l (topR l) := by
  have hx := isTop_has l h
  unfold topR
  rw [dif_pos hx]
  exact Classical.choose_spec hx
theorem topR_lt {l : PL} (h : l ≠ []) : topR l < l.length := (topR_is h).1
noncomputable def stB (l : PL) (d : Int) : Bool :=
  if h : l = [] then true else decide (dp l (topR l) = d) && (stB (l.take (topR l)) (d + 1) && stB (l.drop (topR l + 1)) (d + 1))
termination_by l.length
decreasing_by
  · have := topR_lt h; simp; omega
  · have := topR_lt h; simp; omega
def upTo (l : PL) (k : Nat) : Prop := ∀ i, i + 1 < k → ky l i < ky l (i + 1)
open Classical in
noncomputable def chkS (l : PL) : Int := if 200 < l.length then 2 else if upTo l l.length ∧ stB l 0 = true then 0 else 3
def IsTree (l : PL) : Prop := l.length ≤ 200 ∧ upTo l l.length ∧ ∃ t : Tr, l = t.sp 0
end Go.Proofs.Ytfmdpmebllepeaa

/-
  PARTS OF TREES, WHO STANDS ABOVE, TURNS: plain mathematics. Nothing of the program.
-/
namespace Go.Proofs.Ytfmdpmebllepeaa

inductive Ctx (d0 : Int) : Int → PL → PL → Prop
  | hole : Ctx d0 d0 [] []
  | left {d : Int} {pre post : PL} (k : Int) (b : Tr) : Ctx d0 d pre post → Ctx d0 (d + 1) pre ((k, d) :: b.sp (d + 1) ++ post)
  | right {d : Int} {pre post : PL} (a : Tr) (k : Int) : Ctx d0 d pre post → Ctx d0 (d + 1) (pre ++ a.sp (d + 1) ++ [(k, d)]) post

theorem Ctx.fill {d0 d : Int} {pre post : PL} (h : Ctx d0 d pre post) : ∀ s : Tr, ∃ t : Tr, t.sp d0 = pre ++ s.sp d ++ post := by
  induction h with
  | hole => intro s; exact ⟨s, by simp⟩
  | left k b _ ih => intro s; obtain ⟨t, ht⟩ := ih (.node s k b); exact ⟨t, by rw [ht]; simp [Tr.sp]⟩
  | right a k _ ih => intro s; obtain ⟨t, ht⟩ := ih (.node a k s); exact ⟨t, by rw [ht]; simp [Tr.sp]⟩
theorem Ctx.ahead {d0 d : Int} {pre post : PL} (h : Ctx d0 d pre post) : 0 < pre.length → dp pre (pre.length - 1) < d := by
  induction h with
  | hole => intro h; simp at h
  | left k b _ ih => intro h; have := ih h; omega
  | right a k _ ih =>
    rename_i d pre post _
    intro _
    have := dp_mid (pre ++ a.sp (d + 1)) [] (k, d)
    have e : (pre ++ a.sp (d + 1) ++ [(k, d)]).length - 1 = (pre ++ a.sp (d + 1)).length := by simp
    rw [e, this]
    show d < d + 1
    omega
theorem Ctx.behind {d0 d : Int} {pre post : PL} (h : Ctx d0 d pre post) : 0 < post.length → dp post 0 < d := by
  induction h with
  | hole => intro h; simp at h
  | left k b _ ih => rename_i d pre post _; intro _; show d < d + 1; omega
  | right a k _ ih => intro h; have := ih h; omega
theorem Ctx.ge {d0 d : Int} {pre post : PL} (h : Ctx d0 d pre post) : d0 ≤ d := by
  induction h with
  | hole => exact Int.le_refl _
  | left k b _ ih => omega
  | right a k _ ih => omega

structure At (l : PL) (i : Nat) (d : Int) (a : Tr) (k : Int) (b : Tr) (pre post : PL) : Prop where
  ctx : Ctx 0 d pre post
  eq : l = pre ++ (Tr.node a k b).sp d ++ post
  idx : i = pre.length + a.size

theorem dp_in3 (x y z : PL) (j : Nat) (h1 : x.length ≤ j) (h2 : j < x.length + y.length) : dp (x ++ y ++ z) j = dp y (j - x.length) := by
  rw [dp_left (by simp; omega), dp_right h1]
theorem ky_in3 (x y z : PL) (j : Nat) (h1 : x.length ≤ j) (h2 : j < x.length + y.length) : ky (x ++ y ++ z) j = ky y (j - x.length) := by
  rw [ky_left (by simp; omega), ky_right h1]

theorem At.len {l : PL} {i : Nat} {d : Int} {a : Tr} {k : Int} {b : Tr} {pre post : PL} (h : At l i d a k b pre post) : l.length = pre.length + (a.size + 1 + b.size) + post.length := by
  rw [h.eq]; simp [sp_length, Tr.size]; omega
theorem At.root {l : PL} {i : Nat} {d : Int} {a : Tr} {k : Int} {b : Tr} {pre post : PL} (h : At l i d a k b pre post) : dp l i = d ∧ ky l i = k := by
  have hr := sp_root a b k d
  rw [h.eq, h.idx]
  constructor
  · rw [dp_in3 _ _ _ _ (by omega) (by simp [sp_length, Tr.size]; omega), Nat.add_sub_cancel_left]; exact hr.1
  · rw [ky_in3 _ _ _ _ (by omega) (by simp [sp_length, Tr.size]; omega), Nat.add_sub_cancel_left]; exact hr.2
theorem At.inside {l : PL} {i : Nat} {d : Int} {a : Tr} {k : Int} {b : Tr} {pre post : PL} (h : At l i d a k b pre post) (j : Nat) (h1 : pre.length ≤ j) (h2 : j < pre.length + (a.size + 1 + b.size)) (hne : j ≠ i) : d < dp l j := by
  rw [h.eq, dp_in3 _ _ _ _ h1 (by simp [sp_length, Tr.size]; omega)]
  exact sp_gt a b k d _ (by simp [Tr.size]; omega) (by have := h.idx; omega)
theorem At.ahead {l : PL} {i : Nat} {d : Int} {a : Tr} {k : Int} {b : Tr} {pre post : PL} (h : At l i d a k b pre post) (h0 : 0 < pre.length) : dp l (pre.length - 1) = dp pre (pre.length - 1) := by
  rw [h.eq, List.append_assoc, dp_left (by omega)]
theorem At.behind {l : PL} {i : Nat} {d : Int} {a : Tr} {k : Int} {b : Tr} {pre post : PL} (h : At l i d a k b pre post) : dp l (pre.length + (a.size + 1 + b.size)) = dp post 0 := by
  rw [h.eq, dp_right (by simp [sp_length, Tr.size])]
  congr 1
  simp [sp_length, Tr.size]

def frA (l : PL) (d : Int) : Nat → Nat
  | 0 => 0
  | f + 1 => if d < dp l f then frA l d f else f + 1
def toA (l : PL) (d : Int) : Nat → Nat → Nat
  | 0, t => t
  | m + 1, t => if d < dp l t then toA l d m (t + 1) else t
def frR (l : PL) (i : Nat) : Nat := frA l (dp l i) i
def toR (l : PL) (i : Nat) : Nat := toA l (dp l i) (l.length - (i + 1)) (i + 1)
theorem frA_eq (l : PL) (d : Int) (f0 : Nat) : ∀ f, f0 ≤ f → (∀ j, f0 ≤ j → j < f → d < dp l j) → (0 < f0 → ¬ d < dp l (f0 - 1)) → frA l d f = f0 := by
  intro f
  induction f with
  | zero => intro h _ _; rw [frA]; omega
  | succ f ih =>
    intro h h1 h2
    rw [frA]
    by_cases hf : f0 = f + 1
    · subst hf
      rw [if_neg (by simpa using h2 (by omega))]
    · rw [if_pos (h1 f (by omega) (by omega))]
      exact ih (by omega) (fun j a b => h1 j a (by omega)) h2
theorem toA_eq (l : PL) (d : Int) (t1 : Nat) : ∀ m t, t ≤ t1 → t1 ≤ t + m → (∀ j, t ≤ j → j < t1 → d < dp l j) → (t1 < t + m → ¬ d < dp l t1) → toA l d m t = t1 := by
  intro m
  induction m with
  | zero => intro t h h' _ _; rw [toA]; omega
  | succ m ih =>
    intro t h h' h1 h2
    rw [toA]
    by_cases ht : t1 = t
    · subst ht
      rw [if_neg (h2 (by omega))]
    · rw [if_pos (h1 t (by omega) (by omega))]
      exact ih (t + 1) (by omega) (by omega) (fun j a b => h1 j (by omega) b) (fun h3 => h2 (by omega))
theorem At.part {l : PL} {i : Nat} {d : Int} {a : Tr} {k : Int} {b : Tr} {pre post : PL} (h : At l i d a k b pre post) : frR l i = pre.length ∧ toR l i = pre.length + (a.size + 1 + b.size) := by
  have hi := h.idx
  have hl := h.len
  unfold frR toR
  rw [h.root.1]
  constructor
  · refine frA_eq l d _ i (by omega) (fun j h1 h2 => h.inside j h1 (by omega) (by omega)) (fun h0 => ?_)
    rw [h.ahead h0]
    have := h.ctx.ahead h0
    omega
  · refine toA_eq l d _ _ _ (by omega) (by omega) (fun j h1 h2 => h.inside j (by omega) h2 (by omega)) (fun h0 => ?_)
    rw [h.behind]
    have := h.ctx.behind (by omega)
    omega

def par (l : PL) (i : Nat) : Int := if toR l i = l.length then (frR l i : Int) - 1 else if frR l i = 0 ∨ dp l (frR l i - 1) < dp l (toR l i) then toR l i else (frR l i : Int) - 1
def shf (l : PL) (x y : Nat) (by_ : Int) : PL := l.take x ++ ((l.drop x).take (y - x)).map (fun p => (p.1, p.2 + by_)) ++ l.drop y
def turnL (l : PL) (i : Nat) : PL :=
  if i < (par l i).toNat then shf (shf l (frR l (par l i).toNat) (i + 1) (-1)) (par l i).toNat (toR l (par l i).toNat) 1
  else shf (shf l (frR l (par l i).toNat) ((par l i).toNat + 1) 1) i (toR l (par l i).toNat) (-1)

structure LL (l : PL) (i j : Nat) (d : Int) (a : Tr) (k : Int) (b : Tr) (p : Int) (c : Tr) (pre post : PL) : Prop where
  ctx : Ctx 0 d pre post
  eq : l = pre ++ (Tr.node (.node a k b) p c).sp d ++ post
  idx : i = pre.length + a.size
  jdx : j = pre.length + (a.size + 1 + b.size)
structure RR (l : PL) (i j : Nat) (d : Int) (a : Tr) (k : Int) (b : Tr) (p : Int) (c : Tr) (pre post : PL) : Prop where
  ctx : Ctx 0 d pre post
  eq : l = pre ++ (Tr.node a k (.node b p c)).sp d ++ post
  idx : i = pre.length + a.size
  jdx : j = pre.length + (a.size + 1 + b.size)

section
variable {l : PL} {i j : Nat} {d : Int} {a : Tr} {k : Int} {b : Tr} {p : Int} {c : Tr} {pre post : PL}
end

end Go.Proofs.Ytfmdpmebllepeaa

/-
  TURNS THERE AND BACK; THE WAY TO A ROW: plain mathematics. Nothing of the program.
-/
namespace Go.Proofs.Ytfmdpmebllepeaa

structure Turned (l s : PL) (i j : Nat) : Prop where
  lt : j < l.length
  ne : j ≠ i
  fr : frR l j ≤ i
  to : i < toR l j
  len : s.length = l.length
  keys : ∀ x, ky s x = ky l x
  near : ∀ x, dp s x ≤ dp l x + 1 ∧ dp l x - 1 ≤ dp s x
  tree : IsTree s
  low : dp s j ≠ 0
  back : turnL s j = l
end Go.Proofs.Ytfmdpmebllepeaa
