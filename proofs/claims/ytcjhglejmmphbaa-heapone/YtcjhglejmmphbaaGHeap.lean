/-
  A TREE OF NODES IN MEMORY, each in a block of its own; a place in it (a cell that holds a node or nil), and what is around it.
-/
import Derived.Test.YtcjhglejmmphbaaGPure
namespace Go.Proofs.Ytcjhglejmmphbaa
open Go.RowKit

inductive PT
  | nil
  | node (g : Nat) (l : PT) (k : Int) (r : PT)
def PT.tr : PT → Tr
  | .nil => .nil
  | .node _ l k r => .node l.tr k r.tr
def PT.bs : PT → List Nat
  | .nil => []
  | .node g l _ r => g :: (l.bs ++ r.bs)
def PT.q : PT → Option Addr
  | .nil => none
  | .node g _ _ _ => some ⟨g, 0, none⟩
abbrev PT.v (t : PT) : Value := .pointer t.q
/-- a node's block -/
def NB (w : World) (g : Nat) (k : Int) (x y : Value) : Prop := w.heap[g]? = some (.cells #[I k, x, y] 63 (0, 0))
theorem NB.facts {w : World} {g : Nat} {k : Int} {x y : Value} (h : NB w g k x y) :
    (w.cell? ⟨g, 0, none⟩ = some (I k) ∧ w.cell? ⟨g, 1, none⟩ = some x ∧ w.cell? ⟨g, 2, none⟩ = some y) ∧ (w.frozen? ⟨g, 0, none⟩ = false ∧ w.frozen? ⟨g, 1, none⟩ = false ∧ w.frozen? ⟨g, 2, none⟩ = false) := by
  unfold NB at h
  refine ⟨⟨?_, ?_, ?_⟩, ?_, ?_, ?_⟩ <;> simp [World.cell?, World.frozen?, h]
theorem NB.keep {w w' : World} {g : Nat} {k : Int} {x y : Value} (h : NB w g k x y) (e : w'.heap[g]? = w.heap[g]?) : NB w' g k x y := e.trans h
theorem NB.lt {w : World} {g : Nat} {k : Int} {x y : Value} (h : NB w g k x y) : g < w.heap.size := (Array.getElem?_eq_some_iff.1 h).1
theorem NB.set0 {w : World} {g : Nat} {k : Int} {x y : Value} (h : NB w g k x y) (k' : Int) : NB (w.setCell ⟨g, 0, none⟩ (I k')) g k' x y := by
  unfold NB at h ⊢
  rw [heap_setCell_same w g 0 _ _ _ h]
  rfl
theorem NB.set1 {w : World} {g : Nat} {k : Int} {x y : Value} (h : NB w g k x y) (x' : Value) : NB (w.setCell ⟨g, 1, none⟩ x') g k x' y := by
  unfold NB at h ⊢
  rw [heap_setCell_same w g 1 _ _ _ h]
  rfl
theorem NB.set2 {w : World} {g : Nat} {k : Int} {x y : Value} (h : NB w g k x y) (y' : Value) : NB (w.setCell ⟨g, 2, none⟩ y') g k x y' := by
  unfold NB at h ⊢
  rw [heap_setCell_same w g 2 _ _ _ h]
  rfl
def PT.Lay (w : World) : PT → Prop
  | .nil => True
  | .node g l k r => NB w g k l.v r.v ∧ l.Lay w ∧ r.Lay w
theorem PT.Lay.keep {w w' : World} : ∀ {t : PT}, t.Lay w → (∀ x ∈ t.bs, w'.heap[x]? = w.heap[x]?) → t.Lay w'
  | .nil, _, _ => trivial
  | .node g l k r, h, hx => ⟨h.1.keep (hx g (by simp [PT.bs])), PT.Lay.keep h.2.1 (fun x h' => hx x (by simp [PT.bs, h'])), PT.Lay.keep h.2.2 (fun x h' => hx x (by simp [PT.bs, h']))⟩
theorem PT.Lay.lt {w : World} : ∀ {t : PT}, t.Lay w → ∀ x ∈ t.bs, x < w.heap.size
  | .nil, _, x, hx => by simp [PT.bs] at hx
  | .node g l k r, h, x, hx => by
    simp only [PT.bs, List.mem_cons, List.mem_append] at hx
    rcases hx with rfl | hx | hx
    · exact h.1.lt
    · exact h.2.1.lt x hx
    · exact h.2.2.lt x hx

inductive PC
  | top
  | left (u : PC) (g : Nat) (k : Int) (r : PT)
  | right (u : PC) (g : Nat) (l : PT) (k : Int)
def PC.fill : PC → Tr → Tr
  | .top, t => t
  | .left u _ k r, t => u.fill (.node t k r.tr)
  | .right u _ l k, t => u.fill (.node l.tr k t)
def PC.bs (T : Nat) : PC → List Nat
  | .top => [T]
  | .left u g _ r => g :: (r.bs ++ u.bs T)
  | .right u g l _ => g :: (l.bs ++ u.bs T)
def PC.ad (T : Nat) : PC → Addr
  | .top => ⟨T, 0, none⟩
  | .left _ g _ _ => ⟨g, 1, none⟩
  | .right _ g _ _ => ⟨g, 2, none⟩
/-- the variable that holds the top -/
def TB (w : World) (T : Nat) (v : Value) : Prop := w.heap[T]? = some (.cells #[v] 61 (0, 0))
theorem TB.facts {w : World} {T : Nat} {v : Value} (h : TB w T v) : w.cell? ⟨T, 0, none⟩ = some v ∧ w.frozen? ⟨T, 0, none⟩ = false := by
  unfold TB at h
  constructor <;> simp [World.cell?, World.frozen?, h]
theorem TB.set {w : World} {T : Nat} {v : Value} (h : TB w T v) (v' : Value) : TB (w.setCell ⟨T, 0, none⟩ v') T v' := by
  unfold TB at h ⊢
  rw [heap_setCell_same w T 0 _ _ _ h]
  rfl
def PC.Lay (w : World) (T : Nat) : PC → Value → Prop
  | .top, v => TB w T v
  | .left u g k r, v => NB w g k v r.v ∧ r.Lay w ∧ u.Lay w T (.pointer (some ⟨g, 0, none⟩))
  | .right u g l k, v => NB w g k l.v v ∧ l.Lay w ∧ u.Lay w T (.pointer (some ⟨g, 0, none⟩))
theorem PC.Lay.keep {w w' : World} {T : Nat} : ∀ {c : PC} {v : Value}, c.Lay w T v → (∀ x ∈ c.bs T, w'.heap[x]? = w.heap[x]?) → c.Lay w' T v
  | .top, _, h, hx => (hx T (by simp [PC.bs])).trans h
  | .left u g k r, v, h, hx => ⟨h.1.keep (hx g (by simp [PC.bs])), h.2.1.keep (fun x h' => hx x (by simp [PC.bs, h'])), PC.Lay.keep h.2.2 (fun x h' => hx x (by simp [PC.bs, h']))⟩
  | .right u g l k, v, h, hx => ⟨h.1.keep (hx g (by simp [PC.bs])), h.2.1.keep (fun x h' => hx x (by simp [PC.bs, h'])), PC.Lay.keep h.2.2 (fun x h' => hx x (by simp [PC.bs, h']))⟩
theorem PC.Lay.lt {w : World} {T : Nat} : ∀ {c : PC} {v : Value}, c.Lay w T v → ∀ x ∈ c.bs T, x < w.heap.size
  | .top, _, h, x, hx => by
    simp only [PC.bs, List.mem_singleton] at hx
    subst hx
    exact (Array.getElem?_eq_some_iff.1 h).1
  | .left u g k r, v, h, x, hx => by
    simp only [PC.bs, List.mem_cons, List.mem_append] at hx
    rcases hx with rfl | hx | hx
    · exact h.1.lt
    · exact h.2.1.lt x hx
    · exact PC.Lay.lt h.2.2 x hx
  | .right u g l k, v, h, x, hx => by
    simp only [PC.bs, List.mem_cons, List.mem_append] at hx
    rcases hx with rfl | hx | hx
    · exact h.1.lt
    · exact h.2.1.lt x hx
    · exact PC.Lay.lt h.2.2 x hx
/-- the place's own cell -/
theorem PC.Lay.cell {w : World} {T : Nat} {c : PC} {v : Value} (h : c.Lay w T v) : w.cell? (c.ad T) = some v ∧ w.frozen? (c.ad T) = false := by
  cases c with
  | top => exact h.facts
  | left u g k r => exact ⟨h.1.facts.1.2.1, h.1.facts.2.2.1⟩
  | right u g l k => exact ⟨h.1.facts.1.2.2, h.1.facts.2.2.2⟩
theorem PC.ad_none (T : Nat) (c : PC) : ∃ b o, c.ad T = ⟨b, o, none⟩ ∧ b ∈ c.bs T := by
  cases c with
  | top => exact ⟨_, _, rfl, by simp [PC.bs]⟩
  | left u g k r => exact ⟨_, _, rfl, by simp [PC.bs]⟩
  | right u g l k => exact ⟨_, _, rfl, by simp [PC.bs]⟩

/-- the place c of the tree in variable T has t; all of it lies from block B on, each node apart -/
structure Rep (B : Nat) (w : World) (T : Nat) (c : PC) (t : PT) : Prop where
  ctx : c.Lay w T t.v
  lay : t.Lay w
  nd : (t.bs ++ c.bs T).Nodup
  ge : ∀ x ∈ t.bs ++ c.bs T, B ≤ x

theorem perm_l (g : Nat) (l r C : List Nat) : (l ++ (g :: (r ++ C))).Perm ((g :: (l ++ r)) ++ C) := by
  have : (g :: (l ++ r)) ++ C = g :: (l ++ (r ++ C)) := by simp
  rw [this]
  exact List.perm_middle
theorem perm_r (g : Nat) (l r C : List Nat) : (r ++ (g :: (l ++ C))).Perm ((g :: (l ++ r)) ++ C) := by
  have : (g :: (l ++ r)) ++ C = g :: (l ++ (r ++ C)) := by simp
  rw [this]
  exact List.perm_middle.trans (List.Perm.cons _ (List.perm_append_comm_assoc _ _ _))
theorem Rep.left {B : Nat} {w : World} {T : Nat} {c : PC} {g : Nat} {l r : PT} {k : Int} (h : Rep B w T c (.node g l k r)) : Rep B w T (.left c g k r) l :=
  ⟨⟨h.lay.1, h.lay.2.2, h.ctx⟩, h.lay.2.1, ((perm_l g l.bs r.bs (c.bs T)).nodup_iff).2 h.nd, fun x hx => h.ge x ((perm_l g l.bs r.bs (c.bs T)).mem_iff.1 hx)⟩
theorem Rep.right {B : Nat} {w : World} {T : Nat} {c : PC} {g : Nat} {l r : PT} {k : Int} (h : Rep B w T c (.node g l k r)) : Rep B w T (.right c g l k) r :=
  ⟨⟨h.lay.1, h.lay.2.1, h.ctx⟩, h.lay.2.2, ((perm_r g l.bs r.bs (c.bs T)).nodup_iff).2 h.nd, fun x hx => h.ge x ((perm_r g l.bs r.bs (c.bs T)).mem_iff.1 hx)⟩
theorem Rep.up_left {B : Nat} {w : World} {T : Nat} {c : PC} {g : Nat} {l r : PT} {k : Int} (h : Rep B w T (.left c g k r) l) : Rep B w T c (.node g l k r) :=
  ⟨h.ctx.2.2, ⟨h.ctx.1, h.lay, h.ctx.2.1⟩, ((perm_l g l.bs r.bs (c.bs T)).nodup_iff).1 h.nd, fun x hx => h.ge x ((perm_l g l.bs r.bs (c.bs T)).mem_iff.2 hx)⟩
theorem Rep.up_right {B : Nat} {w : World} {T : Nat} {c : PC} {g : Nat} {l r : PT} {k : Int} (h : Rep B w T (.right c g l k) r) : Rep B w T c (.node g l k r) :=
  ⟨h.ctx.2.2, ⟨h.ctx.1, h.ctx.2.1, h.lay⟩, ((perm_r g l.bs r.bs (c.bs T)).nodup_iff).1 h.nd, fun x hx => h.ge x ((perm_r g l.bs r.bs (c.bs T)).mem_iff.2 hx)⟩
theorem Rep.up {B : Nat} {w : World} {T : Nat} {c : PC} : ∀ {t : PT}, Rep B w T c t → ∃ s : PT, Rep B w T .top s ∧ s.tr = c.fill t.tr := by
  induction c with
  | top => exact fun {t} h => ⟨t, h, rfl⟩
  | left u g k r ih => exact fun {t} h => ih h.up_left
  | right u g l k ih => exact fun {t} h => ih h.up_right
theorem Rep.lt {B : Nat} {w : World} {T : Nat} {c : PC} {t : PT} (h : Rep B w T c t) : ∀ x ∈ t.bs ++ c.bs T, x < w.heap.size := fun x hx => by
  rcases List.mem_append.1 hx with hx | hx
  · exact h.lay.lt x hx
  · exact h.ctx.lt x hx
theorem Rep.keep {B : Nat} {w w' : World} {T : Nat} {c : PC} {t : PT} (h : Rep B w T c t) (hx : ∀ x ∈ t.bs ++ c.bs T, w'.heap[x]? = w.heap[x]?) : Rep B w' T c t :=
  ⟨h.ctx.keep fun x h' => hx x (List.mem_append.2 (.inr h')), h.lay.keep fun x h' => hx x (List.mem_append.2 (.inl h')), h.nd, h.ge⟩
theorem Rep.below {B : Nat} {w w' : World} {T : Nat} {c : PC} {t : PT} (h : Rep B w T c t) (hb : Below w.heap.size w w') : Rep B w' T c t :=
  h.keep fun x hx => hb.block x (h.lt x hx)
theorem Rep.alloc {B : Nat} {w : World} {T : Nat} {c : PC} {t : PT} (h : Rep B w T c t) (o : Obj) : Rep B (w.alloc o) T c t := h.below ((Below.refl _ _).alloc (Nat.le_refl _) _)
theorem Rep.far {B : Nat} {w : World} {T : Nat} {c : PC} {t : PT} (h : Rep B w T c t) {p : Addr} (hp : p.block ∉ t.bs ++ c.bs T) (u : Value) : Rep B (w.setCell p u) T c t :=
  h.keep fun x hx => Below.heap_setCell w p u x (fun e => hp (by rw [← e]; exact hx))
/-- the place gets another tree, that lies in no node around it -/
theorem Rep.put {B : Nat} {w : World} {T : Nat} {c : PC} {v : Value} {t : PT} (hc : c.Lay w T v) (ht : t.Lay w) (hn : (t.bs ++ c.bs T).Nodup) (hg : ∀ x ∈ t.bs ++ c.bs T, B ≤ x) : Rep B (w.setCell (c.ad T) t.v) T c t := by
  have hd := (List.nodup_append.1 hn).2.2
  have hk : ∀ x, x ≠ (c.ad T).block → (w.setCell (c.ad T) t.v).heap[x]? = w.heap[x]? := fun x hx => Below.heap_setCell w _ _ x hx
  refine ⟨?_, ht.keep fun x hx => hk x (fun e => ?_), hn, hg⟩
  · cases c with
    | top => exact hc.set _
    | left u g k r =>
      have hnd := (List.nodup_append.1 hn).2.1
      simp only [PC.bs, List.nodup_cons, List.mem_append, not_or] at hnd
      exact ⟨hc.1.set1 _, hc.2.1.keep fun x hx => hk x (fun e => hnd.1.1 (by have e' : x = g := e; rw [← e']; exact hx)), hc.2.2.keep fun x hx => hk x (fun e => hnd.1.2 (by have e' : x = g := e; rw [← e']; exact hx))⟩
    | right u g l k =>
      have hnd := (List.nodup_append.1 hn).2.1
      simp only [PC.bs, List.nodup_cons, List.mem_append, not_or] at hnd
      exact ⟨hc.1.set2 _, hc.2.1.keep fun x hx => hk x (fun e => hnd.1.1 (by have e' : x = g := e; rw [← e']; exact hx)), hc.2.2.keep fun x hx => hk x (fun e => hnd.1.2 (by have e' : x = g := e; rw [← e']; exact hx))⟩
  · obtain ⟨b, o, eb, hb⟩ := c.ad_none T
    rw [eb] at e
    exact hd x hx b hb e
theorem Rep.key {B : Nat} {w : World} {T : Nat} {c : PC} {g : Nat} {l r : PT} {k : Int} (h : Rep B w T c (.node g l k r)) (k' : Int) : Rep B (w.setCell ⟨g, 0, none⟩ (I k')) T c (.node g l k' r) := by
  have hnd := h.nd
  simp only [PT.bs, List.cons_append, List.nodup_cons, List.mem_append, not_or] at hnd
  have hk : ∀ x, x ≠ g → (w.setCell ⟨g, 0, none⟩ (I k')).heap[x]? = w.heap[x]? := fun x hx => Below.heap_setCell w _ _ x hx
  refine ⟨h.ctx.keep fun x hx => hk x (fun e => hnd.1.2 (by rw [← e]; exact hx)), ⟨h.lay.1.set0 k', h.lay.2.1.keep fun x hx => hk x (fun e => hnd.1.1.1 (by rw [← e]; exact hx)), h.lay.2.2.keep fun x hx => hk x (fun e => hnd.1.1.2 (by rw [← e]; exact hx))⟩, h.nd, h.ge⟩
theorem Rep.blk {B : Nat} {w : World} {T : Nat} {c : PC} {t : PT} (h : Rep B w T c t) : B ≤ (c.ad T).block := by
  obtain ⟨b, o, eb, hb⟩ := c.ad_none T
  rw [eb]
  exact h.ge b (List.mem_append.2 (.inr hb))

end Go.Proofs.Ytcjhglejmmphbaa
