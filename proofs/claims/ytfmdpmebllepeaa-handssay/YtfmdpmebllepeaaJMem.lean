/-
  MANY HANDS IN MEMORY: nodes, each in a block of its own; hands in one block; what a step may change. Nothing of the program but its types' numbers.
-/
import Derived.Test.YtfmdpmebllepeaaUTellAll
import Derived.Laws.Tables
import Derived.Below
namespace Go.Proofs.Ytfmdpmebllepeaa
open Go.RowKit

abbrev jp (g : Nat) : Value := .pointer (some ⟨g, 0, none⟩)
theorem jblk {w : World} {g : Nat} {o : Obj} (h : w.heap[g]? = some o) : g < w.heap.size := (Array.getElem?_eq_some_iff.1 h).1
theorem jset_at {w : World} {g i : Nat} {C : Array Value} {t : Nat} {v : Value} (h : w.heap[g]? = some (.cells C t (0, 0))) : (w.setCell ⟨g, i, none⟩ v).heap[g]? = some (.cells (C.setIfInBounds i v) t (0, 0)) := by
  rw [setCell_eq_setRow w g i _ t (0, 0) v h, setRow_heap w g _ _ t (0, 0) h]
theorem jcell {w : World} {g i t : Nat} {C : Array Value} (h : w.heap[g]? = some (.cells C t (0, 0))) : w.cell? ⟨g, i, none⟩ = C[i]? := by simp [World.cell?, h]
theorem jfroz {w : World} {g i t : Nat} {C : Array Value} (h : w.heap[g]? = some (.cells C t (0, 0))) : w.frozen? ⟨g, i, none⟩ = false := by simp [World.frozen?, h]
theorem jsize_set (w : World) (a : Addr) (v : Value) : (w.setCell a v).heap.size = w.heap.size := by simp [World.setCell]

def jnx (s : Bs) (ad : Nat → Nat) (i : Nat) : Value := if i = s.tl then .pointer none else jp (ad (s.nx i))
theorem jnx_ne {s : Bs} {ad : Nat → Nat} {i : Nat} (h : i ≠ s.tl) : jnx s ad i = jp (ad (s.nx i)) := if_neg h
def JBead (w : World) (ad : Nat → Nat) (s : Bs) (lk : Nat → Bool) (i : Nat) : Prop := w.heap[ad i]? = some (.cells #[I (s.key i), jnx s ad i, .bool (s.mrk i), .bool (lk i)] 86 (0, 0))

structure JP (base : Nat) (w w' : World) : Prop where
  kp : ∀ (g : Nat) (cs : Array Value) (t : Nat) (f : Nat × Nat), w.heap[g]? = some (Obj.cells cs t f) → t ≠ 86 → t ≠ 74 → w'.heap[g]? = some (Obj.cells cs t f)
  bl : Below base w w'
theorem JP.refl (base : Nat) (w : World) : JP base w w := ⟨fun _ _ _ _ h _ _ => h, Below.refl _ _⟩
theorem JP.trans {base : Nat} {w w1 w2 : World} (h : JP base w w1) (h2 : JP base w1 w2) : JP base w w2 := ⟨fun g cs t f a b c => h2.kp g cs t f (h.kp g cs t f a b c) b c, h.bl.trans h2.bl⟩
theorem JP.drewN {base : Nat} {w w1 : World} (h : JP base w w1) (n : Nat) : JP base w (w1.drewN n) := ⟨h.kp, below_drewN h.bl n⟩
theorem JP.drew {base : Nat} {w w1 : World} (h : JP base w w1) : JP base w w1.drew := ⟨h.kp, h.bl.drew⟩
theorem JP.alloc {base : Nat} {w w1 : World} (h : JP base w w1) (hb : base ≤ w1.heap.size) (o : Obj) : JP base w (w1.alloc o) :=
  ⟨fun g cs t f a b c => by have := h.kp g cs t f a b c; rw [Below.heap_alloc _ _ _ (jblk this)]; exact this, h.bl.alloc hb o⟩
theorem JP.setCell {base : Nat} {w w1 : World} (h : JP base w w1) {p : Addr} (hb : base ≤ p.block) {cs : Array Value} {t : Nat} {f : Nat × Nat} (hp : w1.heap[p.block]? = some (.cells cs t f)) (ht : t = 86 ∨ t = 74) (v : Value) : JP base w (w1.setCell p v) :=
  ⟨fun g cs' t' f' a b c => by
    have := h.kp g cs' t' f' a b c
    rw [Below.heap_setCell _ _ _ _ (fun e => by
      rw [← e, this] at hp
      cases hp
      rcases ht with h | h
      · exact b h
      · exact c h)]
    exact this, h.bl.setCell hb v⟩

structure JL (w : World) (base : Nat) (ad : Nat → Nat) (s : Bs) (lk : Nat → Bool) : Prop where
  bd : ∀ i, i < s.sz → JBead w ad s lk i
  inj : ∀ i j, i < s.sz → j < s.sz → ad i = ad j → i = j
  ge : ∀ i, i < s.sz → base ≤ ad i
theorem JL.lt {w : World} {base : Nat} {ad : Nat → Nat} {s : Bs} {lk : Nat → Bool} (h : JL w base ad s lk) {i : Nat} (hi : i < s.sz) : ad i < w.heap.size := jblk (h.bd i hi)
theorem JL.cells {w : World} {base : Nat} {ad : Nat → Nat} {s : Bs} {lk : Nat → Bool} (h : JL w base ad s lk) {i : Nat} (hi : i < s.sz) :
    w.cell? ⟨ad i, 0, none⟩ = some (I (s.key i)) ∧ w.cell? ⟨ad i, 1, none⟩ = some (jnx s ad i) ∧ w.cell? ⟨ad i, 2, none⟩ = some (.bool (s.mrk i)) ∧ w.cell? ⟨ad i, 3, none⟩ = some (.bool (lk i)) := by
  have := h.bd i hi
  exact ⟨by rw [jcell this]; rfl, by rw [jcell this]; rfl, by rw [jcell this]; rfl, by rw [jcell this]; rfl⟩
theorem JL.froz {w : World} {base : Nat} {ad : Nat → Nat} {s : Bs} {lk : Nat → Bool} (h : JL w base ad s lk) {i : Nat} (hi : i < s.sz) (k : Nat) : w.frozen? ⟨ad i, k, none⟩ = false := jfroz (h.bd i hi)
theorem JL.keep {w w' : World} {base : Nat} {ad : Nat → Nat} {s : Bs} {lk : Nat → Bool} (h : JL w base ad s lk) (hk : ∀ i, i < s.sz → w'.heap[ad i]? = w.heap[ad i]?) : JL w' base ad s lk :=
  ⟨fun i hi => (hk i hi).trans (h.bd i hi), h.inj, h.ge⟩
theorem JL.setLock {w : World} {base : Nat} {ad : Nat → Nat} {s : Bs} {lk : Nat → Bool} (h : JL w base ad s lk) {x : Nat} (hx : x < s.sz) (b : Bool) : JL (w.setCell ⟨ad x, 3, none⟩ (.bool b)) base ad s (upd lk x b) := by
  refine ⟨fun i hi => ?_, h.inj, h.ge⟩
  unfold JBead
  by_cases e : i = x
  · subst e
    rw [jset_at (h.bd i hi), upd_same]
    rfl
  · rw [Below.heap_setCell _ _ _ _ (fun e2 => e (h.inj i x hi hx e2)), upd_other _ _ e]
    exact h.bd i hi
theorem JL.setMark {w : World} {base : Nat} {ad : Nat → Nat} {s : Bs} {lk : Nat → Bool} (h : JL w base ad s lk) {x : Nat} (hx : x < s.sz) : JL (w.setCell ⟨ad x, 2, none⟩ (.bool true)) base ad (s.mark x) lk := by
  refine ⟨fun i hi => ?_, h.inj, h.ge⟩
  unfold JBead
  show (w.setCell ⟨ad x, 2, none⟩ (.bool true)).heap[ad i]? = some (.cells #[I (s.key i), jnx s ad i, .bool (upd s.mrk x true i), .bool (lk i)] 86 (0, 0))
  by_cases e : i = x
  · subst e
    rw [jset_at (h.bd i hi), upd_same]
    rfl
  · rw [Below.heap_setCell _ _ _ _ (fun e2 => e (h.inj i x hi hx e2)), upd_other _ _ e]
    exact h.bd i hi
theorem JL.setCut {w : World} {base : Nat} {ad : Nat → Nat} {s : Bs} {lk : Nat → Bool} (h : JL w base ad s lk) {p c : Nat} (hp : p < s.sz) (hpt : p ≠ s.tl) : JL (w.setCell ⟨ad p, 1, none⟩ (jp (ad (s.nx c)))) base ad (s.cut p c) lk := by
  refine ⟨fun i hi => ?_, h.inj, h.ge⟩
  unfold JBead jnx
  show (w.setCell ⟨ad p, 1, none⟩ (jp (ad (s.nx c)))).heap[ad i]? = some (.cells #[I (s.key i), if i = s.tl then .pointer none else jp (ad (upd s.nx p (s.nx c) i)), .bool (s.mrk i), .bool (lk i)] 86 (0, 0))
  by_cases e : i = p
  · subst e
    rw [jset_at (h.bd i hi), upd_same, if_neg hpt]
    rfl
  · rw [Below.heap_setCell _ _ _ _ (fun e2 => e (h.inj i p hi hp e2)), upd_other _ _ e]
    exact h.bd i hi
theorem JL.insert {w : World} {base : Nat} {ad : Nat → Nat} {s : Bs} {lk : Nat → Bool} (h : JL w base ad s lk) {p c : Nat} {K : Int} (hp : p < s.sz) (hpt : p ≠ s.tl) (hc : c < s.sz) (htl : s.tl < s.sz) (hnl : ∀ i, i < s.sz → i ≠ s.tl → s.nx i < s.sz) (hlk : lk s.sz = false) (hb : base ≤ w.heap.size) :
    JL ((w.alloc (.cells #[I K, jp (ad c), .bool false, .bool false] 86)).setCell ⟨ad p, 1, none⟩ (jp w.heap.size)) base (upd ad s.sz w.heap.size) (s.insc p c K) lk := by
  have hO : ∀ i, i < s.sz → upd ad s.sz w.heap.size i = ad i := fun i hi => upd_other _ _ (by omega)
  have hN : upd ad s.sz w.heap.size s.sz = w.heap.size := upd_same _ _ _
  refine ⟨fun i hi => ?_, fun i j hi hj e => ?_, fun i hi => ?_⟩
  · have hi : i < s.sz + 1 := hi
    unfold JBead jnx
    show ((w.alloc (.cells #[I K, jp (ad c), .bool false, .bool false] 86)).setCell ⟨ad p, 1, none⟩ (jp w.heap.size)).heap[upd ad s.sz w.heap.size i]? = some (.cells #[I (upd s.key s.sz K i), if i = s.tl then .pointer none else jp (upd ad s.sz w.heap.size (upd (upd s.nx s.sz c) p s.sz i)), .bool (upd s.mrk s.sz false i), .bool (lk i)] 86 (0, 0))
    by_cases e : i = s.sz
    · subst e
      have n1 : upd (upd s.nx s.sz c) p s.sz s.sz = c := by rw [upd_other _ _ (show s.sz ≠ p by omega), upd_same]
      rw [hN, n1, upd_same, upd_same, if_neg (show s.sz ≠ s.tl by omega), hO c hc, hlk]
      have hne : w.heap.size ≠ ad p := by have := h.lt hp; omega
      rw [Below.heap_setCell _ _ _ _ hne, heap_alloc_new]
    · have hi' : i < s.sz := by omega
      rw [hO i hi', upd_other _ _ e, upd_other s.mrk _ e]
      have hal : (w.alloc (.cells #[I K, jp (ad c), .bool false, .bool false] 86)).heap[ad i]? = w.heap[ad i]? := Below.heap_alloc _ _ _ (h.lt hi')
      by_cases e2 : i = p
      · subst e2
        rw [jset_at (hal.trans (h.bd i hi')), upd_same, if_neg hpt, hN]
        rfl
      · rw [Below.heap_setCell _ _ _ _ (fun e3 => e2 (h.inj i p hi' hp e3)), upd_other _ _ e2, upd_other _ _ e, hal]
        have := h.bd i hi'
        unfold JBead jnx at this
        rw [this]
        by_cases e4 : i = s.tl
        · rw [if_pos e4, if_pos e4]
        · rw [if_neg e4, if_neg e4, hO _ (hnl i hi' e4)]
  · have hi : i < s.sz + 1 := hi
    have hj : j < s.sz + 1 := hj
    by_cases e1 : i = s.sz
    · by_cases e2 : j = s.sz
      · omega
      · rw [e1, hN, hO j (by omega)] at e
        have := h.lt (i := j) (by omega)
        omega
    · by_cases e2 : j = s.sz
      · rw [e2, hN, hO i (by omega)] at e
        have := h.lt (i := i) (by omega)
        omega
      · rw [hO i (by omega), hO j (by omega)] at e
        exact h.inj i j (by omega) (by omega) e
  · have hi : i < s.sz + 1 := hi
    by_cases e1 : i = s.sz
    · rw [e1, hN]; exact hb
    · rw [hO i (by omega)]; exact h.ge i (by omega)

theorem upd_upd {α : Type} (f : Nat → α) (v : Nat) (a b : α) : upd (upd f v a) v b = upd f v b := by
  funext j
  by_cases e : j = v
  · rw [e, upd_same, upd_same]
  · rw [upd_other _ _ e, upd_other _ _ e, upd_other _ _ e]
theorem upd_self {α : Type} (f : Nat → α) (v : Nat) : upd f v (f v) = f := by
  funext j
  by_cases e : j = v
  · rw [e, upd_same]
  · rw [upd_other _ _ e]
def JH (w : World) (B nh : Nat) (hs : Nat → Nat → Value) : Prop := ∃ C : Array Value, w.heap[B]? = some (.cells C 74 (0, 0)) ∧ C.size = nh * 9 ∧ (∀ v, v < nh → ∀ i, i < 9 → C[v * 9 + i]? = some (hs v i)) ∧ ∀ v, v < nh → ∀ i, i < 9 → (hs v i).oneCell' = true
theorem JH.lt {w : World} {B nh : Nat} {hs : Nat → Nat → Value} (h : JH w B nh hs) : B < w.heap.size := by obtain ⟨C, h1, _⟩ := h; exact jblk h1
theorem JH.cell {w : World} {B nh : Nat} {hs : Nat → Nat → Value} (h : JH w B nh hs) {v i : Nat} (hv : v < nh) (hi : i < 9) : w.cell? ⟨B, v * 9 + i, none⟩ = some (hs v i) := by
  obtain ⟨C, h1, _, h3, _⟩ := h
  rw [jcell h1]
  exact h3 v hv i hi
theorem JH.froz {w : World} {B nh : Nat} {hs : Nat → Nat → Value} (h : JH w B nh hs) (k : Nat) : w.frozen? ⟨B, k, none⟩ = false := by obtain ⟨C, h1, _⟩ := h; exact jfroz h1
theorem JH.keep {w w' : World} {B nh : Nat} {hs : Nat → Nat → Value} (h : JH w B nh hs) (e : w'.heap[B]? = w.heap[B]?) : JH w' B nh hs := by
  obtain ⟨C, h1, h2⟩ := h
  exact ⟨C, e.trans h1, h2⟩
theorem JH.set {w : World} {B nh : Nat} {hs : Nat → Nat → Value} (h : JH w B nh hs) {v i : Nat} (hi : i < 9) (x : Value) (hx : x.oneCell' = true) : JH (w.setCell ⟨B, v * 9 + i, none⟩ x) B nh (upd hs v (upd (hs v) i x)) := by
  obtain ⟨C, h1, h2, h3, h4⟩ := h
  refine ⟨C.setIfInBounds (v * 9 + i) x, jset_at h1, by simpa using h2, fun v' hv' i' hi' => ?_, fun v' hv' i' hi' => ?_⟩
  case refine_2 =>
    by_cases e : v' = v
    · rw [e, upd_same]
      by_cases e2 : i' = i
      · rw [e2, upd_same]; exact hx
      · rw [upd_other _ _ e2]
        exact h4 v (by rw [← e]; exact hv') i' hi'
    · rw [upd_other _ _ e]
      exact h4 v' hv' i' hi'
  rw [Array.getElem?_setIfInBounds]
  by_cases e : v' = v
  · subst e
    rw [upd_same]
    by_cases e2 : i' = i
    · subst e2
      rw [upd_same, if_pos rfl, if_pos (by omega)]
    · rw [upd_other _ _ e2, if_neg (by omega)]
      exact h3 v' hv' i' hi'
  · rw [upd_other _ _ e, if_neg (by omega)]
    exact h3 v' hv' i' hi'

structure JS (base B nh : Nat) (ad : Nat → Nat) (s : Bs) (lk : Nat → Bool) (hs : Nat → Nat → Value) (w : World) : Prop where
  l : JL w base ad s lk
  h : JH w B nh hs
  ge : base ≤ B
def JD (base : Nat) (hm : Nat → Value) (kd K : Int) (w : World) : Prop := ∃ (b off n c : Nat) (DA : Option Addr) (j dc : Nat), hm 1 = .slice (some ⟨b, off, none⟩) n c ∧ hm 2 = .slice DA (j + 1) dc ∧ j < n ∧ n ≤ 4 ∧ b < base ∧ w.cell? ⟨b, off + j * 2, none⟩ = some (I kd) ∧ w.cell? ⟨b, off + j * 2 + 1, none⟩ = some (I K)
theorem JD.keep {base : Nat} {hm hm' : Nat → Value} {kd K : Int} {w w' : World} (h : JD base hm kd K w) (hb : Below base w w') (h1 : hm' 1 = hm 1) (h2 : hm' 2 = hm 2) : JD base hm' kd K w' := by
  obtain ⟨b, off, n, c, DA, j, dc, e1, e2, e3, e4, e5, e6, e7⟩ := h
  exact ⟨b, off, n, c, DA, j, dc, h1.trans e1, h2.trans e2, e3, e4, e5, (hb.cell (by exact e5)).trans e6, (hb.cell (by exact e5)).trans e7⟩
structure ST (base B nh v : Nat) (kd K : Int) (ad : Nat → Nat) (s : Bs) (lk : Nat → Bool) (hs : Nat → Nat → Value) (hm : Nat → Value) (w : World) : Prop where
  js : JS base B nh ad s lk (upd hs v hm) w
  hv : v < nh
  jd : JD base hm kd K w
section
variable {base B nh v : Nat} {kd K : Int} {ad : Nat → Nat} {s : Bs} {lk : Nat → Bool} {hs : Nat → Nat → Value} {hm : Nat → Value} {w : World}
theorem JS.szb (h : JS base B nh ad s lk hs w) : base ≤ w.heap.size := by have := h.h.lt; have := h.ge; omega
theorem JS.ne (h : JS base B nh ad s lk hs w) {i : Nat} (hi : i < s.sz) : ad i ≠ B := fun e => by
  have h1 := h.l.bd i hi
  obtain ⟨C, h2, _⟩ := h.h
  unfold JBead at h1
  rw [e, h2] at h1
  injection h1 with h1
  injection h1 with _ h1
  exact absurd h1 (by decide)
theorem ST.drewN (h : ST base B nh v kd K ad s lk hs hm w) (n : Nat) : ST base B nh v kd K ad s lk hs hm (w.drewN n) := ⟨⟨h.js.l.keep fun _ _ => rfl, h.js.h.keep rfl, h.js.ge⟩, h.hv, h.jd⟩
theorem JS.alloc (h : JS base B nh ad s lk hs w) (o : Obj) : JS base B nh ad s lk hs (w.alloc o) :=
  ⟨h.l.keep fun i hi => Below.heap_alloc _ _ _ (h.l.lt hi), h.h.keep (Below.heap_alloc _ _ _ h.h.lt), h.ge⟩
theorem ST.alloc (h : ST base B nh v kd K ad s lk hs hm w) (o : Obj) : ST base B nh v kd K ad s lk hs hm (w.alloc o) :=
  ⟨h.js.alloc o, h.hv, h.jd.keep ((Below.refl _ _).alloc h.js.szb o) rfl rfl⟩
theorem ST.jp_alloc (h : ST base B nh v kd K ad s lk hs hm w) (o : Obj) : JP base w (w.alloc o) := (JP.refl _ _).alloc h.js.szb o
theorem JS.fld (h : JS base B nh ad s lk hs w) {i : Nat} (hi : i < 9) (v : Nat) (x : Value) (hx : x.oneCell' = true := by rfl) : JS base B nh ad s lk (upd hs v (upd (hs v) i x)) (w.setCell ⟨B, v * 9 + i, none⟩ x) :=
  ⟨h.l.keep fun j hj => Below.heap_setCell _ _ _ _ (h.ne hj), h.h.set hi x hx, h.ge⟩
theorem JS.jp_fld (h : JS base B nh ad s lk hs w) (k : Nat) (x : Value) : JP base w (w.setCell ⟨B, k, none⟩ x) := by
  obtain ⟨C, h1, _⟩ := h.h
  exact (JP.refl _ _).setCell (p := ⟨B, k, none⟩) h.ge h1 (.inr rfl) x
theorem ST.fld (h : ST base B nh v kd K ad s lk hs hm w) {i : Nat} (hi : i < 9) (h3 : 3 ≤ i) (x : Value) (hx : x.oneCell' = true := by rfl) : ST base B nh v kd K ad s lk hs (upd hm i x) (w.setCell ⟨B, v * 9 + i, none⟩ x) :=
  ⟨by have := h.js.fld hi v x hx; rw [upd_same, upd_upd] at this; exact this, h.hv, h.jd.keep (h.js.jp_fld _ _).bl (upd_other _ _ (by omega)) (upd_other _ _ (by omega))⟩
theorem JS.jp_node (h : JS base B nh ad s lk hs w) {x : Nat} (hx : x < s.sz) (k : Nat) (u : Value) : JP base w (w.setCell ⟨ad x, k, none⟩ u) :=
  (JP.refl _ _).setCell (p := ⟨ad x, k, none⟩) (h.l.ge x hx) (h.l.bd x hx) (.inl rfl) u
theorem ST.node {s' : Bs} {lk' : Nat → Bool} (h : ST base B nh v kd K ad s lk hs hm w) {x : Nat} (hx : x < s.sz) {k : Nat} {u : Value} (hl : JL (w.setCell ⟨ad x, k, none⟩ u) base ad s' lk') : ST base B nh v kd K ad s' lk' hs hm (w.setCell ⟨ad x, k, none⟩ u) :=
  ⟨⟨hl, h.js.h.keep (Below.heap_setCell _ _ _ _ (h.js.ne hx).symm), h.js.ge⟩, h.hv, h.jd.keep (h.js.jp_node hx k u).bl rfl rfl⟩
theorem ST.lock (h : ST base B nh v kd K ad s lk hs hm w) {x : Nat} (hx : x < s.sz) (b : Bool) : ST base B nh v kd K ad s (upd lk x b) hs hm (w.setCell ⟨ad x, 3, none⟩ (.bool b)) := h.node hx (h.js.l.setLock hx b)
theorem ST.mark (h : ST base B nh v kd K ad s lk hs hm w) {x : Nat} (hx : x < s.sz) : ST base B nh v kd K ad (s.mark x) lk hs hm (w.setCell ⟨ad x, 2, none⟩ (.bool true)) := h.node hx (h.js.l.setMark hx)
theorem ST.cut (h : ST base B nh v kd K ad s lk hs hm w) {p c : Nat} (hp : p < s.sz) (hpt : p ≠ s.tl) : ST base B nh v kd K ad (s.cut p c) lk hs hm (w.setCell ⟨ad p, 1, none⟩ (jp (ad (s.nx c)))) := h.node hp (h.js.l.setCut hp hpt)
theorem ST.insert (h : ST base B nh v kd K ad s lk hs hm w) {p c : Nat} {K' : Int} (hp : p < s.sz) (hpt : p ≠ s.tl) (hc : c < s.sz) (htl : s.tl < s.sz) (hnl : ∀ i, i < s.sz → i ≠ s.tl → s.nx i < s.sz) (hlk : lk s.sz = false) :
    ST base B nh v kd K (upd ad s.sz w.heap.size) (s.insc p c K') lk hs hm ((w.alloc (.cells #[I K', jp (ad c), .bool false, .bool false] 86)).setCell ⟨ad p, 1, none⟩ (jp w.heap.size)) ∧
      JP base w ((w.alloc (.cells #[I K', jp (ad c), .bool false, .bool false] 86)).setCell ⟨ad p, 1, none⟩ (jp w.heap.size)) := by
  have ha := h.alloc (.cells #[I K', jp (ad c), .bool false, .bool false] 86)
  have hP := (h.jp_alloc (.cells #[I K', jp (ad c), .bool false, .bool false] 86)).trans (ha.js.jp_node hp 1 (jp w.heap.size))
  exact ⟨⟨⟨h.js.l.insert hp hpt hc htl hnl hlk h.js.szb, ha.js.h.keep (Below.heap_setCell _ _ _ _ (h.js.ne hp).symm), h.js.ge⟩, h.hv, h.jd.keep hP.bl rfl rfl⟩, hP⟩
theorem ST.hand (h : ST base B nh v kd K ad s lk hs hm w) {i : Nat} (hi : i < 9) : w.cell? ⟨B, v * 9 + i, none⟩ = some (hm i) := by have := h.js.h.cell h.hv hi; rw [upd_same] at this; exact this
theorem ST.hfroz (h : ST base B nh v kd K ad s lk hs hm w) (k : Nat) : w.frozen? ⟨B, k, none⟩ = false := h.js.h.froz k
theorem ST.bead (h : ST base B nh v kd K ad s lk hs hm w) {i : Nat} (hi : i < s.sz) :
    w.cell? ⟨ad i, 0, none⟩ = some (I (s.key i)) ∧ w.cell? ⟨ad i, 1, none⟩ = some (jnx s ad i) ∧ w.cell? ⟨ad i, 2, none⟩ = some (.bool (s.mrk i)) ∧ w.cell? ⟨ad i, 3, none⟩ = some (.bool (lk i)) := h.js.l.cells hi
theorem ST.bfroz (h : ST base B nh v kd K ad s lk hs hm w) {i : Nat} (hi : i < s.sz) (k : Nat) : w.frozen? ⟨ad i, k, none⟩ = false := h.js.l.froz hi k
end

def HBox (w : World) (g : Nat) (x : Value) : Prop := w.heap[g]? = some (.cells #[x] 75 (0, 0))
def FBox (w : World) (g : Nat) (f : Value) : Prop := w.heap[g]? = some (.cells #[f] 1 (0, 0))
theorem HBox.keep {base : Nat} {w w' : World} {g : Nat} {x : Value} (h : HBox w g x) (hp : JP base w w') : HBox w' g x := hp.kp g _ _ _ h (by decide) (by decide)
theorem FBox.keep {base : Nat} {w w' : World} {g : Nat} {x : Value} (h : FBox w g x) (hp : JP base w w') : FBox w' g x := hp.kp g _ _ _ h (by decide) (by decide)
theorem HBox.cell {w : World} {g : Nat} {x : Value} (h : HBox w g x) : w.cell? ⟨g, 0, none⟩ = some x := by rw [jcell h]; rfl
theorem FBox.cell {w : World} {g : Nat} {x : Value} (h : FBox w g x) : w.cell? ⟨g, 0, none⟩ = some x := by rw [jcell h]; rfl
theorem HBox.lt {w : World} {g : Nat} {x : Value} (h : HBox w g x) : g < w.heap.size := jblk h
theorem FBox.lt {w : World} {g : Nat} {x : Value} (h : FBox w g x) : g < w.heap.size := jblk h

end Go.Proofs.Ytfmdpmebllepeaa
