/-
  WORDS: what it means that a slice of pairs, of ops, of answers, of numbers reads as a list; plain facts on them. Nothing of the program.
-/
import Derived.WalkKit
import Derived.WalkSpells
import Derived.WalkLawsBesides
import Derived.Lib.Hide
namespace Go.Proofs.Ytfmdpmebllepeaa
open Go.RowKit

theorem ret_int {k : IntKind} {a b : Int} (h : a = b) : Ending.returned (.int k a) = .returned (.int k b) := by rw [h]

abbrev I (n : Int) : Value := .int .i64 n

/-- The slice value '.slice A n c' holds n elements of 's' cells each: element i's cell j is 'f i j'. Its block lies below B. -/
def Rd (w : World) (B s : Nat) (A : Option Addr) (n c : Nat) (f : Nat → Nat → Value) : Prop :=
  n ≤ c ∧ (0 < n → ∃ b off, A = some ⟨b, off, none⟩ ∧ b < B ∧ ∀ i, i < n → ∀ j, j < s → w.cell? ⟨b, off + (i * s + j), none⟩ = some (f i j))

theorem Rd.none_ {w : World} {B s c : Nat} {A : Option Addr} {f : Nat → Nat → Value} : Rd w B s A 0 c f := ⟨Nat.zero_le _, fun h => absurd h (by omega)⟩
theorem Rd.keep {w w' : World} {B B' s n c : Nat} {A : Option Addr} {f : Nat → Nat → Value} (h : Rd w B s A n c f) (hB : B ≤ B') (hk : ∀ p : Addr, p.block < B → w'.cell? p = w.cell? p) : Rd w' B' s A n c f :=
  ⟨h.1, fun hn => by
    obtain ⟨b, off, e, hb, hc⟩ := h.2 hn
    exact ⟨b, off, e, by omega, fun i hi j hj => (hk _ hb).trans (hc i hi j hj)⟩⟩
theorem Rd.below {w w' : World} {s n c : Nat} {A : Option Addr} {f : Nat → Nat → Value} (h : Rd w w.heap.size s A n c f) (hb : Below w.heap.size w w') : Rd w' w'.heap.size s A n c f :=
  h.keep hb.size fun _ hp => hb.cell hp

/-- pairs -/
abbrev PL := List (Int × Int)
def pf (l : PL) (i j : Nat) : Value := I (if j = 0 then (l[i]?.getD (0, 0)).1 else (l[i]?.getD (0, 0)).2)
/-- the slice reads as the list of pairs l -/
structure PS (w : World) (A : Option Addr) (n c : Nat) (l : PL) : Prop where
  len : l.length = n
  rd : Rd w w.heap.size 2 A n c (pf l)

theorem PS.below {w w' : World} {n c : Nat} {A : Option Addr} {l : PL} (h : PS w A n c l) (hb : Below w.heap.size w w') : PS w' A n c l := ⟨h.len, h.rd.below hb⟩
theorem PS.at_ {w : World} {n c : Nat} {A : Option Addr} {l : PL} (h : PS w A n c l) (hn : 0 < n) :
    ∃ b off, A = some ⟨b, off, none⟩ ∧ b < w.heap.size ∧ ∀ i (hi : i < n), w.cell? ⟨b, off + i * 2, none⟩ = some (I (l[i]'(by rw [h.len]; exact hi)).1) ∧ w.cell? ⟨b, off + (i * 2 + 1), none⟩ = some (I (l[i]'(by rw [h.len]; exact hi)).2) := by
  obtain ⟨b, off, e, hb, hc⟩ := h.rd.2 hn
  refine ⟨b, off, e, hb, fun i hi => ?_⟩
  have hl : i < l.length := by rw [h.len]; exact hi
  have h0 := hc i hi 0 (by omega)
  have h1 := hc i hi 1 (by omega)
  simp [pf, List.getElem?_eq_getElem hl] at h0 h1
  exact ⟨h0, h1⟩

theorem PS.alloc {w : World} {n c : Nat} {A : Option Addr} {l : PL} (h : PS w A n c l) (o : Obj) : PS (w.alloc o) A n c l := h.below ((Below.refl _ _).alloc (Nat.le_refl _) _)
theorem PS.drew {w : World} {n c : Nat} {A : Option Addr} {l : PL} (h : PS w A n c l) : PS w.drew A n c l := ⟨h.len, h.rd⟩
theorem PS.drewN {w : World} {n c : Nat} {A : Option Addr} {l : PL} (h : PS w A n c l) (k : Nat) : PS (w.drewN k) A n c l := ⟨h.len, h.rd⟩
theorem PS.far {w : World} {n c : Nat} {A : Option Addr} {l : PL} (h : PS w A n c l) {p : Addr} (hA : ∀ ad, A = some ad → ad.block ≠ p.block) (u : Value) : PS (w.setCell p u) A n c l := by
  refine ⟨h.len, h.rd.1, fun hn => ?_⟩
  obtain ⟨b, off, e, hb, hc⟩ := h.rd.2 hn
  refine ⟨b, off, e, by simpa [World.setCell] using hb, fun i hi j hj => ?_⟩
  rw [World.cell?_setCell_other]
  · exact hc i hi j hj
  · intro he
    exact hA _ e (by rw [he])
theorem below_drewN {B : Nat} {a w : World} (h : Below B a w) (n : Nat) : Below B a (w.drewN n) := ⟨h.os, h.tape, h.output, h.size, h.block⟩

theorem PS.low {w w' : World} {base n c : Nat} {A : Option Addr} {l : PL} (h : PS w A n c l) (hA : ∀ ad, A = some ad → ad.block < base) (hb : Below base w w') : PS w' A n c l := by
  refine ⟨h.len, h.rd.1, fun hn => ?_⟩
  obtain ⟨b, off, e, hlt, hc⟩ := h.rd.2 hn
  have hbb := hA _ e
  exact ⟨b, off, e, by have := hb.size; exact Nat.lt_of_lt_of_le hlt this, fun i hi j hj => (hb.cell (by exact hbb)).trans (hc i hi j hj)⟩
theorem below_next {w w1 w' : World} (h : Below w.heap.size w w1) (hb : Below w1.heap.size w1 w') : Below w.heap.size w w' := h.trans (hb.mono h.size)
theorem gbelow_on {w w1 w2 : World} (h : Below w.heap.size w w1) (h2 : Below w1.heap.size w1 w2) : Below w.heap.size w w2 := h.trans (h2.mono h.size)
theorem gbelow_box {w w1 : World} {o : Obj} (h : Below (w.alloc o).heap.size (w.alloc o) w1) : Below w.heap.size w w1 := ((Below.refl _ _).alloc (Nat.le_refl _) o).trans (h.mono (by simp))

/-- an answer -/
structure An where
  e : Int
  k : Int
  v : Int
  b : Bool
abbrev anV (a : An) : Value := .agg #[I a.e, I a.k, I a.v, .bool a.b]
abbrev an0 : An := ⟨0, 0, 0, false⟩

end Go.Proofs.Ytfmdpmebllepeaa
