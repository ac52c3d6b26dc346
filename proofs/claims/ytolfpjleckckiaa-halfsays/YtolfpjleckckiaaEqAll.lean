/-
  Joined texts: YtolfpjleckckiaaWords, YtolfpjleckckiaaLiftBase, YtolfpjleckckiaaEqInt, YtolfpjleckckiaaEq.
-/
import Derived.WalkKit
import Derived.WalkSpells
import Derived.WalkLawsBesides
import Derived.Lib.Hide
import Derived.Test.YtolfpjleckckiaaRows
import Derived.ProofKit
import Derived.OpenShut
import Derived.ShutString
import Derived.ChangeOld
import Derived.Deep.Slices
import Derived.Test.YtolfpjleckckiaaChecked
import Derived.BigQuiet
import Derived.Deep.QuietTactic
/-
  WORDS: what it means that a slice of pairs, of ops, of answers, of numbers reads as a list; plain facts on them. Nothing of the program.
-/
namespace Go.Proofs.Ytolfpjleckckiaa
open Go.RowKit

theorem ret_int {k : IntKind} {a b : Int} (h : a = b) : Ending.returned (.int k a) = .returned (.int k b) := by rw [h]

abbrev I (n : Int) : Value := .int .i64 n

/-- The slice value '.slice A n c' holds n elements of 's' cells each: element i's cell j is 'f i j'. Its block lies below B. -/
def Rd (w : World) (B s : Nat) (A : Option Addr) (n c : Nat) (f : Nat → Nat → Value) : Prop :=
  n ≤ c ∧ (0 < n → ∃ b off, A = some ⟨b, off, none⟩ ∧ b < B ∧ ∀ i, i < n → ∀ j, j < s → w.cell? ⟨b, off + (i * s + j), none⟩ = some (f i j))

theorem Rd.none_ {w : World} {B s c : Nat} {A : Option Addr} {f : Nat → Nat → Value} : Rd w B s A 0 c f := ⟨Nat.zero_le _, fun h => absurd h (by omega)⟩
theorem Rd.keep {w w' : World} {B B' s n c : Nat} {A : Option Addr} {f : Nat → Nat → Value} (h : Rd w B s A n c f) (hB : B ≤ B') (hk : ∀ p : Addr, p.block < B → w'.cell? p = w.cell? p) : Rd w' B' s A n c f :=
  ⟨h.1, fun hn => by
    obtain ⟨b, off, e, hb, hc⟩ := h.2 hn
    exact ⟨b, off, e, by omega, fun i hi j hj => (hk _ hb).trans (hc i hi j hj)⟩⟩
theorem Rd.below {w w' : World} {s n c : Nat} {A : Option Addr} {f : Nat → Nat → Value} (h : Rd w w.heap.size s A n c f) (hb : Below w.heap.size w w') : Rd w' w'.heap.size s A n c f :=
  h.keep hb.size fun _ hp => hb.cell hp

/-- pairs -/
abbrev PL := List (Int × Int)
def pf (l : PL) (i j : Nat) : Value := I (if j = 0 then (l[i]?.getD (0, 0)).1 else (l[i]?.getD (0, 0)).2)
/-- the slice reads as the list of pairs l -/
structure PS (w : World) (A : Option Addr) (n c : Nat) (l : PL) : Prop where
  len : l.length = n
  rd : Rd w w.heap.size 2 A n c (pf l)

theorem PS.below {w w' : World} {n c : Nat} {A : Option Addr} {l : PL} (h : PS w A n c l) (hb : Below w.heap.size w w') : PS w' A n c l := ⟨h.len, h.rd.below hb⟩
theorem PS.at_ {w : World} {n c : Nat} {A : Option Addr} {l : PL} (h : PS w A n c l) (hn : 0 < n) :
    ∃ b off, A = some ⟨b, off, none⟩ ∧ b < w.heap.size ∧ ∀ i (hi : i < n), w.cell? ⟨b, off + i * 2, none⟩ = some (I (l[i]'(by rw [h.len]; exact hi)).1) ∧ w.cell? ⟨b, off + (i * 2 + 1), none⟩ = some (I (l[i]'(by rw [h.len]; exact hi)).2) := by
  obtain ⟨b, off, e, hb, hc⟩ := h.rd.2 hn
  refine ⟨b, off, e, hb, fun i hi => ?_⟩
  have hl : i < l.length := by rw [h.len]; exact hi
  have h0 := hc i hi 0 (by omega)
  have h1 := hc i hi 1 (by omega)
  simp [pf, List.getElem?_eq_getElem hl] at h0 h1
  exact ⟨h0, h1⟩

theorem PS.alloc {w : World} {n c : Nat} {A : Option Addr} {l : PL} (h : PS w A n c l) (o : Obj) : PS (w.alloc o) A n c l := h.below ((Below.refl _ _).alloc (Nat.le_refl _) _)
theorem PS.drew {w : World} {n c : Nat} {A : Option Addr} {l : PL} (h : PS w A n c l) : PS w.drew A n c l := ⟨h.len, h.rd⟩
theorem PS.drewN {w : World} {n c : Nat} {A : Option Addr} {l : PL} (h : PS w A n c l) (k : Nat) : PS (w.drewN k) A n c l := ⟨h.len, h.rd⟩
theorem PS.far {w : World} {n c : Nat} {A : Option Addr} {l : PL} (h : PS w A n c l) {p : Addr} (hA : ∀ ad, A = some ad → ad.block ≠ p.block) (u : Value) : PS (w.setCell p u) A n c l := by
  refine ⟨h.len, h.rd.1, fun hn => ?_⟩
  obtain ⟨b, off, e, hb, hc⟩ := h.rd.2 hn
  refine ⟨b, off, e, by simpa [World.setCell] using hb, fun i hi j hj => ?_⟩
  rw [World.cell?_setCell_other]
  · exact hc i hi j hj
  · intro he
    exact hA _ e (by rw [he])
theorem below_drewN {B : Nat} {a w : World} (h : Below B a w) (n : Nat) : Below B a (w.drewN n) := ⟨h.os, h.tape, h.output, h.size, h.block⟩

theorem PS.low {w w' : World} {base n c : Nat} {A : Option Addr} {l : PL} (h : PS w A n c l) (hA : ∀ ad, A = some ad → ad.block < base) (hb : Below base w w') : PS w' A n c l := by
  refine ⟨h.len, h.rd.1, fun hn => ?_⟩
  obtain ⟨b, off, e, hlt, hc⟩ := h.rd.2 hn
  have hbb := hA _ e
  exact ⟨b, off, e, by have := hb.size; exact Nat.lt_of_lt_of_le hlt this, fun i hi j hj => (hb.cell (by exact hbb)).trans (hc i hi j hj)⟩
theorem below_next {w w1 w' : World} (h : Below w.heap.size w w1) (hb : Below w1.heap.size w1 w') : Below w.heap.size w w' := h.trans (hb.mono h.size)
theorem gbelow_on {w w1 w2 : World} (h : Below w.heap.size w w1) (h2 : Below w1.heap.size w1 w2) : Below w.heap.size w w2 := h.trans (h2.mono h.size)
theorem gbelow_box {w w1 : World} {o : Obj} (h : Below (w.alloc o).heap.size (w.alloc o) w1) : Below w.heap.size w w1 := ((Below.refl _ _).alloc (Nat.le_refl _) o).trans (h.mono (by simp))

/-- an answer -/
structure An where
  e : Int
  k : Int
  v : Int
  b : Bool
abbrev anV (a : An) : Value := .agg #[I a.e, I a.k, I a.v, .bool a.b]
abbrev an0 : An := ⟨0, 0, 0, false⟩

end Go.Proofs.Ytolfpjleckckiaa

/-
  ARGUMENTS, OPENED: what all of them want.
-/
namespace Go.Proofs.Ytolfpjleckckiaa
open Go.ChangeShapes Go.WideShapes Go.ChangeAt Go.RowKit Go.Deep

theorem own : ownKnob Try.prog.godebug = none := by kernel_rfl
theorem laidOut : laidOutB Try.prog = true := by kernel_rfl
theorem cell_lt {w : World} {a : Addr} {v : Value} (h : w.cell? a = some v) : a.block < w.heap.size := by
  rcases Nat.lt_or_ge a.block w.heap.size with hlt | hge
  · exact hlt
  · unfold World.cell? at h; rw [Array.getElem?_eq_none hge] at h; cases h
theorem cells_int : Try.prog.cellsOf 3 = 1 := by kernel_rfl

section
variable {H : Type} {enc : TypeId × Value → H} {W : World} {base : Nat} {spare : Nat → Bool} {held : Bool}

/-- a cell that reads as an int is a number -/
theorem int_cell {m : Nat} {v : Value} {xs : List (DataW H × List MemPlace)} {i : Nat} (hi : i < xs.length) (h : DataW.trod enc Try.prog W base spare held m 3 [v] = xs[i]?) : ∃ k : Int, v = I k ∧ (Lit.int .i64 k).wf = true := by
  rw [List.getElem?_eq_getElem hi] at h
  obtain ⟨k, e, _, hw⟩ := DataW.trod_int Try.underlying3 h
  simp at e
  exact ⟨k, e, hw⟩
/-- cells of each element chosen -/
theorem choose_elems {α : Type} {P : Nat → α → Prop} : ∀ n : Nat, (∀ i, i < n → ∃ x, P i x) → ∃ l : List α, l.length = n ∧ ∀ i (h : i < l.length), P i l[i]
  | 0, _ => ⟨[], rfl, fun i h => by simp at h⟩
  | n + 1, h => by
    obtain ⟨l, hl, hp⟩ := choose_elems n (fun i hi => h i (by omega))
    obtain ⟨x, hx⟩ := h n (by omega)
    refine ⟨l ++ [x], by simp [hl], fun i hi => ?_⟩
    by_cases hin : i < l.length
    · rw [List.getElem_append_left hin]; exact hp i hin
    · have : i = l.length := by simp at hi; omega
      subst this
      simp [hl]
      exact hx
theorem add_of (a : Addr) (i : Nat) (h : a.spot = none) : a.add i = ⟨a.block, a.off + i, none⟩ := by
  unfold Addr.add; split <;> simp_all
  cases a; simp_all
theorem spot_of {w : World} {a : Addr} {i : Nat} {v : Value} (h : w.cell? (a.add i) = some v) (hi : i = 0) : a.spot = none := by
  subst hi; simpa [Addr.add] using World.cell?_spot h

end
end Go.Proofs.Ytolfpjleckckiaa

/-
  A slice of numbers; slices.Equal at int.
-/
namespace Go.Proofs.Ytolfpjleckckiaa
open Go.RowKit

/-- a slice of numbers -/
structure IS (w : World) (A : Option Addr) (n c : Nat) (l : List Int) : Prop where
  len : l.length = n
  rd : Rd w w.heap.size 1 A n c (fun i _ => I (l[i]?.getD 0))
theorem IS.below {w w' : World} {n c : Nat} {A : Option Addr} {l : List Int} (h : IS w A n c l) (hb : Below w.heap.size w w') : IS w' A n c l := ⟨h.len, h.rd.below hb⟩
theorem IS.at_ {w : World} {n c : Nat} {A : Option Addr} {l : List Int} (h : IS w A n c l) (hn : 0 < n) :
    ∃ b off, A = some ⟨b, off, none⟩ ∧ b < w.heap.size ∧ ∀ i (hi : i < n), w.cell? ⟨b, off + i, none⟩ = some (I (l[i]'(by rw [h.len]; exact hi))) := by
  obtain ⟨b, off, e, hb, hc⟩ := h.rd.2 hn
  refine ⟨b, off, e, hb, fun i hi => ?_⟩
  have hl : i < l.length := by rw [h.len]; exact hi
  have h0 := hc i hi 0 (by omega)
  simpa [List.getElem?_eq_getElem hl] using h0

theorem eq_step {α : Type} {l m : List α} {n k : Nat} (hl : l.length = n) (hm : m.length = n) (hk : n ≤ k) (h : ∀ i, i < k → l[i]? = m[i]?) : l = m := by
  apply List.ext_getElem?
  intro i
  rcases Nat.lt_or_ge i k with h1 | h1
  · exact h i h1
  · rw [List.getElem?_eq_none (by omega), List.getElem?_eq_none (by omega)]
def sameTo {α : Type} (l m : List α) (k : Nat) : Prop := ∀ i, i < k → l[i]? = m[i]?
theorem sameTo_succ {α : Type} {l m : List α} {k : Nat} (h : sameTo l m k) (h1 : l[k]? = m[k]?) : sameTo l m (k + 1) := fun i hi => by
  rcases Nat.lt_or_ge i k with h2 | h2
  · exact h i h2
  · obtain rfl : i = k := by omega
    exact h1

set_option maxHeartbeats 1000000 in
theorem eqInt_any (A A' : Option Addr) (n n' c c' : Nat) (l m : List Int) (w : World) (h : IS w A n c l) (h' : IS w A' n' c' m) (hn : n ≤ 1000000) (hn' : n' ≤ 1000000) :
    Calls Try.prog 20 #[.slice A n c, .slice A' n' c'] w fun e w' => e = .returned (.bool (decide (l = m))) ∧ Below w.heap.size w w' := by
  have H := Lib.hid h
  have H' := Lib.hid h'
  clear h h'
  by_cases hnn : n = n'
  · subst hnn
    have hne : ((n : Int) != (n : Int)) = false := by simp
    go_enter Try.func20, Try.ntmps20
    go_wp2
    go_loopw [13] (fun i wr => ∃ k : Nat, k ≤ n ∧ i = .int .i64 k ∧ sameTo l m k ∧ Below w.heap.size w wr) (fun i _ => n - (intOf i).toNat)
    case atStart => exact ⟨0, Nat.zero_le _, rfl, fun i hi => absurd hi (by omega), Below.refl _ _⟩
    case round =>
      obtain ⟨k, hk, rfl, hsame, hnx⟩ := hrel
      have hsz := hnx.size
      by_cases hlt : k < n
      · obtain ⟨b, off, rfl, hb, hc⟩ := H.out.at_ (by omega)
        obtain ⟨b', off', rfl, hb', hc'⟩ := H'.out.at_ (by omega)
        have hkl : k < l.length := by have := H.out.len; omega
        have hkm : k < m.length := by have := H'.out.len; omega
        have hc0 : wr.cell? ⟨b, off + k, none⟩ = some (I l[k]) := (hnx.cell (by exact hb)).trans (hc k hlt)
        have hc1 : wr.cell? ⟨b', off' + k, none⟩ = some (I m[k]) := (hnx.cell (by exact hb')).trans (hc' k hlt)
        clear hc hc'
        by_cases heq : l[k] = m[k]
        · have HS : Hid (sameTo l m (k + 1)) := sameTo_succ hsame (by rw [List.getElem?_eq_getElem hkl, List.getElem?_eq_getElem hkm, heq])
          have hb0 : (l[k] != m[k]) = false := by simp [heq]
          have HE := Lib.hid heq
          clear heq hsame
          go_wp2
          go_quiet (fail)
          go_wp2
          go_roundw
          case rel => exact ⟨k + 1, by omega, by go_num, HS.out, below_drewN hnx _⟩
          case measure => simp [intOf]; omega
        · have HF : Hid (decide (l = m) = false) := by
            refine decide_eq_false ?_
            intro e
            subst e
            exact heq rfl
          have hb0 : (l[k] != m[k]) = true := by simp [heq]
          clear heq hsame
          go_wp2
          go_quiet (fail)
          go_wp2
          go_ret
          exact ⟨by rw [HF.out]; rfl, below_drewN hnx _⟩
      · have HF : Hid (decide (l = m) = true) := decide_eq_true (eq_step H.out.len H'.out.len (by omega) hsame)
        clear hsame
        go_wp2
        go_ret
        exact ⟨by rw [HF.out]; rfl, hnx⟩
  · have HF : Hid (decide (l = m) = false) := by
      refine decide_eq_false ?_
      intro e
      subst e
      exact hnn (H.out.len.symm.trans H'.out.len)
    have hne : ((n : Int) != (n' : Int)) = true := by simp; omega
    clear hnn
    go_enter Try.func20, Try.ntmps20
    go_wp2
    go_ret
    exact ⟨by rw [HF.out]; rfl, Below.refl _ _⟩

end Go.Proofs.Ytolfpjleckckiaa

/-
  slices.Equal at Pair.
-/
namespace Go.Proofs.Ytolfpjleckckiaa
open Go.RowKit

end Go.Proofs.Ytolfpjleckckiaa
