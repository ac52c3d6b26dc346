/-
  Joined texts: YtjnkfpagaajfeaaDoorEqInt, YtjnkfpagaajfeaaDoorLiftInts, YtjnkfpagaajfeaaDoorKLift.
-/
import Derived.Test.YtjnkfpagaajfeaaDoorChecked
import Derived.Test.YtjnkfpagaajfeaaDoorLiftBaseAll
import Derived.BigQuiet
import Derived.Deep.QuietTactic
import Derived.Test.YtjnkfpagaajfeaaDoorKTab
import Derived.LaidMore
import Derived.Stop.Joined
/-
  A slice of numbers; slices.Equal at int.
-/
namespace Go.Proofs.YtjnkfpagaajfeaaDoor
open Go.RowKit

/-- a slice of numbers -/
structure IS (w : World) (A : Option Addr) (n c : Nat) (l : List Int) : Prop where
  len : l.length = n
  rd : Rd w w.heap.size 1 A n c (fun i _ => I (l[i]?.getD 0))
theorem IS.below {w w' : World} {n c : Nat} {A : Option Addr} {l : List Int} (h : IS w A n c l) (hb : Below w.heap.size w w') : IS w' A n c l := ⟨h.len, h.rd.below hb⟩
theorem IS.at_ {w : World} {n c : Nat} {A : Option Addr} {l : List Int} (h : IS w A n c l) (hn : 0 < n) :
    ∃ b off, A = some ⟨b, off, none⟩ ∧ b < w.heap.size ∧ ∀ i (hi : i < n), w.cell? ⟨b, off + i, none⟩ = some (I (l[i]'(by rw [h.len]; exact hi))) := by
  obtain ⟨b, off, e, hb, hc⟩ := h.rd.2 hn
  refine ⟨b, off, e, hb, fun i hi => ?_⟩
  have hl : i < l.length := by rw [h.len]; exact hi
  have h0 := hc i hi 0 (by omega)
  simpa [List.getElem?_eq_getElem hl] using h0

theorem eq_step {α : Type} {l m : List α} {n k : Nat} (hl : l.length = n) (hm : m.length = n) (hk : n ≤ k) (h : ∀ i, i < k → l[i]? = m[i]?) : l = m := by
  apply List.ext_getElem?
  intro i
  rcases Nat.lt_or_ge i k with h1 | h1
  · exact h i h1
  · rw [List.getElem?_eq_none (by omega), List.getElem?_eq_none (by omega)]
def sameTo {α : Type} (l m : List α) (k : Nat) : Prop := ∀ i, i < k → l[i]? = m[i]?
theorem sameTo_succ {α : Type} {l m : List α} {k : Nat} (h : sameTo l m k) (h1 : l[k]? = m[k]?) : sameTo l m (k + 1) := fun i hi => by
  rcases Nat.lt_or_ge i k with h2 | h2
  · exact h i h2
  · obtain rfl : i = k := by omega
    exact h1

set_option maxHeartbeats 1000000 in
theorem eqInt_any (A A' : Option Addr) (n n' c c' : Nat) (l m : List Int) (w : World) (h : IS w A n c l) (h' : IS w A' n' c' m) (hn : n ≤ 1000000) (hn' : n' ≤ 1000000) :
    Calls Tryd.prog 28 #[.slice A n c, .slice A' n' c'] w fun e w' => e = .returned (.bool (decide (l = m))) ∧ Below w.heap.size w w' := by
  have H := Lib.hid h
  have H' := Lib.hid h'
  clear h h'
  by_cases hnn : n = n'
  · subst hnn
    have hne : ((n : Int) != (n : Int)) = false := by simp
    go_enter Tryd.func28, Tryd.ntmps28
    go_wp2
    go_loopw [13] (fun i wr => ∃ k : Nat, k ≤ n ∧ i = .int .i64 k ∧ sameTo l m k ∧ Below w.heap.size w wr) (fun i _ => n - (intOf i).toNat)
    case atStart => exact ⟨0, Nat.zero_le _, rfl, fun i hi => absurd hi (by omega), Below.refl _ _⟩
    case round =>
      obtain ⟨k, hk, rfl, hsame, hnx⟩ := hrel
      have hsz := hnx.size
      by_cases hlt : k < n
      · obtain ⟨b, off, rfl, hb, hc⟩ := H.out.at_ (by omega)
        obtain ⟨b', off', rfl, hb', hc'⟩ := H'.out.at_ (by omega)
        have hkl : k < l.length := by have := H.out.len; omega
        have hkm : k < m.length := by have := H'.out.len; omega
        have hc0 : wr.cell? ⟨b, off + k, none⟩ = some (I l[k]) := (hnx.cell (by exact hb)).trans (hc k hlt)
        have hc1 : wr.cell? ⟨b', off' + k, none⟩ = some (I m[k]) := (hnx.cell (by exact hb')).trans (hc' k hlt)
        clear hc hc'
        by_cases heq : l[k] = m[k]
        · have HS : Hid (sameTo l m (k + 1)) := sameTo_succ hsame (by rw [List.getElem?_eq_getElem hkl, List.getElem?_eq_getElem hkm, heq])
          have hb0 : (l[k] != m[k]) = false := by simp [heq]
          have HE := Lib.hid heq
          clear heq hsame
          go_wp2
          go_quiet (fail)
          go_wp2
          go_roundw
          case rel => exact ⟨k + 1, by omega, by go_num, HS.out, below_drewN hnx _⟩
          case measure => simp [intOf]; omega
        · have HF : Hid (decide (l = m) = false) := by
            refine decide_eq_false ?_
            intro e
            subst e
            exact heq rfl
          have hb0 : (l[k] != m[k]) = true := by simp [heq]
          clear heq hsame
          go_wp2
          go_quiet (fail)
          go_wp2
          go_ret
          exact ⟨by rw [HF.out]; rfl, below_drewN hnx _⟩
      · have HF : Hid (decide (l = m) = true) := decide_eq_true (eq_step H.out.len H'.out.len (by omega) hsame)
        clear hsame
        go_wp2
        go_ret
        exact ⟨by rw [HF.out]; rfl, hnx⟩
  · have HF : Hid (decide (l = m) = false) := by
      refine decide_eq_false ?_
      intro e
      subst e
      exact hnn (H.out.len.symm.trans H'.out.len)
    have hne : ((n : Int) != (n' : Int)) = true := by simp; omega
    clear hnn
    go_enter Tryd.func28, Tryd.ntmps28
    go_wp2
    go_ret
    exact ⟨by rw [HF.out]; rfl, Below.refl _ _⟩

end Go.Proofs.YtjnkfpagaajfeaaDoor

/-
  ARGUMENTS, OPENED: a slice of numbers.
-/
namespace Go.Proofs.YtjnkfpagaajfeaaDoor
open Go.ChangeShapes Go.WideShapes Go.ChangeAt Go.WideMaps Go.WideElems Go.RowKit Go.Deep

section
variable {H : Type} {enc : TypeId × Value → H} {W : World} {base : Nat} {spare : Nat → Bool} {held : Bool}

theorem open_ints {fuel len cap : Nat} {a0 : Option Addr} {x : DataW H × List MemPlace} (h : DataW.trod enc Tryd.prog W base spare held fuel 35 [.slice a0 len cap] = some x) : len ≤ 9223372036854775807 ∧ ∃ l, IS W a0 len cap l := by
  rcases open_slice Tryd.underlying35 h with ⟨hcs, _⟩ | ⟨a, len', cap', m, n, D, Pl, hcs, _, hl, hm, hmm, _, hx⟩
  · simp at hcs
    obtain ⟨rfl, rfl, rfl⟩ := hcs
    exact ⟨by omega, [], rfl, Rd.none_⟩
  · simp at hcs
    obtain ⟨rfl, rfl, rfl⟩ := hcs
    have hlm : len ≤ m := by rw [hmm]; split <;> omega
    have each : ∀ i, i < len → ∃ q : Int, W.cell? (a.add i) = some (I q) := by
      intro i hi
      obtain ⟨cs', h1, h2⟩ := hx i (by omega)
      rw [cells_int] at h1
      obtain ⟨_, hlen, hcell⟩ := World.cells?_some h1
      match cs', hlen with
      | [v], _ =>
        obtain ⟨k, e, _⟩ := DataW.trod_int Tryd.underlying3 h2
        simp at e
        have e0 := hcell 0 (by omega)
        rw [add_add] at e0
        exact ⟨k, by simpa [e] using e0⟩
    obtain ⟨l, hll, hp⟩ := choose_elems len each
    refine ⟨by unfold maxLen at hm; omega, l, hll, hl, fun h0 => ?_⟩
    have hs : a.spot = none := spot_of (hp 0 (by omega)) rfl
    refine ⟨a.block, a.off, by cases a; simp_all, ?_, fun i hi j hj => ?_⟩
    · have := cell_lt (hp 0 (by omega))
      simpa [Addr.add] using this
    · have hil : i < l.length := by omega
      have p0 := hp i hil
      rw [add_of a _ hs] at p0
      obtain rfl : j = 0 := by omega
      simpa [List.getElem?_eq_getElem hil] using p0
end

end Go.Proofs.YtjnkfpagaajfeaaDoor

/-
  ARGUMENTS, OPENED: a slice of numbers; the table in its variable.
-/
namespace Go.Proofs.YtjnkfpagaajfeaaDoor
open Go.ChangeShapes Go.WideShapes Go.ChangeAt Go.WideMaps Go.WideElems Go.RowKit Go.Deep

theorem cells_u8 : Tryd.prog.cellsOf 5 = 1 := by kernel_rfl
/-- what the rows list -/
def laidK : List (String × DataW Unit) := [("math/bits.deBruijn64tab", Rows.laid_math_bits_deBruijn64tab)]
theorem gTab : Tryd.prog.globalNamed "math/bits.deBruijn64tab" = some 0 := by kernel_rfl
theorem tTab : (Tryd.prog.globals[0]?).map (·.type) = some 104 := by kernel_rfl
set_option maxRecDepth 100000 in
/-- the door's own heap meets the condition -/
theorem door_met (os : Os) (args : Array Value) : laidMetH Tryd.prog laidK ((World.doorLaid Tryd.prog 400 os).forCall (fun _ _ => 0) ⟨#[], args, []⟩).memory :=
  laidMetH_of_parts3 (fuel := 8) (laidMet_of_run' 8 (by kernel_rfl) (by kernel_rfl)) (by kernel_rfl) (by kernel_rfl)
theorem tab_list : ∀ j, j < 64 → (Lib.deBruijn64tab.map fun n : Nat => (DataW.lit (.int .u8 (n : Int)) : DataW Unit))[j]? = some (.lit (.int .u8 (Lib.deBruijn64tab.getD j 0))) := by
  intro j hj
  have : j < Lib.deBruijn64tab.length := hj
  simp [List.getElem?_map, List.getElem?_eq_getElem this, List.getD]
theorem tab_data : (Rows.laid_math_bits_deBruijn64tab : DataW Unit) = .agg (Lib.deBruijn64tab.map fun n : Nat => .lit (.int .u8 (n : Int))) := rfl
set_option maxRecDepth 100000 in
/-- what the condition gives -/
theorem tab_laid {W : World} (h : laidMetH Tryd.prog laidK W) : Tb W := by
  rw [MakeChecks.laidMetH_plain _ _ _ (by kernel_rfl)] at h
  obtain ⟨ps, ⟨g0, t0, cs0, f0, p0, q0, hg0, ht0, hv0, hd0, _, _⟩, _, _⟩ := h
  obtain rfl := Option.some.inj (gTab.symm.trans hg0)
  obtain rfl := Option.some.inj (tTab.symm.trans ht0)
  obtain ⟨xs, m1, rfl, hx1, hlen, hn3, hel⟩ := DataW.trod_array Tryd.underlying104 hd0
  intro j hj
  have hcell := World.var?_cell hg0 hv0 j
  rw [hcell]
  have hj' : j < xs.length := by omega
  have he := hel j hj
  rw [List.getElem?_eq_getElem hj'] at he
  obtain ⟨k, e1, e2, _⟩ := DataW.trod_int Tryd.underlying5 he
  simp only [Prod.mk.injEq] at hx1
  have hd := hx1.1
  rw [tab_data] at hd
  injection hd with hd
  have hk : (.lit (.int .u8 (Lib.deBruijn64tab.getD j 0)) : DataW Unit) = .lit (.int .u8 k) := by
    have h1 : (Lib.deBruijn64tab.map fun n : Nat => (DataW.lit (.int .u8 (n : Int)) : DataW Unit))[j]? = (xs.map (·.1))[j]? := by rw [hd]
    rw [tab_list j hj, List.getElem?_map, List.getElem?_eq_getElem hj', Option.map_some, e2] at h1
    exact Option.some.inj h1
  injection hk with hk
  injection hk with _ hk
  rw [cells_u8] at e1
  have h2 : cs0.toList[j]? = some (.int .u8 k) := by
    have := congrArg (fun l : List Value => l[0]?) e1
    simpa [List.getElem?_take, List.getElem?_drop] using this
  rw [hk]
  simpa using h2
end Go.Proofs.YtjnkfpagaajfeaaDoor
