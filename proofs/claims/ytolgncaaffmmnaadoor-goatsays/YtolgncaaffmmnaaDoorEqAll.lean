/-
  Joined texts: YtolgncaaffmmnaaDoorKTab, YtolgncaaffmmnaaDoorEqInt, YtolgncaaffmmnaaDoorLiftInts, YtolgncaaffmmnaaDoorKLift, YtolgncaaffmmnaaDoorEq.
-/
import Derived.Test.YtolgncaaffmmnaaDoorChecked
import Derived.Test.YtolgncaaffmmnaaDoorLiftBaseAll
import Derived.Lib.TrailingZeros
import Derived.Laws.Bits64
import Derived.Laws.Bits64b
import Derived.BigQuiet
import Derived.Deep.QuietTactic
import Derived.LaidMore
import Derived.Stop.Joined
/-
  HEIGHTS: math/bits.TrailingZeros64 over its table, skip.Height.
-/
namespace Go.Proofs.YtolgncaaffmmnaaDoor
open Go.RowKit

/-- the table in its variable -/
def Tb (w : World) : Prop := ∀ j, j < 64 → w.cell? ⟨0, j, none⟩ = some (.int .u8 (Lib.deBruijn64tab.getD j 0))
theorem Tb.lt {w : World} (h : Tb w) : 0 < w.heap.size := by
  have h0 := h 0 (by decide)
  rcases Nat.lt_or_ge 0 w.heap.size with hlt | hge
  · exact hlt
  · unfold World.cell? at h0; rw [Array.getElem?_eq_none (by exact hge)] at h0; cases h0
theorem Tb.below {w w' : World} {B : Nat} (h : Tb w) (hb : Below B w w') (hB : 0 < B) : Tb w' := fun j hj => (hb.cell (by exact hB)).trans (h j hj)
theorem Tb.next {w w' : World} (h : Tb w) (hb : Below w.heap.size w w') : Tb w' := h.below hb h.lt

theorem low_key (x a : Nat) (hx : x < 18446744073709551616) (hx0 : x ≠ 0) (hlow : x &&& (18446744073709551616 - x) = a) :
    IntKind.u64.wrap (bits BinOp.and IntKind.u64 (x : Int) (IntKind.u64.wrap (-(x : Int))) * 285870213051353865) / 288230376151711744 = ((a * 285870213051353865 % 18446744073709551616 / 288230376151711744 : Nat) : Int) := by
  have e1 : IntKind.u64.wrap (-(x : Int)) = ((18446744073709551616 - x : Nat) : Int) := by rw [IntKind.wrap_u64]; omega
  rw [e1, bits_and_u64_nat x _ hx (by omega), hlow, IntKind.wrap_u64]
  omega

set_option maxHeartbeats 1000000 in
theorem tz_core (x k idx : Nat) (w : World) (hx0 : ((x : Int) == 0) = false)
    (key : IntKind.u64.wrap (bits BinOp.and IntKind.u64 (x : Int) (IntKind.u64.wrap (-(x : Int))) * 285870213051353865) / 288230376151711744 = (idx : Int))
    (hi : idx < 64) (hk : k < 64) (hcell : w.cell? ⟨0, idx, none⟩ = some (.int .u8 k)) :
    Calls Tryd.prog 83 #[.int .u64 x] w fun e w' => e = .returned (I k) ∧ w' = w := by
  go_enter Tryd.func83, Tryd.ntmps83
  go_wp2_with (simp only [key])
  go_ret
  exact ⟨rfl, rfl⟩
theorem tz_zero (w : World) : Calls Tryd.prog 83 #[.int .u64 0] w fun e w' => e = .returned (I 64) ∧ w' = w := by
  go_enter Tryd.func83, Tryd.ntmps83
  go_wp2
  go_ret
  exact ⟨rfl, rfl⟩
theorem tz_any (x : Nat) (hx : x < 18446744073709551616) (w : World) (hT : Tb w) :
    Calls Tryd.prog 83 #[.int .u64 x] w fun e w' => e = .returned (I (Lib.ctz 64 x)) ∧ w' = w := by
  by_cases hx0 : x = 0
  · subst hx0
    exact tz_zero w
  · obtain ⟨hlow, hk⟩ := Lib.lowest_bit 64 x hx0 hx
    obtain ⟨hi, htab⟩ := Lib.deBruijn64_at _ hk
    have hcell := hT _ hi
    rw [htab] at hcell
    exact tz_core x _ _ w (by simp; omega) (low_key x _ hx hx0 hlow) hi hk hcell

/-- the number's bits, mixed -/
def mix1 (x : Nat) : Nat := (x ^^^ x / 1073741824) * 13787848793156543929 % 18446744073709551616
def mix2 (x : Nat) : Nat := (x ^^^ x / 134217728) * 10723151780598845931 % 18446744073709551616
def mix3 (x : Nat) : Nat := x ^^^ x / 2147483648
def mixR (key : Int) : Nat := mix3 (mix2 (mix1 (key % 18446744073709551616).toNat))
/-- the height of a key -/
def ht (key : Int) : Nat := min (Lib.ctz 64 (mixR key) + 1) 12
theorem mix1_lt (x : Nat) : mix1 x < 18446744073709551616 := Nat.mod_lt _ (by decide)
theorem mix2_lt (x : Nat) : mix2 x < 18446744073709551616 := Nat.mod_lt _ (by decide)
theorem mix3_lt (x : Nat) (h : x < 18446744073709551616) : mix3 x < 18446744073709551616 :=
  Nat.xor_lt_two_pow (n := 64) h (by omega)
theorem ctz_le (x : Nat) (h : x < 18446744073709551616) : Lib.ctz 64 x ≤ 64 := by
  by_cases h0 : x = 0
  · subst h0; decide
  · have := (Lib.lowest_bit 64 x h0 h).2
    omega
theorem mixR_lt (key : Int) : mixR key < 18446744073709551616 := mix3_lt _ (mix2_lt _)
theorem ht_pos (key : Int) : 1 ≤ ht key := by unfold ht; omega
theorem ht_le (key : Int) : ht key ≤ 12 := by unfold ht; omega

theorem x3 (X : Nat) (hX : X < 18446744073709551616) : bits .xor .u64 (X : Int) ((X : Int) / 2147483648) = ((mix3 X : Nat) : Int) := xorShift_u64 X 2147483648 hX
theorem x1 (X : Nat) (hX : X < 18446744073709551616) : IntKind.u64.wrap (bits .xor .u64 (X : Int) ((X : Int) / 1073741824) * 13787848793156543929) = ((mix1 X : Nat) : Int) := mixStep_u64 X 1073741824 13787848793156543929 hX
theorem x2 (X : Nat) (hX : X < 18446744073709551616) : IntKind.u64.wrap (bits .xor .u64 (X : Int) ((X : Int) / 134217728) * 10723151780598845931) = ((mix2 X : Nat) : Int) := mixStep_u64 X 134217728 10723151780598845931 hX
theorem x0 (key : Int) : IntKind.u64.wrap key = (((key % 18446744073709551616).toNat : Nat) : Int) := by rw [IntKind.wrap_u64]; omega

theorem min_ht (c : Nat) : min ((c : Int) + 1) 12 = ((min (c + 1) 12 : Nat) : Int) := by omega

set_option maxHeartbeats 1000000 in
theorem Height_any (key : Int) (w : World) (hT : Tb w) :
    Calls Tryd.prog 75 #[I key] w fun e w' => e = .returned (I (ht key)) ∧ w' = w := by
  obtain ⟨a, ha⟩ : ∃ a, (key % 18446744073709551616).toNat = a := ⟨_, rfl⟩
  have hal : a < 18446744073709551616 := by omega
  have h0 : IntKind.u64.wrap key = (a : Int) := by rw [x0, ha]
  obtain ⟨b, hb⟩ : ∃ b, mix1 a = b := ⟨_, rfl⟩
  have h1 : IntKind.u64.wrap (bits .xor .u64 (a : Int) ((a : Int) / 1073741824) * 13787848793156543929) = (b : Int) := by rw [x1 a hal, hb]
  have hbl : b < 18446744073709551616 := by rw [← hb]; exact mix1_lt _
  obtain ⟨c, hc⟩ : ∃ c, mix2 b = c := ⟨_, rfl⟩
  have h2 : IntKind.u64.wrap (bits .xor .u64 (b : Int) ((b : Int) / 134217728) * 10723151780598845931) = (c : Int) := by rw [x2 b hbl, hc]
  have hcl : c < 18446744073709551616 := by rw [← hc]; exact mix2_lt _
  obtain ⟨d, hd⟩ : ∃ d, mix3 c = d := ⟨_, rfl⟩
  have h3 : bits .xor .u64 (c : Int) ((c : Int) / 2147483648) = (d : Int) := by rw [x3 c hcl, hd]
  have hdl : d < 18446744073709551616 := by rw [← hd]; exact mix3_lt _ hcl
  have hR : mixR key = d := by unfold mixR; rw [ha, hb, hc, hd]
  obtain ⟨z, hz⟩ : ∃ z, Lib.ctz 64 d = z := ⟨_, rfl⟩
  have hzl : z ≤ 64 := by rw [← hz]; exact ctz_le d hdl
  have HH : Hid (((min (z + 1) 12 : Nat) : Int) = (ht key : Int)) := by show _ = _; unfold ht; rw [hR, hz]
  have HT := Lib.hid (show Calls Tryd.prog 83 #[.int .u64 d] w fun e w' => e = .returned (I z) ∧ w' = w by rw [← hz]; exact tz_any d hdl w hT)
  have H0 := Lib.hid h0
  have H1 := Lib.hid h1
  have H2 := Lib.hid h2
  have H3 := Lib.hid h3
  clear ha hb hc hd hR hz h0 h1 h2 h3
  go_enter Tryd.func75, Tryd.ntmps75
  go_wp2_with (first | simp only [H0.out] | simp only [H1.out] | simp only [H2.out] | simp only [H3.out] | fail)
  refine HT.out.mono ?_
  rintro e w' ⟨rfl, rfl⟩
  go_wp2
  all_goals
    go_ret
    refine ⟨ret_int ?_, rfl⟩
    rw [← HH.out, ← min_ht]
    omega
end Go.Proofs.YtolgncaaffmmnaaDoor

/-
  A slice of numbers; slices.Equal at int.
-/
namespace Go.Proofs.YtolgncaaffmmnaaDoor
open Go.RowKit

/-- a slice of numbers -/
structure IS (w : World) (A : Option Addr) (n c : Nat) (l : List Int) : Prop where
  len : l.length = n
  rd : Rd w w.heap.size 1 A n c (fun i _ => I (l[i]?.getD 0))
theorem IS.below {w w' : World} {n c : Nat} {A : Option Addr} {l : List Int} (h : IS w A n c l) (hb : Below w.heap.size w w') : IS w' A n c l := ⟨h.len, h.rd.below hb⟩
theorem IS.at_ {w : World} {n c : Nat} {A : Option Addr} {l : List Int} (h : IS w A n c l) (hn : 0 < n) :
    ∃ b off, A = some ⟨b, off, none⟩ ∧ b < w.heap.size ∧ ∀ i (hi : i < n), w.cell? ⟨b, off + i, none⟩ = some (I (l[i]'(by rw [h.len]; exact hi))) := by
  obtain ⟨b, off, e, hb, hc⟩ := h.rd.2 hn
  refine ⟨b, off, e, hb, fun i hi => ?_⟩
  have hl : i < l.length := by rw [h.len]; exact hi
  have h0 := hc i hi 0 (by omega)
  simpa [List.getElem?_eq_getElem hl] using h0

theorem eq_step {α : Type} {l m : List α} {n k : Nat} (hl : l.length = n) (hm : m.length = n) (hk : n ≤ k) (h : ∀ i, i < k → l[i]? = m[i]?) : l = m := by
  apply List.ext_getElem?
  intro i
  rcases Nat.lt_or_ge i k with h1 | h1
  · exact h i h1
  · rw [List.getElem?_eq_none (by omega), List.getElem?_eq_none (by omega)]
def sameTo {α : Type} (l m : List α) (k : Nat) : Prop := ∀ i, i < k → l[i]? = m[i]?
theorem sameTo_succ {α : Type} {l m : List α} {k : Nat} (h : sameTo l m k) (h1 : l[k]? = m[k]?) : sameTo l m (k + 1) := fun i hi => by
  rcases Nat.lt_or_ge i k with h2 | h2
  · exact h i h2
  · obtain rfl : i = k := by omega
    exact h1

end Go.Proofs.YtolgncaaffmmnaaDoor

/-
  ARGUMENTS, OPENED: a slice of numbers.
-/
namespace Go.Proofs.YtolgncaaffmmnaaDoor
open Go.ChangeShapes Go.WideShapes Go.ChangeAt Go.WideMaps Go.WideElems Go.RowKit Go.Deep

section
variable {H : Type} {enc : TypeId × Value → H} {W : World} {base : Nat} {spare : Nat → Bool} {held : Bool}

theorem open_ints {fuel len cap : Nat} {a0 : Option Addr} {x : DataW H × List MemPlace} (h : DataW.trod enc Tryd.prog W base spare held fuel 22 [.slice a0 len cap] = some x) : len ≤ 9223372036854775807 ∧ ∃ l, IS W a0 len cap l := by
  rcases open_slice Tryd.underlying22 h with ⟨hcs, _⟩ | ⟨a, len', cap', m, n, D, Pl, hcs, _, hl, hm, hmm, _, hx⟩
  · simp at hcs
    obtain ⟨rfl, rfl, rfl⟩ := hcs
    exact ⟨by omega, [], rfl, Rd.none_⟩
  · simp at hcs
    obtain ⟨rfl, rfl, rfl⟩ := hcs
    have hlm : len ≤ m := by rw [hmm]; split <;> omega
    have each : ∀ i, i < len → ∃ q : Int, W.cell? (a.add i) = some (I q) := by
      intro i hi
      obtain ⟨cs', h1, h2⟩ := hx i (by omega)
      rw [cells_int] at h1
      obtain ⟨_, hlen, hcell⟩ := World.cells?_some h1
      match cs', hlen with
      | [v], _ =>
        obtain ⟨k, e, _⟩ := DataW.trod_int Tryd.underlying3 h2
        simp at e
        have e0 := hcell 0 (by omega)
        rw [add_add] at e0
        exact ⟨k, by simpa [e] using e0⟩
    obtain ⟨l, hll, hp⟩ := choose_elems len each
    refine ⟨by unfold maxLen at hm; omega, l, hll, hl, fun h0 => ?_⟩
    have hs : a.spot = none := spot_of (hp 0 (by omega)) rfl
    refine ⟨a.block, a.off, by cases a; simp_all, ?_, fun i hi j hj => ?_⟩
    · have := cell_lt (hp 0 (by omega))
      simpa [Addr.add] using this
    · have hil : i < l.length := by omega
      have p0 := hp i hil
      rw [add_of a _ hs] at p0
      obtain rfl : j = 0 := by omega
      simpa [List.getElem?_eq_getElem hil] using p0
end

end Go.Proofs.YtolgncaaffmmnaaDoor

/-
  ARGUMENTS, OPENED: a slice of numbers; the table in its variable.
-/
namespace Go.Proofs.YtolgncaaffmmnaaDoor
open Go.ChangeShapes Go.WideShapes Go.ChangeAt Go.WideMaps Go.WideElems Go.RowKit Go.Deep

theorem cells_u8 : Tryd.prog.cellsOf 5 = 1 := by kernel_rfl
/-- what the rows list -/
def laidK : List (String × DataW Unit) := [("math/bits.deBruijn64tab", Rows.laid_math_bits_deBruijn64tab)]
theorem gTab : Tryd.prog.globalNamed "math/bits.deBruijn64tab" = some 0 := by kernel_rfl
theorem tTab : (Tryd.prog.globals[0]?).map (·.type) = some 126 := by kernel_rfl
set_option maxRecDepth 100000 in
/-- the door's own heap meets the condition -/
theorem door_met (os : Os) (args : Array Value) : laidMetH Tryd.prog laidK ((World.doorLaid Tryd.prog 400 os).forCall (fun _ _ => 0) ⟨#[], args, []⟩).memory :=
  laidMetH_of_parts3 (fuel := 8) (laidMet_of_run' 8 (by kernel_rfl) (by kernel_rfl)) (by kernel_rfl) (by kernel_rfl)
theorem tab_list : ∀ j, j < 64 → (Lib.deBruijn64tab.map fun n : Nat => (DataW.lit (.int .u8 (n : Int)) : DataW Unit))[j]? = some (.lit (.int .u8 (Lib.deBruijn64tab.getD j 0))) := by
  intro j hj
  have : j < Lib.deBruijn64tab.length := hj
  simp [List.getElem?_map, List.getElem?_eq_getElem this, List.getD]
theorem tab_data : (Rows.laid_math_bits_deBruijn64tab : DataW Unit) = .agg (Lib.deBruijn64tab.map fun n : Nat => .lit (.int .u8 (n : Int))) := rfl
set_option maxRecDepth 100000 in
/-- what the condition gives -/
theorem tab_laid {W : World} (h : laidMetH Tryd.prog laidK W) : Tb W := by
  rw [MakeChecks.laidMetH_plain _ _ _ (by kernel_rfl)] at h
  obtain ⟨ps, ⟨g0, t0, cs0, f0, p0, q0, hg0, ht0, hv0, hd0, _, _⟩, _, _⟩ := h
  obtain rfl := Option.some.inj (gTab.symm.trans hg0)
  obtain rfl := Option.some.inj (tTab.symm.trans ht0)
  obtain ⟨xs, m1, rfl, hx1, hlen, hn3, hel⟩ := DataW.trod_array Tryd.underlying126 hd0
  intro j hj
  have hcell := World.var?_cell hg0 hv0 j
  rw [hcell]
  have hj' : j < xs.length := by omega
  have he := hel j hj
  rw [List.getElem?_eq_getElem hj'] at he
  obtain ⟨k, e1, e2, _⟩ := DataW.trod_int Tryd.underlying5 he
  simp only [Prod.mk.injEq] at hx1
  have hd := hx1.1
  rw [tab_data] at hd
  injection hd with hd
  have hk : (.lit (.int .u8 (Lib.deBruijn64tab.getD j 0)) : DataW Unit) = .lit (.int .u8 k) := by
    have h1 : (Lib.deBruijn64tab.map fun n : Nat => (DataW.lit (.int .u8 (n : Int)) : DataW Unit))[j]? = (xs.map (·.1))[j]? := by rw [hd]
    rw [tab_list j hj, List.getElem?_map, List.getElem?_eq_getElem hj', Option.map_some, e2] at h1
    exact Option.some.inj h1
  injection hk with hk
  injection hk with _ hk
  rw [cells_u8] at e1
  have h2 : cs0.toList[j]? = some (.int .u8 k) := by
    have := congrArg (fun l : List Value => l[0]?) e1
    simpa [List.getElem?_take, List.getElem?_drop] using this
  rw [hk]
  simpa using h2
end Go.Proofs.YtolgncaaffmmnaaDoor

/-
  slices.Equal at Pair.
-/
namespace Go.Proofs.YtolgncaaffmmnaaDoor
open Go.RowKit

end Go.Proofs.YtolgncaaffmmnaaDoor
