/-
  Joined texts: YtpnjnedfcdppaaaGreatDoorLiftInts, YtpnjnedfcdppaaaGreatDoorLift, YtpnjnedfcdppaaaGreatDoorLiftOI.
-/
import Derived.Test.YtpnjnedfcdppaaaGreatDoorLiftBase
import Derived.Test.YtpnjnedfcdppaaaGreatDoorSEqAll
import Derived.Test.YtpnjnedfcdppaaaGreatDoorSChkAll
/-
  ARGUMENTS, OPENED: a slice of numbers.
-/
namespace Go.Proofs.YtpnjnedfcdppaaaGreatDoor
open Go.ChangeShapes Go.WideShapes Go.ChangeAt Go.WideMaps Go.WideElems Go.RowKit Go.Deep

section
variable {H : Type} {enc : TypeId × Value → H} {W : World} {base : Nat} {spare : Nat → Bool} {held : Bool}

theorem open_ints {fuel len cap : Nat} {a0 : Option Addr} {x : DataW H × List MemPlace} (h : DataW.trod enc Tryz.prog W base spare held fuel 46 [.slice a0 len cap] = some x) : len ≤ 9223372036854775807 ∧ ∃ l, IS W a0 len cap l := by
  rcases open_slice Tryz.underlying46 h with ⟨hcs, _⟩ | ⟨a, len', cap', m, n, D, Pl, hcs, _, hl, hm, hmm, _, hx⟩
  · simp at hcs
    obtain ⟨rfl, rfl, rfl⟩ := hcs
    exact ⟨by omega, [], rfl, Rd.none_⟩
  · simp at hcs
    obtain ⟨rfl, rfl, rfl⟩ := hcs
    have hlm : len ≤ m := by rw [hmm]; split <;> omega
    have each : ∀ i, i < len → ∃ q : Int, W.cell? (a.add i) = some (I q) := by
      intro i hi
      obtain ⟨cs', h1, h2⟩ := hx i (by omega)
      rw [cells_int] at h1
      obtain ⟨_, hlen, hcell⟩ := World.cells?_some h1
      match cs', hlen with
      | [v], _ =>
        obtain ⟨k, e, _⟩ := DataW.trod_int Tryz.underlying3 h2
        simp at e
        have e0 := hcell 0 (by omega)
        rw [add_add] at e0
        exact ⟨k, by simpa [e] using e0⟩
    obtain ⟨l, hll, hp⟩ := choose_elems len each
    refine ⟨by unfold maxLen at hm; omega, l, hll, hl, fun h0 => ?_⟩
    have hs : a.spot = none := spot_of (hp 0 (by omega)) rfl
    refine ⟨a.block, a.off, by cases a; simp_all, ?_, fun i hi j hj => ?_⟩
    · have := cell_lt (hp 0 (by omega))
      simpa [Addr.add] using this
    · have hil : i < l.length := by omega
      have p0 := hp i hil
      rw [add_of a _ hs] at p0
      obtain rfl : j = 0 := by omega
      simpa [List.getElem?_eq_getElem hil] using p0
end

end Go.Proofs.YtpnjnedfcdppaaaGreatDoor

/-
  ARGUMENTS, OPENED: a slice of pairs, of ops, that came in reads as a list.
-/
namespace Go.Proofs.YtpnjnedfcdppaaaGreatDoor
open Go.ChangeShapes Go.WideShapes Go.ChangeAt Go.RowKit Go.Deep

theorem cells_pair : Tryz.prog.cellsOf 48 = 2 := by kernel_rfl
theorem fields_pair : ∃ f0 f1 : Field, Tryz.prog.underlying 48 = some (.struct #[f0, f1]) ∧ f0.offset = 0 ∧ f1.offset = 1 ∧ f0.type = 3 ∧ f1.type = 3 := ⟨_, _, Tryz.underlying48, rfl, rfl, rfl, rfl⟩
theorem cells_op : Tryz.prog.cellsOf 69 = 3 := by kernel_rfl
theorem fields_op : ∃ f0 f1 f2 : Field, Tryz.prog.underlying 69 = some (.struct #[f0, f1, f2]) ∧ f0.offset = 0 ∧ f1.offset = 1 ∧ f2.offset = 2 ∧ f0.type = 3 ∧ f1.type = 3 ∧ f2.type = 3 := ⟨_, _, _, Tryz.underlying69, rfl, rfl, rfl, rfl, rfl, rfl⟩

section
variable {H : Type} {enc : TypeId × Value → H} {W : World} {base : Nat} {spare : Nat → Bool} {held : Bool}

set_option maxRecDepth 100000 in
/-- two cells that read as a pair are two numbers -/
theorem pair_cells_of {n : Nat} {cs : List Value} {y : DataW H × List MemPlace} (hl : cs.length = 2) (h : DataW.trod enc Tryz.prog W base spare held n 48 cs = some y) : ∃ k v : Int, cs = [I k, I v] := by
  obtain ⟨f0, f1, hf, o0, o1, t0, t1⟩ := fields_pair
  obtain ⟨xs, m, _, _, _, hxl, hg⟩ := DataW.trod_struct hf h
  have hx2 : xs.length = 2 := by simpa using hxl
  match cs, hl with
  | [c0, c1], _ =>
    have g0 := hg 0 f0 rfl
    have g1 := hg 1 f1 rfl
    simp only [o0, o1, t0, t1, cells_int, List.drop_zero, List.take_succ_cons, List.take_zero, List.drop_succ_cons] at g0 g1
    obtain ⟨k, e0, _⟩ := int_cell (by omega) g0
    obtain ⟨v, e1, _⟩ := int_cell (by omega) g1
    exact ⟨k, v, by rw [e0, e1]⟩
set_option maxRecDepth 100000 in
/-- three cells that read as an op are three numbers -/
theorem op_cells_of {n : Nat} {cs : List Value} {y : DataW H × List MemPlace} (hl : cs.length = 3) (h : DataW.trod enc Tryz.prog W base spare held n 69 cs = some y) : ∃ k v u : Int, cs = [I k, I v, I u] := by
  obtain ⟨f0, f1, f2, hf, o0, o1, o2, t0, t1, t2⟩ := fields_op
  obtain ⟨xs, m, _, _, _, hxl, hg⟩ := DataW.trod_struct hf h
  have hx2 : xs.length = 3 := by simpa using hxl
  match cs, hl with
  | [c0, c1, c2], _ =>
    have g0 := hg 0 f0 rfl
    have g1 := hg 1 f1 rfl
    have g2 := hg 2 f2 rfl
    simp only [o0, o1, o2, t0, t1, t2, cells_int, List.drop_zero, List.take_succ_cons, List.take_zero, List.drop_succ_cons] at g0 g1 g2
    obtain ⟨k, e0, _⟩ := int_cell (by omega) g0
    obtain ⟨v, e1, _⟩ := int_cell (by omega) g1
    obtain ⟨u, e2, _⟩ := int_cell (by omega) g2
    exact ⟨k, v, u, by rw [e0, e1, e2]⟩

theorem open_pairs {fuel len cap : Nat} {a0 : Option Addr} {x : DataW H × List MemPlace} (h : DataW.trod enc Tryz.prog W base spare held fuel 33 [.slice a0 len cap] = some x) : len ≤ 9223372036854775807 ∧ ∃ l, PS W a0 len cap l := by
  rcases open_slice Tryz.underlying33 h with ⟨hcs, _⟩ | ⟨a, len', cap', m, n, D, Pl, hcs, _, hl, hm, hmm, _, hx⟩
  · simp at hcs
    obtain ⟨rfl, rfl, rfl⟩ := hcs
    exact ⟨by omega, [], rfl, Rd.none_⟩
  · simp at hcs
    obtain ⟨rfl, rfl, rfl⟩ := hcs
    have hlm : len ≤ m := by rw [hmm]; split <;> omega
    have each : ∀ i, i < len → ∃ q : Int × Int, W.cell? (a.add (i * 2)) = some (I q.1) ∧ W.cell? (a.add (i * 2 + 1)) = some (I q.2) := by
      intro i hi
      obtain ⟨cs', h1, h2⟩ := hx i (by omega)
      rw [cells_pair] at h1
      obtain ⟨_, hlen, hcell⟩ := World.cells?_some h1
      obtain ⟨k, v, rfl⟩ := pair_cells_of hlen h2
      have e0 := hcell 0 (by omega)
      have e1 := hcell 1 (by omega)
      rw [add_add] at e0 e1
      exact ⟨(k, v), by simpa using e0, by simpa using e1⟩
    obtain ⟨l, hll, hp⟩ := choose_elems len each
    refine ⟨by unfold maxLen at hm; omega, l, hll, hl, fun h0 => ?_⟩
    have hs : a.spot = none := spot_of (hp 0 (by omega)).1 rfl
    refine ⟨a.block, a.off, by cases a; simp_all, ?_, fun i hi j hj => ?_⟩
    · have := cell_lt (hp 0 (by omega)).1
      simpa [Addr.add] using this
    · have hil : i < l.length := by omega
      obtain ⟨p0, p1⟩ := hp i hil
      rw [add_of a _ hs] at p0 p1
      rcases (show j = 0 ∨ j = 1 by omega) with rfl | rfl
      · simpa [pf, List.getElem?_eq_getElem hil] using p0
      · simpa [pf, List.getElem?_eq_getElem hil] using p1

theorem open_ops {fuel len cap : Nat} {a0 : Option Addr} {x : DataW H × List MemPlace} (h : DataW.trod enc Tryz.prog W base spare held fuel 32 [.slice a0 len cap] = some x) : len ≤ 9223372036854775807 ∧ ∃ l, OS W a0 len cap l := by
  rcases open_slice Tryz.underlying32 h with ⟨hcs, _⟩ | ⟨a, len', cap', m, n, D, Pl, hcs, _, hl, hm, hmm, _, hx⟩
  · simp at hcs
    obtain ⟨rfl, rfl, rfl⟩ := hcs
    exact ⟨by omega, [], rfl, Rd.none_⟩
  · simp at hcs
    obtain ⟨rfl, rfl, rfl⟩ := hcs
    have hlm : len ≤ m := by rw [hmm]; split <;> omega
    have each : ∀ i, i < len → ∃ q : OP, W.cell? (a.add (i * 3)) = some (I q.1) ∧ W.cell? (a.add (i * 3 + 1)) = some (I q.2.1) ∧ W.cell? (a.add (i * 3 + 2)) = some (I q.2.2) := by
      intro i hi
      obtain ⟨cs', h1, h2⟩ := hx i (by omega)
      rw [cells_op] at h1
      obtain ⟨_, hlen, hcell⟩ := World.cells?_some h1
      obtain ⟨k, v, u, rfl⟩ := op_cells_of hlen h2
      have e0 := hcell 0 (by omega)
      have e1 := hcell 1 (by omega)
      have e2 := hcell 2 (by omega)
      rw [add_add] at e0 e1 e2
      exact ⟨(k, v, u), by simpa using e0, by simpa using e1, by simpa using e2⟩
    obtain ⟨l, hll, hp⟩ := choose_elems len each
    refine ⟨by unfold maxLen at hm; omega, l, hll, hl, fun h0 => ?_⟩
    have hs : a.spot = none := spot_of (hp 0 (by omega)).1 rfl
    refine ⟨a.block, a.off, by cases a; simp_all, ?_, fun i hi j hj => ?_⟩
    · have := cell_lt (hp 0 (by omega)).1
      simpa [Addr.add] using this
    · have hil : i < l.length := by omega
      obtain ⟨p0, p1, p2⟩ := hp i hil
      rw [add_of a _ hs] at p0 p1 p2
      rcases (show j = 0 ∨ j = 1 ∨ j = 2 by omega) with rfl | rfl | rfl
      · simpa [of_, List.getElem?_eq_getElem hil] using p0
      · simpa [of_, List.getElem?_eq_getElem hil] using p1
      · simpa [of_, List.getElem?_eq_getElem hil] using p2

end
end Go.Proofs.YtpnjnedfcdppaaaGreatDoor

/-
  Arguments opened: ops and keys.
-/
