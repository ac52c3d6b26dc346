/-
  ARGUMENTS, OPENED: deeds; slices of slices of deeds.
-/
import Derived.Test.YtfmdpmebllepeaaLiftInts
import Derived.Test.YtfmdpmebllepeaaSlR
namespace Go.Proofs.Ytfmdpmebllepeaa
open Go.ChangeShapes Go.WideShapes Go.ChangeAt Go.RowKit Go.Deep

theorem cells_deed : Try.prog.cellsOf 50 = 2 := by kernel_rfl
theorem cells_deeds : Try.prog.cellsOf 35 = 1 := by kernel_rfl
theorem fields_deed : ∃ f0 f1 : Field, Try.prog.underlying 50 = some (.struct #[f0, f1]) ∧ f0.offset = 0 ∧ f1.offset = 1 ∧ f0.type = 3 ∧ f1.type = 3 := ⟨_, _, Try.underlying50, rfl, rfl, rfl, rfl⟩
section
variable {H : Type} {enc : TypeId × Value → H} {W : World} {base : Nat} {spare : Nat → Bool} {held : Bool}

set_option maxRecDepth 100000 in
theorem deed_cells_of {n : Nat} {cs : List Value} {y : DataW H × List MemPlace} (hl : cs.length = 2) (h : DataW.trod enc Try.prog W base spare held n 50 cs = some y) : ∃ k v : Int, cs = [I k, I v] := by
  obtain ⟨f0, f1, hf, o0, o1, t0, t1⟩ := fields_deed
  obtain ⟨xs, m, _, _, _, hxl, hg⟩ := DataW.trod_struct hf h
  have hx2 : xs.length = 2 := by simpa using hxl
  match cs, hl with
  | [c0, c1], _ =>
    have g0 := hg 0 f0 rfl
    have g1 := hg 1 f1 rfl
    simp only [o0, o1, t0, t1, cells_int, List.drop_zero, List.take_succ_cons, List.take_zero, List.drop_succ_cons] at g0 g1
    obtain ⟨k, e0, _⟩ := int_cell (by omega) g0
    obtain ⟨v, e1, _⟩ := int_cell (by omega) g1
    exact ⟨k, v, by rw [e0, e1]⟩

theorem open_deeds {fuel len cap : Nat} {a0 : Option Addr} {x : DataW H × List MemPlace} (h : DataW.trod enc Try.prog W base spare held fuel 35 [.slice a0 len cap] = some x) : len ≤ 9223372036854775807 ∧ ∃ l, PS W a0 len cap l := by
  rcases open_slice Try.underlying35 h with ⟨hcs, _⟩ | ⟨a, len', cap', m, n, D, Pl, hcs, _, hl, hm, hmm, _, hx⟩
  · simp at hcs
    obtain ⟨rfl, rfl, rfl⟩ := hcs
    exact ⟨by omega, [], rfl, Rd.none_⟩
  · simp at hcs
    obtain ⟨rfl, rfl, rfl⟩ := hcs
    have hlm : len ≤ m := by rw [hmm]; split <;> omega
    have each : ∀ i, i < len → ∃ q : Int × Int, W.cell? (a.add (i * 2)) = some (I q.1) ∧ W.cell? (a.add (i * 2 + 1)) = some (I q.2) := by
      intro i hi
      obtain ⟨cs', h1, h2⟩ := hx i (by omega)
      rw [cells_deed] at h1
      obtain ⟨_, hlen, hcell⟩ := World.cells?_some h1
      obtain ⟨k, v, rfl⟩ := deed_cells_of hlen h2
      have e0 := hcell 0 (by omega)
      have e1 := hcell 1 (by omega)
      rw [add_add] at e0 e1
      exact ⟨(k, v), by simpa using e0, by simpa using e1⟩
    obtain ⟨l, hll, hp⟩ := choose_elems len each
    refine ⟨by unfold maxLen at hm; omega, l, hll, hl, fun h0 => ?_⟩
    have hs : a.spot = none := spot_of (hp 0 (by omega)).1 rfl
    refine ⟨a.block, a.off, by cases a; simp_all, ?_, fun i hi j hj => ?_⟩
    · have := cell_lt (hp 0 (by omega)).1
      simpa [Addr.add] using this
    · have hil : i < l.length := by omega
      obtain ⟨p0, p1⟩ := hp i hil
      rw [add_of a _ hs] at p0 p1
      rcases (show j = 0 ∨ j = 1 by omega) with rfl | rfl
      · simpa [pf, List.getElem?_eq_getElem hil] using p0
      · simpa [pf, List.getElem?_eq_getElem hil] using p1

theorem open_progs {fuel len cap : Nat} {a0 : Option Addr} {x : DataW H × List MemPlace} (h : DataW.trod enc Try.prog W base spare held fuel 23 [.slice a0 len cap] = some x) : len ≤ 9223372036854775807 ∧ ∃ es, RS W a0 len cap es ∧ ∀ s ∈ es, s.n ≤ 9223372036854775807 := by
  rcases open_slice Try.underlying23 h with ⟨hcs, _⟩ | ⟨a, len', cap', m, n, D, Pl, hcs, _, hl, hm, hmm, _, hx⟩
  · simp at hcs
    obtain ⟨rfl, rfl, rfl⟩ := hcs
    exact ⟨by omega, [], ⟨rfl, Rd.none_, fun _ h => by cases h⟩, fun _ h => by cases h⟩
  · simp at hcs
    obtain ⟨rfl, rfl, rfl⟩ := hcs
    have hlm : len ≤ m := by rw [hmm]; split <;> omega
    have each : ∀ i, i < len → ∃ s : Sl, W.cell? (a.add i) = some s.val ∧ s.ok W ∧ s.n ≤ 9223372036854775807 := by
      intro i hi
      obtain ⟨cs', h1, h2⟩ := hx i (by omega)
      rw [cells_deeds] at h1
      obtain ⟨_, hlen, hcell⟩ := World.cells?_some h1
      match cs', hlen with
      | [v], _ =>
        have e0 := hcell 0 (by omega)
        rw [add_add] at e0
        obtain ⟨A, n', c', rfl⟩ : ∃ A n' c', v = .slice A n' c' := by
          rcases open_slice Try.underlying35 h2 with ⟨hcs, _⟩ | ⟨a', len2, cap2, m2, n2, D2, Pl2, hcs, _⟩
          · simp at hcs
            exact ⟨_, _, _, hcs⟩
          · simp at hcs
            exact ⟨_, _, _, hcs⟩
        obtain ⟨b1, l, b2⟩ := open_deeds h2
        exact ⟨⟨A, n', c', l⟩, by simpa using e0, b2, b1⟩
    obtain ⟨l, hll, hp⟩ := choose_elems len each
    refine ⟨by unfold maxLen at hm; omega, l, ⟨hll, ⟨hl, fun h0 => ?_⟩, fun s hs => ?_⟩, fun s hs => ?_⟩
    · have hs : a.spot = none := spot_of (hp 0 (by omega)).1 rfl
      refine ⟨a.block, a.off, by cases a; simp_all, ?_, fun i hi j hj => ?_⟩
      · have := cell_lt (hp 0 (by omega)).1
        simpa [Addr.add] using this
      · have hil : i < l.length := by omega
        have p0 := (hp i hil).1
        rw [add_of a _ hs] at p0
        obtain rfl : j = 0 := by omega
        simpa [List.getElem?_eq_getElem hil] using p0
    · obtain ⟨i, hi, rfl⟩ := List.getElem_of_mem hs
      exact (hp i hi).2.1
    · obtain ⟨i, hi, rfl⟩ := List.getElem_of_mem hs
      exact (hp i hi).2.2
end

end Go.Proofs.Ytfmdpmebllepeaa
