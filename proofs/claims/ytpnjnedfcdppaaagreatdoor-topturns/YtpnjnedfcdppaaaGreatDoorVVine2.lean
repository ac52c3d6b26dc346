/-
  package vine: vineOf at what is no tree; Vine.
-/
import Derived.Test.YtpnjnedfcdppaaaGreatDoorVVine
namespace Go.Proofs.YtpnjnedfcdppaaaGreatDoor
open Go.RowKit

set_option maxRecDepth 100000 in
set_option maxHeartbeats 2000000 in
theorem vineOf_bad (A : Option Addr) (n c : Nat) (l : PL) (w : World) (h : PS w A n c l) (hn : n ≤ 9223372036854775807) (E : Int) (hE : chkS l = E) (hE0 : E ≠ 0) :
    Calls Tryz.prog 79 #[.slice A n c] w fun e w' => e = .returned (.tuple #[.agg #[.slice none 0 0, .slice none 0 0], I E]) ∧ Below w.heap.size w w' := by
  have H := Lib.hid h
  have hq : (E != 0) = true := by simpa using hE0
  have HE := Lib.hid hE
  clear h hE hE0
  go_enter Tryz.func79, Tryz.ntmps79
  go_wp2_with fail
  refine (CheckS_is A n c l _ (H.out.alloc _) hn E HE.out).mono ?_
  rintro e w1 ⟨rfl, hb1⟩
  have hz := hb1.size
  rw [World.size_alloc] at hz
  have hres : w1.heap[w.heap.size]? = some (.cells #[.slice none 0 0, .slice none 0 0] 142 (0, 0)) := (hb1.block _ (by rw [World.size_alloc]; omega)).trans (heap_alloc_new w _)
  have hr0 : w1.cell? ⟨w.heap.size, 0, none⟩ = some (.slice none 0 0) := by simp [World.cell?, hres]
  have hr1 : w1.cell? ⟨w.heap.size, 1, none⟩ = some (.slice none 0 0) := by simp [World.cell?, hres]
  have hf0 : w1.frozen? ⟨w.heap.size, 0, none⟩ = false := by simp [World.frozen?, hres]
  have hf1 : w1.frozen? ⟨w.heap.size, 1, none⟩ = false := by simp [World.frozen?, hres]
  have HR := Lib.hid hres
  have HB1 := Lib.hid (below_box hb1)
  clear hb1 hres
  go_wp2
  have hset : ((w1.setCell ⟨w.heap.size, 0, none⟩ (.slice none 0 0)).setCell ⟨w.heap.size, 1, none⟩ (.slice none 0 0)).heap[w.heap.size]? = some (.cells #[.slice none 0 0, .slice none 0 0] 142 (0, 0)) := by
    have h1 := vcells_set (cs := [.slice none 0 0, .slice none 0 0]) HR.out 0 (.slice none 0 0)
    have h2 := vcells_set (cs := [.slice none 0 0, .slice none 0 0]) h1 1 (.slice none 0 0)
    exact h2
  have hbl : Below w.heap.size w ((w1.setCell ⟨w.heap.size, 0, none⟩ (.slice none 0 0)).setCell ⟨w.heap.size, 1, none⟩ (.slice none 0 0)) :=
    (HB1.out.setCell (B := w.heap.size) (p := ⟨w.heap.size, 0, none⟩) (Nat.le_refl _) _).setCell (B := w.heap.size) (p := ⟨w.heap.size, 1, none⟩) (Nat.le_refl _) _
  generalize (w1.setCell ⟨w.heap.size, 0, none⟩ (.slice none 0 0)).setCell ⟨w.heap.size, 1, none⟩ (.slice none 0 0) = wf at *
  refine bodyPost_ret (v := .tuple #[.agg #[.slice none 0 0, .slice none 0 0], I E]) ?_ rfl ?_
  · obtain ⟨d, hd⟩ := tree_struct
    have := run_loadVar_row (P := Tryz.prog) wf w.heap.size 142 142 #[.slice none 0 0, .slice none 0 0] (0, 0) _ hset hd rfl tree_size
    simp [results, Tryz.results79, asAddr, this]
  · exact ⟨rfl, hbl⟩

set_option maxRecDepth 100000 in
set_option maxHeartbeats 2000000 in
theorem Vine_bad (A : Option Addr) (n c : Nat) (l : PL) (w : World) (h : PS w A n c l) (hn : n ≤ 9223372036854775807) (E : Int) (hE : chkS l = E) (hE0 : E ≠ 0) :
    Calls Tryz.prog 39 #[.slice A n c] w fun e w' => e = .returned (.tuple #[.slice none 0 0, I E]) ∧ Below w.heap.size w w' := by
  have HV := Lib.hid (vineOf_bad A n c l w h hn E hE hE0)
  have hq : (E != 0) = true := by simpa using hE0
  clear h hE hE0
  go_enter Tryz.func39, Tryz.ntmps39
  go_wp2_with fail
  refine HV.out.mono ?_
  rintro e w1 ⟨rfl, hb1⟩
  have HB1 := Lib.hid hb1
  have hz := hb1.size
  clear hb1
  go_wp2
  go_ret2
  exact ⟨rfl, HB1.out.alloc hz _⟩

/-- a list of keys, and no error -/
def RetK (L : List Int) (w : World) (e : Ending) (w' : World) : Prop := ∃ A c, e = .returned (.tuple #[.slice A L.length c, I 0]) ∧ IS w' A L.length c L ∧ Below w.heap.size w w'

set_option maxRecDepth 100000 in
set_option maxHeartbeats 2000000 in
theorem Vine_ok (A : Option Addr) (n c : Nat) (t : Tr) (w : World) (h : PS w A n c (t.sp 0)) (hT : IsTree (t.sp 0)) :
    Calls Tryz.prog 39 #[.slice A n c] w (RetK (vks t) w) := by
  have HV := Lib.hid (vineOf_ok A n c t w h hT)
  clear h hT
  go_enter Tryz.func39, Tryz.ntmps39
  go_wp2_with fail
  refine HV.out.mono ?_
  rintro e w1 ⟨A1, c1, u1, rfl, hps1, hown1, hb1, -⟩
  obtain ⟨Au, cu, rfl, his, -⟩ := hown1.is_
  obtain ⟨m, hm⟩ : ∃ m, (vks t).length = m := ⟨_, rfl⟩
  obtain ⟨m1, hm1⟩ : ∃ m, ((vnT t.ks).sp 0).length = m := ⟨_, rfl⟩
  rw [hm] at his ⊢
  rw [hm1]
  have HI := Lib.hid his
  have HB1 := Lib.hid hb1
  have hz := hb1.size
  have HM := Lib.hid hm
  clear hb1 his hps1 hown1 hm hm1
  go_wp2
  go_ret2
  exact ⟨Au, cu, by rw [HM.out]; rfl, by rw [HM.out]; exact HI.out.alloc _, HB1.out.alloc hz _⟩

end Go.Proofs.YtpnjnedfcdppaaaGreatDoor
