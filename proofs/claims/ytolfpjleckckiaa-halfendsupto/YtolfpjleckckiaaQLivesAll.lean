/-
  Joined texts: YtolfpjleckckiaaEqT, YtolfpjleckckiaaQLives.
-/
import Derived.Test.YtolfpjleckckiaaEqAns
import Derived.Test.YtolfpjleckckiaaEqInt
import Derived.Test.YtolfpjleckckiaaQRun
import Derived.Test.YtolfpjleckckiaaQEnd
/-
  slices.Equal of lists that are the same.
-/
namespace Go.Proofs.Ytolfpjleckckiaa
open Go.RowKit

theorem eqAns_t (A A' : Option Addr) (n c c' : Nat) (l : List An) (w : World) (h : AS w A n c l) (h' : AS w A' n c' l) (hn : n ≤ 1000000) :
    Calls Try.prog 13 #[.slice A n c, .slice A' n c'] w fun e w' => e = .returned (.bool true) ∧ Below w.heap.size w w' := by
  refine (eqAns_any A A' n n c c' l l w h h' hn hn).mono ?_
  rintro e w' ⟨rfl, hb⟩
  exact ⟨by simp, hb⟩
theorem eqInt_t (A A' : Option Addr) (n c c' : Nat) (l : List Int) (w : World) (h : IS w A n c l) (h' : IS w A' n c' l) (hn : n ≤ 1000000) :
    Calls Try.prog 20 #[.slice A n c, .slice A' n c'] w fun e w' => e = .returned (.bool true) ∧ Below w.heap.size w w' := by
  refine (eqInt_any A A' n n c c' l l w h h' hn hn).mono ?_
  rintro e w' ⟨rfl, hb⟩
  exact ⟨by simp, hb⟩

end Go.Proofs.Ytolfpjleckckiaa

/-
  hedgkeep.halfLives: three keys, far apart.
-/
namespace Go.Proofs.Ytolfpjleckckiaa
open Go.RowKit Go.Maps

theorem qon {w w1 w2 : World} (h : Below w.heap.size w w1) (hb : Below w1.heap.size w1 w2) : Below w.heap.size w w2 := h.trans (hb.mono h.size)
theorem qbox {w w' : World} {o : Obj} (hb : Below (w.alloc o).heap.size (w.alloc o) w') : Below w.heap.size w w' := qon ((Below.refl _ _).alloc (Nat.le_refl _) _) hb
abbrev hlOps : List OP := [(1, 65535, 0), (1, 300, 0), (1, 2, 0), (4, 300, 0), (3, 300, 0), (5, 65535, 0)]
abbrev hlAns : List An := [an0, an0, an0, ⟨0, 65535, 0, true⟩, ⟨0, 0, 0, true⟩, ⟨0, 2, 0, true⟩]
theorem hl_run : hR hlOps = ([2, 65535], hlAns) := by decide +kernel
abbrev hlOpsO : Obj := .cells #[I 1, I 65535, I 0, I 1, I 300, I 0, I 1, I 2, I 0, I 4, I 300, I 0, I 3, I 300, I 0, I 5, I 65535, I 0] 39
theorem hl_os (w : World) : OS (w.alloc hlOpsO) (some ⟨w.heap.size, 0, none⟩) 6 6 hlOps := by
  refine ⟨rfl, Nat.le_refl _, fun _ => ⟨w.heap.size, 0, rfl, by simp, fun i hi j hj => ?_⟩⟩
  have hh : (w.alloc hlOpsO).heap[w.heap.size]? = some hlOpsO := heap_alloc_new w _
  have h4 : i = 0 ∨ i = 1 ∨ i = 2 ∨ i = 3 ∨ i = 4 ∨ i = 5 := by omega
  have h3 : j = 0 ∨ j = 1 ∨ j = 2 := by omega
  rcases h4 with rfl | rfl | rfl | rfl | rfl | rfl <;> rcases h3 with rfl | rfl | rfl <;> (rw [cell_of_row _ _ _ _ _ _ hh]; rfl)
theorem hl_ends : qErr [9, 4, 7] = 0 ∧ QEnds (· ∈ ([9, 4, 7] : List Int)) 4 9 := by
  refine ⟨by decide, by simp, by simp, fun x hx => ?_⟩
  simp at hx
  omega

set_option maxRecDepth 100000 in
set_option maxHeartbeats 4000000 in
theorem halfLives_any (w : World) : Calls Try.prog 15 #[] w fun e w' => e = .returned (.bool true) ∧ Below w.heap.size w w' := by
  go_enter Try.func15, Try.ntmps15
  go_wp2_with fail
  refine (QRun_any _ 6 6 hlOps _ (hl_os w) (by omega)).mono ?_
  rw [hl_run]
  rintro e w1 ⟨A1, n1, c1, A2, n2, c2, rfl, his, has, hb1⟩
  obtain rfl : n1 = 2 := his.len.symm
  obtain rfl : n2 = 6 := has.len.symm
  have HB1 := Lib.hid (qbox hb1)
  have HI1 := Lib.hid his
  have HA1 := Lib.hid has
  clear his has hb1
  go_wp2_with fail
  refine (Ends_any _ 3 3 [9, 4, 7] _ (is_new w1 3 [9, 4, 7]) (by omega)).mono ?_
  rintro e w2 ⟨⟨lo, hi, rfl, _, he⟩, hb2⟩
  have he2 := he hl_ends.1
  obtain ⟨rfl, rfl⟩ := qends_one he2 hl_ends.2
  have hz : qErr [9, 4, 7] = 0 := hl_ends.1
  rw [hz]
  have hbx : Below w1.heap.size w1 w2 := qbox hb2
  have HB2 := Lib.hid (qon HB1.out hbx)
  have HI2 := Lib.hid (HI1.out.below hbx)
  have HA2 := Lib.hid (HA1.out.below hbx)
  clear he he2 hz hb2 hbx HI1 HA1
  go_wp2_with fail
  refine (ok_any _ 2 2 [0, 0] _ (is_new w2 25 [0, 0]) (by omega) (by simp)).mono ?_
  rintro e w3 ⟨rfl, rfl⟩
  obtain ⟨w3, hw3⟩ : ∃ W, w2.alloc (Obj.cells (List.map I [0, 0]).toArray 25) = W := ⟨_, rfl⟩
  have hbx : Below w2.heap.size w2 w3 := by rw [← hw3]; exact (Below.refl _ _).alloc (Nat.le_refl _) _
  rw [hw3]
  have HB3 := Lib.hid (qon HB2.out hbx)
  have HI3 := Lib.hid (HI2.out.below hbx)
  have HA3 := Lib.hid (HA2.out.below hbx)
  clear hbx hw3 HI2 HA2
  go_wp2_with fail
  refine (eqInt_t A1 _ 2 c1 2 [2, 65535] _ (HI3.out.alloc _) (is_new w3 3 [2, 65535]) (by omega)).mono ?_
  rintro e w4 ⟨rfl, hb4⟩
  have hbx : Below w3.heap.size w3 w4 := qbox hb4
  have HB4 := Lib.hid (qon HB3.out hbx)
  have hA4 := HA3.out.below hbx
  obtain ⟨b, off, rfl, hbb, hc⟩ := hA4.at_ (by omega)
  obtain ⟨x0, x1, x2, x3⟩ := hc 3 (by omega)
  obtain ⟨y0, y1, y2, y3⟩ := hc 5 (by omega)
  simp only [List.getElem_cons_succ, List.getElem_cons_zero] at x0 x1 x2 x3 y0 y1 y2 y3
  clear hb4 hbx HI3 HA3 hA4 hc
  go_wp2
  go_ret
  exact ⟨rfl, HB4.out⟩

end Go.Proofs.Ytolfpjleckckiaa
