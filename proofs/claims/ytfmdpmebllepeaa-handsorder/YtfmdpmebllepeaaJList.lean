/-
  package hands: listOf: a list of nodes in new memory, one block behind the other.
-/
import Derived.Test.YtfmdpmebllepeaaJLeft
namespace Go.Proofs.Ytfmdpmebllepeaa
open Go.RowKit

/-- the first k + 1 nodes, the last one with no next yet -/
def LP (z : Nat) (l : List Int) (k : Nat) (w : World) : Prop := ∀ i, i ≤ k → w.heap[z + i]? = some (.cells #[I ((st0 l).key i), if i = k then .pointer none else jp (z + i + 1), .bool false, .bool false] 86 (0, 0))
theorem LP.next {z k : Nat} {l : List Int} {w : World} (h : LP z l k w) (hz : w.heap.size = z + k + 1) {x : Int} (hx : (st0 l).key (k + 1) = x) :
    LP z l (k + 1) ((w.alloc (.cells #[I x, .pointer none, .bool false, .bool false] 86)).setCell ⟨z + k, 1, none⟩ (jp (z + k + 1))) := by
  intro i hi
  by_cases e : i = k + 1
  · subst e
    rw [Below.heap_setCell _ _ _ _ (by show z + (k + 1) ≠ z + k; omega), if_pos rfl, hx]
    have := heap_alloc_new w (.cells #[I x, .pointer none, .bool false, .bool false] 86)
    rw [hz] at this
    exact this
  · have hik : i ≤ k := by omega
    have ha : (w.alloc (.cells #[I x, .pointer none, .bool false, .bool false] 86)).heap[z + i]? = w.heap[z + i]? := Below.heap_alloc _ _ _ (by omega)
    rw [if_neg e]
    by_cases e2 : i = k
    · subst e2
      rw [jset_at (ha.trans (h i hik))]
      rfl
    · rw [Below.heap_setCell _ _ _ _ (by show z + i ≠ z + k; omega), ha, h i hik, if_neg e2]
/-- the list, whole -/
theorem LP.whole {z : Nat} {l : List Int} {w : World} (h : LP z l (l.length + 1) w) : JL w z (fun i => z + i) (st0 l) (fun _ => false) := by
  refine ⟨fun i hi => ?_, fun i j _ _ e => by have : z + i = z + j := e; omega, fun i _ => by show z ≤ z + i; omega⟩
  have hi : i < l.length + 2 := hi
  have := h i (by omega)
  unfold JBead jnx
  show w.heap[z + i]? = some (.cells #[I ((st0 l).key i), if i = l.length + 1 then .pointer none else jp (z + (i + 1)), .bool false, .bool false] 86 (0, 0))
  rw [this]
  rfl
set_option maxRecDepth 100000 in
set_option maxHeartbeats 4000000 in
theorem listOf_any (A : Option Addr) (n c : Nat) (l : List Int) (w : World) (h : IS w A n c l) (hn : n ≤ 1000) :
    Calls Try.prog 33 #[.slice A n c] w fun e w' => e = .returned (jp w.heap.size) ∧ JL w' w.heap.size (fun i => w.heap.size + i) (st0 l) (fun _ => false) ∧ Below w.heap.size w w' := by
  have H := Lib.hid h
  have HL := Lib.hid h.len
  obtain ⟨z, hz⟩ : ∃ z, w.heap.size = z := ⟨_, rfl⟩
  have HZ := Lib.hid hz
  clear h
  have HA : Hid (LP z l 0 (w.alloc (.cells #[I (-1), .pointer none, .bool false, .bool false] 86))) := fun i hi => by
    obtain rfl : i = 0 := by omega
    rw [if_pos rfl, ← hz]
    exact heap_alloc_new w _
  rw [hz]
  go_enter Try.func33, Try.ntmps33
  go_wp2
  go_loopw [4, 12] (fun lv iv wr => ∃ k : Nat, k ≤ n ∧ iv = .int .i64 k ∧ lv = jp (z + k) ∧ LP z l k wr ∧ wr.heap.size = z + k + 1 ∧ Below z w wr) (fun _ iv _ => n - (intOf iv).toNat)
  case atStart => exact ⟨0, Nat.zero_le _, rfl, by rw [← HZ.out]; rfl, HA.out, by simp [HZ.out], (Below.refl _ _).alloc (by rw [HZ.out]; exact Nat.le_refl _) _⟩
  case round =>
    obtain ⟨k, hk, rfl, rfl, hlp, hsz, hbl⟩ := hrel
    have HLP := Lib.hid hlp
    have HSZ := Lib.hid hsz
    have HBL := Lib.hid hbl
    have hlast := hlp k (Nat.le_refl _)
    rw [if_pos rfl] at hlast
    have hltk := jblk hlast
    by_cases hlt : k < n
    · obtain ⟨b, off, rfl, hb, hc⟩ := H.out.at_ (by omega)
      have hkl : k < l.length := by rw [HL.out]; exact hlt
      have hck : wr.cell? ⟨b, off + k, none⟩ = some (I l[k]) := (hbl.cell (by show b < z; omega)).trans (hc k hlt)
      have HKEY : Hid ((st0 l).key (k + 1) = l[k]) := st0_key l k hkl
      obtain ⟨x, hx⟩ : ∃ x, l[k] = x := ⟨_, rfl⟩
      rw [hx] at hck HKEY
      have d1 : (wr.alloc (.cells #[I x, .pointer none, .bool false, .bool false] 86)).cell? ⟨z + k, 1, none⟩ = some (.pointer none) := by
        rw [World.cell?_of_block (w := wr) (Below.heap_alloc _ _ _ hltk), jcell hlast]; rfl
      have d2 : (wr.alloc (.cells #[I x, .pointer none, .bool false, .bool false] 86)).frozen? ⟨z + k, 1, none⟩ = false := jfroz ((Below.heap_alloc _ _ _ hltk).trans hlast)
      have d3 : ∀ (u : Value) (o : Obj), ((wr.setCell ⟨z + k, 1, none⟩ u).alloc o).cell? ⟨z + k, 1, none⟩ = some u := fun u o => by
        rw [World.cell?_of_block (w := wr.setCell ⟨z + k, 1, none⟩ u) (Below.heap_alloc _ _ _ (by rw [jsize_set]; exact hltk)), jcell (jset_at hlast)]; rfl
      have HSW : Hid (∀ (u : Value) (o : Obj), (wr.setCell ⟨z + k, 1, none⟩ u).alloc o = (wr.alloc o).setCell ⟨z + k, 1, none⟩ u) := fun u o => (World.setCell_alloc_past (w := wr) o (z + k) 1 u hltk).symm
      clear hlp hsz hbl hlast hc hx hz
      go_wp2
      rw [HSW.out]
      go_roundw
      case rel => exact ⟨k + 1, by omega, by go_num, by rw [HSZ.out]; rfl, by have := HLP.out.next HSZ.out HKEY.out; rw [HSZ.out]; exact this, by rw [jsize_set]; simp [HSZ.out]; omega, (HBL.out.alloc (by rw [HSZ.out]; omega) _).setCell (p := ⟨z + k, 1, none⟩) (by show z ≤ z + k; omega) _⟩
      case measure => simp [intOf]; omega
    · obtain rfl : k = n := by omega
      have HKEY : Hid ((st0 l).key (k + 1) = 10) := by have := st0_top l; rw [HL.out] at this; exact this
      have d1 : (wr.alloc (.cells #[I 10, .pointer none, .bool false, .bool false] 86)).cell? ⟨z + k, 1, none⟩ = some (.pointer none) := by
        rw [World.cell?_of_block (w := wr) (Below.heap_alloc _ _ _ hltk), jcell hlast]; rfl
      have d2 : (wr.alloc (.cells #[I 10, .pointer none, .bool false, .bool false] 86)).frozen? ⟨z + k, 1, none⟩ = false := jfroz ((Below.heap_alloc _ _ _ hltk).trans hlast)
      have HSW : Hid (∀ (u : Value) (o : Obj), (wr.setCell ⟨z + k, 1, none⟩ u).alloc o = (wr.alloc o).setCell ⟨z + k, 1, none⟩ u) := fun u o => (World.setCell_alloc_past (w := wr) o (z + k) 1 u hltk).symm
      clear hlp hsz hbl hlast hz
      go_wp2
      go_ret
      rw [HSW.out]
      have h1 := HLP.out.next HSZ.out HKEY.out
      rw [← HSZ.out] at h1
      refine ⟨by first | rfl | rw [HZ.out], ?_, (HBL.out.alloc (by rw [HSZ.out]; omega) _).setCell (p := ⟨z + k, 1, none⟩) (by show z ≤ z + k; omega) _⟩
      refine LP.whole ?_
      rw [HL.out]
      exact h1

end Go.Proofs.Ytfmdpmebllepeaa
