/-
  A row of numbers of the call's own; shape.Parents.
-/
import Derived.Test.YtolgncaaffmmnaaDoorSChk
import Derived.Test.YtolgncaaffmmnaaDoorAppPAll
namespace Go.Proofs.YtolgncaaffmmnaaDoor
open Go.RowKit

def parL (l : PL) : List Int := (List.range l.length).map (par l)
theorem parL_length (l : PL) : (parL l).length = l.length := by simp [parL]
theorem parL_at (l : PL) (i : Nat) (h : i < l.length) : (parL l)[i]? = some (par l i) := by simp [parL, h]
/-- the first k of them -/
def parTo (l : PL) (n k : Nat) : List Int := (List.range k).map (par l) ++ List.replicate (n - k) 0
theorem parTo_set (l : PL) (n k : Nat) (h : k < n) : (parTo l n k).set k (par l k) = parTo l n (k + 1) := by
  unfold parTo
  rw [List.set_append_right _ _ (by simp), List.range_succ, List.map_append]
  simp only [List.length_map, List.length_range, Nat.sub_self]
  rw [show n - k = n - (k + 1) + 1 by omega, List.replicate_succ]
  simp
theorem parTo_length (l : PL) (n k : Nat) (h : k ≤ n) : (parTo l n k).length = n := by simp [parTo]; omega

theorem Parents_bad (A : Option Addr) (n c : Nat) (l : PL) (w : World) (h : PS w A n c l) (hn : n ≤ 9223372036854775807) (E : Int) (hE : chkS l = E) (hE0 : E ≠ 0) :
    Calls Tryd.prog 72 #[.slice A n c] w fun e w' => e = .returned (.tuple #[.slice none 0 0, I E]) ∧ Below w.heap.size w w' := by
  have HCH := Lib.hid (CheckS_is A n c l w h hn E hE)
  have hq : (E != 0) = true := by simpa using hE0
  clear h hE hE0
  go_enter Tryd.func72, Tryd.ntmps72
  go_wp2_with fail
  refine HCH.out.mono ?_
  rintro e w1 ⟨rfl, hb1⟩
  have HB1 := Lib.hid hb1
  clear hb1
  go_wp2
  go_ret2
  exact ⟨rfl, HB1.out⟩

set_option maxRecDepth 100000 in
set_option maxHeartbeats 1000000 in
theorem Parents_ok (A : Option Addr) (n c : Nat) (l : PL) (w : World) (h : PS w A n c l) (hT : IsTree l) :
    Calls Tryd.prog 72 #[.slice A n c] w (RetIs (parL l) w) := by
  have hn : n ≤ 200 := by have := hT.1; rw [h.len] at this; exact this
  have H := Lib.hid h
  have Hlen := Lib.hid h.len
  have HCH := Lib.hid (CheckS_is A n c l w h (by omega) 0 (chkS_zero.2 hT))
  clear h hT
  have hmk := fun w => run_makeI (P := Tryd.prog) 22 3 Tryd.underlying22 int_info n n (Nat.le_refl _) (by omega) w
  go_enter Tryd.func72, Tryd.ntmps72
  go_wp2_with fail
  refine HCH.out.mono ?_
  rintro e w1 ⟨rfl, hb1⟩
  have HB1 := Lib.hid hb1
  have hz1 := hb1.size
  clear hb1
  go_wp2
  go_loopw [17] (fun i wr => ∃ k : Nat, k ≤ n ∧ i = .int .i64 k ∧ IB wr w1.heap.size 3 (parTo l n k) ∧ Below w.heap.size w wr) (fun i _ => n - (intOf i).toNat)
  case atStart => exact ⟨0, Nat.zero_le _, rfl, by have := IB.new w1 3 (List.replicate n 0); simpa [parTo] using this, HB1.out.alloc hz1 _⟩
  case round =>
    obtain ⟨k, hk, rfl, hib, hnx⟩ := hrel
    by_cases hlt : k < n
    · have hpar := parentOf_any A n c k l wr (H.out.below hnx) (by omega) hlt
      have HPAR := Lib.hid hpar
      have HIB := Lib.hid hib
      have HNX := Lib.hid hnx
      clear hpar hib hnx
      go_wp2_with fail
      refine HPAR.out.mono ?_
      rintro e w2 ⟨rfl, hb2⟩
      have hib2 : IB w2 w1.heap.size 3 (parTo l n k) := HIB.out.below hb2 HIB.out.lt
      have HB2 := Lib.hid (HNX.out.trans (hb2.mono HNX.out.size))
      have hl2 := parTo_length l n k (by omega)
      obtain ⟨old, hcell⟩ : ∃ old, w2.cell? ⟨w1.heap.size, k, none⟩ = some (I old) := ⟨_, by rw [hib2.cell, List.getElem?_eq_getElem (by omega)]; rfl⟩
      have hfz : w2.frozen? ⟨w1.heap.size, k, none⟩ = false := hib2.frozen k
      have HI3 : Hid (IB (w2.setCell ⟨w1.heap.size, k, none⟩ (I (par l k))) w1.heap.size 3 (parTo l n (k + 1))) := by
        show IB _ _ _ _
        rw [← parTo_set l n k hlt]
        exact hib2.set k _
      clear hb2 hib2 hl2
      go_wp2
      go_roundw
      case rel => exact ⟨k + 1, by omega, by go_num, HI3.out, HB2.out.setCell hz1 _⟩
      case measure => simp [intOf]; omega
    · have HIS : Hid (IS wr (some ⟨w1.heap.size, 0, none⟩) n n (parL l)) := by
        have e1 : parTo l n k = parL l := by
          unfold parTo parL
          rw [Hlen.out, show k = n by omega]
          simp
        rw [e1] at hib
        have hl := parL_length l
        rw [Hlen.out] at hl
        have := hib.is_ (c := n) (by omega)
        rw [hl] at this
        exact this
      have HNX := Lib.hid hnx
      clear hib hnx
      go_wp2
      go_ret2
      exact ⟨_, n, n, rfl, HIS.out, HNX.out, fun ad h => by cases h; exact hz1⟩

end Go.Proofs.YtolgncaaffmmnaaDoor
