/-
  A row of numbers of the call's own; shape.Parents.
-/
import Derived.Test.YtgpbafalciccdaaSChk
import Derived.Test.YtgpbafalciccdaaEqInt
namespace Go.Proofs.Ytgpbafalciccdaa
open Go.RowKit

/-- block g is just the numbers L -/
def IB (w : World) (g t : Nat) (L : List Int) : Prop := w.heap[g]? = some (.cells (L.map I).toArray t (0, 0))
theorem IB.lt {w : World} {g t : Nat} {L : List Int} (h : IB w g t L) : g < w.heap.size := by
  rcases Nat.lt_or_ge g w.heap.size with hlt | hge
  · exact hlt
  · unfold IB at h; rw [Array.getElem?_eq_none hge] at h; cases h
theorem IB.cell {w : World} {g t : Nat} {L : List Int} (h : IB w g t L) (i : Nat) : w.cell? ⟨g, i, none⟩ = L[i]?.map I := by
  unfold IB at h
  simp [World.cell?, h]
theorem IB.frozen {w : World} {g t : Nat} {L : List Int} (h : IB w g t L) (i : Nat) : w.frozen? ⟨g, i, none⟩ = false := by
  unfold IB at h
  simp [World.frozen?, h]
theorem IB.is_ {w : World} {g t c : Nat} {L : List Int} (h : IB w g t L) (hc : L.length ≤ c) : IS w (some ⟨g, 0, none⟩) L.length c L := by
  refine ⟨rfl, hc, fun _ => ⟨g, 0, rfl, h.lt, fun i hi j hj => ?_⟩⟩
  obtain rfl : j = 0 := by omega
  rw [h.cell]
  simp [List.getElem?_eq_getElem hi]
theorem IB.below {w w' : World} {g t B : Nat} {L : List Int} (h : IB w g t L) (hb : Below B w w') (hg : g < B) : IB w' g t L := (hb.block g hg).trans h
theorem IB.new (w : World) (t : Nat) (L : List Int) : IB (w.alloc (.cells (L.map I).toArray t)) w.heap.size t L := heap_alloc_new w _
theorem IB.set {w : World} {g t : Nat} {L : List Int} (h : IB w g t L) (i : Nat) (v : Int) : IB (w.setCell ⟨g, i, none⟩ (I v)) g t (L.set i v) := by
  unfold IB at *
  rw [setCell_eq_setRow w g i _ t (0, 0) (I v) h, setRow_heap w g _ _ t (0, 0) h]
  simp [List.map_set]
theorem int_info : (Try.prog.info? 3).map (fun i => (i.zero, i.size, i.bytes)) = some (some (I 0), 1, 8) := by kernel_rfl
theorem run_makeI {P : Program} (t e : TypeId) (ht : P.underlying t = some (.slice e)) (hi : (P.info? e).map (fun i => (i.zero, i.size, i.bytes)) = some (some (I 0), 1, 8)) (n c : Nat) (hn : n ≤ c) (hc : c ≤ 1000000) (w : World) :
    (Instr.makeSlice t (.int .i64 (n : Int)) (.int .i64 (c : Int))).run P w = .ok (.slice (some ⟨w.heap.size, 0, none⟩) n c) (w.alloc (.cells ((List.replicate c (0 : Int)).map I).toArray e)) := by
  obtain ⟨i, h1, hz, hs, hb⟩ := info_parts hi
  have := run_make (P := P) w t e i _ ht h1 hz .i64 .i64 n c (by omega) (by omega) (by rw [hb]; omega) (by omega)
  rw [this, hs]
  simp only [Int.toNat_natCast, Value.cells]
  congr 3
  apply Array.ext
  · simp [size_madeCells]
  · intro k h1 h2
    simp [madeCells, Nat.mod_one]

def parL (l : PL) : List Int := (List.range l.length).map (par l)
theorem parL_length (l : PL) : (parL l).length = l.length := by simp [parL]
theorem parL_at (l : PL) (i : Nat) (h : i < l.length) : (parL l)[i]? = some (par l i) := by simp [parL, h]
/-- the first k of them -/
def parTo (l : PL) (n k : Nat) : List Int := (List.range k).map (par l) ++ List.replicate (n - k) 0
theorem parTo_set (l : PL) (n k : Nat) (h : k < n) : (parTo l n k).set k (par l k) = parTo l n (k + 1) := by
  unfold parTo
  rw [List.set_append_right _ _ (by simp), List.range_succ, List.map_append]
  simp only [List.length_map, List.length_range, Nat.sub_self]
  rw [show n - k = n - (k + 1) + 1 by omega, List.replicate_succ]
  simp
theorem parTo_length (l : PL) (n k : Nat) (h : k ≤ n) : (parTo l n k).length = n := by simp [parTo]; omega

/-- a list of numbers in new memory, and no error -/
def RetIs (L : List Int) (w : World) (e : Ending) (w' : World) : Prop :=
  ∃ A n c, e = .returned (.tuple #[.slice A n c, I 0]) ∧ IS w' A n c L ∧ Below w.heap.size w w' ∧ ∀ ad, A = some ad → w.heap.size ≤ ad.block

theorem Parents_bad (A : Option Addr) (n c : Nat) (l : PL) (w : World) (h : PS w A n c l) (hn : n ≤ 9223372036854775807) (E : Int) (hE : chkS l = E) (hE0 : E ≠ 0) :
    Calls Try.prog 7 #[.slice A n c] w fun e w' => e = .returned (.tuple #[.slice none 0 0, I E]) ∧ Below w.heap.size w w' := by
  have HCH := Lib.hid (CheckS_is A n c l w h hn E hE)
  have hq : (E != 0) = true := by simpa using hE0
  clear h hE hE0
  go_enter Try.func7, Try.ntmps7
  go_wp2_with fail
  refine HCH.out.mono ?_
  rintro e w1 ⟨rfl, hb1⟩
  have HB1 := Lib.hid hb1
  clear hb1
  go_wp2
  go_ret2
  exact ⟨rfl, HB1.out⟩

set_option maxRecDepth 100000 in
set_option maxHeartbeats 1000000 in
theorem Parents_ok (A : Option Addr) (n c : Nat) (l : PL) (w : World) (h : PS w A n c l) (hT : IsTree l) :
    Calls Try.prog 7 #[.slice A n c] w (RetIs (parL l) w) := by
  have hn : n ≤ 200 := by have := hT.1; rw [h.len] at this; exact this
  have H := Lib.hid h
  have Hlen := Lib.hid h.len
  have HCH := Lib.hid (CheckS_is A n c l w h (by omega) 0 (chkS_zero.2 hT))
  clear h hT
  have hmk := fun w => run_makeI (P := Try.prog) 26 3 Try.underlying26 int_info n n (Nat.le_refl _) (by omega) w
  go_enter Try.func7, Try.ntmps7
  go_wp2_with fail
  refine HCH.out.mono ?_
  rintro e w1 ⟨rfl, hb1⟩
  have HB1 := Lib.hid hb1
  have hz1 := hb1.size
  clear hb1
  go_wp2
  go_loopw [17] (fun i wr => ∃ k : Nat, k ≤ n ∧ i = .int .i64 k ∧ IB wr w1.heap.size 3 (parTo l n k) ∧ Below w.heap.size w wr) (fun i _ => n - (intOf i).toNat)
  case atStart => exact ⟨0, Nat.zero_le _, rfl, by have := IB.new w1 3 (List.replicate n 0); simpa [parTo] using this, HB1.out.alloc hz1 _⟩
  case round =>
    obtain ⟨k, hk, rfl, hib, hnx⟩ := hrel
    by_cases hlt : k < n
    · have hpar := parentOf_any A n c k l wr (H.out.below hnx) (by omega) hlt
      have HPAR := Lib.hid hpar
      have HIB := Lib.hid hib
      have HNX := Lib.hid hnx
      clear hpar hib hnx
      go_wp2_with fail
      refine HPAR.out.mono ?_
      rintro e w2 ⟨rfl, hb2⟩
      have hib2 : IB w2 w1.heap.size 3 (parTo l n k) := HIB.out.below hb2 HIB.out.lt
      have HB2 := Lib.hid (HNX.out.trans (hb2.mono HNX.out.size))
      have hl2 := parTo_length l n k (by omega)
      obtain ⟨old, hcell⟩ : ∃ old, w2.cell? ⟨w1.heap.size, k, none⟩ = some (I old) := ⟨_, by rw [hib2.cell, List.getElem?_eq_getElem (by omega)]; rfl⟩
      have hfz : w2.frozen? ⟨w1.heap.size, k, none⟩ = false := hib2.frozen k
      have HI3 : Hid (IB (w2.setCell ⟨w1.heap.size, k, none⟩ (I (par l k))) w1.heap.size 3 (parTo l n (k + 1))) := by
        show IB _ _ _ _
        rw [← parTo_set l n k hlt]
        exact hib2.set k _
      clear hb2 hib2 hl2
      go_wp2
      go_roundw
      case rel => exact ⟨k + 1, by omega, by go_num, HI3.out, HB2.out.setCell hz1 _⟩
      case measure => simp [intOf]; omega
    · have HIS : Hid (IS wr (some ⟨w1.heap.size, 0, none⟩) n n (parL l)) := by
        have e1 : parTo l n k = parL l := by
          unfold parTo parL
          rw [Hlen.out, show k = n by omega]
          simp
        rw [e1] at hib
        have hl := parL_length l
        rw [Hlen.out] at hl
        have := hib.is_ (c := n) (by omega)
        rw [hl] at this
        exact this
      have HNX := Lib.hid hnx
      clear hib hnx
      go_wp2
      go_ret2
      exact ⟨_, n, n, rfl, HIS.out, HNX.out, fun ad h => by cases h; exact hz1⟩

end Go.Proofs.Ytgpbafalciccdaa
