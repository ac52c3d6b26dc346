/-
  Joined texts: YtjnkfpagaajfeaaDoorZPutsP, YtjnkfpagaajfeaaDoorSPar.
-/
import Derived.Test.YtjnkfpagaajfeaaDoorKOne0All
import Derived.Test.YtjnkfpagaajfeaaDoorStepsAll
import Derived.Test.YtjnkfpagaajfeaaDoorSChk
import Derived.Test.YtjnkfpagaajfeaaDoorInts
/-
  KEYS PUT IN ORDER; a key put and taken away: plain lists.
-/
namespace Go.Proofs.YtjnkfpagaajfeaaDoor

theorem ins_last : ∀ (l : PL) (k v : Int), (∀ p ∈ l, p.1 < k) → insR k v l = l ++ [(k, v)]
  | [], _, _, _ => rfl
  | p :: t, k, v, h => by
    show (if p.1 < k then p :: insR k v t else _) = _
    rw [if_pos (h p (by simp)), ins_last t k v fun q hq => h q (by simp [hq])]
    rfl
theorem rise_chk {ks : List Int} (h : Rise ks) : chk (ks.map fun k => (k, (0 : Int))) = 0 :=
  (chk_zero _).2 ⟨by simpa using h.len, srt_of ks 0 h.pw h.bd⟩
theorem rise_front {a b : List Int} (h : Rise (a ++ b)) : Rise a := by
  have hl := h.len
  rw [List.length_append] at hl
  exact ⟨by omega, (List.pairwise_append.1 h.pw).1, fun k hk => h.bd k (by simp [hk])⟩
theorem puts_up : ∀ (post pre : List Int), Rise (pre ++ post) → foldL (putsOf post) (pre.map fun k => (k, (0 : Int))) = (pre ++ post).map fun k => (k, (0 : Int))
  | [], pre, _ => by simp [putsOf, foldL]
  | k :: t, pre, h => by
    have hl := h.len
    rw [List.length_append, List.length_cons] at hl
    have hkb := h.bd k (by simp)
    have hk : keyB k = true := by simp [keyB]; omega
    have hlow : ∀ p ∈ pre.map (fun k => (k, (0 : Int))), p.1 < k := by
      intro p hp
      obtain ⟨q, hq, rfl⟩ := List.mem_map.1 hp
      exact (List.pairwise_append.1 h.pw).2.2 q hq k (by simp)
    have e : doL (pre.map fun k => (k, (0 : Int))) 1 k 0 = (pre ++ [k]).map fun k => (k, (0 : Int)) := by
      rw [doL_put (rise_chk (rise_front h)), hk, if_pos rfl, putL_eq, if_pos (.inr (by simp; omega)), ins_last _ k 0 hlow]
      simp
    show foldL (putsOf t) (doL (pre.map fun k => (k, (0 : Int))) 1 k 0) = _
    rw [e, puts_up t (pre ++ [k]) (by simpa using h)]
    simp
theorem runR_puts {ks : List Int} (h : Rise ks) : (runR (putsOf ks)).1 = ks.map fun k => (k, (0 : Int)) := by
  rw [runR_fst]
  simpa using puts_up ks [] (by simpa using h)
theorem get_none : ∀ (l : PL) (k : Int), (∀ p ∈ l, p.1 ≠ k) → getR k l = none
  | [], _, _ => rfl
  | p :: t, k, h => by
    show (if p.1 < k then getR k t else if p.1 = k then _ else none) = none
    split
    · exact get_none t k fun q hq => h q (by simp [hq])
    · rw [if_neg (h p (by simp))]
theorem put_cut {L : PL} {key : Int} (hc : chk L = 0) (hno : getR key L = none) : doL (doL L 1 key 0) 3 key 0 = L := by
  by_cases hk : keyB key = true
  · rw [doL_put hc, if_pos hk, putL_eq]
    split
    · rename_i h1
      have hlen : L.length < 200 := by
        rcases h1 with h1 | h1
        · rw [hno] at h1
          cases h1
        · exact h1
      obtain ⟨h2, h3⟩ := (chk_zero L).1 hc
      have hb : 0 ≤ key ∧ key ≤ 1000000 := by simpa [keyB] using hk
      have hc2 : chk (insR key 0 L) = 0 := (chk_zero _).2 ⟨by rw [len_ins, hno]; simp; omega, srt_ins L key 0 0 h3 hb.1 hb.2⟩
      rw [doL_cut hc2, if_pos hk, cutL_eq, del_ins L key 0 hno]
    · rw [doL_cut hc, if_pos hk, cutL_eq, del_eq, has_iff, hno]
      rfl
  · rw [doL_put hc, if_neg hk, doL_cut hc, if_neg hk]
theorem runR_putcut {ks : List Int} {key : Int} (h : Rise ks) (hno : key ∉ ks) : (runR (putsOf ks ++ [(1, key, 0), (3, key, 0)])).1 = ks.map fun k => (k, (0 : Int)) := by
  rw [runR_fst, foldL_append, ← runR_fst, runR_puts h]
  show doL (doL _ 1 key 0) 3 key 0 = _
  refine put_cut (rise_chk h) (get_none _ key ?_)
  intro p hp e
  obtain ⟨q, hq, rfl⟩ := List.mem_map.1 hp
  exact hno (by rw [← e]; exact hq)

end Go.Proofs.YtjnkfpagaajfeaaDoor

/-
  A row of numbers of the call's own; shape.Parents.
-/
namespace Go.Proofs.YtjnkfpagaajfeaaDoor
open Go.RowKit

def parL (l : PL) : List Int := (List.range l.length).map (par l)
theorem parL_length (l : PL) : (parL l).length = l.length := by simp [parL]
theorem parL_at (l : PL) (i : Nat) (h : i < l.length) : (parL l)[i]? = some (par l i) := by simp [parL, h]
/-- the first k of them -/
def parTo (l : PL) (n k : Nat) : List Int := (List.range k).map (par l) ++ List.replicate (n - k) 0
theorem parTo_set (l : PL) (n k : Nat) (h : k < n) : (parTo l n k).set k (par l k) = parTo l n (k + 1) := by
  unfold parTo
  rw [List.set_append_right _ _ (by simp), List.range_succ, List.map_append]
  simp only [List.length_map, List.length_range, Nat.sub_self]
  rw [show n - k = n - (k + 1) + 1 by omega, List.replicate_succ]
  simp
theorem parTo_length (l : PL) (n k : Nat) (h : k ≤ n) : (parTo l n k).length = n := by simp [parTo]; omega

theorem Parents_bad (A : Option Addr) (n c : Nat) (l : PL) (w : World) (h : PS w A n c l) (hn : n ≤ 9223372036854775807) (E : Int) (hE : chkS l = E) (hE0 : E ≠ 0) :
    Calls Tryd.prog 26 #[.slice A n c] w fun e w' => e = .returned (.tuple #[.slice none 0 0, I E]) ∧ Below w.heap.size w w' := by
  have HCH := Lib.hid (CheckS_is A n c l w h hn E hE)
  have hq : (E != 0) = true := by simpa using hE0
  clear h hE hE0
  go_enter Tryd.func26, Tryd.ntmps26
  go_wp2_with fail
  refine HCH.out.mono ?_
  rintro e w1 ⟨rfl, hb1⟩
  have HB1 := Lib.hid hb1
  clear hb1
  go_wp2
  go_ret2
  exact ⟨rfl, HB1.out⟩

set_option maxRecDepth 100000 in
set_option maxHeartbeats 1000000 in
theorem Parents_ok (A : Option Addr) (n c : Nat) (l : PL) (w : World) (h : PS w A n c l) (hT : IsTree l) :
    Calls Tryd.prog 26 #[.slice A n c] w (RetIs (parL l) w) := by
  have hn : n ≤ 200 := by have := hT.1; rw [h.len] at this; exact this
  have H := Lib.hid h
  have Hlen := Lib.hid h.len
  have HCH := Lib.hid (CheckS_is A n c l w h (by omega) 0 (chkS_zero.2 hT))
  clear h hT
  have hmk := fun w => run_makeI (P := Tryd.prog) 35 3 Tryd.underlying35 int_info n n (Nat.le_refl _) (by omega) w
  go_enter Tryd.func26, Tryd.ntmps26
  go_wp2_with fail
  refine HCH.out.mono ?_
  rintro e w1 ⟨rfl, hb1⟩
  have HB1 := Lib.hid hb1
  have hz1 := hb1.size
  clear hb1
  go_wp2
  go_loopw [17] (fun i wr => ∃ k : Nat, k ≤ n ∧ i = .int .i64 k ∧ IB wr w1.heap.size 3 (parTo l n k) ∧ Below w.heap.size w wr) (fun i _ => n - (intOf i).toNat)
  case atStart => exact ⟨0, Nat.zero_le _, rfl, by have := IB.new w1 3 (List.replicate n 0); simpa [parTo] using this, HB1.out.alloc hz1 _⟩
  case round =>
    obtain ⟨k, hk, rfl, hib, hnx⟩ := hrel
    by_cases hlt : k < n
    · have hpar := parentOf_any A n c k l wr (H.out.below hnx) (by omega) hlt
      have HPAR := Lib.hid hpar
      have HIB := Lib.hid hib
      have HNX := Lib.hid hnx
      clear hpar hib hnx
      go_wp2_with fail
      refine HPAR.out.mono ?_
      rintro e w2 ⟨rfl, hb2⟩
      have hib2 : IB w2 w1.heap.size 3 (parTo l n k) := HIB.out.below hb2 HIB.out.lt
      have HB2 := Lib.hid (HNX.out.trans (hb2.mono HNX.out.size))
      have hl2 := parTo_length l n k (by omega)
      obtain ⟨old, hcell⟩ : ∃ old, w2.cell? ⟨w1.heap.size, k, none⟩ = some (I old) := ⟨_, by rw [hib2.cell, List.getElem?_eq_getElem (by omega)]; rfl⟩
      have hfz : w2.frozen? ⟨w1.heap.size, k, none⟩ = false := hib2.frozen k
      have HI3 : Hid (IB (w2.setCell ⟨w1.heap.size, k, none⟩ (I (par l k))) w1.heap.size 3 (parTo l n (k + 1))) := by
        show IB _ _ _ _
        rw [← parTo_set l n k hlt]
        exact hib2.set k _
      clear hb2 hib2 hl2
      go_wp2
      go_roundw
      case rel => exact ⟨k + 1, by omega, by go_num, HI3.out, HB2.out.setCell hz1 _⟩
      case measure => simp [intOf]; omega
    · have HIS : Hid (IS wr (some ⟨w1.heap.size, 0, none⟩) n n (parL l)) := by
        have e1 : parTo l n k = parL l := by
          unfold parTo parL
          rw [Hlen.out, show k = n by omega]
          simp
        rw [e1] at hib
        have hl := parL_length l
        rw [Hlen.out] at hl
        have := hib.is_ (c := n) (by omega)
        rw [hl] at this
        exact this
      have HNX := Lib.hid hnx
      clear hib hnx
      go_wp2
      go_ret2
      exact ⟨_, n, n, rfl, HIS.out, HNX.out, fun ad h => by cases h; exact hz1⟩

end Go.Proofs.YtjnkfpagaajfeaaDoor
