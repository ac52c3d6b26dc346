/-
  package heap: Check, Of, isBehind, Join.
-/
import Derived.Test.YtjnkfpagaajfeaaDoorHStand
import Derived.Test.YtjnkfpagaajfeaaDoorHConcAll
namespace Go.Proofs.YtjnkfpagaajfeaaDoor
open Go.RowKit

theorem HCheck_any (A : Option Addr) (n c : Nat) (l : PL) (w : World) (h : PS w A n c l) (hn : n ≤ 9223372036854775807) :
    Calls Tryd.prog 36 #[.slice A n c] w fun e w' => e = .returned (I (chk l)) ∧ Below w.heap.size w w' := by
  have HK := Lib.hid (Check_any A n c l w h hn)
  clear h
  go_enter Tryd.func36, Tryd.ntmps36
  go_wp2_with fail
  refine HK.out.mono ?_
  rintro e w1 ⟨rfl, hb⟩
  go_wp2
  go_ret
  exact ⟨rfl, hb⟩
theorem HCheck_is (A : Option Addr) (n c : Nat) (l : PL) (w : World) (h : PS w A n c l) (hn : n ≤ 9223372036854775807) (E : Int) (hE : chk l = E) :
    Calls Tryd.prog 36 #[.slice A n c] w fun e w' => e = .returned (I E) ∧ Below w.heap.size w w' := by
  subst hE
  exact HCheck_any A n c l w h hn

/-- spots, and no error -/
def RetH (L : PL) (n : Nat) (w : World) (e : Ending) (w' : World) : Prop :=
  ∃ A c, e = .returned (.tuple #[.slice A n c, I 0]) ∧ PS w' A n c L ∧ Below w.heap.size w w'
theorem herr_ne {E : Int} (h : E ≠ 0) : (E != 0) = true := by simpa using h
theorem run_makeH {P : Program} (t e : TypeId) (ht : P.underlying t = some (.slice e)) (hi : (P.info? e).map (fun i => (i.zero, i.size, i.bytes)) = some (some (.agg #[I 0, I 0]), 2, 16)) (c : Nat) (hc : c ≤ 1000000) (w : World) :
    (Instr.makeSlice t (.int .i64 0) (.int .i64 (c : Int))).run P w = .ok (.slice (some ⟨w.heap.size, 0, none⟩) 0 c) (w.alloc (.cells (flat (List.replicate c (0, 0))).toArray e)) := by
  obtain ⟨i, h1, hz, hs, hb⟩ := info_parts hi
  have := run_make (P := P) w t e i _ ht h1 hz .i64 .i64 0 c (by omega) (by omega) (by rw [hb]; omega) (by omega)
  rw [this, hs]
  simp only [Int.toNat_natCast, Value.cells]
  rw [flat_made]
  rfl
theorem hroom (w : World) (t c : Nat) (hc : c ≤ 1000000) : OwnR (w.alloc (.cells (flat (List.replicate c (0, 0))).toArray t)) w.heap.size t (.slice (some ⟨w.heap.size, 0, none⟩) 0 c) [] :=
  ⟨rfl, .inr ⟨w.heap.size, c, _, rfl, Nat.le_refl _, heap_alloc_new w _, Nat.zero_le _, by unfold maxLen; omega, by simp [flat_length], rfl⟩⟩

set_option maxHeartbeats 1000000 in
theorem HOf_bad (A : Option Addr) (n c : Nat) (l : PL) (w : World) (h : PS w A n c l) (hn : n ≤ 9223372036854775807) (E : Int) (hE : chk l = E) (hE0 : E ≠ 0) :
    Calls Tryd.prog 17 #[.slice A n c] w fun e w' => e = .returned (.tuple #[.slice none 0 0, I E]) ∧ Below w.heap.size w w' := by
  have HK := Lib.hid (HCheck_is A n c l w h hn E hE)
  have hne := herr_ne hE0
  clear h hE
  go_enter Tryd.func17, Tryd.ntmps17
  go_wp2_with fail
  refine HK.out.mono ?_
  rintro e w1 ⟨rfl, hb⟩
  go_wp2
  go_ret2
  exact ⟨rfl, hb⟩

set_option maxRecDepth 100000 in
set_option maxHeartbeats 1000000 in
theorem HOf_ok (A : Option Addr) (n c : Nat) (l : PL) (t : Tr) (w : World) (h : PS w A n c l) (hE : chk l = 0) (ht : Hp t l) :
    Calls Tryd.prog 17 #[.slice A n c] w (RetH (t.sp 0) n w) := by
  have hn : n ≤ 200 := by rw [← h.len]; exact (chk_right.1 hE).1
  have HK := Lib.hid (HCheck_is A n c l w h (by omega) 0 hE)
  have hmk := fun w => run_makeH (P := Tryd.prog) 23 43 Tryd.underlying23 gspot_info n (by omega) w
  have HLEN : Hid ((t.sp 0).length = n) := by show _ = _; rw [sp_length, ← hp_len ht, h.len]
  have HT := Lib.hid ht
  have H := Lib.hid h
  clear h hE ht
  go_enter Tryd.func17, Tryd.ntmps17
  go_wp2_with fail
  refine HK.out.mono ?_
  rintro e w1 ⟨rfl, hb1⟩
  have H1 := Lib.hid (H.out.below hb1)
  have HB1 := Lib.hid hb1
  clear hb1 HK H
  have HST : Hid (Calls Tryd.prog 37 #[.slice (some ⟨w1.heap.size, 0, none⟩) 0 n, .slice A n c, I 0] (w1.alloc (.cells (flat (List.replicate n (0, 0))).toArray 43)) (RetSO ([] ++ t.sp 0) w1.heap.size (w1.alloc (.cells (flat (List.replicate n (0, 0))).toArray 43)))) := by
    rcases Nat.eq_zero_or_pos n with h0 | h0
    · subst h0
      have hl : Hp t [] := by have := List.eq_nil_of_length_eq_zero H1.out.len; rw [← this]; exact HT.out
      have hnil : t = .nil := by
        cases t with
        | nil => rfl
        | node a k b =>
          obtain ⟨la, v, lb, e, _⟩ := hl
          simp at e
      subst hnil
      show Calls _ _ _ _ _
      have HO := Lib.hid (hroom w1 43 0 (by omega))
      go_enter Tryd.func37, Tryd.ntmps37
      go_wp2
      go_ret
      exact ⟨_, rfl, by simpa [Tr.sp] using HO.out, Below.refl _ _⟩
    · exact stand_any t A n c w1.heap.size _ [] l 0 _ HT.out (H1.out.alloc _) (fun ad e => by obtain ⟨b, off, e', hb, _⟩ := H1.out.dat h0; rw [e] at e'; cases e'; exact hb) (hroom w1 _ n (by omega)) (by simp) (by simp; omega) (Int.le_refl _) (by omega)
  go_wp2_with fail
  refine HST.out.mono ?_
  rintro e w2 ⟨v2, rfl, ho2, hb2⟩
  obtain ⟨A2, c2, rfl, hps, _⟩ := OwnR.ps ho2
  rw [List.nil_append, HLEN.out] at hps
  have hlen : ([] ++ t.sp 0 : PL).length = n := by rw [List.nil_append]; exact HLEN.out
  rw [hlen]
  have HPS := Lib.hid hps
  have HB2 : Hid (Below w.heap.size w w2) := HB1.out.trans ((((Below.refl _ _).alloc (Nat.le_refl _) _).trans hb2).mono HB1.out.size)
  clear hps ho2 hb2 hlen
  go_wp2
  go_ret2
  exact ⟨A2, c2, rfl, HPS.out, HB2.out⟩

end Go.Proofs.YtjnkfpagaajfeaaDoor
