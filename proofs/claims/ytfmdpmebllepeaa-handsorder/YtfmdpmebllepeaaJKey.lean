/-
  hedgref.Between, KeySet.
-/
import Derived.Test.YtfmdpmebllepeaaJLivesW
namespace Go.Proofs.Ytfmdpmebllepeaa
open Go.RowKit

set_option maxRecDepth 100000 in
theorem jbetween_any (a l h : Int) (w : World) {b : Bool} (hb : (decide (l ≤ a) && decide (a ≤ h)) = b) : Calls Try.prog 15 #[I a, I l, I h] w fun e w' => e = .returned (.bool b) ∧ w' = w := by
  by_cases h1 : l ≤ a
  · by_cases h2 : a ≤ h
    · obtain rfl : b = true := by rw [← hb]; simp [h1, h2]
      clear hb
      go_enter Try.func15, Try.ntmps15
      go_wp2
      go_ret
      exact ⟨by first | rfl | simp, rfl⟩
    · obtain rfl : b = false := by rw [← hb]; simp [h2]
      clear hb
      go_enter Try.func15, Try.ntmps15
      go_wp2
      go_ret
      exact ⟨by first | rfl | simp, rfl⟩
  · obtain rfl : b = false := by rw [← hb]; simp [h1]
    clear hb
    go_enter Try.func15, Try.ntmps15
    go_wp2
    go_ret
    exact ⟨by first | rfl | simp, rfl⟩
/-- ten keys as cells -/
abbrev k10 (b : Nat → Bool) : Array Value := #[.bool (b 0), .bool (b 1), .bool (b 2), .bool (b 3), .bool (b 4), .bool (b 5), .bool (b 6), .bool (b 7), .bool (b 8), .bool (b 9)]
def KBk (w : World) (g : Nat) (b : Nat → Bool) : Prop := w.heap[g]? = some (.cells (k10 b) 39 (0, 0))
theorem KBk.set {w : World} {g : Nat} {b : Nat → Bool} (h : KBk w g b) {x : Nat} (hx : x < 10) : KBk (w.setCell ⟨g, x, none⟩ (.bool true)) g (upd b x true) := by
  unfold KBk
  rw [jset_at h]
  rcases (show x = 0 ∨ x = 1 ∨ x = 2 ∨ x = 3 ∨ x = 4 ∨ x = 5 ∨ x = 6 ∨ x = 7 ∨ x = 8 ∨ x = 9 by omega) with rfl | rfl | rfl | rfl | rfl | rfl | rfl | rfl | rfl | rfl <;> rfl
theorem KBk.cell {w : World} {g : Nat} {b : Nat → Bool} (h : KBk w g b) {x : Nat} (hx : x < 10) : w.cell? ⟨g, x, none⟩ = some (.bool (b x)) := by
  rw [jcell h]
  rcases (show x = 0 ∨ x = 1 ∨ x = 2 ∨ x = 3 ∨ x = 4 ∨ x = 5 ∨ x = 6 ∨ x = 7 ∨ x = 8 ∨ x = 9 by omega) with rfl | rfl | rfl | rfl | rfl | rfl | rfl | rfl | rfl | rfl <;> rfl
/-- which keys are there -/
def ks (l : List Int) (i : Nat) : Bool := decide ((i : Int) ∈ l)
theorem ks_next {l : List Int} {k x : Nat} (hk : k < l.length) (hx : l[k] = x) : upd (ks (l.take k)) x true = ks (l.take (k + 1)) := by
  funext i
  unfold ks
  rw [List.take_succ_eq_append_getElem hk]
  by_cases e : i = x
  · subst e
    rw [upd_same]
    simp [hx]
  · rw [upd_other _ _ e]
    congr 1
    rw [List.mem_append, List.mem_singleton, hx]
    simp only [eq_iff_iff]
    exact ⟨.inl, fun h => h.resolve_right (by omega)⟩
theorem ks_out {l : List Int} {k : Nat} (hk : k < l.length) (hx : ¬ (0 ≤ l[k] ∧ l[k] ≤ 9)) {i : Nat} (hi : i < 10) : ks (l.take (k + 1)) i = ks (l.take k) i := by
  unfold ks
  rw [List.take_succ_eq_append_getElem hk]
  congr 1
  rw [List.mem_append, List.mem_singleton]
  simp only [eq_iff_iff]
  exact ⟨fun h => h.resolve_right (fun e => hx (by omega)), .inl⟩
theorem k10_congr {b b' : Nat → Bool} (h : ∀ i, i < 10 → b i = b' i) : k10 b = k10 b' := by
  unfold k10
  rw [h 0 (by omega), h 1 (by omega), h 2 (by omega), h 3 (by omega), h 4 (by omega), h 5 (by omega), h 6 (by omega), h 7 (by omega), h 8 (by omega), h 9 (by omega)]
set_option maxRecDepth 100000 in
set_option maxHeartbeats 8000000 in
theorem keySet_any (A : Option Addr) (n c : Nat) (l : List Int) (w : World) (h : IS w A n c l) (hn : n ≤ 9223372036854775807) :
    Calls Try.prog 11 #[.slice A n c] w fun e w' => e = .returned (.agg (k10 (ks l))) ∧ Below w.heap.size w w' := by
  have H := Lib.hid h
  have HL := Lib.hid h.len
  clear h
  go_enter Try.func11, Try.ntmps11
  go_wp2
  go_loopw [8] (fun iv wr => ∃ k : Nat, k ≤ n ∧ iv = .int .i64 k ∧ KBk wr w.heap.size (fun _ => false) ∧ KBk wr (w.heap.size + 1) (ks (l.take k)) ∧ Below w.heap.size w wr) (fun iv _ => n - (intOf iv).toNat)
  case atStart =>
    refine ⟨0, Nat.zero_le _, rfl, ?_, ?_, ((Below.refl _ _).alloc (Nat.le_refl _) _).alloc (by simp) _⟩
    · exact (Below.heap_alloc _ _ _ (by simp)).trans (heap_alloc_new w _)
    · have := heap_alloc_new (w.alloc (.cells (k10 fun _ => false) 39)) (.cells (k10 fun _ => false) 39)
      rw [World.size_alloc] at this
      exact this
  case round =>
    obtain ⟨k, hk, rfl, h0, h1, hbl⟩ := hrel
    have H0 := Lib.hid h0
    have H1 := Lib.hid h1
    have HBL := Lib.hid hbl
    by_cases hlt : k < n
    · obtain ⟨b, off, rfl, hb, hc⟩ := H.out.at_ (by omega)
      have hkl : k < l.length := by rw [HL.out]; exact hlt
      have hck : wr.cell? ⟨b, off + k, none⟩ = some (I l[k]) := (hbl.cell (by exact hb)).trans (hc k hlt)
      obtain ⟨x, hx⟩ : ∃ x, l[k] = x := ⟨_, rfl⟩
      rw [hx] at hck
      by_cases hin : 0 ≤ x ∧ x ≤ 9
      · obtain ⟨y, rfl⟩ : ∃ y : Nat, x = y := ⟨x.toNat, by omega⟩
        have hy : y < 10 := by omega
        have HB := Lib.hid (jbetween_any (y : Int) 0 9 wr (b := true) (by simp; omega))
        have hcy := h1.cell hy
        have hfy := jfroz (i := y) h1
        have HN := Lib.hid (ks_next hkl hx)
        have hy0 : 0 ≤ (y : Int) := by omega
        have hy1 : (y : Int) < 10 := by omega
        clear hc hx h0 h1 hbl hin
        go_wp2_with fail
        refine HB.out.mono ?_
        rintro e w1 ⟨rfl, hw1⟩
        have hw2 := hw1.symm
        subst hw2
        go_wp2
        go_roundw
        case rel =>
          refine ⟨k + 1, by omega, by go_num, (Below.heap_setCell _ _ _ _ (by show w.heap.size ≠ w.heap.size + 1; omega)).trans H0.out, ?_, HBL.out.setCell (p := ⟨w.heap.size + 1, y, none⟩) (by show w.heap.size ≤ w.heap.size + 1; omega) _⟩
          have := H1.out.set hy
          rw [HN.out] at this
          exact this
        case measure => simp [intOf]; omega
      · have HB := Lib.hid (jbetween_any x 0 9 wr (b := false) (by simp; omega))
        have HN : Hid (KBk wr (w.heap.size + 1) (ks (l.take (k + 1)))) := by
          show KBk wr (w.heap.size + 1) (ks (l.take (k + 1)))
          unfold KBk
          rw [k10_congr fun i hi => ks_out hkl (by rw [hx]; exact hin) hi]
          exact h1
        clear hc hx h0 h1 hbl hin
        go_wp2_with fail
        refine HB.out.mono ?_
        rintro e w1 ⟨rfl, hw1⟩
        have hw2 := hw1.symm
        subst hw2
        go_wp2
        go_roundw
        case rel => exact ⟨k + 1, by omega, by go_num, H0.out, HN.out, HBL.out⟩
        case measure => simp [intOf]; omega
    · obtain rfl : n = k := by omega
      have hfull : l.take n = l := List.take_of_length_le (by rw [HL.out]; exact Nat.le_refl _)
      rw [hfull] at h1
      have HK1 := Lib.hid h1
      have c0 := fun i (hi : i < 10) => h0.cell hi
      have c1 := fun i (hi : i < 10) => h1.cell hi
      have a0 := c1 0 (by omega)
      have a1 := c1 1 (by omega)
      have a2 := c1 2 (by omega)
      have a3 := c1 3 (by omega)
      have a4 := c1 4 (by omega)
      have a5 := c1 5 (by omega)
      have a6 := c1 6 (by omega)
      have a7 := c1 7 (by omega)
      have a8 := c1 8 (by omega)
      have a9 := c1 9 (by omega)
      have b0 := c0 0 (by omega)
      have b1 := c0 1 (by omega)
      have b2 := c0 2 (by omega)
      have b3 := c0 3 (by omega)
      have b4 := c0 4 (by omega)
      have b5 := c0 5 (by omega)
      have b6 := c0 6 (by omega)
      have b7 := c0 7 (by omega)
      have b8 := c0 8 (by omega)
      have b9 := c0 9 (by omega)
      have f0 := jfroz (i := 0) H0.out
      have f1 := jfroz (i := 1) H0.out
      have f2 := jfroz (i := 2) H0.out
      have f3 := jfroz (i := 3) H0.out
      have f4 := jfroz (i := 4) H0.out
      have f5 := jfroz (i := 5) H0.out
      have f6 := jfroz (i := 6) H0.out
      have f7 := jfroz (i := 7) H0.out
      have f8 := jfroz (i := 8) H0.out
      have f9 := jfroz (i := 9) H0.out
      clear c0 c1 hfull hbl h0 h1
      go_wp2
      have hbl := HBL.out
      refine bodyPost_ret (v := .agg (k10 (ks l))) ?_ rfl ⟨rfl, ?_⟩
      · simp [results, Try.results11, go_sem, b0, b1, b2, b3, b4, b5, b6, b7, b8, b9]
      · exact (((((((((hbl.setCell (Nat.le_refl _) _).setCell (Nat.le_refl _) _).setCell (Nat.le_refl _) _).setCell (Nat.le_refl _) _).setCell (Nat.le_refl _) _).setCell (Nat.le_refl _) _).setCell (Nat.le_refl _) _).setCell (Nat.le_refl _) _).setCell (Nat.le_refl _) _).setCell (Nat.le_refl _) _

end Go.Proofs.Ytfmdpmebllepeaa
