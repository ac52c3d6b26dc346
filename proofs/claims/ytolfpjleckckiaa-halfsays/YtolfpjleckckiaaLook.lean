/-
  look.
-/
import Derived.Test.YtolfpjleckckiaaCut
namespace Go.Proofs.Ytolfpjleckckiaa
open Go.RowKit

def lookA (l : PL) (kind key : Int) : An := if kind = 2 then getA l key else if kind = 4 then pairA l (cnt l (key + 1)) else if kind = 5 then pairA l (cnt l key - 1) else if kind = 6 then ⟨0, 0, cnt l key, true⟩ else pairA l key

set_option maxRecDepth 100000 in
set_option maxHeartbeats 1000000 in
theorem look_any (A : Option Addr) (n c : Nat) (l : PL) (kind key val : Int) (w : World) (h : PS w A n c l) (hn : n ≤ 200) (hk : (0 ≤ key ∧ key ≤ 1000000) ∨ (kind = 6 ∨ kind = 7)) :
    Calls Try.prog 41 #[.slice A n c, .agg #[I kind, I key, I val]] w fun e w' => e = .returned (anV (lookA l kind key)) ∧ Below w.heap.size w w' := by
  have H := Lib.hid h
  have hcn : cnt l key ≤ n := by have := cnt_le l key; rw [h.len] at this; exact this
  clear h
  have hbw : Below w.heap.size w ((w.alloc (.cells #[I kind, I key, I val] 39)).alloc ansO) := ((Below.refl _ _).alloc (Nat.le_refl _) _).alloc (by simp) _
  have hz : w.heap.size + 1 < ((w.alloc (.cells #[I kind, I key, I val] 39)).alloc ansO).heap.size := by simp
  have HAB : Hid (AB ((w.alloc (.cells #[I kind, I key, I val] 39)).alloc ansO) (w.heap.size + 1)) := by
    show AB _ _
    simpa using AB.new (w.alloc (.cells #[I kind, I key, I val] 39))
  have HB := Lib.hid hbw
  have HZ := Lib.hid hz
  have HLE : Hid (w.heap.size ≤ ((w.alloc (.cells #[I kind, I key, I val] 39)).alloc ansO).heap.size) := by show _ ≤ _; simp; omega
  clear hbw hz
  by_cases h2 : kind = 2
  · subst h2
    have HF : Hid (lookA l 2 key = getA l key) := by show lookA l 2 key = _; simp [lookA]
    go_enter Try.func41, Try.ntmps41
    go_wp2_with fail
    refine (get_any _ n c l key _ (H.out.below HB.out) (by omega)).mono ?_
    rintro e w2 ⟨rfl, hb⟩
    have hab : AB w2 (w.heap.size + 1) := HAB.out.below hb HZ.out
    obtain ⟨⟨a0, a1, a2, a3⟩, f0, f1, f2, f3⟩ := hab.facts
    have HB2 := Lib.hid (HB.out.trans (hb.mono HLE.out))
    clear hb hab
    go_wp2
    exact bodyPost_ret (v := anV (getA l key)) (by simp [results, Try.results41, go_sem, a0, a1, a2, a3]) rfl ⟨by rw [HF.out], below_st4 HB2.out (by simp) _ _ _ _⟩
  by_cases h4 : kind = 4
  · subst h4
    have HF : Hid (lookA l 4 key = pairA l (cnt l (key + 1))) := by show lookA l 4 key = _; simp [lookA]
    have hk0 : 0 ≤ key := by omega
    have hk1 : key ≤ 1000000 := by omega
    have hcn1 : cnt l (key + 1) ≤ n := by have := cnt_le l (key + 1); rw [H.out.len] at this; exact this
    clear hk h2
    go_enter Try.func41, Try.ntmps41
    go_wp2_with fail
    refine (countBelow_any _ n c l (key + 1) _ (H.out.below HB.out) (by omega)).mono ?_
    rintro e w' ⟨rfl, rfl⟩
    go_wp2_with fail
    refine (pairAt_any _ n c l (cnt l (key + 1)) _ (H.out.below HB.out) (by omega)).mono ?_
    rintro e w2 ⟨rfl, hb⟩
    have hab : AB w2 (w.heap.size + 1) := HAB.out.below hb HZ.out
    obtain ⟨⟨a0, a1, a2, a3⟩, f0, f1, f2, f3⟩ := hab.facts
    have HB2 := Lib.hid (HB.out.trans (hb.mono HLE.out))
    clear hb hab
    go_wp2
    exact bodyPost_ret (v := anV (pairA l (cnt l (key + 1)))) (by simp [results, Try.results41, go_sem, a0, a1, a2, a3]) rfl ⟨by rw [HF.out], below_st4 HB2.out (by simp) _ _ _ _⟩
  by_cases h5 : kind = 5
  · subst h5
    have HF : Hid (lookA l 5 key = pairA l (cnt l key - 1)) := by show lookA l 5 key = _; simp [lookA]
    clear hk h2 h4
    go_enter Try.func41, Try.ntmps41
    go_wp2_with fail
    refine (countBelow_any _ n c l key _ (H.out.below HB.out) (by omega)).mono ?_
    rintro e w' ⟨rfl, rfl⟩
    go_wp2_with fail
    refine (pairAt_any _ n c l (cnt l key - 1) _ (H.out.below HB.out) (by omega)).mono ?_
    rintro e w2 ⟨rfl, hb⟩
    have hab : AB w2 (w.heap.size + 1) := HAB.out.below hb HZ.out
    obtain ⟨⟨a0, a1, a2, a3⟩, f0, f1, f2, f3⟩ := hab.facts
    have HB2 := Lib.hid (HB.out.trans (hb.mono HLE.out))
    clear hb hab
    go_wp2
    exact bodyPost_ret (v := anV (pairA l (cnt l key - 1))) (by simp [results, Try.results41, go_sem, a0, a1, a2, a3]) rfl ⟨by rw [HF.out], below_st4 HB2.out (by simp) _ _ _ _⟩
  by_cases h6 : kind = 6
  · subst h6
    have HF : Hid (lookA l 6 key = ⟨0, 0, cnt l key, true⟩) := by show lookA l 6 key = _; simp [lookA]
    clear hk h2 h4 h5
    go_enter Try.func41, Try.ntmps41
    go_wp2_with fail
    refine (countBelow_any _ n c l key _ (H.out.below HB.out) (by omega)).mono ?_
    rintro e w' ⟨rfl, rfl⟩
    go_wp2
    exact bodyPost_ret (v := anV ⟨0, 0, cnt l key, true⟩) (by simp [results, Try.results41, go_sem]) rfl ⟨by rw [HF.out], ((Below.refl _ _).alloc (Nat.le_refl _) _).alloc (by simp) _⟩
  · have HF : Hid (lookA l kind key = pairA l key) := by show lookA l kind key = _; simp [lookA, h2, h4, h5, h6]
    have g2 : (kind == 2) = false := beq_eq_false_iff_ne.2 h2
    have g4 : (kind == 4) = false := beq_eq_false_iff_ne.2 h4
    have g5 : (kind == 5) = false := beq_eq_false_iff_ne.2 h5
    have g6 : (kind == 6) = false := beq_eq_false_iff_ne.2 h6
    clear hk h2 h4 h5 h6
    go_enter Try.func41, Try.ntmps41
    go_wp2_with fail
    refine (pairAt_any _ n c l key _ (H.out.below HB.out) (by omega)).mono ?_
    rintro e w2 ⟨rfl, hb⟩
    have hab : AB w2 (w.heap.size + 1) := HAB.out.below hb HZ.out
    obtain ⟨⟨a0, a1, a2, a3⟩, f0, f1, f2, f3⟩ := hab.facts
    have HB2 := Lib.hid (HB.out.trans (hb.mono HLE.out))
    clear hb hab
    go_wp2
    exact bodyPost_ret (v := anV (pairA l key)) (by simp [results, Try.results41, go_sem, a0, a1, a2, a3]) rfl ⟨by rw [HF.out], below_st4 HB2.out (by simp) _ _ _ _⟩

end Go.Proofs.Ytolfpjleckckiaa
