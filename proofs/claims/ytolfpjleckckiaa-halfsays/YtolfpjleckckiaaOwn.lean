/-
  copyOf, pairAt, get, isOp.
-/
import Derived.Test.YtolfpjleckckiaaChk
import Derived.Test.YtolfpjleckckiaaCopy
import Derived.StillTailTactics
namespace Go.Proofs.Ytolfpjleckckiaa
open Go.RowKit

theorem pair_info : (Try.prog.info? 68).map (fun i => (i.zero, i.size, i.bytes)) = some (some (.agg #[I 0, I 0]), 2, 16) := by kernel_rfl
theorem pair_size : (Try.prog.info? 68).map (·.size) = some 2 := by kernel_rfl

theorem cop_all (n : Nat) (l : PL) (h : l.length = n) : cop (List.replicate n (0, 0)) 0 l n = l := by
  simp [cop, ← h]

set_option maxHeartbeats 400000 in
theorem copyOf_any (A : Option Addr) (n c : Nat) (l : PL) (w : World) (h : PS w A n c l) (hn : n ≤ 1000000) :
    Calls Try.prog 38 #[.slice A n c] w fun e w' => e = .returned (.slice (some ⟨w.heap.size, 0, none⟩) n n) ∧ PB w' w.heap.size 68 l ∧ Below w.heap.size w w' := by
  have hmk := fun W => run_makeP (P := Try.prog) 40 68 Try.underlying40 pair_info n hn W
  have H := Lib.hid h
  clear h
  have hb : Below w.heap.size w (w.alloc (.cells (flat (List.replicate n (0, 0))).toArray 68)) := (Below.refl _ _).alloc (Nat.le_refl _) _
  go_enter Try.func38, Try.ntmps38
  go_wp2_with (with_reducible refine wpList_copyP rfl (.tmp 7) (.tmp 8) 40 rfl 68 Try.underlying40 pair_size (some ⟨w.heap.size, 0, none⟩) A n n n c rfl rfl w.heap.size 0 68 (List.replicate n (0, 0)) l (PB.new _ _ _) ((H.out.below hb).src) (by simp) (fun _ => rfl) ?_)
  intro w1 hp hb1
  go_wp2
  go_ret
  refine ⟨rfl, ?_, hb.trans (hb1 _ (Nat.le_refl _))⟩
  rw [cop_all n l H.out.len] at hp
  exact hp

/-- the pair in a place -/
def pairA (l : PL) (p : Int) : An := if 0 ≤ p ∧ p < l.length then ⟨0, (l[p.toNat]?.getD (0, 0)).1, (l[p.toNat]?.getD (0, 0)).2, true⟩ else an0
theorem pairA_in (l : PL) (k : Nat) (h : k < l.length) : pairA l k = ⟨0, l[k].1, l[k].2, true⟩ := by
  unfold pairA
  rw [if_pos (by omega)]
  simp [List.getElem?_eq_getElem h]

set_option maxHeartbeats 400000 in
theorem pairAt_any (A : Option Addr) (n c : Nat) (l : PL) (p : Int) (w : World) (h : PS w A n c l) (hn : n ≤ 1000000) :
    Calls Try.prog 50 #[.slice A n c, I p] w fun e w' => e = .returned (anV (pairA l p)) ∧ Below w.heap.size w w' := by
  have H := Lib.hid h
  have Hlen := Lib.hid h.len
  clear h
  by_cases h0 : p < 0
  · have HF : Hid (pairA l p = an0) := by show pairA l p = an0; unfold pairA; rw [if_neg (by omega)]
    go_enter Try.func50, Try.ntmps50
    go_wp2
    exact bodyPost_ret (v := anV an0) (by simp [results, Try.results50, go_sem]) rfl ⟨by rw [HF.out], (Below.refl _ _).alloc (Nat.le_refl _) _⟩
  · by_cases h1 : p < n
    · obtain ⟨k, rfl⟩ := Int.eq_ofNat_of_zero_le (show 0 ≤ p by omega)
      have hlt : k < n := by omega
      have hkl : k < l.length := by have := Hlen.out; omega
      obtain ⟨b, off, rfl, hb, hc⟩ := H.out.at_ (by omega)
      have hc0 : w.cell? ⟨b, off + k * 2, none⟩ = some (I l[k].1) := (hc k hlt).1
      have hc1 : w.cell? ⟨b, off + k * 2 + 1, none⟩ = some (I l[k].2) := (hc k hlt).2
      have HF := Lib.hid (pairA_in l k hkl)
      clear hc
      go_enter Try.func50, Try.ntmps50
      go_wp2
      go_region
      all_goals go_wp2
      exact bodyPost_ret (v := anV ⟨0, l[k].1, l[k].2, true⟩) (by simp [results, Try.results50, go_sem]) rfl ⟨by rw [HF.out], ((Below.refl _ _).alloc (Nat.le_refl _) _).drew⟩
    · have HF : Hid (pairA l p = an0) := by show pairA l p = an0; unfold pairA; rw [if_neg (by have := Hlen.out; omega)]
      go_enter Try.func50, Try.ntmps50
      go_wp2
      exact bodyPost_ret (v := anV an0) (by simp [results, Try.results50, go_sem]) rfl ⟨by rw [HF.out], (Below.refl _ _).alloc (Nat.le_refl _) _⟩

theorem hasAt_t (A : Option Addr) (n c p : Nat) (l : PL) (key : Int) (w : World) (h : PS w A n c l) (hn : n ≤ 1000000) (hp : p ≤ 1000000) (hh : hasB l p key = true) :
    Calls Try.prog 48 #[.slice A n c, I p, I key] w fun e w' => e = .returned (.bool true) ∧ w = w' :=
  (hasAt_any A n c p l key w h hn hp).mono fun _ _ ⟨he, hw⟩ => ⟨by rw [he, hh], hw⟩
theorem hasAt_f (A : Option Addr) (n c p : Nat) (l : PL) (key : Int) (w : World) (h : PS w A n c l) (hn : n ≤ 1000000) (hp : p ≤ 1000000) (hh : hasB l p key = false) :
    Calls Try.prog 48 #[.slice A n c, I p, I key] w fun e w' => e = .returned (.bool false) ∧ w = w' :=
  (hasAt_any A n c p l key w h hn hp).mono fun _ _ ⟨he, hw⟩ => ⟨by rw [he, hh], hw⟩
theorem hasB_lt {l : PL} {p : Nat} {key : Int} (h : hasB l p key = true) : p < l.length := by
  unfold hasB at h
  split at h
  · rename_i q hq; exact (List.getElem?_eq_some_iff.1 hq).1
  · cases h

/-- what a key's value is -/
def getA (l : PL) (key : Int) : An := if hasB l (cnt l key) key then ⟨0, 0, (l[cnt l key]?.getD (0, 0)).2, true⟩ else an0

set_option maxHeartbeats 400000 in
theorem get_any (A : Option Addr) (n c : Nat) (l : PL) (key : Int) (w : World) (h : PS w A n c l) (hn : n ≤ 1000000) :
    Calls Try.prog 49 #[.slice A n c, I key] w fun e w' => e = .returned (anV (getA l key)) ∧ Below w.heap.size w w' := by
  have H := Lib.hid h
  have Hlen := Lib.hid h.len
  clear h
  have hcn : cnt l key ≤ n := by have := cnt_le l key; rw [Hlen.out] at this; exact this
  cases hh : hasB l (cnt l key) key with
  | true =>
    have hkl := hasB_lt hh
    have hlt : cnt l key < n := by have := Hlen.out; omega
    have HF : Hid (getA l key = ⟨0, 0, l[cnt l key].2, true⟩) := by show getA l key = _; simp [getA, hh, List.getElem?_eq_getElem hkl]
    have HH := Lib.hid hh
    obtain ⟨b, off, rfl, hb, hc⟩ := H.out.at_ (by omega)
    have hc1 : w.cell? ⟨b, off + cnt l key * 2 + 1, none⟩ = some (I l[cnt l key].2) := (hc _ hlt).2
    clear hh hc
    go_enter Try.func49, Try.ntmps49
    go_wp2_with fail
    refine (countBelow_any _ n c l key _ (H.out.alloc _) hn).mono ?_
    rintro e w' ⟨rfl, rfl⟩
    go_wp2_with fail
    refine (hasAt_t _ n c (cnt l key) l key _ (H.out.alloc _) hn (by omega) HH.out).mono ?_
    rintro e w' ⟨rfl, rfl⟩
    go_wp2
    exact bodyPost_ret (v := anV ⟨0, 0, l[cnt l key].2, true⟩) (by simp [results, Try.results49, go_sem]) rfl ⟨by rw [HF.out], (Below.refl _ _).alloc (Nat.le_refl _) _⟩
  | false =>
    have HF : Hid (getA l key = an0) := by show getA l key = _; simp [getA, hh]
    have HH := Lib.hid hh
    clear hh
    go_enter Try.func49, Try.ntmps49
    go_wp2_with fail
    refine (countBelow_any _ n c l key _ (H.out.alloc _) hn).mono ?_
    rintro e w' ⟨rfl, rfl⟩
    go_wp2_with fail
    refine (hasAt_f _ n c (cnt l key) l key _ (H.out.alloc _) hn (by omega) HH.out).mono ?_
    rintro e w' ⟨rfl, rfl⟩
    go_wp2
    exact bodyPost_ret (v := anV an0) (by simp [results, Try.results49, go_sem]) rfl ⟨by rw [HF.out], (Below.refl _ _).alloc (Nat.le_refl _) _⟩

/-- is it an op? -/
def opB (kind key : Int) : Bool := if 1 ≤ kind ∧ kind ≤ 5 then keyB key else decide (kind = 6 ∨ kind = 7)
theorem kinds (kind : Int) : kind = 1 ∨ kind = 2 ∨ kind = 3 ∨ kind = 4 ∨ kind = 5 ∨ kind = 6 ∨ kind = 7 ∨ (kind < 1 ∨ 7 < kind) := by omega

set_option maxHeartbeats 1000000 in
theorem isOp_any (kind key val : Int) (w : World) :
    Calls Try.prog 37 #[.agg #[I kind, I key, I val]] w fun e w' => e = .returned (.bool (opB kind key)) ∧ Below w.heap.size w w' := by
  rcases kinds kind with rfl | rfl | rfl | rfl | rfl | rfl | rfl | h
  iterate 5
    · go_enter Try.func37, Try.ntmps37
      go_wp2_with (go_at_call 46; refine (isKey_any _ _).mono ?_; rintro e w' ⟨rfl, rfl⟩)
      go_ret
      exact ⟨rfl, (Below.refl _ _).alloc (Nat.le_refl _) _⟩
  iterate 2
    · go_enter Try.func37, Try.ntmps37
      go_wp2
      go_ret
      exact ⟨rfl, (Below.refl _ _).alloc (Nat.le_refl _) _⟩
  · have HF : Hid (opB kind key = false) := by
      show opB kind key = false
      unfold opB
      rw [if_neg (by omega)]
      exact decide_eq_false (by omega)
    have h1 : (kind == 1) = false := beq_eq_false_iff_ne.2 (by omega)
    have h2 : (kind == 2) = false := beq_eq_false_iff_ne.2 (by omega)
    have h3 : (kind == 3) = false := beq_eq_false_iff_ne.2 (by omega)
    have h4 : (kind == 4) = false := beq_eq_false_iff_ne.2 (by omega)
    have h5 : (kind == 5) = false := beq_eq_false_iff_ne.2 (by omega)
    have h6 : (kind == 6) = false := beq_eq_false_iff_ne.2 (by omega)
    have h7 : (kind == 7) = false := beq_eq_false_iff_ne.2 (by omega)
    clear h
    go_enter Try.func37, Try.ntmps37
    go_wp2
    go_ret
    exact ⟨by rw [HF.out]; rfl, (Below.refl _ _).alloc (Nat.le_refl _) _⟩

end Go.Proofs.Ytolfpjleckckiaa
