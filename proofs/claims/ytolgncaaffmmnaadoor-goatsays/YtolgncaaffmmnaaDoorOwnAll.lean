/-
  Joined texts: YtolgncaaffmmnaaDoorChk, YtolgncaaffmmnaaDoorOwn.
-/
import Derived.Test.YtolgncaaffmmnaaDoorLeaf
import Derived.Test.YtolgncaaffmmnaaDoorCopy
import Derived.StillTailTactics
/-
  Check and MapRight: which lists are maps.
-/
namespace Go.Proofs.YtolgncaaffmmnaaDoor
open Go.RowKit

/-- the pair in place i is right, by itself and behind the one ahead of it -/
def okAt (l : PL) (i : Nat) : Prop := keyB (l[i]?.getD (0, 0)).1 = true ∧ (0 < i → (l[i - 1]?.getD (0, 0)).1 < (l[i]?.getD (0, 0)).1)
def okTo (l : PL) (k : Nat) : Prop := ∀ i, i < k → okAt l i
instance (l : PL) (i : Nat) : Decidable (okAt l i) := by unfold okAt; infer_instance
instance (l : PL) (k : Nat) : Decidable (okTo l k) := by unfold okTo; infer_instance
/-- is it a map? its error -/
def chk (l : PL) : Int := if 200 < l.length then 2 else if okTo l l.length then 0 else 3
theorem okTo_succ {l : PL} {k : Nat} (h : okTo l k) (h1 : okAt l k) : okTo l (k + 1) := fun i hi => by
  rcases Nat.lt_or_ge i k with h2 | h2
  · exact h i h2
  · obtain rfl : i = k := by omega
    exact h1

theorem isKey_t (k : Int) (w : World) (h : keyB k = true) : Calls Tryd.prog 76 #[I k] w fun e w' => e = .returned (.bool true) ∧ w' = w :=
  (isKey_any k w).mono fun _ _ ⟨he, hw⟩ => ⟨by rw [he, h], hw.symm⟩
theorem isKey_f (k : Int) (w : World) (h : keyB k = false) : Calls Tryd.prog 76 #[I k] w fun e w' => e = .returned (.bool false) ∧ w' = w :=
  (isKey_any k w).mono fun _ _ ⟨he, hw⟩ => ⟨by rw [he, h], hw.symm⟩


set_option maxHeartbeats 1000000 in
theorem Check_any (A : Option Addr) (n c : Nat) (l : PL) (w : World) (h : PS w A n c l) (hn : n ≤ 9223372036854775807) :
    Calls Tryd.prog 64 #[.slice A n c] w fun e w' => e = .returned (I (chk l)) ∧ Below w.heap.size w w' := by
  have H := Lib.hid h
  have Hlen := Lib.hid h.len
  clear h
  by_cases h200 : 200 < n
  · have HF : Hid (chk l = 2) := by show chk l = 2; unfold chk; rw [if_pos (by rw [Hlen.out]; exact h200)]
    go_enter Tryd.func64, Tryd.ntmps64
    go_wp2
    go_ret
    exact ⟨ret_int (by rw [HF.out]), Below.refl _ _⟩
  · go_enter Tryd.func64, Tryd.ntmps64
    go_wp2
    go_loopw [10] (fun i wr => ∃ k : Nat, k ≤ n ∧ i = .int .i64 k ∧ okTo l k ∧ Below w.heap.size w wr) (fun i _ => n - (intOf i).toNat)
    case atStart => exact ⟨0, Nat.zero_le _, rfl, fun i hi => absurd hi (by omega), Below.refl _ _⟩
    case round =>
      obtain ⟨k, hk, rfl, hok, hnx⟩ := hrel
      have hsz := hnx.size
      by_cases hlt : k < n
      · obtain ⟨b, off, rfl, hb, hc⟩ := H.out.at_ (by omega)
        have hkl : k < l.length := by have := Hlen.out; omega
        have hc0 : wr.cell? ⟨b, off + k * 2, none⟩ = some (I l[k].1) := (hnx.cell (by exact hb)).trans (hc k hlt).1
        have hc1 : wr.cell? ⟨b, off + k * 2 + 1, none⟩ = some (I l[k].2) := (hnx.cell (by exact hb)).trans (hc k hlt).2
        have hbwr : b < wr.heap.size := by omega
        cases hkey : keyB l[k].1 with
        | false =>
          have HF : Hid (chk l = 3) := by
            show chk l = 3
            unfold chk
            rw [if_neg (by rw [Hlen.out]; exact h200), if_neg]
            intro ha
            have := (ha k hkl).1
            simp [List.getElem?_eq_getElem hkl, hkey] at this
          have HK := Lib.hid hkey
          clear hkey hc hok
          go_wp2
          go_quiet ((go_at_call 76; exact Calls.quiet_of_same (isKey_f _ _ HK.out)))
          go_wp2
          go_ret
          exact ⟨ret_int (by rw [HF.out]), below_drewN (hnx.alloc hsz _) _⟩
        | true =>
          by_cases hk0 : 0 < k
          · have hkl1 : k - 1 < l.length := by omega
            have hp0 : wr.cell? ⟨b, off + (k - 1) * 2, none⟩ = some (I l[k - 1].1) := (hnx.cell (by exact hb)).trans (hc (k - 1) (by omega)).1
            by_cases hge : l[k].1 ≤ l[k - 1].1
            · have HF : Hid (chk l = 3) := by
                show chk l = 3
                unfold chk
                rw [if_neg (by rw [Hlen.out]; exact h200), if_neg]
                intro ha
                have := (ha k hkl).2 hk0
                simp [List.getElem?_eq_getElem hkl, List.getElem?_eq_getElem hkl1] at this
                omega
              have HK := Lib.hid hkey
              clear hkey hc hok
              go_wp2
              go_quiet ((go_at_call 76; exact Calls.quiet_of_same (isKey_t _ _ HK.out)))
              go_wp2
              go_ret
              exact ⟨ret_int (by rw [HF.out]), below_drewN (hnx.alloc hsz _) _⟩
            · have HO : Hid (okTo l (k + 1)) := okTo_succ hok ⟨by simpa [List.getElem?_eq_getElem hkl] using hkey, fun _ => by simp [List.getElem?_eq_getElem hkl, List.getElem?_eq_getElem hkl1]; omega⟩
              have HK := Lib.hid hkey
              clear hkey hc hok
              have hge' : ¬ l[k].1 ≤ l[k - 1].1 := hge
              go_wp2
              go_quiet ((go_at_call 76; exact Calls.quiet_of_same (isKey_t _ _ HK.out)))
              go_wp2
              go_roundw
              case rel => exact ⟨k + 1, by omega, by go_num, HO.out, below_drewN (hnx.alloc hsz _) _⟩
              case measure => simp [intOf]; omega
          · have HO : Hid (okTo l (k + 1)) := okTo_succ hok ⟨by simpa [List.getElem?_eq_getElem hkl] using hkey, fun h => absurd h hk0⟩
            have HK := Lib.hid hkey
            clear hkey hc hok
            have hd : decide (0 < k) = false := by simpa using hk0
            go_wp2
            go_quiet ((go_at_call 76; exact Calls.quiet_of_same (isKey_t _ _ HK.out)))
            go_wp2
            go_roundw
            case rel => exact ⟨k + 1, by omega, by go_num, HO.out, below_drewN (hnx.alloc hsz _) _⟩
            case measure => simp [intOf]; omega
      · have HF : Hid (chk l = 0) := by
          show chk l = 0
          unfold chk
          rw [if_neg (by rw [Hlen.out]; exact h200), if_pos]
          rw [Hlen.out, show n = k by omega]
          exact hok
        clear hok
        go_wp2
        go_ret
        exact ⟨ret_int (by rw [HF.out]), hnx⟩

theorem Between_t (n lo hi : Int) (w : World) (h : btwB n lo hi = true) : Calls Tryd.prog 15 #[I n, I lo, I hi] w fun e w' => e = .returned (.bool true) ∧ w = w' :=
  (Between_any n lo hi w).mono fun _ _ ⟨he, hw⟩ => ⟨by rw [he, h], hw⟩
theorem Between_f (n lo hi : Int) (w : World) (h : btwB n lo hi = false) : Calls Tryd.prog 15 #[I n, I lo, I hi] w fun e w' => e = .returned (.bool false) ∧ w = w' :=
  (Between_any n lo hi w).mono fun _ _ ⟨he, hw⟩ => ⟨by rw [he, h], hw⟩

/-- the key ahead of place k -/
def lastOf (l : PL) (k : Nat) : Int := if k = 0 then -1 else (l[k - 1]?.getD (0, 0)).1
theorem lastOf_bd {l : PL} {k : Nat} (h : okTo l k) : -1 ≤ lastOf l k ∧ lastOf l k ≤ 1000000 := by
  unfold lastOf
  split
  · omega
  · have := (h (k - 1) (by omega)).1
    simp [keyB] at this
    omega
theorem okAt_iff {l : PL} {k : Nat} (h : okTo l k) : okAt l k ↔ btwB (l[k]?.getD (0, 0)).1 (lastOf l k + 1) 1000000 = true := by
  have hb := lastOf_bd h
  by_cases h0 : k = 0
  · subst h0; simp [okAt, btwB, keyB, lastOf]
  · have hk : 0 < k := by omega
    have hl : lastOf l k = (l[k - 1]?.getD (0, 0)).1 := by simp [lastOf, h0]
    rw [hl] at hb ⊢
    simp only [okAt, btwB, keyB, decide_eq_true_eq]
    constructor
    · rintro ⟨h1, h2⟩
      have := h2 hk
      omega
    · rintro ⟨h1, h2⟩
      exact ⟨by omega, fun _ => by omega⟩

end Go.Proofs.YtolgncaaffmmnaaDoor

/-
  copyOf, pairAt, get, isOp.
-/
namespace Go.Proofs.YtolgncaaffmmnaaDoor
open Go.RowKit

theorem pair_info : (Tryd.prog.info? 87).map (fun i => (i.zero, i.size, i.bytes)) = some (some (.agg #[I 0, I 0]), 2, 16) := by kernel_rfl
theorem pair_size : (Tryd.prog.info? 87).map (·.size) = some 2 := by kernel_rfl

theorem cop_all (n : Nat) (l : PL) (h : l.length = n) : cop (List.replicate n (0, 0)) 0 l n = l := by
  simp [cop, ← h]

set_option maxHeartbeats 400000 in
theorem copyOf_any (A : Option Addr) (n c : Nat) (l : PL) (w : World) (h : PS w A n c l) (hn : n ≤ 1000000) :
    Calls Tryd.prog 66 #[.slice A n c] w fun e w' => e = .returned (.slice (some ⟨w.heap.size, 0, none⟩) n n) ∧ PB w' w.heap.size 87 l ∧ Below w.heap.size w w' := by
  have hmk := fun W => run_makeP (P := Tryd.prog) 40 87 Tryd.underlying40 pair_info n hn W
  have H := Lib.hid h
  clear h
  have hb : Below w.heap.size w (w.alloc (.cells (flat (List.replicate n (0, 0))).toArray 87)) := (Below.refl _ _).alloc (Nat.le_refl _) _
  go_enter Tryd.func66, Tryd.ntmps66
  go_wp2_with (with_reducible refine wpList_copyP rfl (.tmp 7) (.tmp 8) 40 rfl 87 Tryd.underlying40 pair_size (some ⟨w.heap.size, 0, none⟩) A n n n c rfl rfl w.heap.size 0 87 (List.replicate n (0, 0)) l (PB.new _ _ _) ((H.out.below hb).src) (by simp) (fun _ => rfl) ?_)
  intro w1 hp hb1
  go_wp2
  go_ret
  refine ⟨rfl, ?_, hb.trans (hb1 _ (Nat.le_refl _))⟩
  rw [cop_all n l H.out.len] at hp
  exact hp

/-- the pair in a place -/
def pairA (l : PL) (p : Int) : An := if 0 ≤ p ∧ p < l.length then ⟨0, (l[p.toNat]?.getD (0, 0)).1, (l[p.toNat]?.getD (0, 0)).2, true⟩ else an0
theorem pairA_in (l : PL) (k : Nat) (h : k < l.length) : pairA l k = ⟨0, l[k].1, l[k].2, true⟩ := by
  unfold pairA
  rw [if_pos (by omega)]
  simp [List.getElem?_eq_getElem h]

set_option maxHeartbeats 400000 in
theorem pairAt_any (A : Option Addr) (n c : Nat) (l : PL) (p : Int) (w : World) (h : PS w A n c l) (hn : n ≤ 1000000) :
    Calls Tryd.prog 80 #[.slice A n c, I p] w fun e w' => e = .returned (anV (pairA l p)) ∧ Below w.heap.size w w' := by
  have H := Lib.hid h
  have Hlen := Lib.hid h.len
  clear h
  by_cases h0 : p < 0
  · have HF : Hid (pairA l p = an0) := by show pairA l p = an0; unfold pairA; rw [if_neg (by omega)]
    go_enter Tryd.func80, Tryd.ntmps80
    go_wp2
    exact bodyPost_ret (v := anV an0) (by simp [results, Tryd.results80, go_sem]) rfl ⟨by rw [HF.out], (Below.refl _ _).alloc (Nat.le_refl _) _⟩
  · by_cases h1 : p < n
    · obtain ⟨k, rfl⟩ := Int.eq_ofNat_of_zero_le (show 0 ≤ p by omega)
      have hlt : k < n := by omega
      have hkl : k < l.length := by have := Hlen.out; omega
      obtain ⟨b, off, rfl, hb, hc⟩ := H.out.at_ (by omega)
      have hc0 : w.cell? ⟨b, off + k * 2, none⟩ = some (I l[k].1) := (hc k hlt).1
      have hc1 : w.cell? ⟨b, off + k * 2 + 1, none⟩ = some (I l[k].2) := (hc k hlt).2
      have HF := Lib.hid (pairA_in l k hkl)
      clear hc
      go_enter Tryd.func80, Tryd.ntmps80
      go_wp2
      go_region
      all_goals go_wp2
      exact bodyPost_ret (v := anV ⟨0, l[k].1, l[k].2, true⟩) (by simp [results, Tryd.results80, go_sem]) rfl ⟨by rw [HF.out], ((Below.refl _ _).alloc (Nat.le_refl _) _).drew⟩
    · have HF : Hid (pairA l p = an0) := by show pairA l p = an0; unfold pairA; rw [if_neg (by have := Hlen.out; omega)]
      go_enter Tryd.func80, Tryd.ntmps80
      go_wp2
      exact bodyPost_ret (v := anV an0) (by simp [results, Tryd.results80, go_sem]) rfl ⟨by rw [HF.out], (Below.refl _ _).alloc (Nat.le_refl _) _⟩

theorem hasAt_t (A : Option Addr) (n c p : Nat) (l : PL) (key : Int) (w : World) (h : PS w A n c l) (hn : n ≤ 1000000) (hp : p ≤ 1000000) (hh : hasB l p key = true) :
    Calls Tryd.prog 78 #[.slice A n c, I p, I key] w fun e w' => e = .returned (.bool true) ∧ w = w' :=
  (hasAt_any A n c p l key w h hn hp).mono fun _ _ ⟨he, hw⟩ => ⟨by rw [he, hh], hw⟩
theorem hasAt_f (A : Option Addr) (n c p : Nat) (l : PL) (key : Int) (w : World) (h : PS w A n c l) (hn : n ≤ 1000000) (hp : p ≤ 1000000) (hh : hasB l p key = false) :
    Calls Tryd.prog 78 #[.slice A n c, I p, I key] w fun e w' => e = .returned (.bool false) ∧ w = w' :=
  (hasAt_any A n c p l key w h hn hp).mono fun _ _ ⟨he, hw⟩ => ⟨by rw [he, hh], hw⟩
theorem hasB_lt {l : PL} {p : Nat} {key : Int} (h : hasB l p key = true) : p < l.length := by
  unfold hasB at h
  split at h
  · rename_i q hq; exact (List.getElem?_eq_some_iff.1 hq).1
  · cases h

/-- what a key's value is -/
def getA (l : PL) (key : Int) : An := if hasB l (cnt l key) key then ⟨0, 0, (l[cnt l key]?.getD (0, 0)).2, true⟩ else an0

set_option maxHeartbeats 400000 in
theorem get_any (A : Option Addr) (n c : Nat) (l : PL) (key : Int) (w : World) (h : PS w A n c l) (hn : n ≤ 1000000) :
    Calls Tryd.prog 79 #[.slice A n c, I key] w fun e w' => e = .returned (anV (getA l key)) ∧ Below w.heap.size w w' := by
  have H := Lib.hid h
  have Hlen := Lib.hid h.len
  clear h
  have hcn : cnt l key ≤ n := by have := cnt_le l key; rw [Hlen.out] at this; exact this
  cases hh : hasB l (cnt l key) key with
  | true =>
    have hkl := hasB_lt hh
    have hlt : cnt l key < n := by have := Hlen.out; omega
    have HF : Hid (getA l key = ⟨0, 0, l[cnt l key].2, true⟩) := by show getA l key = _; simp [getA, hh, List.getElem?_eq_getElem hkl]
    have HH := Lib.hid hh
    obtain ⟨b, off, rfl, hb, hc⟩ := H.out.at_ (by omega)
    have hc1 : w.cell? ⟨b, off + cnt l key * 2 + 1, none⟩ = some (I l[cnt l key].2) := (hc _ hlt).2
    clear hh hc
    go_enter Tryd.func79, Tryd.ntmps79
    go_wp2_with fail
    refine (countBelow_any _ n c l key _ (H.out.alloc _) hn).mono ?_
    rintro e w' ⟨rfl, rfl⟩
    go_wp2_with fail
    refine (hasAt_t _ n c (cnt l key) l key _ (H.out.alloc _) hn (by omega) HH.out).mono ?_
    rintro e w' ⟨rfl, rfl⟩
    go_wp2
    exact bodyPost_ret (v := anV ⟨0, 0, l[cnt l key].2, true⟩) (by simp [results, Tryd.results79, go_sem]) rfl ⟨by rw [HF.out], (Below.refl _ _).alloc (Nat.le_refl _) _⟩
  | false =>
    have HF : Hid (getA l key = an0) := by show getA l key = _; simp [getA, hh]
    have HH := Lib.hid hh
    clear hh
    go_enter Tryd.func79, Tryd.ntmps79
    go_wp2_with fail
    refine (countBelow_any _ n c l key _ (H.out.alloc _) hn).mono ?_
    rintro e w' ⟨rfl, rfl⟩
    go_wp2_with fail
    refine (hasAt_f _ n c (cnt l key) l key _ (H.out.alloc _) hn (by omega) HH.out).mono ?_
    rintro e w' ⟨rfl, rfl⟩
    go_wp2
    exact bodyPost_ret (v := anV an0) (by simp [results, Tryd.results79, go_sem]) rfl ⟨by rw [HF.out], (Below.refl _ _).alloc (Nat.le_refl _) _⟩

/-- is it an op? -/
def opB (kind key : Int) : Bool := if 1 ≤ kind ∧ kind ≤ 5 then keyB key else decide (kind = 6 ∨ kind = 7)
theorem kinds (kind : Int) : kind = 1 ∨ kind = 2 ∨ kind = 3 ∨ kind = 4 ∨ kind = 5 ∨ kind = 6 ∨ kind = 7 ∨ (kind < 1 ∨ 7 < kind) := by omega

set_option maxHeartbeats 1000000 in
theorem isOp_any (kind key val : Int) (w : World) :
    Calls Tryd.prog 65 #[.agg #[I kind, I key, I val]] w fun e w' => e = .returned (.bool (opB kind key)) ∧ Below w.heap.size w w' := by
  rcases kinds kind with rfl | rfl | rfl | rfl | rfl | rfl | rfl | h
  iterate 5
    · go_enter Tryd.func65, Tryd.ntmps65
      go_wp2_with (go_at_call 76; refine (isKey_any _ _).mono ?_; rintro e w' ⟨rfl, rfl⟩)
      go_ret
      exact ⟨rfl, (Below.refl _ _).alloc (Nat.le_refl _) _⟩
  iterate 2
    · go_enter Tryd.func65, Tryd.ntmps65
      go_wp2
      go_ret
      exact ⟨rfl, (Below.refl _ _).alloc (Nat.le_refl _) _⟩
  · have HF : Hid (opB kind key = false) := by
      show opB kind key = false
      unfold opB
      rw [if_neg (by omega)]
      exact decide_eq_false (by omega)
    have h1 : (kind == 1) = false := beq_eq_false_iff_ne.2 (by omega)
    have h2 : (kind == 2) = false := beq_eq_false_iff_ne.2 (by omega)
    have h3 : (kind == 3) = false := beq_eq_false_iff_ne.2 (by omega)
    have h4 : (kind == 4) = false := beq_eq_false_iff_ne.2 (by omega)
    have h5 : (kind == 5) = false := beq_eq_false_iff_ne.2 (by omega)
    have h6 : (kind == 6) = false := beq_eq_false_iff_ne.2 (by omega)
    have h7 : (kind == 7) = false := beq_eq_false_iff_ne.2 (by omega)
    clear h
    go_enter Tryd.func65, Tryd.ntmps65
    go_wp2
    go_ret
    exact ⟨by rw [HF.out]; rfl, (Below.refl _ _).alloc (Nat.le_refl _) _⟩

end Go.Proofs.YtolgncaaffmmnaaDoor
