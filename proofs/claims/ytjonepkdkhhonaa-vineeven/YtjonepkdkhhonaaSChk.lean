/-
  shape.Check, partOf, parentOf.
-/
import Derived.Test.YtjonepkdkhhonaaSLeaf
namespace Go.Proofs.Ytjonepkdkhhonaa
open Go.RowKit

theorem upTo_succ {l : PL} {k : Nat} (h : upTo l k) (hk : 0 < k) (h1 : ky l (k - 1) < ky l k) : upTo l (k + 1) := by
  intro i hi
  rcases Nat.lt_or_ge (i + 1) k with h2 | h2
  · exact h i h2
  · obtain rfl : k = i + 1 := by omega
    simpa using h1

set_option maxRecDepth 100000 in
set_option maxHeartbeats 1000000 in
theorem CheckS_any (A : Option Addr) (n c : Nat) (l : PL) (w : World) (h : PS w A n c l) (hn : n ≤ 9223372036854775807) :
    Calls Try.prog 19 #[.slice A n c] w fun e w' => e = .returned (I (chkS l)) ∧ Below w.heap.size w w' := by
  have H := Lib.hid h
  have Hlen := Lib.hid h.len
  clear h
  by_cases h200 : 200 < n
  · have HF : Hid (chkS l = 2) := by show chkS l = 2; unfold chkS; rw [if_pos (by rw [Hlen.out]; exact h200)]
    go_enter Try.func19, Try.ntmps19
    go_wp2
    go_ret
    exact ⟨ret_int (by rw [HF.out]), Below.refl _ _⟩
  · go_enter Try.func19, Try.ntmps19
    go_wp2
    go_loopw [3] (fun i wr => ∃ k : Nat, 1 ≤ k ∧ (k ≤ n ∨ k = 1) ∧ i = .int .i64 k ∧ upTo l k ∧ Below w.heap.size w wr) (fun i _ => n - (intOf i).toNat)
    case atStart => exact ⟨1, Nat.le_refl _, .inr rfl, rfl, fun i hi => absurd hi (by omega), Below.refl _ _⟩
    case round =>
      obtain ⟨k, hk1, hk, rfl, hup, hnx⟩ := hrel
      have hsz := hnx.size
      by_cases hlt : k < n
      · obtain ⟨b, off, rfl, hb, hc⟩ := H.out.dat (by omega)
        have hc0 : wr.cell? ⟨b, off + k * 2, none⟩ = some (I (ky l k)) := (hnx.cell (by exact hb)).trans (hc k hlt).1
        have hp0 : wr.cell? ⟨b, off + (k - 1) * 2, none⟩ = some (I (ky l (k - 1))) := (hnx.cell (by exact hb)).trans (hc (k - 1) (by omega)).1
        clear hk hc
        by_cases hge : ky l k ≤ ky l (k - 1)
        · have HF : Hid (chkS l = 3) := by
            show chkS l = 3
            unfold chkS
            rw [if_neg (by rw [Hlen.out]; exact h200), if_neg]
            rintro ⟨ha, _⟩
            have := ha (k - 1) (by rw [Hlen.out]; omega)
            rw [show k - 1 + 1 = k by omega] at this
            omega
          clear hup
          go_wp2
          go_quiet (fail)
          go_wp2
          go_ret
          exact ⟨ret_int (by rw [HF.out]), below_drewN hnx _⟩
        · have HO := Lib.hid (upTo_succ hup hk1 (by omega))
          clear hup
          go_wp2
          go_quiet (fail)
          go_wp2
          go_roundw
          case rel => exact ⟨k + 1, by omega, .inl (by omega), by go_num, HO.out, below_drewN hnx _⟩
          case measure => simp [intOf]; omega
      · have hupn : upTo l l.length := by
          intro i hi
          rw [Hlen.out] at hi
          exact hup i (by omega)
        have hst := stands_any n A n c l 0 wr (H.out.below hnx) (Nat.le_refl _) (by omega) (by omega) (by omega)
        have HNX := Lib.hid hnx
        clear hup hk hnx
        cases hs : stB l 0 with
        | true =>
          have HF : Hid (chkS l = 0) := by
            show chkS l = 0
            unfold chkS
            rw [if_neg (by rw [Hlen.out]; exact h200), if_pos ⟨hupn, hs⟩]
          rw [hs] at hst
          have HST := Lib.hid hst
          clear hs hst hupn
          go_wp2_with fail
          refine HST.out.mono ?_
          rintro e w1 ⟨rfl, hb1⟩
          have HB1 := Lib.hid (HNX.out.trans (hb1.mono HNX.out.size))
          clear hb1
          go_wp2
          go_ret
          exact ⟨ret_int (by rw [HF.out]), HB1.out⟩
        | false =>
          have HF : Hid (chkS l = 3) := by
            show chkS l = 3
            unfold chkS
            rw [if_neg (by rw [Hlen.out]; exact h200), if_neg]
            rintro ⟨_, ha⟩
            rw [hs] at ha
            cases ha
          rw [hs] at hst
          have HST := Lib.hid hst
          clear hs hst hupn
          go_wp2_with fail
          refine HST.out.mono ?_
          rintro e w1 ⟨rfl, hb1⟩
          have HB1 := Lib.hid (HNX.out.trans (hb1.mono HNX.out.size))
          clear hb1
          go_wp2
          go_ret
          exact ⟨ret_int (by rw [HF.out]), HB1.out⟩
theorem CheckS_is (A : Option Addr) (n c : Nat) (l : PL) (w : World) (h : PS w A n c l) (hn : n ≤ 9223372036854775807) (E : Int) (hE : chkS l = E) :
    Calls Try.prog 19 #[.slice A n c] w fun e w' => e = .returned (I E) ∧ Below w.heap.size w w' := by
  subst hE; exact CheckS_any A n c l w h hn

theorem frA_go {l : PL} {d : Int} {f : Nat} (h : 0 < f) (hd : d < dp l (f - 1)) : frA l d (f - 1) = frA l d f := by
  obtain ⟨g, rfl⟩ : ∃ g, f = g + 1 := ⟨f - 1, by omega⟩
  rw [frA, if_pos (by simpa using hd)]
  simp
theorem frA_stop {l : PL} {d : Int} {f : Nat} (h : 0 < f → ¬ d < dp l (f - 1)) : frA l d f = f := by
  cases f with
  | zero => rfl
  | succ g => rw [frA, if_neg (by simpa using h (by omega))]
theorem toA_go {l : PL} {d : Int} {t n : Nat} (h : t < n) (hd : d < dp l t) : toA l d (n - (t + 1)) (t + 1) = toA l d (n - t) t := by
  rw [show n - t = n - (t + 1) + 1 by omega, toA, if_pos hd]
theorem toA_stop {l : PL} {d : Int} {t n : Nat} (h : t < n → ¬ d < dp l t) : toA l d (n - t) t = t := by
  rcases Nat.lt_or_ge t n with h1 | h1
  · rw [show n - t = n - (t + 1) + 1 by omega, toA, if_neg (h h1)]
  · rw [show n - t = 0 by omega, toA]

set_option maxRecDepth 100000 in
set_option maxHeartbeats 1000000 in
theorem partOf_any (A : Option Addr) (n c i : Nat) (l : PL) (w : World) (h : PS w A n c l) (hn : n ≤ 1000) (hi : i < n) :
    Calls Try.prog 23 #[.slice A n c, I i] w fun e w' => e = .returned (.tuple #[I (frR l i), I (toR l i)]) ∧ Below w.heap.size w w' := by
  have H := Lib.hid h
  have Hlen := Lib.hid h.len
  clear h
  obtain ⟨b, off, rfl, hb, hc⟩ := H.out.dat (by omega)
  have HC : Hid (∀ wr, Below w.heap.size w wr → ∀ j, j < n → wr.cell? ⟨b, off + j * 2 + 1, none⟩ = some (I (dp l j))) := fun wr hnx j hj => (hnx.cell (by exact hb)).trans (hc j hj).2
  clear hc
  go_enter Try.func23, Try.ntmps23
  go_wp2
  go_loopw [6] (fun x wr => ∃ f : Nat, f ≤ i ∧ x = .int .i64 f ∧ frA l (dp l i) f = frR l i ∧ Below w.heap.size w wr) (fun x _ => (intOf x).toNat)
  case atStart => exact ⟨i, Nat.le_refl _, rfl, rfl, Below.refl _ _⟩
  case round =>
    obtain ⟨f, hf, rfl, hfr, hnx⟩ := hrel
    have hci : wr.cell? ⟨b, off + i * 2 + 1, none⟩ = some (I (dp l i)) := HC.out wr hnx i hi
    by_cases hgo : 0 < f ∧ dp l i < dp l (f - 1)
    · obtain ⟨hf0, hd⟩ := hgo
      have hcf : wr.cell? ⟨b, off + (f - 1) * 2 + 1, none⟩ = some (I (dp l (f - 1))) := HC.out wr hnx (f - 1) (by omega)
      have HR : Hid (frA l (dp l i) (f - 1) = frR l i) := (frA_go hf0 hd).trans hfr
      clear hfr
      go_wp2
      go_quiet (fail)
      go_wp2
      go_roundw
      case rel => exact ⟨f - 1, by omega, by congr 1; omega, HR.out, below_drewN hnx _⟩
      case measure => simp [intOf]; omega
    · have HR : Hid (frR l i = f) := by
        show _ = _
        rw [← hfr]
        exact frA_stop (fun h0 hd => hgo ⟨h0, hd⟩)
      clear hfr
      have hb1 : ∀ q, Below w.heap.size w (wr.drewN q) := fun q => below_drewN hnx q
      have HB1 := Lib.hid hb1
      clear hb1
      by_cases hf0 : 0 < f
      · have hd : ¬ dp l i < dp l (f - 1) := fun h => hgo ⟨hf0, h⟩
        have hcf : wr.cell? ⟨b, off + (f - 1) * 2 + 1, none⟩ = some (I (dp l (f - 1))) := HC.out wr hnx (f - 1) (by omega)
        clear hgo
        go_wp2
        go_quiet (fail)
        go_wp2
        go_loopw [7] (fun x wz => ∃ t : Nat, i + 1 ≤ t ∧ t ≤ n ∧ x = .int .i64 t ∧ toA l (dp l i) (n - t) t = toR l i ∧ Below w.heap.size w wz) (fun x _ => n - (intOf x).toNat)
        case atStart => exact ⟨i + 1, Nat.le_refl _, by omega, by go_num, by unfold toR; rw [Hlen.out], HB1.out _⟩
        case round =>
          obtain ⟨t, ht1, ht2, rfl, hto, hnz⟩ := hrel
          have hci : wr.cell? ⟨b, off + i * 2 + 1, none⟩ = some (I (dp l i)) := HC.out wr hnz i hi
          by_cases hgo : t < n ∧ dp l i < dp l t
          · obtain ⟨htn, hd⟩ := hgo
            have hcf : wr.cell? ⟨b, off + t * 2 + 1, none⟩ = some (I (dp l t)) := HC.out wr hnz t htn
            have HT : Hid (toA l (dp l i) (n - (t + 1)) (t + 1) = toR l i) := (toA_go htn hd).trans hto
            clear hto
            go_wp2
            go_quiet (fail)
            go_wp2
            go_roundw
            case rel => exact ⟨t + 1, by omega, by omega, by go_num, HT.out, below_drewN hnz _⟩
            case measure => simp [intOf]; omega
          · have HT : Hid (toR l i = t) := by
              show _ = _
              rw [← hto]
              exact toA_stop (fun h0 hd => hgo ⟨h0, hd⟩)
            clear hto
            by_cases htn : t < n
            · have hd : ¬ dp l i < dp l t := fun h => hgo ⟨htn, h⟩
              have hcf : wr.cell? ⟨b, off + t * 2 + 1, none⟩ = some (I (dp l t)) := HC.out wr hnz t htn
              clear hgo
              go_wp2
              go_quiet (fail)
              go_wp2
              go_ret2
              exact ⟨by rw [HR.out, HT.out]; rfl, below_drewN hnz _⟩
            · have hd : decide (t < n) = false := by simpa using htn
              clear hgo
              go_wp2
              go_quiet (fail)
              go_wp2
              go_ret2
              exact ⟨by rw [HR.out, HT.out]; rfl, below_drewN hnz _⟩
      · have hd : decide (0 < f) = false := by simpa using hf0
        clear hgo
        go_wp2
        go_quiet (fail)
        go_wp2
        go_loopw [7] (fun x wz => ∃ t : Nat, i + 1 ≤ t ∧ t ≤ n ∧ x = .int .i64 t ∧ toA l (dp l i) (n - t) t = toR l i ∧ Below w.heap.size w wz) (fun x _ => n - (intOf x).toNat)
        case atStart => exact ⟨i + 1, Nat.le_refl _, by omega, by go_num, by unfold toR; rw [Hlen.out], HB1.out _⟩
        case round =>
          obtain ⟨t, ht1, ht2, rfl, hto, hnz⟩ := hrel
          have hci : wr.cell? ⟨b, off + i * 2 + 1, none⟩ = some (I (dp l i)) := HC.out wr hnz i hi
          by_cases hgo : t < n ∧ dp l i < dp l t
          · obtain ⟨htn, hd⟩ := hgo
            have hcf : wr.cell? ⟨b, off + t * 2 + 1, none⟩ = some (I (dp l t)) := HC.out wr hnz t htn
            have HT : Hid (toA l (dp l i) (n - (t + 1)) (t + 1) = toR l i) := (toA_go htn hd).trans hto
            clear hto
            go_wp2
            go_quiet (fail)
            go_wp2
            go_roundw
            case rel => exact ⟨t + 1, by omega, by omega, by go_num, HT.out, below_drewN hnz _⟩
            case measure => simp [intOf]; omega
          · have HT : Hid (toR l i = t) := by
              show _ = _
              rw [← hto]
              exact toA_stop (fun h0 hd => hgo ⟨h0, hd⟩)
            clear hto
            by_cases htn : t < n
            · have hd : ¬ dp l i < dp l t := fun h => hgo ⟨htn, h⟩
              have hcf : wr.cell? ⟨b, off + t * 2 + 1, none⟩ = some (I (dp l t)) := HC.out wr hnz t htn
              clear hgo
              go_wp2
              go_quiet (fail)
              go_wp2
              go_ret2
              exact ⟨by rw [HR.out, HT.out]; rfl, below_drewN hnz _⟩
            · have hd : decide (t < n) = false := by simpa using htn
              clear hgo
              go_wp2
              go_quiet (fail)
              go_wp2
              go_ret2
              exact ⟨by rw [HR.out, HT.out]; rfl, below_drewN hnz _⟩

theorem frR_le (l : PL) (i : Nat) : frR l i ≤ i := frA_le _ _ _
theorem toR_bd (l : PL) (i : Nat) (h : i < l.length) : i < toR l i ∧ toR l i ≤ l.length := by
  have := toA_le l (dp l i) (l.length - (i + 1)) (i + 1)
  unfold toR
  omega

set_option maxRecDepth 100000 in
set_option maxHeartbeats 1000000 in
theorem parentOf_any (A : Option Addr) (n c i : Nat) (l : PL) (w : World) (h : PS w A n c l) (hn : n ≤ 1000) (hi : i < n) :
    Calls Try.prog 22 #[.slice A n c, I i] w fun e w' => e = .returned (I (par l i)) ∧ Below w.heap.size w w' := by
  have H := Lib.hid h
  have Hlen := Lib.hid h.len
  have hpart := partOf_any A n c i l w h hn hi
  have hf := frR_le l i
  have ht := toR_bd l i (by rw [h.len]; exact hi)
  have HP : Hid (par l i = if toR l i = l.length then (frR l i : Int) - 1 else if frR l i = 0 ∨ dp l (frR l i - 1) < dp l (toR l i) then toR l i else (frR l i : Int) - 1) := rfl
  rw [h.len] at ht HP
  obtain ⟨b, off, rfl, hb, hc⟩ := H.out.dat (by omega)
  have HC : Hid (∀ wr, Below w.heap.size w wr → ∀ j, j < n → wr.cell? ⟨b, off + j * 2 + 1, none⟩ = some (I (dp l j))) := fun wr hnx j hj => (hnx.cell (by exact hb)).trans (hc j hj).2
  clear hc h
  generalize frR l i = f at *
  generalize toR l i = t at *
  have HPART := Lib.hid hpart
  clear hpart
  by_cases htn : t = n
  · have HF : Hid (par l i = (f : Int) - 1) := by show _ = _; rw [HP.out, if_pos htn]
    have hq : ((t : Int) == (n : Int)) = true := by simp [htn]
    clear HP htn
    go_enter Try.func22, Try.ntmps22
    go_wp2_with fail
    refine HPART.out.mono ?_
    rintro e w1 ⟨rfl, hb1⟩
    have HB1 := Lib.hid hb1
    clear hb1
    go_wp2
    go_ret
    exact ⟨ret_int (by rw [HF.out]), HB1.out⟩
  · have hq : ((t : Int) == (n : Int)) = false := by simp; omega
    have htl : t < n := by omega
    rw [if_neg htn] at HP
    clear htn
    by_cases hf0 : f = 0
    · have HF : Hid (par l i = t) := by show _ = _; rw [HP.out, if_pos (.inl hf0)]
      subst hf0
      clear HP
      go_enter Try.func22, Try.ntmps22
      go_wp2_with fail
      refine HPART.out.mono ?_
      rintro e w1 ⟨rfl, hb1⟩
      have HB1 := Lib.hid hb1
      clear hb1
      go_wp2
      go_quiet (fail)
      go_wp2
      go_ret
      exact ⟨ret_int (by rw [HF.out]), below_drewN HB1.out _⟩
    · by_cases hd : dp l (f - 1) < dp l t
      · have HF : Hid (par l i = t) := by show _ = _; rw [HP.out, if_pos (.inr hd)]
        have hfp : 0 < f := by omega
        have hg : decide ((f : Int) - 1 < 0) = false := by simp; omega
        clear HP hf0
        go_enter Try.func22, Try.ntmps22
        go_wp2_with fail
        refine HPART.out.mono ?_
        rintro e w1 ⟨rfl, hb1⟩
        have hx : w1.cell? ⟨b, off + (f - 1) * 2 + 1, none⟩ = some (I (dp l (f - 1))) := HC.out w1 hb1 _ (by omega)
        have hy : w1.cell? ⟨b, off + t * 2 + 1, none⟩ = some (I (dp l t)) := HC.out w1 hb1 _ htl
        have HB1 := Lib.hid hb1
        clear hb1
        go_wp2
        go_quiet (fail)
        go_wp2
        go_ret
        exact ⟨ret_int (by rw [HF.out]), below_drewN HB1.out _⟩
      · have HF : Hid (par l i = (f : Int) - 1) := by show _ = _; rw [HP.out, if_neg (by rintro (h | h); exact hf0 h; exact hd h)]
        have hfp : 0 < f := by omega
        have hg : decide ((f : Int) - 1 < 0) = false := by simp; omega
        clear HP hf0
        go_enter Try.func22, Try.ntmps22
        go_wp2_with fail
        refine HPART.out.mono ?_
        rintro e w1 ⟨rfl, hb1⟩
        have hx : w1.cell? ⟨b, off + (f - 1) * 2 + 1, none⟩ = some (I (dp l (f - 1))) := HC.out w1 hb1 _ (by omega)
        have hy : w1.cell? ⟨b, off + t * 2 + 1, none⟩ = some (I (dp l t)) := HC.out w1 hb1 _ htl
        have HB1 := Lib.hid hb1
        clear hb1
        go_wp2
        go_quiet (fail)
        go_wp2
        go_ret
        exact ⟨ret_int (by rw [HF.out]), below_drewN HB1.out _⟩

end Go.Proofs.Ytjonepkdkhhonaa
