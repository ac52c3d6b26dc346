/-
  topOf, stands, Check.
-/
import Derived.Test.YtconegligedniaaChecked
import Derived.Test.YtconegligedniaaCopy
import Derived.Test.YtconegligedniaaSPure
import Derived.BigQuiet
import Derived.Deep.QuietTactic
namespace Go.Proofs.Ytconegligedniaa
open Go.RowKit

/-- the cells of place i -/
theorem PS.dat {w : World} {n c : Nat} {A : Option Addr} {l : PL} (h : PS w A n c l) (hn : 0 < n) :
    ∃ b off, A = some ⟨b, off, none⟩ ∧ b < w.heap.size ∧ ∀ i, i < n → w.cell? ⟨b, off + i * 2, none⟩ = some (I (ky l i)) ∧ w.cell? ⟨b, off + i * 2 + 1, none⟩ = some (I (dp l i)) := by
  obtain ⟨b, off, e, hb, hc⟩ := h.at_ hn
  refine ⟨b, off, e, hb, fun i hi => ?_⟩
  have hl : i < l.length := by rw [h.len]; exact hi
  rw [ky_in hl, dp_in hl]
  exact hc i hi
theorem PS.take {w : World} {n c : Nat} {A : Option Addr} {l : PL} (h : PS w A n c l) (k : Nat) (hk : k ≤ n) : PS w A k c (l.take k) := by
  refine ⟨by simp [h.len]; omega, by have := h.rd.1; omega, fun h0 => ?_⟩
  obtain ⟨b, off, e, hb, hc⟩ := h.rd.2 (by omega)
  refine ⟨b, off, e, hb, fun i hi j hj => ?_⟩
  rw [hc i (by omega) j hj]
  simp [pf, List.getElem?_take, hi]
theorem PS.drop {w : World} {n c c' : Nat} {A : Option Addr} {l : PL} (h : PS w A n c l) (k : Nat) (hk : k ≤ n) (sp : Option Addr) (hs : k < n → ∀ b off, A = some ⟨b, off, none⟩ → sp = some ⟨b, off + k * 2, none⟩) (hc' : n - k ≤ c') : PS w sp (n - k) c' (l.drop k) := by
  refine ⟨by simp [h.len], hc', fun h0 => ?_⟩
  obtain ⟨b, off, e, hb, hc⟩ := h.rd.2 (by omega)
  refine ⟨b, off + k * 2, hs (by omega) b off e, hb, fun i hi j hj => ?_⟩
  have := hc (k + i) (by omega) j hj
  rw [show off + ((k + i) * 2 + j) = off + k * 2 + (i * 2 + j) by omega] at this
  rw [this]
  simp [pf, List.getElem?_drop]

/-- the top of the first k -/
def TopTo (l : PL) (k j : Nat) : Prop := (∀ i, i < k → dp l j ≤ dp l i) ∧ ∀ i, i < j → dp l j < dp l i
theorem topTo_less {l : PL} {k j : Nat} (h : TopTo l k j) (hd : dp l k < dp l j) : TopTo l (k + 1) k := by
  constructor
  · intro i hi
    rcases Nat.lt_or_ge i k with h1 | h1
    · have := h.1 i h1; omega
    · obtain rfl : i = k := by omega
      exact Int.le_refl _
  · intro i hi
    have := h.1 i hi; omega
theorem topTo_same {l : PL} {k j : Nat} (h : TopTo l k j) (hd : ¬ dp l k < dp l j) : TopTo l (k + 1) j := by
  refine ⟨fun i hi => ?_, h.2⟩
  rcases Nat.lt_or_ge i k with h1 | h1
  · exact h.1 i h1
  · obtain rfl : i = k := by omega
    omega

set_option maxHeartbeats 1000000 in
theorem topOf_any (A : Option Addr) (n c : Nat) (l : PL) (w : World) (h : PS w A n c l) (hn : n ≤ 1000) (h0 : 0 < n) :
    Calls Try.prog 47 #[.slice A n c] w fun e w' => e = .returned (I (topR l)) ∧ Below w.heap.size w w' := by
  have H := Lib.hid h
  have Hlen := Lib.hid h.len
  clear h
  obtain ⟨b, off, rfl, hb, hc⟩ := H.out.dat h0
  have HC := Lib.hid hc
  clear hc
  go_enter Try.func47, Try.ntmps47
  go_wp2
  go_loopw [3, 8] (fun t i wr => ∃ k j : Nat, k ≤ n ∧ j < n ∧ i = .int .i64 k ∧ t = .int .i64 j ∧ TopTo l k j ∧ Below w.heap.size w wr) (fun _ i _ => n - (intOf i).toNat)
  case atStart => exact ⟨0, 0, Nat.zero_le _, h0, rfl, rfl, ⟨fun i hi => absurd hi (by omega), fun i hi => absurd hi (by omega)⟩, Below.refl _ _⟩
  case round =>
    obtain ⟨k, j, hk, hj, rfl, rfl, htop, hnx⟩ := hrel
    have hsz := hnx.size
    have hbwr : b < wr.heap.size := by omega
    by_cases hlt : k < n
    · have hc0 : wr.cell? ⟨b, off + k * 2, none⟩ = some (I (ky l k)) := (hnx.cell (by exact hb)).trans (HC.out k hlt).1
      have hc1 : wr.cell? ⟨b, off + k * 2 + 1, none⟩ = some (I (dp l k)) := (hnx.cell (by exact hb)).trans (HC.out k hlt).2
      have hj1 : wr.cell? ⟨b, off + j * 2 + 1, none⟩ = some (I (dp l j)) := (hnx.cell (by exact hb)).trans (HC.out j hj).2
      by_cases hd : dp l k < dp l j
      · have HT := Lib.hid (topTo_less htop hd)
        clear htop
        go_wp2
        go_quiet (fail)
        go_wp2
        go_roundw
        case rel => exact ⟨k + 1, k, by omega, hlt, by go_num, rfl, HT.out, below_drewN (hnx.alloc hsz _) _⟩
        case measure => simp [intOf]; omega
      · have HT := Lib.hid (topTo_same htop hd)
        clear htop
        go_wp2
        go_quiet (fail)
        go_wp2
        go_roundw
        case rel => exact ⟨k + 1, j, by omega, hj, by go_num, rfl, HT.out, below_drewN (hnx.alloc hsz _) _⟩
        case measure => simp [intOf]; omega
    · have HF : Hid (topR l = j) := topR_eq ⟨by rw [Hlen.out]; exact hj, fun i hi => htop.1 i (by rw [Hlen.out] at hi; omega), htop.2⟩
      clear htop
      go_wp2
      go_ret
      exact ⟨ret_int (by rw [HF.out]), hnx⟩

theorem Below.retB {b b' : Bool} {w : World} {e : Ending} {w' : World} (hb : b = b') (h : e = .returned (.bool b) ∧ Below w.heap.size w w') : e = .returned (.bool b') ∧ Below w.heap.size w w' := by rw [← hb]; exact h

set_option maxRecDepth 100000 in
set_option maxHeartbeats 2000000 in
theorem stands_any : ∀ (m : Nat) (A : Option Addr) (n c : Nat) (l : PL) (d : Int) (w : World), PS w A n c l → n ≤ m → n ≤ 200 → 0 ≤ d → d + n ≤ 1000 →
    Calls Try.prog 40 #[.slice A n c, I d] w fun e w' => e = .returned (.bool (stB l d)) ∧ Below w.heap.size w w' := by
  intro m
  induction m with
  | zero =>
    intro A n c l d w h hm _ _ _
    have hl : l = [] := List.eq_nil_of_length_eq_zero (by rw [h.len]; omega)
    have HF : Hid (stB l d = true) := by show _ = _; rw [hl]; exact stB_nil d
    obtain rfl : n = 0 := by omega
    clear hl h
    go_enter Try.func40, Try.ntmps40
    go_wp2
    go_ret
    exact ⟨by rw [HF.out]; rfl, Below.refl _ _⟩
  | succ m ih =>
    intro A n c l d w h hm hn hd0 hd1
    by_cases h0 : n = 0
    · have hl : l = [] := List.eq_nil_of_length_eq_zero (by rw [h.len]; omega)
      have HF : Hid (stB l d = true) := by show _ = _; rw [hl]; exact stB_nil d
      subst h0
      clear hl h
      go_enter Try.func40, Try.ntmps40
      go_wp2
      go_ret
      exact ⟨by rw [HF.out]; rfl, Below.refl _ _⟩
    · have hnb : ((n : Int) == 0) = false := by simp; omega
      have hne : l ≠ [] := by intro e; subst e; have := h.len; simp at this; omega
      have htl : topR l < n := by have := topR_lt hne; rw [h.len] at this; exact this
      have HS := Lib.hid (stB_cons hne d)
      have H := Lib.hid h
      have IH := Lib.hid ih
      clear h ih hne
      have htop := topOf_any A n c l w H.out (by omega) (by omega)
      obtain ⟨b, off, rfl, hb, hc⟩ := H.out.dat (by omega)
      have HC := Lib.hid (hc (topR l) htl).2
      have hcap : n ≤ c := H.out.rd.1
      clear hc
      generalize topR l = t at *
      have HTOP := Lib.hid htop
      clear htop
      go_enter Try.func40, Try.ntmps40
      go_wp2_with fail
      refine HTOP.out.mono ?_
      rintro e w1 ⟨rfl, hb1⟩
      have hc1 : w1.cell? ⟨b, off + t * 2 + 1, none⟩ = some (I (dp l t)) := (hb1.cell (by exact hb)).trans HC.out
      have HB1 := Lib.hid hb1
      clear hb1
      by_cases hdd : dp l t = d
      · have hb0 : (dp l t == d) = true := by simp [hdd]
        have h1 : Hid (decide (dp l t = d) = true) := by show _ = _; simp [hdd]
        rw [h1.out, Bool.true_and] at HS
        have c1 := (IH.out (some ⟨b, off, none⟩) t c (l.take t) (d + 1) w1 ((H.out.below HB1.out).take t (by omega)) (by omega) (by omega) (by omega) (by omega))
        clear hdd h1
        cases hs1 : stB (l.take t) (d + 1) with
        | false =>
          have HF : Hid (stB l d = false) := by show _ = _; rw [HS.out, hs1]; rfl
          rw [hs1] at c1
          have C1 := Lib.hid c1
          clear c1 hs1 HS
          go_wp2_with fail
          refine C1.out.mono ?_
          rintro e w2 ⟨rfl, hb2⟩
          have HB2 := Lib.hid (HB1.out.trans (hb2.mono HB1.out.size))
          clear hb2
          go_wp2
          go_ret
          exact ⟨by rw [HF.out]; rfl, HB2.out⟩
        | true =>
          rw [hs1, Bool.true_and] at HS
          rw [hs1] at c1
          have C1 := Lib.hid c1
          clear c1 hs1
          go_wp2_with fail
          refine C1.out.mono ?_
          rintro e w2 ⟨rfl, hb2⟩
          have HB2 := Lib.hid (HB1.out.trans (hb2.mono HB1.out.size))
          clear hb2
          go_wp2_with fail
          all_goals
            refine (IH.out _ (n - (t + 1)) _ (l.drop (t + 1)) (d + 1) w2 ((H.out.below HB2.out).drop (t + 1) (by omega) _ ?hs ?hcc) (by omega) (by omega) (by omega) (by omega)).mono ?_
            case hs =>
              intro hlt b' off' he
              cases he
              first | rfl | (exfalso; omega)
            case hcc => omega
            rintro e w3 ⟨rfl, hb3⟩
            have HB3 := Lib.hid (HB2.out.trans (hb3.mono HB2.out.size))
            clear hb3
            go_wp2
            go_ret
            exact ⟨by rw [HS.out]; rfl, HB3.out⟩
      · have hb0 : (dp l t == d) = false := by simp [hdd]
        have HF : Hid (stB l d = false) := by show _ = _; rw [HS.out]; simp [hdd]
        clear hdd HS
        go_wp2
        go_ret
        exact ⟨by rw [HF.out]; rfl, HB1.out⟩

end Go.Proofs.Ytconegligedniaa
