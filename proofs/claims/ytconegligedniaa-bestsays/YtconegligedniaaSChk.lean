/-
  shape.Check, partOf, parentOf.
-/
import Derived.Test.YtconegligedniaaSLeaf
namespace Go.Proofs.Ytconegligedniaa
open Go.RowKit

theorem upTo_succ {l : PL} {k : Nat} (h : upTo l k) (hk : 0 < k) (h1 : ky l (k - 1) < ky l k) : upTo l (k + 1) := by
  intro i hi
  rcases Nat.lt_or_ge (i + 1) k with h2 | h2
  · exact h i h2
  · obtain rfl : k = i + 1 := by omega
    simpa using h1

set_option maxRecDepth 100000 in
set_option maxHeartbeats 1000000 in
theorem CheckS_any (A : Option Addr) (n c : Nat) (l : PL) (w : World) (h : PS w A n c l) (hn : n ≤ 9223372036854775807) :
    Calls Try.prog 25 #[.slice A n c] w fun e w' => e = .returned (I (chkS l)) ∧ Below w.heap.size w w' := by
  have H := Lib.hid h
  have Hlen := Lib.hid h.len
  clear h
  by_cases h200 : 200 < n
  · have HF : Hid (chkS l = 2) := by show chkS l = 2; unfold chkS; rw [if_pos (by rw [Hlen.out]; exact h200)]
    go_enter Try.func25, Try.ntmps25
    go_wp2
    go_ret
    exact ⟨ret_int (by rw [HF.out]), Below.refl _ _⟩
  · go_enter Try.func25, Try.ntmps25
    go_wp2
    go_loopw [3] (fun i wr => ∃ k : Nat, 1 ≤ k ∧ (k ≤ n ∨ k = 1) ∧ i = .int .i64 k ∧ upTo l k ∧ Below w.heap.size w wr) (fun i _ => n - (intOf i).toNat)
    case atStart => exact ⟨1, Nat.le_refl _, .inr rfl, rfl, fun i hi => absurd hi (by omega), Below.refl _ _⟩
    case round =>
      obtain ⟨k, hk1, hk, rfl, hup, hnx⟩ := hrel
      have hsz := hnx.size
      by_cases hlt : k < n
      · obtain ⟨b, off, rfl, hb, hc⟩ := H.out.dat (by omega)
        have hc0 : wr.cell? ⟨b, off + k * 2, none⟩ = some (I (ky l k)) := (hnx.cell (by exact hb)).trans (hc k hlt).1
        have hp0 : wr.cell? ⟨b, off + (k - 1) * 2, none⟩ = some (I (ky l (k - 1))) := (hnx.cell (by exact hb)).trans (hc (k - 1) (by omega)).1
        clear hk hc
        by_cases hge : ky l k ≤ ky l (k - 1)
        · have HF : Hid (chkS l = 3) := by
            show chkS l = 3
            unfold chkS
            rw [if_neg (by rw [Hlen.out]; exact h200), if_neg]
            rintro ⟨ha, _⟩
            have := ha (k - 1) (by rw [Hlen.out]; omega)
            rw [show k - 1 + 1 = k by omega] at this
            omega
          clear hup
          go_wp2
          go_quiet (fail)
          go_wp2
          go_ret
          exact ⟨ret_int (by rw [HF.out]), below_drewN hnx _⟩
        · have HO := Lib.hid (upTo_succ hup hk1 (by omega))
          clear hup
          go_wp2
          go_quiet (fail)
          go_wp2
          go_roundw
          case rel => exact ⟨k + 1, by omega, .inl (by omega), by go_num, HO.out, below_drewN hnx _⟩
          case measure => simp [intOf]; omega
      · have hupn : upTo l l.length := by
          intro i hi
          rw [Hlen.out] at hi
          exact hup i (by omega)
        have hst := stands_any n A n c l 0 wr (H.out.below hnx) (Nat.le_refl _) (by omega) (by omega) (by omega)
        have HNX := Lib.hid hnx
        clear hup hk hnx
        cases hs : stB l 0 with
        | true =>
          have HF : Hid (chkS l = 0) := by
            show chkS l = 0
            unfold chkS
            rw [if_neg (by rw [Hlen.out]; exact h200), if_pos ⟨hupn, hs⟩]
          rw [hs] at hst
          have HST := Lib.hid hst
          clear hs hst hupn
          go_wp2_with fail
          refine HST.out.mono ?_
          rintro e w1 ⟨rfl, hb1⟩
          have HB1 := Lib.hid (HNX.out.trans (hb1.mono HNX.out.size))
          clear hb1
          go_wp2
          go_ret
          exact ⟨ret_int (by rw [HF.out]), HB1.out⟩
        | false =>
          have HF : Hid (chkS l = 3) := by
            show chkS l = 3
            unfold chkS
            rw [if_neg (by rw [Hlen.out]; exact h200), if_neg]
            rintro ⟨_, ha⟩
            rw [hs] at ha
            cases ha
          rw [hs] at hst
          have HST := Lib.hid hst
          clear hs hst hupn
          go_wp2_with fail
          refine HST.out.mono ?_
          rintro e w1 ⟨rfl, hb1⟩
          have HB1 := Lib.hid (HNX.out.trans (hb1.mono HNX.out.size))
          clear hb1
          go_wp2
          go_ret
          exact ⟨ret_int (by rw [HF.out]), HB1.out⟩
theorem CheckS_is (A : Option Addr) (n c : Nat) (l : PL) (w : World) (h : PS w A n c l) (hn : n ≤ 9223372036854775807) (E : Int) (hE : chkS l = E) :
    Calls Try.prog 25 #[.slice A n c] w fun e w' => e = .returned (I E) ∧ Below w.heap.size w w' := by
  subst hE; exact CheckS_any A n c l w h hn

theorem frA_go {l : PL} {d : Int} {f : Nat} (h : 0 < f) (hd : d < dp l (f - 1)) : frA l d (f - 1) = frA l d f := by
  obtain ⟨g, rfl⟩ : ∃ g, f = g + 1 := ⟨f - 1, by omega⟩
  rw [frA, if_pos (by simpa using hd)]
  simp
theorem frA_stop {l : PL} {d : Int} {f : Nat} (h : 0 < f → ¬ d < dp l (f - 1)) : frA l d f = f := by
  cases f with
  | zero => rfl
  | succ g => rw [frA, if_neg (by simpa using h (by omega))]
theorem toA_go {l : PL} {d : Int} {t n : Nat} (h : t < n) (hd : d < dp l t) : toA l d (n - (t + 1)) (t + 1) = toA l d (n - t) t := by
  rw [show n - t = n - (t + 1) + 1 by omega, toA, if_pos hd]
theorem toA_stop {l : PL} {d : Int} {t n : Nat} (h : t < n → ¬ d < dp l t) : toA l d (n - t) t = t := by
  rcases Nat.lt_or_ge t n with h1 | h1
  · rw [show n - t = n - (t + 1) + 1 by omega, toA, if_neg (h h1)]
  · rw [show n - t = 0 by omega, toA]

theorem frR_le (l : PL) (i : Nat) : frR l i ≤ i := frA_le _ _ _
theorem toR_bd (l : PL) (i : Nat) (h : i < l.length) : i < toR l i ∧ toR l i ≤ l.length := by
  have := toA_le l (dp l i) (l.length - (i + 1)) (i + 1)
  unfold toR
  omega

end Go.Proofs.Ytconegligedniaa
