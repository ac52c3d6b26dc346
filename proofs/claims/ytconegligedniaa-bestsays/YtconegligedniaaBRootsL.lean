/-
  The walk of the law BestRoots.
-/
import Derived.Test.YtconegligedniaaBRoots
import Derived.Test.YtconegligedniaaBNum
namespace Go.Proofs.Ytconegligedniaa
open Go.RowKit

theorem rowB_length (W : Nat → Nat → Int) (n i : Nat) : (rowB W n i).length = n - i := rowTo_length W i _
theorem rowB_at (W : Nat → Nat → Int) {n i j : Nat} (h1 : i < j) (h2 : j ≤ n) : (rowB W n i)[j - i - 1]? = some (tp (lc W) i j : Int) := by
  unfold rowB rowTo
  rw [List.getElem?_map, List.getElem?_range (by omega)]
  simp only [Option.map_some]
  rw [show i + 1 + (j - i - 1) = j by omega]

set_option maxRecDepth 100000 in
set_option maxHeartbeats 2000000 in
theorem topC_any (W : Nat → Nat → Int) (gc n c i j : Nat) (A : Option Addr) (w : World) (hc : w.cell? ⟨gc, 0, none⟩ = some (.slice A n c)) (h : RQ w A n c (rowB W n)) (h1 : i < j) (h2 : j ≤ n) (hn : n ≤ 20) :
    Calls Try.prog 21 #[I i, I j, .pointer (some ⟨gc, 0, none⟩)] w fun e w' => e = .returned (I (tp (lc W) i j)) ∧ w = w' := by
  obtain ⟨b, rfl, hb, hcs⟩ := h.at_ (by omega)
  obtain ⟨A', c', h3, h4⟩ := hcs i (by omega)
  have hl := rowB_length W n i
  have hat := rowB_at W h1 h2
  rw [hl] at h3 h4
  obtain ⟨b', off', rfl, hb', hcs'⟩ := h4.at_ (by omega)
  have h5 := hcs' (j - i - 1) (by omega)
  rw [List.getElem?_eq_getElem (by omega)] at hat
  injection hat with hat
  rw [hat] at h5
  obtain ⟨T, hT⟩ : ∃ T : Nat, tp (lc W) i j = T := ⟨_, rfl⟩
  rw [hT] at h5 ⊢
  obtain ⟨m, hm⟩ : ∃ m, n - i = m := ⟨_, rfl⟩
  rw [hm] at h3
  have e1 : IntKind.i64.wrap ((j : Int) - (i : Int)) = (j : Int) - (i : Int) := IntWalk.i64_in _ (by omega)
  have e2 : IntKind.i64.wrap ((j : Int) - (i : Int) - 1) = ((j - i - 1 : Nat) : Int) := by rw [IntWalk.i64_in _ (by omega)]; omega
  have e3 : j - i - 1 < m := by omega
  have hin : (i : Int) < (n : Int) := by omega
  obtain ⟨q, hq⟩ : ∃ q, j - i - 1 = q := ⟨_, rfl⟩
  rw [hq] at h5 e2 e3
  have e4 : (q : Int) < (m : Int) := by omega
  clear hcs hcs' hl hat hT hm h h4 hq
  go_enter Try.func21, Try.ntmps21
  go_wp2
  go_ret
  exact ⟨rfl, rfl⟩

set_option maxRecDepth 100000 in
set_option maxHeartbeats 2000000 in
theorem broots_bad (A A' : Option Addr) (n c n' c' : Nat) (w : World) (hits gaps : List Int) (h : IS w A n c hits) (hn : n ≤ 9223372036854775807) (h' : IS w A' n' c' gaps) (hn' : n' ≤ 9223372036854775807) (hbad : chkB hits gaps ≠ 0) :
    Calls Try.prog 5 #[.slice A n c, .slice A' n' c'] w (YesB w) := by
  obtain ⟨E, hE⟩ : ∃ E, chkB hits gaps = E := ⟨_, rfl⟩
  rw [hE] at hbad
  have HR := Lib.hid (Roots_bad A A' n c n' c' hits gaps w h h' hn hn' E hE hbad)
  have hb1 : (E != 0) = true := by simpa using hbad
  clear h h' hE hbad
  obtain ⟨o1, HO1⟩ : ∃ o1, Hid (o1 = Obj.cells #[.slice none 0 0] 29) := ⟨_, Lib.hid rfl⟩
  go_enter Try.func5, Try.ntmps5
  go_wp2_with fail
  refine HR.out.mono ?_
  rintro e w1 ⟨rfl, rfl⟩
  go_wp2_with fail
  rw [← HO1.out]
  have hb0 : Below w.heap.size w (w.alloc o1) := (Below.refl _ _).alloc (Nat.le_refl _) _
  have hc0 : (w.alloc o1).cell? ⟨w.heap.size, 0, none⟩ = some (.slice none 0 0) := by rw [HO1.out]; exact cell_of_row _ _ _ _ _ _ (heap_alloc_new w _)
  have hz0 : w.heap.size < (w.alloc o1).heap.size := by simp
  have HB0 := Lib.hid hb0
  have HC0 := Lib.hid hc0
  clear hb0 hc0
  generalize w.alloc o1 = w2 at *
  refine (bestLives_any w2).mono ?_
  rintro e w3 ⟨rfl, hb3⟩
  have HC3 := Lib.hid ((hb3.cell (by exact hz0)).trans HC0.out)
  have HB3 := Lib.hid (below_next HB0.out hb3)
  have hz3 : w.heap.size < w3.heap.size := Nat.lt_of_lt_of_le hz0 hb3.size
  clear hb3
  go_wp2_with fail
  refine (bestLives_any w3).mono ?_
  rintro e w4 ⟨rfl, hb4⟩
  have hc4 := (hb4.cell (by exact hz3)).trans HC3.out
  have HB4 := Lib.hid (below_next HB3.out hb4)
  clear hb4
  go_wp2
  go_ret
  exact ⟨rfl, HB4.out⟩

set_option maxRecDepth 100000 in
set_option maxHeartbeats 4000000 in
theorem broots_ok (A A' : Option Addr) (n c c' : Nat) (w : World) (hits gaps : List Int) (h : IS w A n c hits) (h' : IS w A' (n + 1) c' gaps) (hI : InB hits gaps n) :
    Calls Try.prog 5 #[.slice A n c, .slice A' (n + 1) c'] w (YesB w) := by
  have HR := Lib.hid (Roots_ok A A' n c c' hits gaps w h h' hI)
  have hn := hI.n20
  have HO : Hid (OptC (wij hits gaps) (lc (wij hits gaps)) n) := lc_opt n (fun x hx => (hI.hh x hx).1) (fun x hx => (hI.hg x hx).1)
  have HK1 : Hid (∀ i j, i + 1 < j → j ≤ n → tp (lc (wij hits gaps)) i (j - 1) ≤ tp (lc (wij hits gaps)) i j) := fun i j h1 h2 =>
    HO.out.right (j := j - 1) (lc_top _ (by omega)) (by rw [show j - 1 + 1 = j by omega]; exact lc_top _ (by omega)) (by omega)
  have HK2 : Hid (∀ i j, i + 1 < j → j ≤ n → tp (lc (wij hits gaps)) i j ≤ tp (lc (wij hits gaps)) (i + 1) j) := fun i j h1 h2 =>
    HO.out.left (lc_top _ (by omega)) (lc_top _ h1) h2
  clear h h' hI HO
  generalize wij hits gaps = W at *
  go_enter Try.func5, Try.ntmps5
  go_wp2_with fail
  refine HR.out.mono ?_
  rintro e w1 ⟨A1, c1, rfl, hrq, hb1⟩
  have HB1 := Lib.hid hb1
  have HRQ := Lib.hid hrq
  clear hb1 hrq
  obtain ⟨o1, HO1⟩ : ∃ o1, Hid (o1 = Obj.cells #[.slice A1 n c1] 29) := ⟨_, Lib.hid rfl⟩
  go_wp2_with fail
  rw [← HO1.out]
  have hb0 : Below w.heap.size w (w1.alloc o1) := HB1.out.alloc HB1.out.size _
  have hc0 : (w1.alloc o1).cell? ⟨w1.heap.size, 0, none⟩ = some (.slice A1 n c1) := by rw [HO1.out]; exact cell_of_row _ _ _ _ _ _ (heap_alloc_new w1 _)
  have hr0 : RQ (w1.alloc o1) A1 n c1 (rowB W n) := HRQ.out.below ((Below.refl _ _).alloc (Nat.le_refl _) _)
  have hz0 : w1.heap.size < (w1.alloc o1).heap.size := by simp
  have HB0 := Lib.hid hb0
  have HC0 := Lib.hid hc0
  have HR0 := Lib.hid hr0
  clear hb0 hc0 hr0
  generalize w1.alloc o1 = w2 at *
  refine (bestLives_any w2).mono ?_
  rintro e w3 ⟨rfl, hb3⟩
  have hc3 := (hb3.cell (by exact hz0)).trans HC0.out
  have HC3 := Lib.hid hc3
  have HR3 := Lib.hid (HR0.out.below hb3)
  have HB3 := Lib.hid (below_next HB0.out hb3)
  clear hb3
  have HTC : Hid (∀ i j : Nat, i < j → j ≤ n → Calls Try.prog 21 #[I i, I j, .pointer (some ⟨w1.heap.size, 0, none⟩)] w3 fun e w' => e = .returned (I (tp (lc W) i j)) ∧ w3 = w') := fun i j h1 h2 =>
    topC_any W _ n c1 i j A1 w3 HC3.out HR3.out h1 h2 hn
  have h00 : ((0 : Int) != 0) = false := rfl
  have hnn : ((n : Int) != (n : Int)) = false := by simp
  go_wp2
  go_loopw [37] (fun i wr => ∃ k : Nat, k ≤ n ∧ i = .int .i64 k ∧ wr = w3) (fun i _ => n - (intOf i).toNat)
  case atStart => exact ⟨0, Nat.zero_le _, rfl, rfl⟩
  case round =>
    obtain ⟨k, hk, rfl, rfl⟩ := hrel
    by_cases hlt : k < n
    · obtain ⟨b, rfl, hb, hcs⟩ := HR3.out.at_ (by omega)
      obtain ⟨A2, c2, h3, _⟩ := hcs k hlt
      rw [rowB_length] at h3
      obtain ⟨m, hm⟩ : ∃ m, n - k = m := ⟨_, rfl⟩
      rw [hm] at h3
      have e1 : IntKind.i64.wrap ((n : Int) - (k : Int)) = (m : Int) := by rw [IntWalk.i64_in _ (by omega)]; omega
      have hmm : ((m : Int) != (m : Int)) = false := by simp
      have hmm2 : ((m : Int) != (n : Int) - (k : Int)) = false := by simp; omega
      have e2 : IntKind.i64.wrap ((k : Int) + 2) = (k : Int) + 2 := IntWalk.i64_in _ (by omega)
      have hkn : (k : Int) < (n : Int) := by omega
      clear hcs hm
      go_wp2
      go_loopw [10] (fun i wx => ∃ j : Nat, k + 2 ≤ j ∧ j ≤ n + 1 ∧ i = .int .i64 j ∧ wx = wr) (fun i _ => n + 1 - (intOf i).toNat)
      case atStart => exact ⟨k + 2, by omega, by omega, by go_num, rfl⟩
      case round =>
        obtain ⟨j, hj1, hj2, rfl, rfl⟩ := hrel
        by_cases hjn : j ≤ n
        · have HC1 := HTC.out k (j - 1) (by omega) (by omega)
          have HC2 := Lib.hid (HTC.out k j (by omega) hjn)
          have HC4 := HTC.out (k + 1) j (by omega) hjn
          rw [show ((j - 1 : Nat) : Int) = (j : Int) - 1 by omega] at HC1
          rw [show ((k + 1 : Nat) : Int) = (k : Int) + 1 by omega] at HC4
          have HC1 := Lib.hid HC1
          have HC4 := Lib.hid HC4
          have l1 := HK1.out k j (by omega) hjn
          have l2 := HK2.out k j (by omega) hjn
          generalize tp (lc W) k (j - 1) = t1 at *
          generalize tp (lc W) k j = t2 at *
          generalize tp (lc W) (k + 1) j = t3 at *
          have n1 : ¬ ((t2 : Int) < (t1 : Int)) := by omega
          have n2 : ¬ ((t3 : Int) < (t2 : Int)) := by omega
          have f1 : IntKind.i64.wrap ((j : Int) - 1) = (j : Int) - 1 := IntWalk.i64_in _ (by omega)
          have f2 : IntKind.i64.wrap ((k : Int) + 1) = (k : Int) + 1 := IntWalk.i64_in _ (by omega)
          have f3 : (k : Int) + 1 < (j : Int) := by omega
          go_wp2_with fail
          refine HC1.out.mono ?_
          rintro e wa ⟨rfl, rfl⟩
          go_wp2_with fail
          refine HC2.out.mono ?_
          rintro e wa ⟨rfl, rfl⟩
          go_wp2_with fail
          refine HC2.out.mono ?_
          rintro e wa ⟨rfl, rfl⟩
          go_wp2_with fail
          refine HC4.out.mono ?_
          rintro e wa ⟨rfl, rfl⟩
          go_wp2
          go_roundw
          case rel => exact ⟨j + 1, by omega, by omega, by go_num, by first | trivial | rfl⟩
          case measure => simp [intOf]; omega
        · obtain rfl : j = n + 1 := by omega
          have hz9 : ¬ ((n : Int) + 1 ≤ (n : Int)) := by omega
          go_wp2
          go_roundw
          case rel => exact ⟨k + 1, by omega, by go_num, by first | trivial | rfl⟩
          case measure => first | (simp [intOf]; done) | (simp [intOf]; omega)
    · go_wp2
      go_ret
      exact ⟨rfl, HB3.out⟩

theorem brootsA_any (A : Option Addr) (n c : Nat) (hits : List Int) (A' : Option Addr) (n' c' : Nat) (gaps : List Int) (w : World) (h : IS w A n c hits) (hn : n ≤ 9223372036854775807) (h' : IS w A' n' c' gaps) (hn' : n' ≤ 9223372036854775807) :
    Calls Try.prog 5 #[.slice A n c, .slice A' n' c'] w (YesB w) := by
  by_cases hc : chkB hits gaps = 0
  · have hI := chkB_ok hc
    have e1 := h.len
    have e2 := h'.len
    have e3 := hI.g
    rw [e1] at hI e3
    obtain rfl : n' = n + 1 := by omega
    exact broots_ok A A' n c c' w hits gaps h h' hI
  · exact broots_bad A A' n c n' c' w hits gaps h hn h' hn' hc

end Go.Proofs.Ytconegligedniaa
