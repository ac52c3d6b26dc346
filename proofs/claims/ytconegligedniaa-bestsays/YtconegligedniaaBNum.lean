/-
  best.Tree, by its numbers alone; the law BestTurned.
-/
import Derived.Test.YtconegligedniaaBLives
import Derived.Maps.AppendAt
namespace Go.Proofs.Ytconegligedniaa
open Go.RowKit

/-- what Tree tells of the cost -/
def trC (hits gaps : List Int) : Int := if chkB hits gaps = 0 then lc (wij hits gaps) 0 hits.length else 0
/-- a slice, a number, an error -/
def RetN (x E : Int) (w : World) (e : Ending) (w' : World) : Prop := ∃ A m c, e = .returned (.tuple #[.slice A m c, I x, I E]) ∧ (E ≠ 0 → m = 0) ∧ Below w.heap.size w w'
theorem TreeB_num (A A' : Option Addr) (n c n' c' : Nat) (hits gaps : List Int) (w : World) (h : IS w A n c hits) (h' : IS w A' n' c' gaps) (hn : n ≤ 9223372036854775807) (hn' : n' ≤ 9223372036854775807) :
    Calls Try.prog 9 #[.slice A n c, .slice A' n' c'] w (RetN (trC hits gaps) (chkB hits gaps) w) := by
  by_cases hc : chkB hits gaps = 0
  · have hI := chkB_ok hc
    have e1 := h.len
    have e2 := h'.len
    have e3 := hI.g
    rw [e1] at hI e3
    obtain rfl : n' = n + 1 := by omega
    refine (TreeB_ok A A' n c c' hits gaps w h h' hI).mono fun e w' hr => ?_
    obtain ⟨A2, c2, he, hp, hb⟩ := hr
    refine ⟨A2, n, c2, ?_, fun hne => absurd hc hne, hb⟩
    rw [he, hc, show trC hits gaps = lc (wij hits gaps) 0 n by unfold trC; rw [if_pos hc, e1]]
  · refine (TreeB_bad A A' n c n' c' hits gaps w h h' hn hn' _ rfl hc).mono fun e w' hr => ?_
    obtain ⟨he, rfl⟩ := hr
    refine ⟨none, 0, 0, ?_, fun _ => rfl, Below.refl _ _⟩
    rw [he, show trC hits gaps = 0 by unfold trC; rw [if_neg hc]]
theorem trC_bd (hits gaps : List Int) : 0 ≤ trC hits gaps ∧ trC hits gaps ≤ 1000000 := by
  unfold trC
  split
  · rename_i hc
    have hI := chkB_ok hc
    have := lc_bd (wij hits gaps) hits.length (fun i j _ h2 => wij_bd hI.hh hI.hg i j (by have := hI.n20; omega)) 20 0 hits.length (by have := hI.n20; omega) (Nat.le_refl _)
    omega
  · omega
theorem chkB_le (hits gaps : List Int) : 0 ≤ chkB hits gaps ∧ chkB hits gaps ≤ 3 := by
  unfold chkB
  split
  · omega
  · split
    · omega
    · split <;> omega
/-! the other way round -/
theorem chkB_rev (hits gaps : List Int) : chkB hits.reverse gaps.reverse = chkB hits gaps := by
  unfold chkB
  simp
theorem trC_rev (hits gaps : List Int) : trC hits.reverse gaps.reverse = trC hits gaps := by
  unfold trC
  rw [chkB_rev, List.length_reverse]
  split
  · rename_i hc
    have hI := chkB_ok hc
    have h1 := (lc_min (wij hits gaps) hits.length).turned
    have h2 := lc_min (wij hits.reverse gaps.reverse) hits.length
    have := h2.same h1 (fun i j hij hj => by
      have := wij_turned hI.h hI.g (j - i) i (by omega)
      rw [show i + (j - i) = j by omega] at this
      exact this) 0 hits.length (Nat.zero_le _) (Nat.le_refl _)
    rw [this]
    show lc (wij hits gaps) (hits.length - hits.length) (hits.length - 0) = _
    rw [Nat.sub_self, Nat.sub_zero]
  · rfl

theorem brev_take (l : List Int) (k : Nat) (h : k < l.length) : (l.drop k).reverse = (l.drop (k + 1)).reverse ++ [l[k]] := by
  rw [List.drop_eq_getElem_cons h, List.reverse_cons]
/-- numbers in memory that was not there ahead of the call -/
def RetIB (L : List Int) (w : World) (e : Ending) (w' : World) : Prop := ∃ A c, e = .returned (.slice A L.length c) ∧ IS w' A L.length c L ∧ Below w.heap.size w w'
set_option maxRecDepth 100000 in
set_option maxHeartbeats 1000000 in
theorem RevB_any (A : Option Addr) (n c : Nat) (l : List Int) (w : World) (h : IS w A n c l) (hn : n * 8 ≤ 140737488355328) :
    Calls Try.prog 23 #[.slice A n c] w (RetIB l.reverse w) := by
  have H := Lib.hid h
  have HL := Lib.hid h.len
  clear h
  obtain ⟨i0, hi, hz0, hz1, hz2⟩ := info_parts int_info
  have HI := Lib.hid hi
  have HZ0 := Lib.hid hz0
  have HZ1 := Lib.hid hz1
  have HZ2 := Lib.hid hz2
  clear hi hz0 hz1 hz2
  go_enter Try.func23, Try.ntmps23
  go_wp2
  go_loopw [3, 4] (fun v i wr => ∃ k : Nat, k ≤ n ∧ i = .int .i64 ((k : Int) - 1) ∧ OwnI wr w.heap.size v (l.drop k).reverse ∧ Below w.heap.size w wr) (fun _ i _ => (intOf i + 1).toNat)
  case atStart => exact ⟨n, Nat.le_refl _, rfl, by rw [List.drop_of_length_le (by rw [HL.out]; exact Nat.le_refl _)]; exact World.ownsRow_nil _ _ _ _, Below.refl _ _⟩
  case round =>
    obtain ⟨k, hk, rfl, hown, hnx⟩ := hrel
    by_cases hlt : 0 < k
    · obtain ⟨j, rfl⟩ : ∃ j, k = j + 1 := ⟨k - 1, by omega⟩
      have hji : ((j + 1 : Nat) : Int) - 1 = (j : Int) := by omega
      rw [hji]
      have hjl : j < l.length := by rw [HL.out]; omega
      obtain ⟨b, off, rfl, hbw, hc⟩ := H.out.at_ (by omega)
      obtain ⟨x, hx⟩ : ∃ x, l[j] = x := ⟨_, rfl⟩
      have hc0 : wr.cell? ⟨b, off + j, none⟩ = some (I x) := by rw [← hx]; exact (hnx.cell (by exact hbw)).trans (hc j (by omega))
      have HK := Lib.hid (brev_take l j hjl)
      rw [hx] at HK
      obtain ⟨xs, hxs⟩ : ∃ xs, (l.drop (j + 1)).reverse = xs := ⟨_, rfl⟩
      have hxl : xs.length + 1 ≤ n := by rw [← hxs]; simp; have := HL.out; omega
      rw [hxs] at hown HK
      have HOWN := Lib.hid hown
      have HNX := Lib.hid hnx
      have hz := hnx.size
      clear hc hx hown hnx hxs hji
      go_wp2_with (first
        | (at_builtin
           refine wpList_append_own_at _ rfl (.tmp 12) (.tmp 17) 23 rfl w.heap.size 3 i0 _ 1 8 Try.underlying23 HI.out HZ0.out HZ1.out HZ2.out rfl (by omega) _ xs.length (xs.map I) rfl (own_below HOWN.out ((Below.refl _ _).alloc (Nat.le_refl _) _)) ⟨wr.heap.size, 0, none⟩ 1 1 [I x] rfl rfl (cell_one_new _ _ _) (one_I x) (by unfold maxLen; omega) (by omega) (by simp; omega) ?_
           intro v2 w2 hown2 hgrow2 _ hat2)
        | fail)
      go_roundw
      case rel =>
        refine ⟨j, by omega, by congr 1, ?_, ?_⟩
        · rw [HK.out]
          unfold OwnI
          simpa using hown2
        · exact Below.grown (HNX.out.alloc hz _) hgrow2 (by simp; omega) (own_ge1 HOWN.out)
      case measure => first | (simp [intOf]; done) | (simp [intOf]; omega)
    · obtain rfl : k = 0 := by omega
      have h0 : (((0 : Nat) : Int) - 1) = -1 := rfl
      rw [h0]
      rw [List.drop_zero] at hown
      obtain ⟨A2, c2, rfl, his, _⟩ := hown.is_
      have HIS := Lib.hid his
      have HNX := Lib.hid hnx
      clear hown his hnx h0
      go_wp2
      go_ret
      exact ⟨A2, c2, rfl, HIS.out, HNX.out⟩

/-- yes, and nothing has turned -/
def YesB (w : World) (e : Ending) (w' : World) : Prop := e = .returned (.bool true) ∧ Below w.heap.size w w'

set_option maxRecDepth 100000 in
set_option maxHeartbeats 4000000 in
theorem bturned_any (A A' : Option Addr) (n c n' c' : Nat) (w : World) (hits gaps : List Int) (h : IS w A n c hits) (hn : n ≤ 9223372036854775807) (h' : IS w A' n' c' gaps) (hn' : n' ≤ 9223372036854775807) (h8 : n * 8 ≤ 140737488355328) (h8' : n' * 8 ≤ 140737488355328) :
    Calls Try.prog 7 #[.slice A n c, .slice A' n' c'] w (YesB w) := by
  have HT := Lib.hid (TreeB_num A A' n c n' c' hits gaps w h h' hn hn')
  have HT2 : Hid (∀ W A1 A2 c1 c2, IS W A1 n c1 hits.reverse → IS W A2 n' c2 gaps.reverse → Calls Try.prog 9 #[.slice A1 n c1, .slice A2 n' c2] W (RetN (trC hits gaps) (chkB hits gaps) W)) := fun W A1 A2 c1 c2 h1 h2 => by
    have := TreeB_num A1 A2 n c1 n' c2 _ _ W h1 h2 hn hn'
    rw [trC_rev, chkB_rev] at this
    exact this
  have H := Lib.hid h
  have H' := Lib.hid h'
  have e1 : hits.reverse.length = n := by rw [List.length_reverse]; exact h.len
  have e2 : gaps.reverse.length = n' := by rw [List.length_reverse]; exact h'.len
  have HE1 := Lib.hid e1
  have HE2 := Lib.hid e2
  clear h h' e1 e2
  have hx := trC_bd hits gaps
  have hE := chkB_le hits gaps
  generalize trC hits gaps = x at *
  generalize chkB hits gaps = E at *
  go_enter Try.func7, Try.ntmps7
  go_wp2_with fail
  refine HT.out.mono ?_
  rintro e w1 ⟨A1, m1, c1, rfl, _, hb1⟩
  have HB1 := Lib.hid hb1
  clear hb1
  go_wp2_with fail
  refine (RevB_any A n c hits w1 (H.out.below HB1.out) h8).mono ?_
  rintro e w2 ⟨A2, c2, rfl, his2, hb2⟩
  rw [HE1.out] at his2 ⊢
  have HB2 := Lib.hid (below_next HB1.out hb2)
  have HI2 := Lib.hid his2
  clear hb2 his2
  go_wp2_with fail
  refine (RevB_any A' n' c' gaps w2 (H'.out.below HB2.out) h8').mono ?_
  rintro e w3 ⟨A3, c3, rfl, his3, hb3⟩
  rw [HE2.out] at his3 ⊢
  have HB3 := Lib.hid (below_next HB2.out hb3)
  have HI3 := Lib.hid his3
  have HI23 := Lib.hid (HI2.out.below hb3)
  clear hb3 his3
  go_wp2_with fail
  refine (HT2.out w3 A2 A3 c2 c3 HI23.out HI3.out).mono ?_
  rintro e w4 ⟨A4, m4, c4, rfl, _, hb4⟩
  have HB4 := Lib.hid (below_next HB3.out hb4)
  clear hb4
  go_wp2_with fail
  refine (bestLives_any w4).mono ?_
  rintro e w5 ⟨rfl, hb5⟩
  have HB5 := Lib.hid (below_next HB4.out hb5)
  clear hb5
  have eb1 : (E == E) = true := by simp
  have eb2 : (x == x) = true := by simp
  go_wp2
  go_ret
  exact ⟨rfl, HB5.out⟩

theorem bturnedA_any (A : Option Addr) (n c : Nat) (hits : List Int) (A' : Option Addr) (n' c' : Nat) (gaps : List Int) (w : World) (h : IS w A n c hits) (hn : n ≤ 9223372036854775807) (h' : IS w A' n' c' gaps) (hn' : n' ≤ 9223372036854775807) (h8 : n * 8 ≤ 140737488355328) (h8' : n' * 8 ≤ 140737488355328) :
    Calls Try.prog 7 #[.slice A n c, .slice A' n' c'] w (YesB w) := bturned_any A A' n c n' c' w hits gaps h hn h' hn' h8 h8'

end Go.Proofs.Ytconegligedniaa
