/-
  hedgref.ReversedStops; the law ZipSkip.
-/
import Derived.Test.YtjnkfpagaajfeaaDoorSlRAll
import Derived.Test.YtjnkfpagaajfeaaDoorZLives
import Derived.Test.YtjnkfpagaajfeaaDoorSParAll
import Derived.Test.YtjnkfpagaajfeaaDoorContAll
import Derived.Test.YtjnkfpagaajfeaaDoorEqTAll
import Derived.Deep.LoopGhost
import Derived.BigQuiet
import Derived.Deep.QuietTactic
namespace Go.Proofs.YtjnkfpagaajfeaaDoor
open Go.RowKit

set_option maxRecDepth 100000 in
set_option maxHeartbeats 1000000 in
theorem RevStops_any (A : Option Addr) (n c : Nat) (l : PL) (w : World) (h : PS w A n c l) (hn : n ≤ 10000) :
    Calls Tryd.prog 27 #[.slice A n c] w (RetZ l.reverse n w) := by
  have H := Lib.hid h
  have HL := Lib.hid h.len
  clear h
  go_enter Tryd.func27, Tryd.ntmps27
  go_wp2
  go_loopw [3, 4] (fun v i wr => ∃ k : Nat, k ≤ n ∧ i = .int .i64 ((k : Int) - 1) ∧ OwnR wr w.heap.size 64 v (l.drop k).reverse ∧ Below w.heap.size w wr) (fun _ i _ => (intOf i + 1).toNat)
  case atStart => exact ⟨n, Nat.le_refl _, rfl, by rw [List.drop_of_length_le (by rw [HL.out]; exact Nat.le_refl _)]; exact World.ownsRow_nil _ _ _ _, Below.refl _ _⟩
  case round =>
    obtain ⟨k, hk, rfl, hown, hnx⟩ := hrel
    by_cases hlt : 0 < k
    · obtain ⟨j, rfl⟩ : ∃ j, k = j + 1 := ⟨k - 1, by omega⟩
      have hji : ((j + 1 : Nat) : Int) - 1 = (j : Int) := by omega
      rw [hji]
      have hjl : j < l.length := by rw [HL.out]; omega
      obtain ⟨b, off, rfl, hbw, hcs⟩ := (H.out.below hnx).at_ (by omega)
      obtain ⟨x, hx⟩ : ∃ x, l[j].1 = x := ⟨_, rfl⟩
      obtain ⟨y, hy⟩ : ∃ y, l[j].2 = y := ⟨_, rfl⟩
      have hc0 : wr.cell? ⟨b, off + j * 2, none⟩ = some (I x) := by rw [← hx]; exact (hcs j (by omega)).1
      have hc1 : wr.cell? ⟨b, off + j * 2 + 1, none⟩ = some (I y) := by rw [← hy]; exact (hcs j (by omega)).2
      have hrt := rev_takeP l j hjl
      have hlj : l[j] = (x, y) := Prod.ext hx hy
      rw [hlj] at hrt
      have HK := Lib.hid hrt
      obtain ⟨xs, hxs⟩ : ∃ xs, (l.drop (j + 1)).reverse = xs := ⟨_, rfl⟩
      have hxl : xs.length ≤ 10000 := by rw [← hxs]; simp; have := HL.out; omega
      rw [hxs] at hown HK
      have HOWN := Lib.hid hown
      have HNX := Lib.hid hnx
      have hz := hnx.size
      clear hcs hx hy hown hnx hxs hji hrt hlj
      go_wp2_with (first
        | (at_builtin
           refine wpList_app2 rfl (.tmp 12) (.tmp 17) 54 rfl 64 Tryd.underlying54 stop_info w.heap.size _ xs [(x, y)] (some ⟨wr.heap.size, 0, none⟩) 1 1 rfl rfl (own_below HOWN.out ((Below.refl _ _).alloc (Nat.le_refl _) _)) (zsrc_one wr x y _) (by omega) (by simp; omega) ?_
           intro v2 w2 hown2 hgrow2 _)
        | fail)
      go_roundw
      case rel =>
        refine ⟨j, by omega, by congr 1, ?_, ?_⟩
        · rw [HK.out]
          exact hown2
        · exact Below.grown (HNX.out.alloc hz _) hgrow2 (by simp; omega) (OwnR.ge HOWN.out)
      case measure => first | (simp [intOf]; done) | (simp [intOf]; omega)
    · obtain rfl : k = 0 := by omega
      rw [List.drop_zero] at hown
      obtain ⟨A', c', rfl, hps, _⟩ := hown.ps
      rw [List.length_reverse, HL.out] at hps ⊢
      have HPS := Lib.hid hps
      have HNX := Lib.hid hnx
      clear hps hnx hown
      go_wp2
      go_ret
      exact ⟨A', c', rfl, HPS.out, HNX.out⟩

theorem zok2_f (E F : Int) (t : Nat) (w : World) (h : E ≠ 0) : Calls Tryd.prog 24 #[.slice (some ⟨w.heap.size, 0, none⟩) 2 2] (w.alloc (.cells #[I E, I F] t)) fun e w' => e = .returned (.bool false) ∧ w' = w.alloc (.cells #[I E, I F] t) := by
  have hne : (E != 0) = true := by simpa using h
  have h0 : (w.alloc (.cells #[I E, I F] t)).cell? ⟨w.heap.size, 0, none⟩ = some (I E) := by simp
  go_enter Tryd.func24, Tryd.ntmps24
  go_wp2
  go_loop [7] (fun i => i = .int .i64 0) (fun i => 2 - (intOf i).toNat)
  case atStart => rfl
  case round =>
    subst hrel
    go_wp2
    go_ret
    exact ⟨rfl, rfl⟩

/-- what Run tells of as many puts -/
theorem zrun_err (A : Option Addr) (n c : Nat) (ks : List Int) (v : Value) (base : Nat) (w : World) (h : OwnO w base v (putsOf ks)) (hn : ks.length ≤ 2000000) (hT : Tb w) :
    Calls Tryd.prog 8 #[v] w fun e w' => ∃ (a b : Value) (F : Int), e = .returned (.tuple #[a, b, I F]) ∧ Below w.heap.size w w' := by
  obtain ⟨A1, c1, rfl, hos⟩ := h.os
  have hl : (putsOf ks).length = ks.length := by simp [putsOf]
  by_cases h3 : (putsOf ks).length ≤ 300
  · obtain ⟨t, ht'⟩ := hp_has _ (zpl (kys (runR (putsOf ks)).1)) (Nat.le_refl _)
    refine (RunZ_any A1 _ c1 (putsOf ks) t _ w hos h3 rfl (zrunR_200 _) ht' hT).mono ?_
    rintro e w' ⟨A2, c2, A3, n3, c3, rfl, _, _, hb⟩
    exact ⟨_, _, 0, rfl, hb⟩
  · refine (RunZ_large A1 _ c1 w (by omega) (by omega)).mono ?_
    rintro e w' ⟨rfl, hb⟩
    exact ⟨_, _, 2, rfl, hb⟩

set_option maxRecDepth 100000 in
set_option maxHeartbeats 2000000 in
theorem zskip_bad (A : Option Addr) (n c : Nat) (ks : List Int) (key E : Int) (w : World) (h : IS w A n c ks) (hn : n ≤ 2000000) (hE : E ≠ 0) (hT : Tb w)
    (HC : Hid (Calls Tryd.prog 22 #[.slice A n c, I key] w fun e w' => e = .returned (.tuple #[.slice none 0 0, I E]) ∧ Below w.heap.size w w')) :
    Calls Tryd.prog 6 #[.slice A n c, I key] w fun e w' => e = .returned (.bool true) ∧ Below w.heap.size w w' := by
  have H := Lib.hid h
  have HL := Lib.hid h.len
  have HT := Lib.hid hT
  have HE := Lib.hid hE
  clear h hT hE
  go_enter Tryd.func6, Tryd.ntmps6
  go_wp2_with fail
  refine HC.out.mono ?_
  rintro e w1 ⟨rfl, hb1⟩
  have HB1 := Lib.hid hb1
  have HT1 := Lib.hid (HT.out.next hb1)
  have HPA := Lib.hid (putAll_any A n c ks w1 (H.out.below hb1) hn)
  clear hb1 HC
  go_wp2_with fail
  refine HPA.out.mono ?_
  rintro e w2 ⟨v2, rfl, ho2, hb2⟩
  have HB2 := Lib.hid (below_next HB1.out hb2)
  have HT2 := Lib.hid (HT1.out.next hb2)
  have HR2 := Lib.hid (zrun_err A n c ks v2 _ w2 ho2 (by rw [HL.out]; exact hn) HT2.out)
  clear ho2 hb2 HPA HB1 HT1
  go_wp2_with fail
  refine HR2.out.mono ?_
  rintro e w3 ⟨va, vb, F, rfl, hb3⟩
  have HB3 := Lib.hid (below_next HB2.out hb3)
  have HT3 := Lib.hid (HT2.out.next hb3)
  clear hb3 HR2 HB2 HT2
  go_wp2_with fail
  refine (zipLives_any w3 HT3.out).mono ?_
  rintro e w4 ⟨rfl, hb4⟩
  have HB4 := Lib.hid (below_next HB3.out hb4)
  have HT4 := Lib.hid (HT3.out.next hb4)
  clear hb4 HB3 HT3
  go_wp2_with fail
  refine (zok2_f E F _ w4 HE.out).mono ?_
  rintro e w5 ⟨rfl, rfl⟩
  obtain ⟨w5, hw5⟩ : ∃ W, w4.alloc (Obj.cells #[I E, I F] 25) = W := ⟨_, rfl⟩
  have hbx : Below w4.heap.size w4 w5 := by rw [← hw5]; exact (Below.refl _ _).alloc (Nat.le_refl _) _
  rw [hw5]
  have HB5 := Lib.hid (below_next HB4.out hbx)
  have HT5 := Lib.hid (HT4.out.next hbx)
  clear hbx hw5 HB4 HT4
  go_wp2_with fail
  refine (zipLives_any w5 HT5.out).mono ?_
  rintro e w6 ⟨rfl, hb6⟩
  have HB6 := Lib.hid (below_next HB5.out hb6)
  clear hb6
  go_wp2
  go_ret
  exact ⟨rfl, HB6.out⟩

end Go.Proofs.YtjnkfpagaajfeaaDoor
