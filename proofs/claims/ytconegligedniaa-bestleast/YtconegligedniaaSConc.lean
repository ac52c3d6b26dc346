/-
  slices.Grow at nil, slices.Concat of three lists of spots.
-/
import Derived.Test.YtconegligedniaaSTurn2
import Derived.Lib.AppendZeros
import Derived.Test.YtconegligedniaaSlR
import Derived.Test.YtconegligedniaaSOf
namespace Go.Proofs.Ytconegligedniaa
open Go.RowKit

set_option maxRecDepth 100000 in
set_option maxHeartbeats 1000000 in
theorem Grow_any (n : Nat) (w : World) (h0 : 0 < n) (hn : n ≤ 1000) :
    Calls Try.prog 48 #[.slice none 0 0, I n] w fun e w' => ∃ v, e = .returned v ∧ OwnR w' w.heap.size 42 v [] ∧ Below w.heap.size w w' := by
  obtain ⟨i0, hi, hz0, hz1, hz2⟩ := info_parts spot_info
  have hrun := fun ty => Lib.run_append_nil_zeros (P := Try.prog) w 22 3 ty 42 i0 _ .i64 .i64 Try.underlying22 Try.underlying3 hi hz0 n h0 (by omega) (by omega) (by rw [hz2]; omega)
  have HRUN := Lib.hid hrun
  have HOWN := Lib.hid (grow_own w 42 n h0 hn)
  have hge := grownCap_ge w n 0 42
  have HB : Hid (∀ o, Below w.heap.size w (w.drew.alloc o)) := fun o => ((Below.refl _ _).drew).alloc (Nat.le_refl _) _
  clear hi hz0 hz1 hz2 hrun
  go_enter Try.func48, Try.ntmps48
  go_wp2_with (at_builtin; refine Lib.wpList_append_run _ rfl (.tmp 20) (.tmp 21) _ _ rfl _ _ rfl rfl _ _ (HRUN.out _) ?_)
  generalize grownCap w n 0 42 = cap at *
  go_wp2
  go_ret
  exact ⟨_, rfl, HOWN.out, HB.out _⟩

set_option maxRecDepth 100000 in
set_option maxHeartbeats 2000000 in
theorem Concat_any (A : Option Addr) (m c : Nat) (es : List Sl) (w : World) (h : RS w A m c es) (hm : m ≤ 1000) (h0 : 0 < sumN es) (h1 : sumN es ≤ 1000) :
    Calls Try.prog 42 #[.slice A m c] w fun e w' => ∃ v, e = .returned v ∧ OwnR w' w.heap.size 42 v (catL es) ∧ Below w.heap.size w w' := by
  have H := Lib.hid h
  have Hlen := Lib.hid h.len
  clear h
  go_enter Try.func42, Try.ntmps42
  go_wp2
  go_loop [3, 11] (fun t i => ∃ k : Nat, k ≤ m ∧ i = .int .i64 k ∧ t = .int .i64 (sumN (es.take k))) (fun _ i => m - (intOf i).toNat)
  case atStart => exact ⟨0, Nat.zero_le _, rfl, rfl⟩
  case round =>
    obtain ⟨k, hk, rfl, rfl⟩ := hrel
    by_cases hlt : k < m
    · obtain ⟨b, off, rfl, hb, hcs⟩ := H.out.at_ (by omega)
      have hkl : k < es.length := by rw [Hlen.out]; exact hlt
      have hc0 : w.cell? ⟨b, off + k, none⟩ = some es[k].val := hcs k hlt
      have hst := sumN_step es k hkl
      have hle := sumN_take es (k + 1)
      have HST := Lib.hid hst
      generalize es[k] = s at *
      have hb1 : sumN (es.take k) + s.n ≤ 1000 := by omega
      clear hst hle hcs
      generalize sumN (es.take k) = x at *
      go_wp2
      go_round
      case rel => exact ⟨k + 1, by omega, by go_num, by rw [HST.out]; go_num⟩
      case measure => simp [intOf]; omega
    · obtain rfl : k = m := by omega
      have ht : es.take k = es := List.take_of_length_le (by rw [Hlen.out]; exact Nat.le_refl _)
      rw [ht]
      clear ht
      obtain ⟨T, hT⟩ : ∃ T, sumN es = T := ⟨_, rfl⟩
      have HG := Lib.hid (Grow_any (sumN es) w h0 h1)
      rw [hT] at HG h0 h1 ⊢
      have HT := Lib.hid hT
      clear hT hlt
      go_wp2_with fail
      refine HG.out.mono ?_
      rintro e w1 ⟨v1, rfl, hown1, hb1⟩
      have HO1 := Lib.hid hown1
      have HB1 := Lib.hid hb1
      clear hown1 hb1
      go_wp2
      go_loopw [6, 27] (fun v i wr => ∃ j : Nat, j ≤ k ∧ i = .int .i64 j ∧ OwnR wr w.heap.size 42 v (catL (es.take j)) ∧ Below w.heap.size w wr) (fun _ i _ => k - (intOf i).toNat)
      case atStart => exact ⟨0, Nat.zero_le _, rfl, HO1.out, HB1.out⟩
      case round =>
        obtain ⟨j, hj, rfl, hown, hnx⟩ := hrel
        by_cases hlt : j < k
        · obtain ⟨b, off, rfl, hb, hcs⟩ := (H.out.below hnx).at_ (by omega)
          have hjl : j < es.length := by rw [Hlen.out]; exact hlt
          have hc0 : wr.cell? ⟨b, off + j, none⟩ = some es[j].val := hcs j hlt
          have hok : es[j].ok wr := (H.out.below hnx).each _ (List.getElem_mem hjl)
          have hst := catL_step es j hjl
          have hsum := sumN_step es j hjl
          have hle := sumN_take es (j + 1)
          have hcl := catL_len (es.take j) wr (fun s hs => (H.out.below hnx).each s (List.mem_of_mem_take hs))
          rw [HT.out] at hle
          have HST := Lib.hid hst
          have HOK := Lib.hid hok
          have HO := Lib.hid hown
          have HNX := Lib.hid hnx
          have hsz := hnx.size
          have hbd : (catL (es.take j)).length + es[j].n ≤ 1000 := by rw [hcl]; omega
          generalize es[j] = s at *
          clear hst hok hown hnx hcs hsum hle hcl
          go_wp2_with (at_builtin; refine wpList_app2 rfl (.tmp 31) (.tmp 32) 22 rfl 42 Try.underlying22 spot_info w.heap.size u6 (catL (es.take j)) s.L s.A s.n s.c rfl rfl HO.out (PS.src HOK.out) (by omega) hsz ?_; intro v2 w2 hown2 hgrow2 _)
          have hb2 : Below w.heap.size w w2 := HNX.out.grown hgrow2 hsz (OwnR.ge HO.out)
          have HB2 := Lib.hid hb2
          have HO2 : Hid (OwnR w2 w.heap.size 42 v2 (catL (es.take (j + 1)))) := by
            show OwnR _ _ _ _ _
            rw [HST.out]
            exact hown2
          clear hown2 hgrow2 hb2
          go_roundw
          case rel => exact ⟨j + 1, by omega, by go_num, HO2.out, HB2.out⟩
          case measure => simp [intOf]; omega
        · have ht : es.take j = es := List.take_of_length_le (by rw [Hlen.out]; omega)
          rw [ht] at hown
          have HO := Lib.hid hown
          have HNX := Lib.hid hnx
          clear hown hnx ht
          go_wp2
          go_ret
          exact ⟨u6, rfl, HO.out, HNX.out⟩

end Go.Proofs.Ytconegligedniaa
