/-
  hedgkeep.putAll.
-/
import Derived.Test.YtolfpjleckckiaaOpRows
import Derived.Test.YtolfpjleckckiaaKOne0
import Derived.Test.YtolfpjleckckiaaMapK
namespace Go.Proofs.Ytolfpjleckckiaa
open Go.RowKit

set_option maxRecDepth 100000 in
set_option maxHeartbeats 1000000 in
theorem putAll_any (A : Option Addr) (n c : Nat) (ks : List Int) (w : World) (h : IS w A n c ks) (hn : n ≤ 2000000) :
    Calls Try.prog 21 #[.slice A n c] w fun e w' => ∃ v, e = .returned v ∧ OwnO w' w.heap.size v (putsOf ks) ∧ Below w.heap.size w w' := by
  have H := Lib.hid h
  have HL := Lib.hid h.len
  clear h
  obtain ⟨i0, hi, hz0, hz1, hz2⟩ := info_parts op_info
  have HI := Lib.hid hi
  have HZ0 := Lib.hid hz0
  have HZ1 := Lib.hid hz1
  have HZ2 := Lib.hid hz2
  clear hi hz0 hz1 hz2
  go_enter Try.func21, Try.ntmps21
  go_wp2
  go_loopw [3, 8] (fun v i wr => ∃ k : Nat, k ≤ n ∧ i = .int .i64 k ∧ OwnO wr w.heap.size v (putsOf (ks.take k)) ∧ Below w.heap.size w wr) (fun _ i _ => n - (intOf i).toNat)
  case atStart => exact ⟨0, Nat.zero_le _, rfl, World.ownsRow_nil _ _ _ _, Below.refl _ _⟩
  case round =>
    obtain ⟨k, hk, rfl, hown, hnx⟩ := hrel
    by_cases hlt : k < n
    · have hkl : k < ks.length := by rw [HL.out]; exact hlt
      obtain ⟨b, off, rfl, hbw, hc⟩ := (H.out.below hnx).cell_at hlt
      obtain ⟨x, hx⟩ : ∃ x, ks[k] = x := ⟨_, rfl⟩
      rw [hx] at hc
      have HCT : Hid (putsOf (ks.take (k + 1)) = putsOf (ks.take k) ++ [(1, x, 0)]) := by
        show _ = _
        rw [List.take_succ_eq_append_getElem hkl, hx]
        simp [putsOf]
      obtain ⟨xs, hxs⟩ : ∃ xs, putsOf (ks.take k) = xs := ⟨_, rfl⟩
      have hxl : xs.length ≤ 2000000 := by rw [← hxs]; simp [putsOf]; omega
      rw [hxs] at hown HCT
      have HOWN := Lib.hid hown
      have HNX := Lib.hid hnx
      have hzi := hnx.size
      clear hx hown hnx hxs
      go_wp2_with (first
        | (at_builtin
           refine wpList_append_own_at _ rfl (.tmp 12) (.tmp 15) 22 rfl w.heap.size 39 i0 _ 3 24 Try.underlying22 HI.out HZ0.out HZ1.out HZ2.out rfl (by omega) _ xs.length (flatO xs) rfl (own_below HOWN.out ((Below.refl _ _).alloc (Nat.le_refl _) _)) ⟨wr.heap.size, 0, none⟩ 1 1 [I 1, I x, I 0] rfl rfl (three_new _ 1 x 0 _) (three_one 1 x 0) (by unfold maxLen; omega) (by omega) (by simp; omega) ?_
           intro v2 w9 hown2 hgrow2 _ hat2)
        | fail)
      go_roundw
      case rel =>
        refine ⟨k + 1, by omega, by go_num, ?_, ?_⟩
        · rw [HCT.out]
          unfold OwnO
          rw [flatO_append, List.length_append, List.length_singleton]
          exact hown2
        · exact Below.grown (HNX.out.alloc hzi _) hgrow2 (by simp; omega) (own_ge1 HOWN.out)
      case measure => simp [intOf]; omega
    · rw [List.take_of_length_le (by rw [HL.out]; omega)] at hown
      have HOWN := Lib.hid hown
      have HNX := Lib.hid hnx
      clear hown hnx
      go_wp2
      go_ret
      exact ⟨u3, rfl, HOWN.out, HNX.out⟩

end Go.Proofs.Ytolfpjleckckiaa
