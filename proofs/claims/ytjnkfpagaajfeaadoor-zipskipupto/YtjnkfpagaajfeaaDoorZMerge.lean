/-
  package zip: isBehind, Merge.
-/
import Derived.Test.YtjnkfpagaajfeaaDoorZZip
import Derived.Test.YtjnkfpagaajfeaaDoorSChk
import Derived.BigQuiet
import Derived.Deep.QuietTactic
namespace Go.Proofs.YtjnkfpagaajfeaaDoor
open Go.RowKit

set_option maxRecDepth 100000 in
set_option maxHeartbeats 2000000 in
theorem zisBehind_t (A A' : Option Addr) (n c m c' : Nat) (a b : PL) (w : World) (h : PS w A n c a) (h' : PS w A' m c' b) (hn : n ≤ 1000) (hm : m ≤ 1000) (hB : 0 < n → 0 < m → ky a (n - 1) < ky b 0) :
    Calls Tryd.prog 39 #[.slice A n c, .slice A' m c'] w fun e w' => e = .returned (.bool true) ∧ Below w.heap.size w w' := by
  rcases Nat.eq_zero_or_pos n with h0 | h0
  · subst h0
    clear h h' hB
    go_enter Tryd.func39, Tryd.ntmps39
    go_wp2
    go_quiet (fail)
    go_wp2
    go_ret
    exact ⟨rfl, below_drewN (Below.refl _ _) _⟩
  · have hn0 : ((n : Int) == 0) = false := by simp; omega
    rcases Nat.eq_zero_or_pos m with h1 | h1
    · subst h1
      clear h h' hB
      go_enter Tryd.func39, Tryd.ntmps39
      go_wp2
      go_quiet (fail)
      go_wp2
      go_ret
      exact ⟨rfl, below_drewN (Below.refl _ _) _⟩
    · have hm0 : ((m : Int) == 0) = false := by simp; omega
      obtain ⟨b1, o1, rfl, hb1, hc1⟩ := h.dat h0
      obtain ⟨b2, o2, rfl, hb2, hc2⟩ := h'.dat h1
      have hx : w.cell? ⟨b1, o1 + (n - 1) * 2, none⟩ = some (I (ky a (n - 1))) := (hc1 (n - 1) (by omega)).1
      have hy : w.cell? ⟨b2, o2, none⟩ = some (I (ky b 0)) := by have := (hc2 0 h1).1; simpa using this
      have hxy := hB h0 h1
      have hw : IntKind.i64.wrap ((n : Int) - 1) = (n : Int) - 1 := IntWalk.i64_in _ (by omega)
      have hw0 : (0 : Int) ≤ (n : Int) - 1 := by omega
      have hw1 : ((n : Int) - 1).toNat = n - 1 := by omega
      have hw2 : (n : Int) - 1 < (n : Int) := by omega
      clear h h' hc1 hc2 hB
      generalize ky a (n - 1) = x at *
      generalize ky b 0 = y at *
      go_enter Tryd.func39, Tryd.ntmps39
      go_wp2
      go_quiet (fail)
      go_wp2
      go_ret
      exact ⟨rfl, below_drewN (Below.refl _ _) _⟩

theorem zarr_under : Tryd.prog.underlying 83 = some (.array (Tryd.prog.arrayLen 83) (Tryd.prog.elem 83)) := by kernel_rfl
theorem zarr_len : Tryd.prog.arrayLen 83 = 2 := by kernel_rfl
theorem zarr_elem : Tryd.prog.elem 83 = 23 := by kernel_rfl

set_option maxRecDepth 100000 in
set_option maxHeartbeats 4000000 in
theorem Merge_ok (A A' : Option Addr) (n c m c' : Nat) (a b : PL) (ta tb t : Tr) (w : World) (h : PS w A n c a) (h' : PS w A' m c' b) (hca : chkS a = 0) (hcb : chkS b = 0) (hta : Hp ta (zpl (kys a))) (htb : Hp tb (zpl (kys b))) (hea : a = ta.sp 0) (heb : b = tb.sp 0)
    (hnm : n + m ≤ 200) (hB : 0 < n → 0 < m → ky a (n - 1) < ky b 0) (ht : Hp t (zpl (kys (a ++ b)))) (hT : Tb w) :
    Calls Tryd.prog 20 #[.slice A n c, .slice A' m c'] w fun e w' => ∃ A2 c2, e = .returned (.tuple #[.slice A2 (n + m) c2, I 0]) ∧ PS w' A2 (n + m) c2 (t.sp 0) ∧ Below w.heap.size w w' := by
  have H := Lib.hid h
  have H' := Lib.hid h'
  have HCA := Lib.hid hca
  have HCB := Lib.hid hcb
  have HTA := Lib.hid hta
  have HTB := Lib.hid htb
  have HEA : Hid (decide (a = ta.sp 0) = true) := by show _ = _; simpa using hea
  have HEB : Hid (decide (b = tb.sp 0) = true) := by show _ = _; simpa using heb
  have HBE := Lib.hid hB
  have HP := Lib.hid ht
  have HT := Lib.hid hT
  clear h h' hca hcb hta htb hea heb hB ht hT
  go_enter Tryd.func20, Tryd.ntmps20
  obtain ⟨o, HO⟩ : ∃ o, Hid (o = Obj.cells #[.slice A n c, .slice A' m c'] 83) := ⟨_, Lib.hid rfl⟩
  have hall : ∀ w', (Instr.sliceAt 83 (.pointer (some ⟨w.heap.size, 0, none⟩)) none none none).run Tryd.prog w' = .ok (.slice (some ⟨w.heap.size, 0, none⟩) 2 2) w' := fun w' => by
    rw [run_sliceAt_array_all w' 83 ⟨w.heap.size, 0, none⟩ zarr_under, zarr_len, zarr_elem]
    rfl
  have x0 : ∀ w : World, (Instr.index 83 (.agg #[.slice A n c, .slice A' m c']) (.int .i64 0)).run Tryd.prog w = .ok (.slice A n c) w := fun _ => by kernel_rfl
  have x1 : ∀ w : World, (Instr.index 83 (.agg #[.slice A n c, .slice A' m c']) (.int .i64 1)).run Tryd.prog w = .ok (.slice A' m c') w := fun _ => by kernel_rfl
  have HW0 : Hid (Below w.heap.size w (w.alloc o)) := (Below.refl _ _).alloc (Nat.le_refl _) _
  have HBK : Hid ((w.alloc o).heap[w.heap.size]? = some (.cells #[.slice A n c, .slice A' m c'] 83 (0, 0))) := by
    show _ = _
    rw [HO.out]
    exact heap_alloc_new w _
  have hcb0 : (w.alloc o).cell? ⟨w.heap.size, 0, none⟩ = some (.slice A n c) := by rw [cell_of_row _ _ _ _ _ _ HBK.out]; rfl
  have hcb1 : (w.alloc o).cell? ⟨w.heap.size, 1, none⟩ = some (.slice A' m c') := by rw [cell_of_row _ _ _ _ _ _ HBK.out]; rfl
  have hz0 : (w.alloc o).heap.size = w.heap.size + 1 := by simp
  obtain ⟨W0, hW0⟩ : ∃ W, w.alloc o = W := ⟨_, rfl⟩
  rw [hW0] at HW0 HBK hcb0 hcb1 hz0
  have HWE := Lib.hid hW0
  clear hW0
  go_wp2
  rw [← HO.out, HWE.out]
  go_loopw [16] (fun i wr => ∃ k : Nat, k ≤ 2 ∧ i = .int .i64 k ∧ Below W0.heap.size W0 wr) (fun i _ => 2 - (intOf i).toNat)
  case atStart => exact ⟨0, by omega, rfl, Below.refl _ _⟩
  case round =>
    obtain ⟨k, hk, rfl, hnx⟩ := hrel
    have HNX := Lib.hid hnx
    have hbx := Lib.hid (HW0.out.trans (hnx.mono HW0.out.size))
    clear hnx
    rcases (show k = 0 ∨ k = 1 ∨ ¬ k < 2 by omega) with rfl | rfl | hge
    · have HK := Lib.hid (CheckS_is A n c a wr (H.out.below hbx.out) (by omega) 0 HCA.out)
      go_wp2_with fail
      refine HK.out.mono ?_
      rintro e w1 ⟨rfl, hb1⟩
      have HB1 := Lib.hid (below_next HNX.out hb1)
      clear hb1 HK
      go_wp2
      go_roundw
      case rel => exact ⟨1, by omega, rfl, HB1.out⟩
      case measure => simp [intOf]
    · have HK := Lib.hid (CheckS_is A' m c' b wr (H'.out.below hbx.out) (by omega) 0 HCB.out)
      go_wp2_with fail
      refine HK.out.mono ?_
      rintro e w1 ⟨rfl, hb1⟩
      have HB1 := Lib.hid (below_next HNX.out hb1)
      clear hb1 HK
      go_wp2
      go_roundw
      case rel => exact ⟨2, by omega, rfl, HB1.out⟩
      case measure => simp [intOf]
    · have d0 : wr.cell? ⟨w.heap.size, 0, none⟩ = some (.slice A n c) := (HNX.out.cell (by show w.heap.size < _; omega)).trans hcb0
      have d1 : wr.cell? ⟨w.heap.size, 1, none⟩ = some (.slice A' m c') := (HNX.out.cell (by show w.heap.size < _; omega)).trans hcb1
      clear hbx
      obtain ⟨W2, HW2⟩ : ∃ W2, Hid (W2 = wr) := ⟨wr, Lib.hid rfl⟩
      rw [← HW2.out] at HNX d0 d1 ⊢
      go_wp2
      go_loopw [26] (fun i wr => ∃ k : Nat, k ≤ 2 ∧ i = .int .i64 k ∧ Below W0.heap.size W0 wr) (fun i _ => 2 - (intOf i).toNat)
      case atStart => exact ⟨0, by omega, rfl, HNX.out⟩
      case round =>
        clear HNX d0 d1 HW2
        obtain ⟨k, hk, rfl, hnx⟩ := hrel
        have HNX := Lib.hid hnx
        have hbx := Lib.hid (HW0.out.trans (hnx.mono HW0.out.size))
        have HTR := Lib.hid (HT.out.next hbx.out)
        clear hnx
        rcases (show k = 0 ∨ k = 1 ∨ ¬ k < 2 by omega) with rfl | rfl | hge
        · have HK := Lib.hid (isZipped_any A n c a ta wr (H.out.below hbx.out) (by omega) HTA.out HTR.out true HEA.out)
          go_wp2_with fail
          refine HK.out.mono ?_
          rintro e w1 ⟨rfl, hb1⟩
          have HB1 := Lib.hid (below_next HNX.out hb1)
          clear hb1 HK
          go_wp2
          go_roundw
          case rel => exact ⟨1, by omega, rfl, HB1.out⟩
          case measure => simp [intOf]
        · have HK := Lib.hid (isZipped_any A' m c' b tb wr (H'.out.below hbx.out) (by omega) HTB.out HTR.out true HEB.out)
          go_wp2_with fail
          refine HK.out.mono ?_
          rintro e w1 ⟨rfl, hb1⟩
          have HB1 := Lib.hid (below_next HNX.out hb1)
          clear hb1 HK
          go_wp2
          go_roundw
          case rel => exact ⟨2, by omega, rfl, HB1.out⟩
          case measure => simp [intOf]
        · have HK := Lib.hid (zisBehind_t A A' n c m c' a b wr (H.out.below hbx.out) (H'.out.below hbx.out) (by omega) (by omega) HBE.out)
          go_wp2_with fail
          refine HK.out.mono ?_
          rintro e w1 ⟨rfl, hb1⟩
          have HB1 := Lib.hid (below_next HNX.out hb1)
          have hb2 : Below w.heap.size w w1 := below_next hbx.out hb1
          have hcat : catL [⟨A, n, c, a⟩, ⟨A', m, c', b⟩] = a ++ b := by simp [catL]
          have hsum : sumN [⟨A, n, c, a⟩, ⟨A', m, c', b⟩] = n + m := by simp [sumN]
          have hrs : RS w1 (some ⟨w.heap.size, 0, none⟩) 2 2 [⟨A, n, c, a⟩, ⟨A', m, c', b⟩] := zrs_two (t := 83) (s1 := ⟨A, n, c, a⟩) (s2 := ⟨A', m, c', b⟩) ((HB1.out.block _ (by omega)).trans HBK.out) (H.out.below hb2) (H'.out.below hb2)
          have hz := zipped_any (some ⟨w.heap.size, 0, none⟩) 2 2 [⟨A, n, c, a⟩, ⟨A', m, c', b⟩] t w1 hrs (by omega) (by rw [hsum]; omega) (by rw [hcat]; exact HP.out) (HT.out.next hb2)
          rw [hsum] at hz
          have HZ := Lib.hid hz
          have HB2 := Lib.hid hb2
          clear hb1 hb2 HK hcat hsum hrs hz
          go_wp2_with fail
          refine HZ.out.mono ?_
          rintro e w3 ⟨A3, c3, rfl, hps3, hb3⟩
          have HPS3 := Lib.hid hps3
          have HB3 := Lib.hid (below_next HB2.out hb3)
          clear hps3 hb3
          go_wp2
          go_ret2
          exact ⟨A3, c3, rfl, HPS3.out, HB3.out⟩
end Go.Proofs.YtjnkfpagaajfeaaDoor
