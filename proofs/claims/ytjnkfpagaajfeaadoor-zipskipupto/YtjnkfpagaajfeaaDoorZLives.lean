/-
  putAll, zipLives: two keys, put and parted.
-/
import Derived.Test.YtjnkfpagaajfeaaDoorZRun
import Derived.Test.YtjnkfpagaajfeaaDoorZSplit
import Derived.Test.YtjnkfpagaajfeaaDoorZMerge
import Derived.Test.YtjnkfpagaajfeaaDoorKOne0All
namespace Go.Proofs.YtjnkfpagaajfeaaDoor
open Go.RowKit

set_option maxRecDepth 100000 in
set_option maxHeartbeats 1000000 in
theorem putAll_any (A : Option Addr) (n c : Nat) (ks : List Int) (w : World) (h : IS w A n c ks) (hn : n ≤ 2000000) :
    Calls Tryd.prog 23 #[.slice A n c] w fun e w' => ∃ v, e = .returned v ∧ OwnO w' w.heap.size v (putsOf ks) ∧ Below w.heap.size w w' := by
  have H := Lib.hid h
  have HL := Lib.hid h.len
  clear h
  obtain ⟨i0, hi, hz0, hz1, hz2⟩ := info_parts op_info
  have HI := Lib.hid hi
  have HZ0 := Lib.hid hz0
  have HZ1 := Lib.hid hz1
  have HZ2 := Lib.hid hz2
  clear hi hz0 hz1 hz2
  go_enter Tryd.func23, Tryd.ntmps23
  go_wp2
  go_loopw [3, 8] (fun v i wr => ∃ k : Nat, k ≤ n ∧ i = .int .i64 k ∧ OwnO wr w.heap.size v (putsOf (ks.take k)) ∧ Below w.heap.size w wr) (fun _ i _ => n - (intOf i).toNat)
  case atStart => exact ⟨0, Nat.zero_le _, rfl, World.ownsRow_nil _ _ _ _, Below.refl _ _⟩
  case round =>
    obtain ⟨k, hk, rfl, hown, hnx⟩ := hrel
    by_cases hlt : k < n
    · have hkl : k < ks.length := by rw [HL.out]; exact hlt
      obtain ⟨b, off, rfl, hbw, hc⟩ := (H.out.below hnx).cell_at hlt
      obtain ⟨x, hx⟩ : ∃ x, ks[k] = x := ⟨_, rfl⟩
      rw [hx] at hc
      have HCT : Hid (putsOf (ks.take (k + 1)) = putsOf (ks.take k) ++ [(1, x, 0)]) := by
        show _ = _
        rw [List.take_succ_eq_append_getElem hkl, hx]
        simp [putsOf]
      obtain ⟨xs, hxs⟩ : ∃ xs, putsOf (ks.take k) = xs := ⟨_, rfl⟩
      have hxl : xs.length ≤ 2000000 := by rw [← hxs]; simp [putsOf]; omega
      rw [hxs] at hown HCT
      have HOWN := Lib.hid hown
      have HNX := Lib.hid hnx
      have hzi := hnx.size
      clear hx hown hnx hxs
      go_wp2_with (first
        | (at_builtin
           refine wpList_append_own_at _ rfl (.tmp 12) (.tmp 15) 22 rfl w.heap.size 68 i0 _ 3 24 Tryd.underlying22 HI.out HZ0.out HZ1.out HZ2.out rfl (by omega) _ xs.length (flatO xs) rfl (own_below HOWN.out ((Below.refl _ _).alloc (Nat.le_refl _) _)) ⟨wr.heap.size, 0, none⟩ 1 1 [I 1, I x, I 0] rfl rfl (three_new _ 1 x 0 _) (three_one 1 x 0) (by unfold maxLen; omega) (by omega) (by simp; omega) ?_
           intro v2 w9 hown2 hgrow2 _ hat2)
        | fail)
      go_roundw
      case rel =>
        refine ⟨k + 1, by omega, by go_num, ?_, ?_⟩
        · rw [HCT.out]
          unfold OwnO
          rw [flatO_append, List.length_append, List.length_singleton]
          exact hown2
        · exact Below.grown (HNX.out.alloc hzi _) hgrow2 (by simp; omega) (own_ge1 HOWN.out)
      case measure => simp [intOf]; omega
    · rw [List.take_of_length_le (by rw [HL.out]; omega)] at hown
      have HOWN := Lib.hid hown
      have HNX := Lib.hid hnx
      clear hown hnx
      go_wp2
      go_ret
      exact ⟨u3, rfl, HOWN.out, HNX.out⟩

abbrev zT2 : Tr := .node .nil 0 (.node .nil 5 .nil)
abbrev zT0 : Tr := .node .nil 0 .nil
abbrev zT5 : Tr := .node .nil 5 .nil
theorem zht0 : ht 0 = 12 := by decide
theorem zl_hp2 : Hp zT2 (zpl [0, 5]) := by
  refine ⟨[], (ht 0 : Int), [(5, (ht 5 : Int))], rfl, rfl, ⟨[], (ht 5 : Int), [], rfl, rfl, rfl, by simp, by simp⟩, by simp, ?_⟩
  intro p hp
  simp only [List.mem_cons, List.not_mem_nil, or_false] at hp
  subst hp
  have := ht_le 5
  rw [zht0]
  show (ht 5 : Int) ≤ ((12 : Nat) : Int)
  omega
theorem zl_hp0 : Hp zT0 (zpl [0]) := ⟨[], (ht 0 : Int), [], rfl, rfl, rfl, by simp, by simp⟩
theorem zl_hp5 : Hp zT5 (zpl [5]) := ⟨[], (ht 5 : Int), [], rfl, rfl, rfl, by simp, by simp⟩
theorem zl_run : (runR (putsOf [0, 5])).1 = [(0, 0), (5, 0)] := by decide
theorem zl_chk : chkS [(0, 0), (5, 1)] = 0 := chkS_zero.2 (istree_of (t := zT2) (by simp [Tr.ks, Up]) (by simp [Tr.size]))
theorem zl_chk0 : chkS [(0, 0)] = 0 := chkS_zero.2 (istree_of (t := zT0) (by simp [Tr.ks, Up]) (by simp [Tr.size]))
theorem zl_chk5 : chkS [(5, 0)] = 0 := chkS_zero.2 (istree_of (t := zT5) (by simp [Tr.ks, Up]) (by simp [Tr.size]))
theorem zeqSpot_t (A A' : Option Addr) (n c c' : Nat) (l : PL) (w : World) (h : PS w A n c l) (h' : PS w A' n c' l) (hn : n ≤ 1000000) :
    Calls Tryd.prog 18 #[.slice A n c, .slice A' n c'] w fun e w' => e = .returned (.bool true) ∧ Below w.heap.size w w' := by
  refine (eqSpot_any A A' n n c c' l l w h h' hn hn).mono ?_
  rintro e w' ⟨rfl, hb⟩
  exact ⟨by simp, hb⟩

set_option maxRecDepth 100000 in
set_option maxHeartbeats 4000000 in
theorem zipLives_any (w : World) (hT : Tb w) : Calls Tryd.prog 15 #[] w fun e w' => e = .returned (.bool true) ∧ Below w.heap.size w w' := by
  have HT := Lib.hid hT
  clear hT
  go_enter Tryd.func15, Tryd.ntmps15
  go_wp2_with fail
  refine (putAll_any _ 2 2 [0, 5] _ (is_new w 3 [0, 5]) (by omega)).mono ?_
  rintro e w1 ⟨v1, rfl, ho1, hb1⟩
  obtain ⟨A1, c1, rfl, hos1⟩ := ho1.os
  have HB1 := Lib.hid (gbelow_box hb1)
  have HT1 := Lib.hid (HT.out.next (gbelow_box hb1))
  have HO1 := Lib.hid hos1
  clear ho1 hb1 hos1
  go_wp2_with fail
  refine (RunZ_any A1 2 c1 (putsOf [0, 5]) zT2 2 w1 HO1.out (by omega) (by rw [zl_run]; rfl) (by omega) (by rw [zl_run]; exact zl_hp2) HT1.out).mono ?_
  rintro e w2 ⟨A2, c2, A3, n3, c3, rfl, hps2, has2, hb2⟩
  obtain rfl : n3 = 2 := by rw [← has2.len]; rw [runR_len]; rfl
  have HB2 := Lib.hid (below_next HB1.out hb2)
  have HT2 := Lib.hid (HT1.out.next hb2)
  have HP2 : Hid (PS w2 A2 2 c2 [(0, 0), (5, 1)]) := hps2
  clear hb2 hps2 has2 HO1
  go_wp2_with fail
  refine (Split_ok A2 2 c2 [(0, 0), (5, 1)] zT2 5 w2 HP2.out zl_chk (by omega) zl_hp2 rfl (by omega) (by omega) HT2.out).mono ?_
  rintro e w3 ⟨p, ta, tb, A4, c4, A5, c5, rfl, hp1, hp2, hp3, hta, htb, hpsa, hpsb, hb3⟩
  obtain rfl : p = 1 := by
    rcases (show p = 0 ∨ p = 1 ∨ p = 2 by omega) with rfl | rfl | rfl
    · exact absurd (hp3 (by omega)) (by decide)
    · rfl
    · exact absurd (hp2 1 (by omega)) (by decide)
  obtain rfl : ta = zT0 := hp_uniq hta zl_hp0
  obtain rfl : tb = zT5 := hp_uniq htb zl_hp5
  have HB3 := Lib.hid (below_next HB2.out hb3)
  have HT3 := Lib.hid (HT2.out.next hb3)
  have HP3 := Lib.hid (HP2.out.below hb3)
  have HX3 : Hid (PS w3 A4 1 c4 [(0, 0)]) := hpsa
  have HY3 : Hid (PS w3 A5 1 c5 [(5, 0)]) := hpsb
  clear hp1 hp2 hp3 hta htb hpsa hpsb hb3 HP2
  go_wp2_with fail
  refine (Merge_ok A4 A5 1 c4 1 c5 [(0, 0)] [(5, 0)] zT0 zT5 zT2 w3 HX3.out HY3.out zl_chk0 zl_chk5 zl_hp0 zl_hp5 rfl rfl (by omega) (by decide) zl_hp2 HT3.out).mono ?_
  rintro e w4 ⟨A6, c6, rfl, hpsm, hb4⟩
  have HB4 := Lib.hid (below_next HB3.out hb4)
  have HP4 := Lib.hid (HP3.out.below hb4)
  have HX4 := Lib.hid (HX3.out.below hb4)
  have HY4 := Lib.hid (HY3.out.below hb4)
  have HM4 : Hid (PS w4 A6 2 c6 [(0, 0), (5, 1)]) := hpsm
  clear hpsm hb4 HP3 HX3 HY3
  go_wp2_with fail
  refine (ok_any _ 3 3 [0, 0, 0] _ (is_new w4 25 [0, 0, 0]) (by omega) (by simp)).mono ?_
  rintro e w5 ⟨rfl, rfl⟩
  obtain ⟨w5, hw5⟩ : ∃ W, w4.alloc (Obj.cells (List.map I [0, 0, 0]).toArray 25) = W := ⟨_, rfl⟩
  have hbx : Below w4.heap.size w4 w5 := by rw [← hw5]; exact (Below.refl _ _).alloc (Nat.le_refl _) _
  rw [hw5]
  have HB5 := Lib.hid (below_next HB4.out hbx)
  have HP5 := Lib.hid (HP4.out.below hbx)
  have HX5 := Lib.hid (HX4.out.below hbx)
  have HY5 := Lib.hid (HY4.out.below hbx)
  have HM5 := Lib.hid (HM4.out.below hbx)
  clear hbx hw5 HP4 HX4 HY4 HM4
  go_wp2_with fail
  refine (zeqSpot_t A2 _ 2 c2 2 [(0, 0), (5, 1)] _ (HP5.out.alloc _) ((PB.new w5 43 [(0, 0), (5, 1)]).ps (Nat.le_refl _)) (by omega)).mono ?_
  rintro e w6 ⟨rfl, hb6⟩
  have hbx : Below w5.heap.size w5 w6 := gbelow_box hb6
  have HB6 := Lib.hid (below_next HB5.out hbx)
  have HP6 := Lib.hid (HP5.out.below hbx)
  have HX6 := Lib.hid (HX5.out.below hbx)
  have HY6 := Lib.hid (HY5.out.below hbx)
  have HM6 := Lib.hid (HM5.out.below hbx)
  clear hbx hb6 HP5 HX5 HY5 HM5
  go_wp2_with fail
  refine (zeqSpot_t A4 _ 1 c4 1 [(0, 0)] _ (HX6.out.alloc _) ((PB.new w6 43 [(0, 0)]).ps (Nat.le_refl _)) (by omega)).mono ?_
  rintro e w7 ⟨rfl, hb7⟩
  have hbx : Below w6.heap.size w6 w7 := gbelow_box hb7
  have HB7 := Lib.hid (below_next HB6.out hbx)
  have HP7 := Lib.hid (HP6.out.below hbx)
  have HY7 := Lib.hid (HY6.out.below hbx)
  have HM7 := Lib.hid (HM6.out.below hbx)
  clear hbx hb7 HP6 HX6 HY6 HM6
  go_wp2_with fail
  refine (zeqSpot_t A5 _ 1 c5 1 [(5, 0)] _ (HY7.out.alloc _) ((PB.new w7 43 [(5, 0)]).ps (Nat.le_refl _)) (by omega)).mono ?_
  rintro e w8 ⟨rfl, hb8⟩
  have hbx : Below w7.heap.size w7 w8 := gbelow_box hb8
  have HB8 := Lib.hid (below_next HB7.out hbx)
  have HP8 := Lib.hid (HP7.out.below hbx)
  have HM8 := Lib.hid (HM7.out.below hbx)
  clear hbx hb8 HP7 HY7 HM7
  go_wp2_with fail
  refine (zeqSpot_t A6 A2 2 c6 c2 [(0, 0), (5, 1)] w8 HM8.out HP8.out (by omega)).mono ?_
  rintro e w9 ⟨rfl, hb9⟩
  have HB9 := Lib.hid (below_next HB8.out hb9)
  clear hb9
  go_wp2
  go_ret
  exact ⟨rfl, HB9.out⟩

end Go.Proofs.YtjnkfpagaajfeaaDoor
