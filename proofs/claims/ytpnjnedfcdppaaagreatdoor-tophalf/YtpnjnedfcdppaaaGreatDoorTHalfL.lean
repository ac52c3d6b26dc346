/-
  TopHalf, walked.
-/
import Derived.Test.YtpnjnedfcdppaaaGreatDoorDLivesAll
import Derived.Test.YtpnjnedfcdppaaaGreatDoorTBigAll
import Derived.Test.YtpnjnedfcdppaaaGreatDoorTMapsL
import Derived.Test.YtpnjnedfcdppaaaGreatDoorGSortAll
import Derived.Test.YtpnjnedfcdppaaaGreatDoorKRunAll
import Derived.Test.YtpnjnedfcdppaaaGreatDoorQRunAll
import Derived.Test.YtpnjnedfcdppaaaGreatDoorQTieAll
import Derived.Test.YtpnjnedfcdppaaaGreatDoorSEqAll
import Derived.Maps.AppendAt
namespace Go.Proofs.YtpnjnedfcdppaaaGreatDoor
open Go.RowKit

/-- sorted, and put one by one: the same list -/
theorem qs_qall {l : List Int} (hu : unl l = 0) : qs l = qall l := by
  obtain ⟨h1, h2, h3⟩ := unl_zero.1 hu
  have hq := qs_gro _ l (Nat.le_refl _) h3
  have hup : Up (qs l) := by rw [hq]; exact up_gro (t := .nil) (by simp [Tr.ks, Up]) l
  refine up_ext hup (up_qall l) fun x => ?_
  rw [hq, mem_qall]
  rw [mem_gro]
  simp [Tr.ks]
theorem puts_hok {l : List Int} (hb : ∀ x ∈ l, 0 ≤ x ∧ x ≤ 65535) : ∀ o ∈ putsOf l, hok o ∧ o.2.2 = 0 := by
  intro o ho
  obtain ⟨k, hk, rfl⟩ := List.mem_map.1 ho
  have := hb k hk
  exact ⟨⟨Int.le_refl 1, (by decide : (1 : Int) ≤ 5), this.1, this.2⟩, rfl⟩
theorem puts_half {l : List Int} (hu : unl l = 0) (hb : ∀ x ∈ l, 0 ≤ x ∧ x ≤ 65535) : (hR (putsOf l)).1 = qs l ∧ kys (runR (putsOf l)).1 = qs l := by
  have h1 := (unl_zero.1 hu).1
  have e1 : (hR (putsOf l)).1 = qs l := by
    rw [hR_is, qs_qall hu]
    exact hK_puts l hb 0
  refine ⟨e1, ?_⟩
  rw [← e1]
  exact (tie_all (puts_hok hb) (by unfold putsOf; rw [List.length_map]; exact h1)).1
theorem eq_same (A A' : Option Addr) (n n' c c' : Nat) (l : List Int) (w : World) (h : IS w A n c l) (h' : IS w A' n' c' l) (hn : n ≤ 1000000) (hn' : n' ≤ 1000000) :
    Calls Tryz.prog 26 #[.slice A n c, .slice A' n' c'] w fun e w' => e = .returned (.bool true) ∧ Below w.heap.size w w' :=
  (eqInt_any A A' n n' c c' l l w h h' hn hn').mono fun e w' hr => by
    rw [decide_eq_true (rfl : l = l)] at hr
    exact hr
set_option maxRecDepth 100000 in
set_option maxHeartbeats 8000000 in
theorem THalf_bad (A : Option Addr) (n c : Nat) (l : List Int) (w : World) (h : IS w A n c l) (hu : unl l ≠ 0) (hL : LD w) : Calls Tryz.prog 9 #[.slice A n c] w (RetYes w) := by
  have HLV := Lib.hid fun wz hz => topLives_any wz hz
  have HLD := Lib.hid hL
  have HS := Lib.hid (Sort_bad A n c l w h (unl l) rfl hu)
  obtain ⟨E, hE⟩ : ∃ E, unl l = E := ⟨_, rfl⟩
  rw [hE] at HS hu
  have hne : (E != 0) = true := by simpa using hu
  clear h hu hE hL
  go_enter Tryz.func9, Tryz.ntmps9
  go_wp2_with fail
  refine HS.out.mono ?_
  rintro e w1 ⟨rfl, hb1⟩
  have HB1 := Lib.hid hb1
  clear hb1
  go_wp2_with fail
  refine (HLV.out _ (HLD.out.next HB1.out)).mono ?_
  rintro e w2 ⟨rfl, hb2⟩
  have HB2 := Lib.hid (w_trans HB1.out hb2)
  clear hb2
  go_wp2_with fail
  refine (HLV.out _ (HLD.out.next HB2.out)).mono ?_
  rintro e w3 ⟨rfl, hb3⟩
  have HB3 := Lib.hid (w_trans HB2.out hb3)
  clear hb3
  go_wp2
  go_ret
  exact ⟨rfl, HB3.out⟩
set_option maxRecDepth 100000 in
set_option maxHeartbeats 8000000 in
theorem THalf_big (A : Option Addr) (n c : Nat) (l : List Int) (w : World) (h : IS w A n c l) (hu : unl l = 0) (hb : l.any isBig = true) (hL : LD w) : Calls Tryz.prog 9 #[.slice A n c] w (RetYes w) := by
  have HLV := Lib.hid fun wz hz => topLives_any wz hz
  have HLD := Lib.hid hL
  have HS := Lib.hid (Sort_ok A n c l w h hu)
  have HI := Lib.hid h
  have hn : n ≤ 200 := by rw [← h.len]; exact (unl_zero.1 hu).1
  have HBG := Lib.hid hb
  clear h hu hb hL
  go_enter Tryz.func9, Tryz.ntmps9
  go_wp2_with fail
  refine HS.out.mono ?_
  rintro e w1 ⟨A1, n1, c1, rfl, -, hb1⟩
  have HB1 := Lib.hid hb1
  clear hb1
  go_wp2_with fail
  refine (HLV.out _ (HLD.out.next HB1.out)).mono ?_
  rintro e w2 ⟨rfl, hb2⟩
  have HB2 := Lib.hid (w_trans HB1.out hb2)
  clear hb2
  go_wp2_with fail
  refine (contBig_any A n c l w2 (HI.out.below HB2.out) (by omega)).mono ?_
  rintro e w3 ⟨rfl, rfl⟩
  rw [HBG.out]
  go_wp2_with fail
  refine (HLV.out _ (HLD.out.next HB2.out)).mono ?_
  rintro e w4 ⟨rfl, hb4⟩
  have HB4 := Lib.hid (w_trans HB2.out hb4)
  clear hb4
  go_wp2
  go_ret
  exact ⟨rfl, HB4.out⟩
set_option maxRecDepth 100000 in
set_option maxHeartbeats 8000000 in
theorem THalf_ok (A : Option Addr) (n c : Nat) (l : List Int) (w : World) (h : IS w A n c l) (hu : unl l = 0) (hb : l.any isBig = false) (hL : LD w) : Calls Tryz.prog 9 #[.slice A n c] w (RetYes w) := by
  have HLV := Lib.hid fun wz hz => topLives_any wz hz
  have HLD := Lib.hid hL
  have HS := Lib.hid (Sort_ok A n c l w h hu)
  have HIS := Lib.hid h
  have hz := unl_zero.1 hu
  have hn : n ≤ 200 := by rw [← h.len]; exact hz.1
  have HN := Lib.hid h.len
  have hbd : ∀ x ∈ l, 0 ≤ x ∧ x ≤ 65535 := fun x hx => by
    rw [List.any_eq_false] at hb
    have h1 := hb x hx
    unfold isBig at h1
    have h2 := (hz.2.1 x hx).1
    simp at h1
    omega
  have HPH := Lib.hid (puts_half hu hbd)
  have HBG := Lib.hid hb
  have hql : (qs l).length = n := by rw [qs_length _ l (Nat.le_refl _), h.len]
  have HRL : Hid ((runR (putsOf l)).1.length ≤ 200) := Lib.hid (chk_len (chk_runR _))
  obtain ⟨i0, hi, hz0, hz1, hz2⟩ := info_parts op_info
  have HI := Lib.hid hi
  have HZ0 := Lib.hid hz0
  have HZ1 := Lib.hid hz1
  have HZ2 := Lib.hid hz2
  clear h hu hb hL hz hbd hi hz0 hz1 hz2
  go_enter Tryz.func9, Tryz.ntmps9
  go_wp2_with fail
  refine HS.out.mono ?_
  rintro e w1 ⟨A1, n1, c1, rfl, hi1, hb1⟩
  have HB1 := Lib.hid hb1
  have hn1 : n1 = n := by rw [← hql]; exact hi1.len.symm
  subst hn1
  have HI1 := Lib.hid hi1
  clear hb1 hi1
  obtain ⟨he, hhe⟩ : ∃ he, (hel l : Int) = he := ⟨_, rfl⟩
  go_wp2_with fail
  refine (HLV.out _ (HLD.out.next HB1.out)).mono ?_
  rintro e w2 ⟨rfl, hb2⟩
  have HB2 := Lib.hid (w_trans HB1.out hb2)
  have HI2 := Lib.hid (HI1.out.below hb2)
  clear hb2
  go_wp2_with fail
  refine (contBig_any A n1 c l w2 (HIS.out.below HB2.out) (by omega)).mono ?_
  rintro e w3 ⟨rfl, rfl⟩
  rw [HBG.out]
  go_wp2
  go_loopw [6, 34] (fun v i wr => ∃ k : Nat, k ≤ n1 ∧ i = .int .i64 k ∧ Hid (OwnO wr w2.heap.size v (putsOf (l.take k))) ∧ Hid (Below w2.heap.size w2 wr)) (fun _ i _ => n1 - (intOf i).toNat)
  case atStart => exact ⟨0, Nat.zero_le _, rfl, World.ownsRow_nil _ _ _ _, Below.refl _ _⟩
  case round =>
    obtain ⟨k, hk, rfl, HOWN, HNX⟩ := hrel
    by_cases hlt : k < n1
    · have hkl : k < l.length := by rw [HN.out]; exact hlt
      obtain ⟨b, off, rfl, hbw, hcs⟩ := (HIS.out.below HB2.out).at_ (by omega)
      obtain ⟨x, hx⟩ : ∃ x, l[k] = x := ⟨_, rfl⟩
      have hc0 : wr.cell? ⟨b, off + k, none⟩ = some (I x) := by rw [← hx]; exact (HNX.out.cell (by exact hbw)).trans (hcs k hlt)
      have HK : Hid (putsOf (l.take (k + 1)) = putsOf (l.take k) ++ [(1, x, 0)]) := by
        show _ = _
        rw [List.take_succ_eq_append_getElem hkl, hx]
        simp [putsOf]
      obtain ⟨xs, hxs⟩ : ∃ xs, putsOf (l.take k) = xs := ⟨_, rfl⟩
      have hxl : xs.length ≤ 1000 := by rw [← hxs]; simp [putsOf]; omega
      rw [hxs] at HOWN HK
      have hz := HNX.out.size
      clear hcs hx hxs
      go_wp2_with (first
        | (at_builtin
           refine wpList_append_own_at _ rfl (.tmp 38) (.tmp 41) 32 rfl w2.heap.size 69 i0 _ 3 24 Tryz.underlying32 HI.out HZ0.out HZ1.out HZ2.out rfl (by omega) _ xs.length (flatO xs) rfl (own_below HOWN.out ((Below.refl _ _).alloc (Nat.le_refl _) _)) ⟨wr.heap.size, 0, none⟩ 1 1 [I 1, I x, I 0] rfl rfl (three_new _ 1 x 0 _) (three_one 1 x 0) (by unfold maxLen; omega) (by omega) (by simp; omega) ?_
           intro v2 w9 hown2 hgrow2 _ hat2)
        | fail)
      go_roundw
      case rel =>
        refine ⟨k + 1, by omega, by go_num, ?_, ?_⟩
        · show OwnO _ _ _ _
          rw [HK.out]
          unfold OwnO
          rw [flatO_append, List.length_append, List.length_singleton]
          exact hown2
        · exact Below.grown (HNX.out.alloc hz _) hgrow2 (by simp; omega) (own_ge1 HOWN.out)
      case measure => simp [intOf]; omega
    · rw [List.take_of_length_le (by rw [HN.out]; omega)] at HOWN
      obtain ⟨A4, c4, rfl, h4⟩ := HOWN.out.os
      have hpl : (putsOf l).length = n1 := by unfold putsOf; rw [List.length_map]; exact HN.out
      rw [hpl] at h4 ⊢
      have H4 := Lib.hid h4
      have HB4 := Lib.hid (w_trans HB2.out HNX.out)
      clear h4 HOWN
      go_wp2_with fail
      refine (RunS_any A4 n1 c4 (putsOf l) wr H4.out (by omega) HRL.out (HLD.out.next HB4.out).tb).mono ?_
      rw [HPH.out.2]
      rintro e w5 ⟨A5, n5, c5, B5, m5, d5, rfl, hp5, -, hb5⟩
      have HB5 := Lib.hid (w_trans HB4.out hb5)
      have HR5 := Lib.hid hp5
      have HI5 := Lib.hid ((HI2.out.below HNX.out).below hb5)
      have H45 := Lib.hid (H4.out.below hb5)
      clear hp5 hb5
      go_wp2_with fail
      refine (QRun_any A4 n1 c4 (putsOf l) w5 H45.out (by omega)).mono ?_
      rw [HPH.out.1]
      rintro e w6 ⟨A6, n6, c6, B6, m6, d6, rfl, hp6, -, hb6⟩
      have HB6 := Lib.hid (w_trans HB5.out hb6)
      have hn6 : n6 = n1 := by rw [← hql]; exact hp6.len.symm
      subst hn6
      have HR6 := Lib.hid (HR5.out.below hb6)
      have H6 := Lib.hid hp6
      have HI6 := Lib.hid (HI5.out.below hb6)
      have hlen5 := hp6.len
      have hm5 : n5 = hiR (qs l) := by rw [← HR5.out.len, rowsL_len]
      have hpos := hiR_pos (qs l)
      rw [← hm5] at hpos
      have HOK := Lib.hid (tok_any (some ⟨w6.heap.size, 0, none⟩) 2 2 [0, 0] (w6.alloc (.cells #[I 0, I 0] 35)) (is_new w6 35 [0, 0]) (by omega) (by simp))
      have hax : Below w6.heap.size w6 (w6.alloc (.cells #[I 0, I 0] 35)) := (Below.refl _ _).alloc (Nat.le_refl _) _
      have HAX := Lib.hid hax
      have HR7 := Lib.hid (HR6.out.below hax)
      have H7 := Lib.hid (H6.out.below hax)
      have HI7 := Lib.hid (HI6.out.below hax)
      have HEQ := Lib.hid (fun wz (hz : Below (w6.alloc (.cells #[I 0, I 0] 35)).heap.size (w6.alloc (.cells #[I 0, I 0] 35)) wz) => eq_same A6 A1 n6 n6 c6 c1 (qs l) wz (H7.out.below hz) (HI7.out.below hz) (by omega) (by omega))
      rcases Nat.eq_zero_or_pos n5 with h0 | h0
      · have hq0 : qs l = [] := by
          rcases Decidable.em (qs l = []) with h | h
          · exact h
          · have := hpos.2 h; omega
        have h60 : n6 = 0 := by rw [← hlen5, hq0]; rfl
        subst h0 h60
        clear hp6 hb6 hlen5 hm5 hpos hax hq0
        go_wp2_with fail
        refine HOK.out.mono ?_
        rintro e w7 ⟨rfl, rfl⟩
        go_wp2_with fail
        refine (HEQ.out _ (Below.refl _ _)).mono ?_
        rintro e w8 ⟨rfl, hb8⟩
        have HB8 := Lib.hid (w_trans HB6.out (w_trans HAX.out hb8))
        clear hb8
        go_wp2
        go_ret
        exact ⟨by simp, HB8.out⟩
      · have hq0 : qs l ≠ [] := hpos.1 h0
        have h60 : 0 < n6 := by rw [← hlen5]; exact List.length_pos_iff.2 hq0
        obtain ⟨rb, ro, RA, rn, rc, rfl, hrb, hrc, hri⟩ := HR7.out.first h0
        have hrn : rn ≤ 200 := by have := hri.len; omega
        have HRI := Lib.hid hri
        have g0 : (0 : Int) < (n5 : Int) := by omega
        have g1 : (0 : Int) < (n6 : Int) := by omega
        clear hp6 hb6 hlen5 hm5 hpos hax hq0 hri
        go_wp2_with fail
        refine HOK.out.mono ?_
        rintro e w7 ⟨rfl, rfl⟩
        go_wp2_with fail
        refine (eqInt_any RA A1 rn n6 rc c1 (qs l) (qs l) _ HRI.out HI7.out (by omega) (by omega)).mono ?_
        rintro e w8 ⟨rfl, hb8⟩
        rw [decide_eq_true (rfl : qs l = qs l)]
        have HB8 := Lib.hid hb8
        clear hb8
        go_wp2_with fail
        refine (HEQ.out _ HB8.out).mono ?_
        rintro e w9 ⟨rfl, hb9⟩
        have HB9 := Lib.hid (w_trans HB6.out (w_trans HAX.out (w_trans HB8.out hb9)))
        clear hb9
        go_wp2
        go_ret
        exact ⟨by simp, HB9.out⟩
theorem THalfL_any (A : Option Addr) (n c : Nat) (l : List Int) (w : World) (h : IS w A n c l) (_hm : n ≤ 9223372036854775807) (hL : LD w) : Calls Tryz.prog 9 #[.slice A n c] w (RetYes w) := by
  by_cases hu : unl l = 0
  · cases hb : l.any isBig with
    | true => exact THalf_big A n c l w h hu hb hL
    | false => exact THalf_ok A n c l w h hu hb hL
  · exact THalf_bad A n c l w h hu hL
end Go.Proofs.YtpnjnedfcdppaaaGreatDoor
