/-
  GrowLast: the last key that comes has nothing below it: taken away the tree is as it was without it.
-/
import Derived.Test.YtanmakgnjehcfaaGLastP
namespace Go.Proofs.Ytanmakgnjehcfaa
open Go.RowKit

theorem Of_some (A : Option Addr) (n c : Nat) (l : List Int) (w : World) (h : IS w A n c l) :
    Calls Try.prog 8 #[.slice A n c] w fun e w' => ∃ A' n' c', e = .returned (.tuple #[.slice A' n' c', I (unl l)]) ∧ Below w.heap.size w w' := by
  by_cases hu : unl l = 0
  · refine (GOf_ok A n c l w h hu).mono ?_
    rintro e w' ⟨A', n', c', rfl, _, hb⟩
    exact ⟨A', n', c', by rw [hu], hb⟩
  · refine (Of_bad A n c l w h _ rfl hu).mono ?_
    rintro e w' ⟨rfl, hb⟩
    exact ⟨none, 0, 0, rfl, hb⟩
/-- a clone and one more: the row as it is told -/
theorem own_told {w : World} {base n : Nat} {v : Value} {l : List Int} {x : Int} (hl : l.length = n) (h : w.ownsRow base 3 1 v (l ++ [x]).length ((l ++ [x]).map I)) : ∃ A c, v = .slice A (n + 1) c ∧ IS w A (n + 1) c (l ++ [x]) := by
  obtain ⟨A, c, e, h1, _⟩ := OwnI.is_ (L := l ++ [x]) h
  have hlen : (l ++ [x]).length = n + 1 := by simp [hl]
  rw [hlen] at e h1
  exact ⟨A, c, e, h1⟩

set_option maxRecDepth 100000 in
set_option maxHeartbeats 4000000 in
theorem glast_far (A : Option Addr) (n c : Nat) (key : Int) (w : World) (hn : 100 < n) :
    Calls Try.prog 6 #[.slice A n c, I key] w fun e w' => e = .returned (.bool true) ∧ Below w.heap.size w w' := by
  go_enter Try.func6, Try.ntmps6
  go_wp2_with fail
  refine (growLives_any w).mono ?_
  rintro e w1 ⟨rfl, hb1⟩
  have HB1 := Lib.hid hb1
  clear hb1
  go_wp2_with fail
  refine (growLives_any w1).mono ?_
  rintro e w2 ⟨rfl, hb2⟩
  have HB2 := Lib.hid (gbelow_on HB1.out hb2)
  clear hb2
  go_wp2
  go_ret
  exact ⟨rfl, HB2.out⟩

set_option maxRecDepth 100000 in
set_option maxHeartbeats 4000000 in
theorem glast_bad (A : Option Addr) (n c : Nat) (l : List Int) (key : Int) (w : World) (h : IS w A n c l) (hn : n ≤ 100) (hf : unl (l ++ [key]) ≠ 0) :
    Calls Try.prog 6 #[.slice A n c, I key] w fun e w' => e = .returned (.bool true) ∧ Below w.heap.size w w' := by
  have H := Lib.hid h
  have HL := Lib.hid h.len
  have HF := Lib.hid hf
  clear h hf
  go_enter Try.func6, Try.ntmps6
  go_wp2_with fail
  refine (growLives_any w).mono ?_
  rintro e w1 ⟨rfl, hb1⟩
  have HB1 := Lib.hid hb1
  have H1 := Lib.hid (H.out.below hb1)
  clear hb1 H
  go_wp2_with fail
  refine (Of_some A n c l w1 H1.out).mono ?_
  rintro e w2 ⟨A2, n2, c2, rfl, hb2⟩
  have HB2 := Lib.hid (gbelow_on HB1.out hb2)
  have H2 := Lib.hid (H1.out.below hb2)
  clear hb2 H1
  generalize unl l = E1
  go_wp2_with fail
  refine (cloneI_any A n c l w2 H2.out (by omega)).mono ?_
  rintro e w3 ⟨v3, rfl, ho3, hb3⟩
  have HB3 := Lib.hid (gbelow_on HB2.out hb3)
  have HO3 := Lib.hid ho3
  have hs3 := hb3.size
  clear ho3 hb3 H2
  go_wp2_with (first
    | (at_builtin
       refine wpList_app1 rfl (.tmp 30) (.tmp 32) 23 rfl 3 Try.underlying23 int_info w2.heap.size v3 l [key] (some ⟨w3.heap.size, 0, none⟩) 1 1 rfl rfl (own_below HO3.out ((Below.refl _ _).alloc (Nat.le_refl _) _)) (srcI_one w3 key) (by rw [HL.out]; omega) (by simp; omega) ?_
       intro v4 w4 hown4 hgrow4 hat4
       obtain ⟨A4, c4, rfl, his4⟩ := own_told HL.out hown4)
    | fail)
  have HB4 : Hid (Below w.heap.size w w4) := Below.grown (HB3.out.alloc HB3.out.size _) hgrow4 (by have := HB3.out.size; simp; omega) (fun k hk => by have := own_ge1 HO3.out k hk; have := HB2.out.size; omega)
  have H4 := Lib.hid his4
  clear hown4 hgrow4 hat4 his4 HO3
  refine (Of_some A4 (n + 1) c4 (l ++ [key]) w4 H4.out).mono ?_
  rintro e w5 ⟨A5, n5, c5, rfl, hb5⟩
  have HB5 := Lib.hid (gbelow_on HB4.out hb5)
  clear hb5 H4
  generalize unl (l ++ [key]) = E2 at *
  go_wp2_with fail
  refine (ok_two E1 E2 w5.heap.size _ (IB.new w5 26 [E1, E2]) (fun e => HF.out e.2)).mono ?_
  rintro e w6 ⟨rfl, rfl⟩
  go_wp2
  go_ret
  exact ⟨rfl, HB5.out.alloc HB5.out.size _⟩

theorem own_snocO {w : World} {base : Nat} {v : Value} {xs : List OP} {a b c : Int} (h : w.ownsRow base 61 3 v (xs.length + 1) (flatO xs ++ [I a, I b, I c])) : OwnO w base v (xs ++ [(a, b, c)]) := by
  unfold OwnO
  rw [List.length_append, flatO_append]
  exact h
theorem own_toldO {w : World} {base n : Nat} {v : Value} {xs : List OP} (hl : xs.length = n) (h : OwnO w base v xs) : ∃ A c, v = .slice A n c ∧ OS w A n c xs := by
  obtain ⟨A, c, e, h1⟩ := h.os
  rw [hl] at e h1
  exact ⟨A, c, e, h1⟩

set_option maxRecDepth 100000 in
set_option maxHeartbeats 8000000 in
theorem glast_ok (A : Option Addr) (n c : Nat) (l : List Int) (key : Int) (w : World) (h : IS w A n c l) (hn : n ≤ 100) (hf : unl (l ++ [key]) = 0) :
    Calls Try.prog 6 #[.slice A n c, I key] w fun e w' => e = .returned (.bool true) ∧ Below w.heap.size w w' := by
  have H := Lib.hid h
  have HL := Lib.hid h.len
  have HF := Lib.hid hf
  have HU := Lib.hid (unl_snoc hf).1
  have HG := Lib.hid (last_goes hf)
  have HLN : Hid ((l ++ [key]).length = n + 1) := by show _ = _; rw [List.length_append, h.len]; rfl
  clear h hf
  obtain ⟨i0, hi, hz0, hz1, hz2⟩ := info_parts op_info
  have HI := Lib.hid hi
  have HZ0 := Lib.hid hz0
  have HZ1 := Lib.hid hz1
  have HZ2 := Lib.hid hz2
  clear hi hz0 hz1 hz2
  go_enter Try.func6, Try.ntmps6
  go_wp2_with fail
  refine (growLives_any w).mono ?_
  rintro e w1 ⟨rfl, hb1⟩
  have HB1 := Lib.hid hb1
  have H1 := Lib.hid (H.out.below hb1)
  clear hb1 H
  go_wp2_with fail
  refine (GOf_ok A n c l w1 H1.out HU.out).mono ?_
  rintro e w2 ⟨A2, n2, c2, rfl, hps2, hb2⟩
  have hn2 : n2 ≤ 200 := by
    have h1 := hps2.len
    obtain ⟨_, _, h3⟩ := unl_zero.1 HU.out
    rw [sp_length, size_gro l .nil h3 (by simp [Tr.ks]), HL.out] at h1
    simp [Tr.size] at h1
    omega
  have HB2 := Lib.hid (gbelow_on HB1.out hb2)
  have H2 := Lib.hid (H1.out.below hb2)
  have HP2 := Lib.hid hps2
  clear hb2 hps2 H1
  go_wp2_with fail
  refine (cloneI_any A n c l w2 H2.out (by omega)).mono ?_
  rintro e w3 ⟨v3, rfl, ho3, hb3⟩
  have HB3 := Lib.hid (gbelow_on HB2.out hb3)
  have HO3 := Lib.hid ho3
  have hs3 := hb3.size
  have HW3 := Lib.hid hb3
  clear ho3 hb3
  go_wp2_with (first
    | (at_builtin
       refine wpList_app1 rfl (.tmp 30) (.tmp 32) 23 rfl 3 Try.underlying23 int_info w2.heap.size v3 l [key] (some ⟨w3.heap.size, 0, none⟩) 1 1 rfl rfl (own_below HO3.out ((Below.refl _ _).alloc (Nat.le_refl _) _)) (srcI_one w3 key) (by rw [HL.out]; omega) (by simp; omega) ?_
       intro v4 w4 hown4 hgrow4 hat4
       obtain ⟨A4, c4, rfl, his4⟩ := own_told HL.out hown4)
    | fail)
  have hX4 : Below w2.heap.size w2 w4 := Below.grown (HW3.out.alloc hs3 _) hgrow4 (by simp; omega) (own_ge1 HO3.out)
  have HB4 := Lib.hid (gbelow_on HB2.out hX4)
  have H4 := Lib.hid (H2.out.below hX4)
  have HP4 := Lib.hid (HP2.out.below hX4)
  have HI4 := Lib.hid his4
  clear hown4 hgrow4 hat4 his4 HO3 hX4 H2 HP2 HW3
  refine (GOf_ok A4 (n + 1) c4 (l ++ [key]) w4 HI4.out HF.out).mono ?_
  rintro e w5 ⟨A5, n5, c5, rfl, _, hb5⟩
  have HB5 := Lib.hid (gbelow_on HB4.out hb5)
  have H5 := Lib.hid (H4.out.below hb5)
  have HP5 := Lib.hid (HP4.out.below hb5)
  clear hb5 H4 HI4 HP4
  go_wp2_with fail
  refine (ok_any _ 2 2 [0, 0] _ (is_new w5 26 [0, 0]) (by omega) (by simp)).mono ?_
  rintro e w6 ⟨rfl, rfl⟩
  obtain ⟨o6, HO6⟩ : ∃ o6, Hid (o6 = Obj.cells #[I 0, I 0] 26) := ⟨_, Lib.hid rfl⟩
  go_wp2_with fail
  rw [← HO6.out]
  have HB6 := Lib.hid (gbelow_on HB5.out ((Below.refl w5.heap.size w5).alloc (Nat.le_refl _) o6))
  have H6 := Lib.hid (H5.out.alloc o6)
  have HP6 := Lib.hid (HP5.out.alloc o6)
  clear H5 HP5 HO6
  generalize w5.alloc o6 = w6 at *
  refine (cloneI_any A n c l w6 H6.out (by omega)).mono ?_
  rintro e w7 ⟨v7, rfl, ho7, hb7⟩
  have HO7 := Lib.hid ho7
  have hs7 := hb7.size
  have HW7 := Lib.hid hb7
  clear ho7 hb7
  go_wp2_with (first
    | (at_builtin
       refine wpList_app1 rfl (.tmp 43) (.tmp 45) 23 rfl 3 Try.underlying23 int_info w6.heap.size v7 l [key] (some ⟨w7.heap.size, 0, none⟩) 1 1 rfl rfl (own_below HO7.out ((Below.refl _ _).alloc (Nat.le_refl _) _)) (srcI_one w7 key) (by rw [HL.out]; omega) (by simp; omega) ?_
       intro v8 w8 hown8 hgrow8 hat8
       obtain ⟨A8, c8, rfl, his8⟩ := own_told HL.out hown8)
    | fail)
  have hX8 : Below w6.heap.size w6 w8 := Below.grown (HW7.out.alloc hs7 _) hgrow8 (by simp; omega) (own_ge1 HO7.out)
  have HB8 := Lib.hid (gbelow_on HB6.out hX8)
  have HP8 := Lib.hid (HP6.out.below hX8)
  have HI8 := Lib.hid his8
  clear hown8 hgrow8 hat8 his8 HO7 hX8 H6 HP6 HW7
  go_loopg [9, 48] (n + 1) (fun m v i wr => ∃ j : Nat, j ≤ n + 1 ∧ n + 1 - j ≤ m ∧ i = .int .i64 j ∧ OwnO wr w8.heap.size v (((l ++ [key]).take j).map ptO) ∧ Below w8.heap.size w8 wr)
  case atStart => exact ⟨0, Nat.zero_le _, by omega, rfl, World.ownsRow_nil _ _ _ _, Below.refl _ _⟩
  case round =>
    obtain ⟨j, hj, hjm, rfl, hown, hnx⟩ := hrel
    have HOWN := Lib.hid hown
    have HNX := Lib.hid hnx
    have hsz := hnx.size
    clear hown hnx
    by_cases hjn : j < n + 1
    · obtain ⟨b, off, rfl, hb, hc⟩ := HI8.out.at_ (by omega)
      have hjl : j < (l ++ [key]).length := by rw [HLN.out]; exact hjn
      have hcj : wr.cell? ⟨b, off + j, none⟩ = some (I (l ++ [key])[j]) := (HNX.out.cell (by exact hb)).trans (hc j hjn)
      have HTS := Lib.hid (show ((l ++ [key]).take (j + 1)).map ptO = ((l ++ [key]).take j).map ptO ++ [ptO (l ++ [key])[j]] by rw [take_snoc hjl, List.map_append]; rfl)
      have hxl : (((l ++ [key]).take j).map ptO).length ≤ 101 := by rw [List.length_map, List.length_take, HLN.out]; omega
      clear hc
      generalize (l ++ [key])[j] = x at hcj HTS
      generalize ((l ++ [key]).take j).map ptO = xs at *
      go_wp2_with (first
        | (at_builtin
           refine wpList_append_own_at _ rfl (.tmp 52) (.tmp 55) 22 rfl w8.heap.size 61 i0 _ 3 24 Try.underlying22 HI.out HZ0.out HZ1.out HZ2.out rfl (by omega) _ xs.length (flatO xs) rfl (own_below HOWN.out ((Below.refl _ _).alloc (Nat.le_refl _) _)) ⟨wr.heap.size, 0, none⟩ 1 1 [I 1, I x, I 0] rfl rfl (three_new _ 1 x 0 _) (three_one 1 x 0) (by unfold maxLen; omega) (by omega) (by simp; omega) ?_
           intro v2 wb hown2 hgrow2 _ hat2)
        | fail)
      have HB2' : Hid (Below w8.heap.size w8 wb) := Below.grown (HNX.out.alloc hsz _) hgrow2 (by simp; omega) (own_ge1 HOWN.out)
      have HO2 : Hid (OwnO wb w8.heap.size v2 (((l ++ [key]).take (j + 1)).map ptO)) := by
        show OwnO _ _ _ _
        rw [HTS.out]
        exact own_snocO hown2
      clear hown2 hgrow2 hat2
      go_wp2
      go_roundg (gk - 1)
      case measure => omega
      case rel => exact ⟨j + 1, by omega, by omega, by go_num, HO2.out, HB2'.out⟩
    · have ht : (l ++ [key]).take j = l ++ [key] := List.take_of_length_le (by rw [HLN.out]; omega)
      rw [ht] at HOWN
      have hxl : ((l ++ [key]).map ptO).length = n + 1 := by rw [List.length_map, HLN.out]
      have HXL := Lib.hid hxl
      have HALL : Hid (((l ++ [key]).map ptO ++ [((3 : Int), key, (0 : Int))]).length = n + 2) := by show _ = _; rw [List.length_append, HXL.out]; rfl
      have hPw : PS wr A2 n2 c2 ((gro .nil l).sp 0) := HP8.out.below HNX.out
      have HPw := Lib.hid hPw
      clear ht hxl hPw
      go_wp2_with (first
        | (at_builtin
           refine wpList_append_own_at _ rfl (.tmp 59) (.tmp 62) 22 rfl w8.heap.size 61 i0 _ 3 24 Try.underlying22 HI.out HZ0.out HZ1.out HZ2.out rfl (by omega) _ ((l ++ [key]).map ptO).length (flatO ((l ++ [key]).map ptO)) rfl (own_below HOWN.out ((Below.refl _ _).alloc (Nat.le_refl _) _)) ⟨wr.heap.size, 0, none⟩ 1 1 [I 3, I key, I 0] rfl rfl (three_new _ 3 key 0 _) (three_one 3 key 0) (by rw [HXL.out]; unfold maxLen; omega) (by rw [HXL.out]; omega) (by simp; omega) ?_
           intro v9 w9 hown9 hgrow9 _ hat9
           obtain ⟨A9, c9, rfl, hos9⟩ := own_toldO HALL.out (own_snocO hown9))
        | fail)
      have hX9 : Below w8.heap.size w8 w9 := Below.grown (HNX.out.alloc hsz _) hgrow9 (by simp; omega) (own_ge1 HOWN.out)
      have HB9 := Lib.hid (gbelow_on HB8.out hX9)
      have HP9 := Lib.hid (HP8.out.below hX9)
      have HO9 := Lib.hid hos9
      clear hown9 hgrow9 hat9 hos9 HOWN hX9 HPw
      refine (GRun_any A9 (n + 2) c9 _ w9 HO9.out (by omega)).mono ?_
      rw [HG.out]
      rintro e wa ⟨Aa, na, ca, Ab, nb, cb, rfl, hpsa, _, hba⟩
      obtain rfl : na = n2 := by rw [← hpsa.len]; exact HP9.out.len
      have HBA := Lib.hid (gbelow_on HB9.out hba)
      have HPA := Lib.hid hpsa
      have HPB := Lib.hid (HP9.out.below hba)
      clear hpsa hba HO9
      go_wp2_with fail
      refine (eqSpot_any Aa A2 na na ca c2 _ _ wa HPA.out HPB.out (by omega) (by omega)).mono ?_
      rintro e wc ⟨rfl, hbc⟩
      have HBC := Lib.hid (gbelow_on HBA.out hbc)
      clear hbc
      go_wp2
      go_ret
      exact ⟨rfl, HBC.out⟩

theorem glast_any (A : Option Addr) (n c : Nat) (l : List Int) (key : Int) (w : World) (h : IS w A n c l) (_ : n ≤ 9223372036854775807) :
    Calls Try.prog 6 #[.slice A n c, I key] w fun e w' => e = .returned (.bool true) ∧ Below w.heap.size w w' := by
  by_cases hn : n ≤ 100
  · by_cases hf : unl (l ++ [key]) = 0
    · exact glast_ok A n c l key w h hn hf
    · exact glast_bad A n c l key w h hn hf
  · exact glast_far A n c key w (by omega)

end Go.Proofs.Ytanmakgnjehcfaa
