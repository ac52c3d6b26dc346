/-
  DeskFront, walked.
-/
import Derived.Test.YtpnjnedfcdppaaaGreatDoorDCountL
namespace Go.Proofs.YtpnjnedfcdppaaaGreatDoor
open Go.RowKit

/- more lines only go on: plain -/
theorem spl_lf : ∀ (a b : List UInt8), spl 10 (a ++ 10 :: b) = spl 10 a ++ spl 10 b
  | [], b => by simp [spl]
  | x :: t, b => by
    have ih := spl_lf t b
    rw [List.cons_append, spl, spl, ih]
    by_cases hx : (x == 10) = true
    · rw [if_pos hx, if_pos hx]; rfl
    · rw [if_neg hx, if_neg hx]
      cases hs : spl 10 t with
      | nil => exact absurd hs (spl_ne 10 t)
      | cons y r => rfl
theorem dln_lf (a b : List UInt8) : dln (a ++ 10 :: b) = dln a ++ dln b := by
  unfold dln
  rw [spl_lf, List.map_append, List.filter_append]
theorem dln_nil : dln [] = [] := rfl
theorem dln_end (a : List UInt8) : dln (a ++ [10]) = dln a := by
  rw [dln_lf a [], dln_nil, List.append_nil]
theorem dRunL_front : ∀ (A B : List (List (List UInt8))) (ops : List OP), ∃ r, dRunL ops (A ++ B) = dRunL ops A ++ r
  | [], B, ops => ⟨dRunL ops B, rfl⟩
  | w :: t, B, ops => by
    obtain ⟨r, hr⟩ := dRunL_front t B (dAns ops w).2
    refine ⟨r, ?_⟩
    show (dAns ops w).1 ++ [10] ++ dRunL (dAns ops w).2 (t ++ B) = (dAns ops w).1 ++ [10] ++ dRunL (dAns ops w).2 t ++ r
    rw [hr, List.append_assoc, List.append_assoc, List.append_assoc]
/-- a as the law makes it: it ends a line -/
def endL (a : List UInt8) : List UInt8 := if a = [] then [] else if Lib.hasSuffix a [10] then a else a ++ [10]
theorem endL_is (a : List UInt8) : endL a = [] ∨ ∃ c, endL a = c ++ [10] := by
  unfold endL
  split
  · exact .inl rfl
  · split
    · next h =>
      unfold Lib.hasSuffix at h
      rw [List.isSuffixOf_iff_suffix] at h
      obtain ⟨c, hc⟩ := h
      exact .inr ⟨c, hc.symm⟩
    · exact .inr ⟨a, rfl⟩
theorem front_is (a b : List UInt8) (h1 : (endL a).length + b.length ≤ 8192) (h2 : (dln (endL a ++ b)).length ≤ 100) : Lib.hasPrefix (deskP (endL a ++ b)) (deskP (endL a)) = true := by
  have hd : dln (endL a ++ b) = dln (endL a) ++ dln b := by
    rcases endL_is a with h | ⟨c, h⟩
    · rw [h, dln_nil]; rfl
    · rw [h, dln_end, List.append_assoc]
      exact dln_lf c b
  have hl : (endL a ++ b).length ≤ 8192 := by rw [List.length_append]; exact h1
  rw [dl_runs hl h2, dl_runs (by omega) (by rw [hd, List.length_append] at h2; omega), hd]
  obtain ⟨r, hr⟩ := dRunL_front (dln (endL a)) (dln b) []
  rw [hr]
  unfold Lib.hasPrefix
  rw [List.isPrefixOf_iff_prefix]
  exact List.prefix_append _ _
theorem endL_len (a : List UInt8) : (endL a).length ≤ a.length + 1 := by
  unfold endL
  split
  · exact Nat.zero_le _
  · split
    · omega
    · simp
set_option maxRecDepth 100000 in
set_option maxHeartbeats 8000000 in
theorem DFrontL_any (a b : List UInt8) (w : World) (hl : (a.length + 1) + (b.length + 1) ≤ 1048576) (hL : LD w) : Calls Tryz.prog 5 #[.string (bsv a), .string (bsv b)] w (RetYes w) := by
  have HLV := Lib.hid fun wz hz => deskLives_any wz hz
  have HLD := Lib.hid hL
  have hel := endL_len a
  have HDL := Lib.hid fun wz hz => DeskLines_any (endL a ++ b) wz (by rw [List.length_append]; omega) hz
  have HR1 := Lib.hid fun wz hz => Run_dany (endL a ++ b) wz (by rw [List.length_append]; omega) hz
  have HR2 := Lib.hid fun wz hz => Run_dany (endL a) wz (by omega) hz
  rw [← bsv_app] at HDL HR1
  have HFR := Lib.hid (front_is a b)
  obtain ⟨x, hx⟩ : ∃ x, deskP (endL a ++ b) = x := ⟨_, rfl⟩
  obtain ⟨y, hy⟩ : ∃ y, deskP (endL a) = y := ⟨_, rfl⟩
  rw [hx] at HR1 HFR
  rw [hy] at HR2 HFR
  obtain ⟨m, hm⟩ : ∃ m, (dln (endL a ++ b)).length = m := ⟨_, rfl⟩
  have HM := Lib.hid hm
  have HSX : Hid (∀ wz, Calls Tryz.prog 16 #[.string (bsv a), .string ⟨#[10]⟩] wz fun e w' => e = .returned (.bool (Lib.hasSuffix a [10])) ∧ w' = wz) := fun wz => by
    have h := Tryz.strings_HasSuffix (bsv a) (bsv [10]) wz (by rw [bsv_size]; omega)
    rw [bsv_data, bsv_data] at h
    exact h
  have HPX : Hid (∀ wz, Calls Tryz.prog 17 #[.string (bsv x), .string (bsv y)] wz fun e w' => e = .returned (.bool (Lib.hasPrefix x y)) ∧ w' = wz) := fun wz => by
    have h := Tryz.strings_HasPrefix (bsv x) (bsv y) wz
    rw [bsv_data, bsv_data] at h
    exact h
  have hsa : (bsv a).size = a.length := bsv_size a
  have hsb : (bsv b).size = b.length := bsv_size b
  have hsA : (bsv (endL a)).size = (endL a).length := bsv_size _
  have HEL : Hid (endL a = if a = [] then [] else if Lib.hasSuffix a [10] then a else a ++ [10]) := by show _ = _; rfl
  obtain ⟨A, hA⟩ : ∃ A, endL a = A := ⟨_, rfl⟩
  rw [hA] at HDL HR1 HR2 HFR hel hsA HM HEL
  have hc1 : ¬ (9223372036854775807 < a.length + 1) := by omega
  have hc2 : ¬ (9223372036854775807 < A.length + b.length) := by omega
  clear hx hy hm hA hL
  obtain ⟨q, hq⟩ : ∃ q, A.length = q := ⟨_, rfl⟩
  rw [hq] at hsA hc2 HFR hel
  go_enter Tryz.func5, Tryz.ntmps5
  -- WALK
  by_cases h0 : a = []
  · have hae : a.isEmpty = true := by rw [h0]; rfl
    have hAa : A = a := by rw [HEL.out, if_pos h0, h0]
    subst hAa
    clear h0
    by_cases hlim : 8192 < q + b.length
    · have f1 : (8192 : Int) < (q : Int) + (b.length : Int) := by omega
      clear hlim
      go_wp2_with fail
      refine (HDL.out _ HLD.out).mono ?_
      rintro e w1 ⟨v, rfl, -, hb1⟩
      rw [HM.out]
      have HB1 := Lib.hid hb1
      clear hb1
      go_wp2_with fail
      refine (HLV.out _ (HLD.out.next HB1.out)).mono ?_
      rintro e w2 ⟨rfl, hb2⟩
      have HB2 := Lib.hid (tr2 HB1.out hb2)
      clear hb2
      go_wp2_with fail
      refine (HLV.out _ (HLD.out.next HB2.out)).mono ?_
      rintro e w3 ⟨rfl, hb3⟩
      have HB3 := Lib.hid (tr2 HB2.out hb3)
      clear hb3
      go_wp2
      go_ret
      exact ⟨rfl, HB3.out⟩
    · have f1 : ¬ (8192 : Int) < (q : Int) + (b.length : Int) := by omega
      by_cases hm : 100 < m
      · have f2 : (100 : Int) < (m : Int) := by omega
        clear hlim hm
        go_wp2_with fail
        refine (HDL.out _ HLD.out).mono ?_
        rintro e w1 ⟨v, rfl, -, hb1⟩
        rw [HM.out]
        have HB1 := Lib.hid hb1
        clear hb1
        go_wp2_with fail
        refine (HLV.out _ (HLD.out.next HB1.out)).mono ?_
        rintro e w2 ⟨rfl, hb2⟩
        have HB2 := Lib.hid (tr2 HB1.out hb2)
        clear hb2
        go_wp2_with fail
        refine (HLV.out _ (HLD.out.next HB2.out)).mono ?_
        rintro e w3 ⟨rfl, hb3⟩
        have HB3 := Lib.hid (tr2 HB2.out hb3)
        clear hb3
        go_wp2
        go_ret
        exact ⟨rfl, HB3.out⟩
      · have f2 : ¬ (100 : Int) < (m : Int) := by omega
        have hfr := HFR.out (by omega) (by rw [HM.out]; omega)
        rw [hfr] at HPX
        clear hlim hm hfr
        go_wp2_with fail
        refine (HDL.out _ HLD.out).mono ?_
        rintro e w1 ⟨v, rfl, -, hb1⟩
        rw [HM.out]
        have HB1 := Lib.hid hb1
        clear hb1
        go_wp2_with fail
        refine (HLV.out _ (HLD.out.next HB1.out)).mono ?_
        rintro e w2 ⟨rfl, hb2⟩
        have HB2 := Lib.hid (tr2 HB1.out hb2)
        clear hb2
        go_wp2_with fail
        refine (HR1.out _ (HLD.out.next HB2.out)).mono ?_
        rintro e w3 ⟨rfl, hb3⟩
        have HB3 := Lib.hid (tr2 HB2.out hb3)
        clear hb3
        go_wp2_with fail
        refine (HR2.out _ (HLD.out.next HB3.out)).mono ?_
        rintro e w4 ⟨rfl, hb4⟩
        have HB4 := Lib.hid (tr2 HB3.out hb4)
        clear hb4
        go_wp2_with fail
        refine (HPX.out _).mono ?_
        rintro e w5 ⟨rfl, rfl⟩
        go_wp2
        go_ret
        exact ⟨rfl, HB4.out⟩
  · have hae : a.isEmpty = false := by cases a with | nil => exact absurd rfl h0 | cons a t => rfl
    cases hs : Lib.hasSuffix a [10] with
    | true =>
      have hAa : A = a := by rw [HEL.out, if_neg h0, if_pos hs]
      rw [hs] at HSX
      subst hAa
      clear h0
      by_cases hlim : 8192 < q + b.length
      · have f1 : (8192 : Int) < (q : Int) + (b.length : Int) := by omega
        clear hlim
        go_wp2_with fail
        refine (HSX.out _).mono ?_
        rintro e w0 ⟨rfl, rfl⟩
        go_wp2_with fail
        refine (HDL.out _ HLD.out).mono ?_
        rintro e w1 ⟨v, rfl, -, hb1⟩
        rw [HM.out]
        have HB1 := Lib.hid hb1
        clear hb1
        go_wp2_with fail
        refine (HLV.out _ (HLD.out.next HB1.out)).mono ?_
        rintro e w2 ⟨rfl, hb2⟩
        have HB2 := Lib.hid (tr2 HB1.out hb2)
        clear hb2
        go_wp2_with fail
        refine (HLV.out _ (HLD.out.next HB2.out)).mono ?_
        rintro e w3 ⟨rfl, hb3⟩
        have HB3 := Lib.hid (tr2 HB2.out hb3)
        clear hb3
        go_wp2
        go_ret
        exact ⟨rfl, HB3.out⟩
      · have f1 : ¬ (8192 : Int) < (q : Int) + (b.length : Int) := by omega
        by_cases hm : 100 < m
        · have f2 : (100 : Int) < (m : Int) := by omega
          clear hlim hm
          go_wp2_with fail
          refine (HSX.out _).mono ?_
          rintro e w0 ⟨rfl, rfl⟩
          go_wp2_with fail
          refine (HDL.out _ HLD.out).mono ?_
          rintro e w1 ⟨v, rfl, -, hb1⟩
          rw [HM.out]
          have HB1 := Lib.hid hb1
          clear hb1
          go_wp2_with fail
          refine (HLV.out _ (HLD.out.next HB1.out)).mono ?_
          rintro e w2 ⟨rfl, hb2⟩
          have HB2 := Lib.hid (tr2 HB1.out hb2)
          clear hb2
          go_wp2_with fail
          refine (HLV.out _ (HLD.out.next HB2.out)).mono ?_
          rintro e w3 ⟨rfl, hb3⟩
          have HB3 := Lib.hid (tr2 HB2.out hb3)
          clear hb3
          go_wp2
          go_ret
          exact ⟨rfl, HB3.out⟩
        · have f2 : ¬ (100 : Int) < (m : Int) := by omega
          have hfr := HFR.out (by omega) (by rw [HM.out]; omega)
          rw [hfr] at HPX
          clear hlim hm hfr
          go_wp2_with fail
          refine (HSX.out _).mono ?_
          rintro e w0 ⟨rfl, rfl⟩
          go_wp2_with fail
          refine (HDL.out _ HLD.out).mono ?_
          rintro e w1 ⟨v, rfl, -, hb1⟩
          rw [HM.out]
          have HB1 := Lib.hid hb1
          clear hb1
          go_wp2_with fail
          refine (HLV.out _ (HLD.out.next HB1.out)).mono ?_
          rintro e w2 ⟨rfl, hb2⟩
          have HB2 := Lib.hid (tr2 HB1.out hb2)
          clear hb2
          go_wp2_with fail
          refine (HR1.out _ (HLD.out.next HB2.out)).mono ?_
          rintro e w3 ⟨rfl, hb3⟩
          have HB3 := Lib.hid (tr2 HB2.out hb3)
          clear hb3
          go_wp2_with fail
          refine (HR2.out _ (HLD.out.next HB3.out)).mono ?_
          rintro e w4 ⟨rfl, hb4⟩
          have HB4 := Lib.hid (tr2 HB3.out hb4)
          clear hb4
          go_wp2_with fail
          refine (HPX.out _).mono ?_
          rintro e w5 ⟨rfl, rfl⟩
          go_wp2
          go_ret
          exact ⟨rfl, HB4.out⟩
    | false =>
      have hAa : A = a ++ [10] := by rw [HEL.out, if_neg h0, if_neg (by rw [hs]; decide)]
      rw [hs] at HSX
      subst hAa
      rw [← bsv_app a [10]] at HDL HR1 HR2 hsA
      have hql : q = a.length + 1 := by rw [← hq]; simp
      clear h0
      by_cases hlim : 8192 < q + b.length
      · have f1 : (8192 : Int) < (q : Int) + (b.length : Int) := by omega
        clear hlim
        go_wp2_with fail
        refine (HSX.out _).mono ?_
        rintro e w0 ⟨rfl, rfl⟩
        go_wp2_with fail
        refine (HDL.out _ HLD.out).mono ?_
        rintro e w1 ⟨v, rfl, -, hb1⟩
        rw [HM.out]
        have HB1 := Lib.hid hb1
        clear hb1
        go_wp2_with fail
        refine (HLV.out _ (HLD.out.next HB1.out)).mono ?_
        rintro e w2 ⟨rfl, hb2⟩
        have HB2 := Lib.hid (tr2 HB1.out hb2)
        clear hb2
        go_wp2_with fail
        refine (HLV.out _ (HLD.out.next HB2.out)).mono ?_
        rintro e w3 ⟨rfl, hb3⟩
        have HB3 := Lib.hid (tr2 HB2.out hb3)
        clear hb3
        go_wp2
        go_ret
        exact ⟨rfl, HB3.out⟩
      · have f1 : ¬ (8192 : Int) < (q : Int) + (b.length : Int) := by omega
        by_cases hm : 100 < m
        · have f2 : (100 : Int) < (m : Int) := by omega
          clear hlim hm
          go_wp2_with fail
          refine (HSX.out _).mono ?_
          rintro e w0 ⟨rfl, rfl⟩
          go_wp2_with fail
          refine (HDL.out _ HLD.out).mono ?_
          rintro e w1 ⟨v, rfl, -, hb1⟩
          rw [HM.out]
          have HB1 := Lib.hid hb1
          clear hb1
          go_wp2_with fail
          refine (HLV.out _ (HLD.out.next HB1.out)).mono ?_
          rintro e w2 ⟨rfl, hb2⟩
          have HB2 := Lib.hid (tr2 HB1.out hb2)
          clear hb2
          go_wp2_with fail
          refine (HLV.out _ (HLD.out.next HB2.out)).mono ?_
          rintro e w3 ⟨rfl, hb3⟩
          have HB3 := Lib.hid (tr2 HB2.out hb3)
          clear hb3
          go_wp2
          go_ret
          exact ⟨rfl, HB3.out⟩
        · have f2 : ¬ (100 : Int) < (m : Int) := by omega
          have hfr := HFR.out (by omega) (by rw [HM.out]; omega)
          rw [hfr] at HPX
          clear hlim hm hfr
          go_wp2_with fail
          refine (HSX.out _).mono ?_
          rintro e w0 ⟨rfl, rfl⟩
          go_wp2_with fail
          refine (HDL.out _ HLD.out).mono ?_
          rintro e w1 ⟨v, rfl, -, hb1⟩
          rw [HM.out]
          have HB1 := Lib.hid hb1
          clear hb1
          go_wp2_with fail
          refine (HLV.out _ (HLD.out.next HB1.out)).mono ?_
          rintro e w2 ⟨rfl, hb2⟩
          have HB2 := Lib.hid (tr2 HB1.out hb2)
          clear hb2
          go_wp2_with fail
          refine (HR1.out _ (HLD.out.next HB2.out)).mono ?_
          rintro e w3 ⟨rfl, hb3⟩
          have HB3 := Lib.hid (tr2 HB2.out hb3)
          clear hb3
          go_wp2_with fail
          refine (HR2.out _ (HLD.out.next HB3.out)).mono ?_
          rintro e w4 ⟨rfl, hb4⟩
          have HB4 := Lib.hid (tr2 HB3.out hb4)
          clear hb4
          go_wp2_with fail
          refine (HPX.out _).mono ?_
          rintro e w5 ⟨rfl, rfl⟩
          go_wp2
          go_ret
          exact ⟨rfl, HB4.out⟩
end Go.Proofs.YtpnjnedfcdppaaaGreatDoor
