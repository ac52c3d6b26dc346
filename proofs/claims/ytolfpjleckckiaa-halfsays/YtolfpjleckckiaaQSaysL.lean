/-
  The walk of the law HalfSays. (Written by tools/gen_qsays.py.)
-/
import Derived.Test.YtolfpjleckckiaaQEndsLAll
import Derived.Test.YtolfpjleckckiaaQAnsw
namespace Go.Proofs.Ytolfpjleckckiaa
open Go.RowKit Go.Maps

/-- what is said of the keys so far -/
def sayT (t : List Int) : Int := if qOK t then 0 else 3
theorem sayT_nil : sayT [] = 0 := by
  unfold sayT
  rw [if_pos (by intro x hx; cases hx)]
theorem sayT_all {m : Nat} {l : List Int} (hm : l.length = m) (h1 : ¬ 300 < m) (h2 : ¬ m = 0) : sayT l = qErr l := by
  have hl : l ≠ [] := fun e => h2 (by rw [← hm, e]; rfl)
  unfold sayT qErr
  rw [hm, if_neg h1]
  by_cases h3 : qOK l
  · rw [if_pos h3, if_neg (fun e => e h3), if_neg hl]
  · rw [if_neg h3, if_pos h3]
theorem qErr_big {m : Nat} {l : List Int} (hm : l.length = m) (h1 : 300 < m) : qErr l = 2 := by
  unfold qErr; rw [hm, if_pos h1]
theorem qErr_nil {m : Nat} {l : List Int} (hm : l.length = m) (h1 : m = 0) : qErr l = 4 := by
  have : l = [] := List.eq_nil_of_length_eq_zero (hm.trans h1)
  subst this
  unfold qErr
  rw [if_neg (by show ¬ (300 : Nat) < 0; omega), if_neg (fun e => e (fun x hx => by cases hx)), if_pos rfl]
theorem sayT_bad {t : List Int} {x : Int} (h : ¬ qOK t) : sayT (t ++ [x]) = 3 := by
  unfold sayT
  rw [if_neg (fun e => h (fun y hy => e y (by simp [hy])))]
theorem sayT_good {t : List Int} {x : Int} (h : qOK t) (hx : 0 ≤ x ∧ x ≤ 65535) : sayT (t ++ [x]) = 0 := by
  unfold sayT
  rw [if_pos]
  intro y hy
  rcases List.mem_append.1 hy with e | e
  · exact h y e
  · simp at e; rw [e]; exact hx
theorem sayT_out {t : List Int} {x : Int} (hx : ¬ (0 ≤ x ∧ x ≤ 65535)) : sayT (t ++ [x]) = 3 := by
  unfold sayT
  rw [if_neg (fun e => hx (e x (by simp)))]
theorem qBet_t (n lo hi : Int) (w : World) (h : lo ≤ n ∧ n ≤ hi) : Calls Try.prog 10 #[I n, I lo, I hi] w fun e w' => e = .returned (.bool true) ∧ w' = w :=
  (Between_t n lo hi w (decide_eq_true h)).mono fun _ _ h => ⟨h.1, h.2.symm⟩
theorem qBet_f (n lo hi : Int) (w : World) (h : ¬ (lo ≤ n ∧ n ≤ hi)) : Calls Try.prog 10 #[I n, I lo, I hi] w fun e w' => e = .returned (.bool false) ∧ w' = w :=
  (Between_f n lo hi w (decide_eq_false h)).mono fun _ _ h => ⟨h.1, h.2.symm⟩
/-- the least and the greatest one so far -/
def qLM (t : List Int) (L M : Int) : Prop := (∀ x ∈ t, L ≤ x ∧ x ≤ M) ∧ (L = 65536 ∨ L ∈ t) ∧ (M = -1 ∨ M ∈ t) ∧ L ≤ 65536 ∧ -1 ≤ M
theorem qLM_nil : qLM [] 65536 (-1) := ⟨fun x hx => (by cases hx), .inl rfl, .inl rfl, by omega, by omega⟩
theorem qLM_snoc {t : List Int} {L M x L' M' : Int} (h : qLM t L M) (hL : L' = if x < L then x else L) (hM : M' = if M < x then x else M) : qLM (t ++ [x]) L' M' := by
  obtain ⟨h1, h2, h3, h4, h5⟩ := h
  subst hL hM
  refine ⟨fun y hy => ?_, ?_, ?_, ?_, ?_⟩
  · rcases List.mem_append.1 hy with e | e
    · have := h1 y e
      split <;> split <;> omega
    · simp at e
      subst e
      split <;> split <;> omega
  · split
    · exact .inr (by simp)
    · rcases h2 with e | e
      · exact .inl e
      · exact .inr (by simp [e])
  · split
    · exact .inr (by simp)
    · rcases h3 with e | e
      · exact .inl e
      · exact .inr (by simp [e])
  · split <;> omega
  · split <;> omega
theorem qLM_ends {l : List Int} {L M : Int} (h : qLM l L M) (hok : qOK l) (hne : l ≠ []) : QEnds (· ∈ l) L M := by
  obtain ⟨h1, h2, h3, _, _⟩ := h
  obtain ⟨y, hy⟩ := List.exists_mem_of_ne_nil l hne
  have hb := hok y hy
  have hlm := h1 y hy
  exact ⟨h2.resolve_left (by omega), h3.resolve_left (by omega), h1⟩

def RetBoth (n : Nat) (ops : List OP) (w : World) (e : Ending) (w' : World) : Prop :=
  ∃ A1 n1 c1 A2 n2 c2 er, e = .returned (.tuple #[.slice A1 n1 c1, .slice A2 n2 c2, I er]) ∧ (300 < n → n1 = 0 ∧ n2 = 0 ∧ er = 2) ∧ (n ≤ 300 → IS w' A1 n1 c1 (hR ops).1 ∧ AS w' A2 n2 c2 (hR ops).2 ∧ er = 0) ∧ Below w.heap.size w w'
theorem QRun_both (A : Option Addr) (n c : Nat) (ops : List OP) (w : World) (h : OS w A n c ops) (hm : n ≤ 9223372036854775807) : Calls Try.prog 8 #[.slice A n c] w (RetBoth n ops w) := by
  by_cases hn : 300 < n
  · refine (QRun_large A n c w hn hm).mono ?_
    rintro e w' ⟨A1, n1, c1, A2, n2, c2, rfl, his, has, hb⟩
    exact ⟨A1, n1, c1, A2, n2, c2, 2, rfl, fun _ => ⟨his.len.symm, has.len.symm, rfl⟩, fun h => by omega, hb⟩
  · refine (QRun_any A n c ops w h (by omega)).mono ?_
    rintro e w' ⟨A1, n1, c1, A2, n2, c2, rfl, his, has, hb⟩
    exact ⟨A1, n1, c1, A2, n2, c2, 0, rfl, fun h => absurd h hn, fun _ => ⟨his, has, rfl⟩, hb⟩

set_option maxRecDepth 100000 in
set_option maxHeartbeats 40000000 in
theorem qsays_a (A : Option Addr) (n c : Nat) (ops : List OP) (A' : Option Addr) (m c' : Nat) (ks : List Int) (w : World) (h : OS w A n c ops) (h' : IS w A' m c' ks) (hn : n ≤ 9223372036854775807) (hm : m ≤ 9223372036854775807) (g1 : 300 < m) :
    Calls Try.prog 3 #[.slice A n c, .slice A' m c'] w (YesQ w) := by
  have HR := Lib.hid (QRun_both A n c ops w h hn)
  have H := Lib.hid h
  have H' := Lib.hid h'
  have HL := Lib.hid h.len
  have HL' := Lib.hid h'.len
  clear h h'
  go_enter Try.func3, Try.ntmps3
  go_wp2_with fail
  refine HR.out.mono ?_
  rintro e w1 ⟨A1, n1, c1, A2, n2, c2, er, rfl, hbig, hsmall, hb1⟩
  have HBIG := Lib.hid hbig
  have HSM := Lib.hid hsmall
  have HB1 := Lib.hid hb1
  have HEN := Lib.hid (Ends_any A' m c' ks w1 (H'.out.below hb1) hm)
  clear hbig hsmall hb1 HR
  go_wp2_with fail
  refine HEN.out.mono ?_
  rintro e w2 ⟨⟨lo, hi, rfl, hz1, hz2⟩, hb2⟩
  have HZ1 := Lib.hid hz1
  have HZ2 := Lib.hid hz2
  have HB2 := Lib.hid (qon HB1.out hb2)
  have HBS := Lib.hid hb2
  clear hz1 hz2 hb2 HEN
  go_wp2
  go_loopw [11, 12, 13, 40] (fun sy lv mv i wr => ∃ (k : Nat) (L M : Int), k ≤ m ∧ i = .int .i64 k ∧ sy = I 2 ∧ lv = I L ∧ mv = I M ∧ qLM (ks.take k) L M ∧ wr = w2) (fun _ _ _ i _ => m - (intOf i).toNat)
  case atStart => exact ⟨0, 65536, -1, Nat.zero_le _, rfl, rfl, rfl, rfl, qLM_nil, rfl⟩
  case round =>
    obtain ⟨k, L, M, hk, rfl, rfl, rfl, rfl, hlm, rfl⟩ := hrel
    have HLM := Lib.hid hlm
    clear hlm
    by_cases hlt : k < m
    · skip
      have hkl : k < ks.length := by rw [HL'.out]; exact hlt
      obtain ⟨b, off, rfl, hb, hc⟩ := (H'.out.below HB2.out).at_ (by omega)
      have hck : wr.cell? ⟨b, off + k, none⟩ = some (I ks[k]) := hc k hlt
      have HTS := Lib.hid (take_snoc hkl)
      generalize ks[k] = x at *
      obtain ⟨L', hL'⟩ : ∃ L', (if x < L then x else L) = L' := ⟨_, rfl⟩
      obtain ⟨M', hM'⟩ : ∃ M', (if M < x then x else M) = M' := ⟨_, rfl⟩
      have HQ := Lib.hid (qLM_snoc HLM.out hL'.symm hM'.symm)
      have HL2 := Lib.hid hL'
      have HM2 := Lib.hid hM'
      clear hc hL' hM'
      go_wp2
      go_roundw
      case rel => exact ⟨k + 1, _, _, by omega, by go_num, rfl, rfl, rfl, by rw [HTS.out]; first | exact qLM_snoc HLM.out rfl rfl | exact qLM_snoc HLM.out (by split <;> split <;> omega) (by split <;> split <;> omega) | exact HQ.out, (by first | rfl | trivial)⟩
      case measure => simp [intOf]; omega
    · obtain ⟨rfl, rfl⟩ := HZ1.out (by rw [qErr_big HL'.out g1]; decide)
      have hqe := qErr_big HL'.out g1
      rw [hqe]
      clear hqe
      by_cases hbn : 300 < n
      · obtain ⟨rfl, rfl, rfl⟩ := HBIG.out hbn
        go_wp2
        go_ret
        exact ⟨rfl, HB2.out⟩
      · obtain ⟨his, has, rfl⟩ := HSM.out (by omega)
        have HIS := Lib.hid (his.below HBS.out)
        have HAS := Lib.hid (has.below HBS.out)
        have hnn : n ≤ 300 := by omega
        have hl1 := hR_le ops
        have hn1 : n1 ≤ 300 := by rw [← his.len]; have := HL.out; omega
        have hn2 : n2 ≤ 300 := by rw [← has.len, hR_len, HL.out]; exact hnn
        have HANS := Lib.hid (HalfAnswered_any A n c ops wr (H.out.below HB2.out) hnn)
        clear his has hl1 hbn
        go_wp2_with fail
        refine HANS.out.mono ?_
        rintro e w4 ⟨A4, n4, c4, A5, n5, c5, rfl, hi4, ha5, hb4⟩
        obtain rfl : n4 = n1 := by rw [← hi4.len]; exact HIS.out.len
        obtain rfl : n5 = n2 := by rw [← ha5.len]; exact HAS.out.len
        have HB4 := Lib.hid (qon HB2.out hb4)
        have HI4 := Lib.hid hi4
        have HA5 := Lib.hid ha5
        have HIS4 := Lib.hid (HIS.out.below hb4)
        have HAS4 := Lib.hid (HAS.out.below hb4)
        clear hi4 ha5 hb4
        go_wp2_with fail
        refine (sameInts_t A1 A4 n4 c1 c4 (hR ops).1 w4 HIS4.out HI4.out (by omega)).mono ?_
        rintro e w5 ⟨rfl, hb5⟩
        have HB5 := Lib.hid (qon HB4.out hb5)
        have HA55 := Lib.hid (HA5.out.below hb5)
        have HAS5 := Lib.hid (HAS4.out.below hb5)
        clear hb5
        go_wp2_with fail
        refine (eqAns_t A2 A5 n5 c2 c5 (hR ops).2 w5 HAS5.out HA55.out (by omega)).mono ?_
        rintro e w6 ⟨rfl, hb6⟩
        have HB6 := Lib.hid (qon HB5.out hb6)
        clear hb6
        go_wp2
        go_ret
        exact ⟨rfl, HB6.out⟩

set_option maxRecDepth 100000 in
set_option maxHeartbeats 40000000 in
theorem qsays_b (A : Option Addr) (n c : Nat) (ops : List OP) (A' : Option Addr) (m c' : Nat) (ks : List Int) (w : World) (h : OS w A n c ops) (h' : IS w A' m c' ks) (hn : n ≤ 9223372036854775807) (hm : m ≤ 9223372036854775807) (g1 : m = 0) :
    Calls Try.prog 3 #[.slice A n c, .slice A' m c'] w (YesQ w) := by
  have HR := Lib.hid (QRun_both A n c ops w h hn)
  have H := Lib.hid h
  have H' := Lib.hid h'
  have HL := Lib.hid h.len
  have HL' := Lib.hid h'.len
  have g0 : ¬ 300 < m := by omega
  have g3 : ((m : Int) == 0) = true := by simp; omega
  have G1 := Lib.hid g1
  clear g1
  clear h h'
  go_enter Try.func3, Try.ntmps3
  go_wp2_with fail
  refine HR.out.mono ?_
  rintro e w1 ⟨A1, n1, c1, A2, n2, c2, er, rfl, hbig, hsmall, hb1⟩
  have HBIG := Lib.hid hbig
  have HSM := Lib.hid hsmall
  have HB1 := Lib.hid hb1
  have HEN := Lib.hid (Ends_any A' m c' ks w1 (H'.out.below hb1) hm)
  clear hbig hsmall hb1 HR
  go_wp2_with fail
  refine HEN.out.mono ?_
  rintro e w2 ⟨⟨lo, hi, rfl, hz1, hz2⟩, hb2⟩
  have HZ1 := Lib.hid hz1
  have HZ2 := Lib.hid hz2
  have HB2 := Lib.hid (qon HB1.out hb2)
  have HBS := Lib.hid hb2
  clear hz1 hz2 hb2 HEN
  go_wp2
  go_loopw [11, 12, 13, 40] (fun sy lv mv i wr => ∃ (k : Nat) (L M : Int), k ≤ m ∧ i = .int .i64 k ∧ sy = I 4 ∧ lv = I L ∧ mv = I M ∧ qLM (ks.take k) L M ∧ wr = w2) (fun _ _ _ i _ => m - (intOf i).toNat)
  case atStart => exact ⟨0, 65536, -1, Nat.zero_le _, rfl, rfl, rfl, rfl, qLM_nil, rfl⟩
  case round =>
    obtain ⟨k, L, M, hk, rfl, rfl, rfl, rfl, hlm, rfl⟩ := hrel
    have HLM := Lib.hid hlm
    clear hlm
    by_cases hlt : k < m
    · have := G1.out
      omega
    · obtain ⟨rfl, rfl⟩ := HZ1.out (by rw [qErr_nil HL'.out G1.out]; decide)
      have hqe := qErr_nil HL'.out G1.out
      rw [hqe]
      clear hqe
      by_cases hbn : 300 < n
      · obtain ⟨rfl, rfl, rfl⟩ := HBIG.out hbn
        go_wp2
        go_ret
        exact ⟨rfl, HB2.out⟩
      · obtain ⟨his, has, rfl⟩ := HSM.out (by omega)
        have HIS := Lib.hid (his.below HBS.out)
        have HAS := Lib.hid (has.below HBS.out)
        have hnn : n ≤ 300 := by omega
        have hl1 := hR_le ops
        have hn1 : n1 ≤ 300 := by rw [← his.len]; have := HL.out; omega
        have hn2 : n2 ≤ 300 := by rw [← has.len, hR_len, HL.out]; exact hnn
        have HANS := Lib.hid (HalfAnswered_any A n c ops wr (H.out.below HB2.out) hnn)
        clear his has hl1 hbn
        go_wp2_with fail
        refine HANS.out.mono ?_
        rintro e w4 ⟨A4, n4, c4, A5, n5, c5, rfl, hi4, ha5, hb4⟩
        obtain rfl : n4 = n1 := by rw [← hi4.len]; exact HIS.out.len
        obtain rfl : n5 = n2 := by rw [← ha5.len]; exact HAS.out.len
        have HB4 := Lib.hid (qon HB2.out hb4)
        have HI4 := Lib.hid hi4
        have HA5 := Lib.hid ha5
        have HIS4 := Lib.hid (HIS.out.below hb4)
        have HAS4 := Lib.hid (HAS.out.below hb4)
        clear hi4 ha5 hb4
        go_wp2_with fail
        refine (sameInts_t A1 A4 n4 c1 c4 (hR ops).1 w4 HIS4.out HI4.out (by omega)).mono ?_
        rintro e w5 ⟨rfl, hb5⟩
        have HB5 := Lib.hid (qon HB4.out hb5)
        have HA55 := Lib.hid (HA5.out.below hb5)
        have HAS5 := Lib.hid (HAS4.out.below hb5)
        clear hb5
        go_wp2_with fail
        refine (eqAns_t A2 A5 n5 c2 c5 (hR ops).2 w5 HAS5.out HA55.out (by omega)).mono ?_
        rintro e w6 ⟨rfl, hb6⟩
        have HB6 := Lib.hid (qon HB5.out hb6)
        clear hb6
        go_wp2
        go_ret
        exact ⟨rfl, HB6.out⟩

set_option maxRecDepth 100000 in
set_option maxHeartbeats 40000000 in
theorem qsays_c (A : Option Addr) (n c : Nat) (ops : List OP) (A' : Option Addr) (m c' : Nat) (ks : List Int) (w : World) (h : OS w A n c ops) (h' : IS w A' m c' ks) (hn : n ≤ 9223372036854775807) (hm : m ≤ 9223372036854775807) (g1 : ¬ 300 < m) (g2 : ¬ m = 0) :
    Calls Try.prog 3 #[.slice A n c, .slice A' m c'] w (YesQ w) := by
  have HR := Lib.hid (QRun_both A n c ops w h hn)
  have H := Lib.hid h
  have H' := Lib.hid h'
  have HL := Lib.hid h.len
  have HL' := Lib.hid h'.len
  have g3 : ((m : Int) == 0) = false := by simp; omega
  clear h h'
  go_enter Try.func3, Try.ntmps3
  go_wp2_with fail
  refine HR.out.mono ?_
  rintro e w1 ⟨A1, n1, c1, A2, n2, c2, er, rfl, hbig, hsmall, hb1⟩
  have HBIG := Lib.hid hbig
  have HSM := Lib.hid hsmall
  have HB1 := Lib.hid hb1
  have HEN := Lib.hid (Ends_any A' m c' ks w1 (H'.out.below hb1) hm)
  clear hbig hsmall hb1 HR
  go_wp2_with fail
  refine HEN.out.mono ?_
  rintro e w2 ⟨⟨lo, hi, rfl, hz1, hz2⟩, hb2⟩
  have HZ1 := Lib.hid hz1
  have HZ2 := Lib.hid hz2
  have HB2 := Lib.hid (qon HB1.out hb2)
  have HBS := Lib.hid hb2
  clear hz1 hz2 hb2 HEN
  go_wp2
  go_loopw [11, 12, 13, 40] (fun sy lv mv i wr => ∃ (k : Nat) (L M : Int), k ≤ m ∧ i = .int .i64 k ∧ sy = I (sayT (ks.take k)) ∧ lv = I L ∧ mv = I M ∧ qLM (ks.take k) L M ∧ wr = w2) (fun _ _ _ i _ => m - (intOf i).toNat)
  case atStart => exact ⟨0, 65536, -1, Nat.zero_le _, rfl, by rw [List.take_zero, sayT_nil], rfl, rfl, qLM_nil, rfl⟩
  case round =>
    obtain ⟨k, L, M, hk, rfl, rfl, rfl, rfl, hlm, rfl⟩ := hrel
    have HLM := Lib.hid hlm
    clear hlm
    by_cases hlt : k < m
    · skip
      have hkl : k < ks.length := by rw [HL'.out]; exact hlt
      obtain ⟨b, off, rfl, hb, hc⟩ := (H'.out.below HB2.out).at_ (by omega)
      have hck : wr.cell? ⟨b, off + k, none⟩ = some (I ks[k]) := hc k hlt
      have HTS := Lib.hid (take_snoc hkl)
      generalize ks[k] = x at *
      obtain ⟨L', hL'⟩ : ∃ L', (if x < L then x else L) = L' := ⟨_, rfl⟩
      obtain ⟨M', hM'⟩ : ∃ M', (if M < x then x else M) = M' := ⟨_, rfl⟩
      have HQ := Lib.hid (qLM_snoc HLM.out hL'.symm hM'.symm)
      have HL2 := Lib.hid hL'
      have HM2 := Lib.hid hM'
      clear hc hL' hM'
      by_cases hS : qOK (ks.take k)
      · obtain ⟨S, hSS⟩ : ∃ S, sayT (ks.take k) = S := ⟨_, rfl⟩
        have hS0 : S = 0 := by rw [← hSS]; unfold sayT; rw [if_pos hS]
        rw [hSS]
        subst hS0
        by_cases hx : 0 ≤ x ∧ x ≤ 65535
        · have HBT := Lib.hid (qBet_t x 0 65535 wr hx)
          have HSN : Hid (sayT (ks.take (k + 1)) = 0) := by show _ = _; rw [HTS.out]; exact sayT_good hS hx
          clear hx hS hSS
          go_wp2_with fail
          refine HBT.out.mono ?_
          rintro e w3 ⟨rfl, rfl⟩
          go_wp2
          go_roundw
          case rel => exact ⟨k + 1, _, _, by omega, by go_num, by rw [HSN.out], rfl, rfl, by rw [HTS.out]; first | exact qLM_snoc HLM.out rfl rfl | exact qLM_snoc HLM.out (by split <;> split <;> omega) (by split <;> split <;> omega) | exact HQ.out, (by first | rfl | trivial)⟩
          case measure => simp [intOf]; omega
        · have HBT := Lib.hid (qBet_f x 0 65535 wr hx)
          have HSN : Hid (sayT (ks.take (k + 1)) = 3) := by show _ = _; rw [HTS.out]; exact sayT_out hx
          clear hx hS hSS
          go_wp2_with fail
          refine HBT.out.mono ?_
          rintro e w3 ⟨rfl, rfl⟩
          go_wp2
          go_roundw
          case rel => exact ⟨k + 1, _, _, by omega, by go_num, by rw [HSN.out], rfl, rfl, by rw [HTS.out]; first | exact qLM_snoc HLM.out rfl rfl | exact qLM_snoc HLM.out (by split <;> split <;> omega) (by split <;> split <;> omega) | exact HQ.out, (by first | rfl | trivial)⟩
          case measure => simp [intOf]; omega
      · obtain ⟨S, hSS⟩ : ∃ S, sayT (ks.take k) = S := ⟨_, rfl⟩
        have hS0 : S = 3 := by rw [← hSS]; unfold sayT; rw [if_neg hS]
        have HSN : Hid (sayT (ks.take (k + 1)) = 3) := by show _ = _; rw [HTS.out]; exact sayT_bad hS
        rw [hSS]
        subst hS0
        clear hS hSS
        go_wp2
        go_roundw
        case rel => exact ⟨k + 1, _, _, by omega, by go_num, by rw [HSN.out], rfl, rfl, by rw [HTS.out]; first | exact qLM_snoc HLM.out rfl rfl | exact qLM_snoc HLM.out (by split <;> split <;> omega) (by split <;> split <;> omega) | exact HQ.out, (by first | rfl | trivial)⟩
        case measure => simp [intOf]; omega
    · have htk : ks.take k = ks := List.take_of_length_le (by rw [HL'.out]; omega)
      rw [htk] at HLM ⊢
      rw [sayT_all HL'.out g1 g2]
      have hf2 : qErr ks = 0 → lo = L ∧ hi = M := fun hz => by
        obtain ⟨h3, hok, hne⟩ := qErr_zero.1 hz
        exact qends_one (HZ2.out hz) (qLM_ends HLM.out hok hne)
      have HF2 := Lib.hid hf2
      obtain ⟨Q, hQ⟩ : ∃ Q, qErr ks = Q := ⟨_, rfl⟩
      have HF1 := HZ1
      rw [hQ] at HF1 HF2 ⊢
      clear htk hf2 hQ HZ1 HZ2
      by_cases hz : Q = 0
      · obtain ⟨rfl, rfl⟩ := HF2.out hz
        subst hz
        by_cases hbn : 300 < n
        · obtain ⟨rfl, rfl, rfl⟩ := HBIG.out hbn
          go_wp2
          go_ret
          exact ⟨rfl, HB2.out⟩
        · obtain ⟨his, has, rfl⟩ := HSM.out (by omega)
          have HIS := Lib.hid (his.below HBS.out)
          have HAS := Lib.hid (has.below HBS.out)
          have hnn : n ≤ 300 := by omega
          have hl1 := hR_le ops
          have hn1 : n1 ≤ 300 := by rw [← his.len]; have := HL.out; omega
          have hn2 : n2 ≤ 300 := by rw [← has.len, hR_len, HL.out]; exact hnn
          have HANS := Lib.hid (HalfAnswered_any A n c ops wr (H.out.below HB2.out) hnn)
          clear his has hl1 hbn
          go_wp2_with fail
          refine HANS.out.mono ?_
          rintro e w4 ⟨A4, n4, c4, A5, n5, c5, rfl, hi4, ha5, hb4⟩
          obtain rfl : n4 = n1 := by rw [← hi4.len]; exact HIS.out.len
          obtain rfl : n5 = n2 := by rw [← ha5.len]; exact HAS.out.len
          have HB4 := Lib.hid (qon HB2.out hb4)
          have HI4 := Lib.hid hi4
          have HA5 := Lib.hid ha5
          have HIS4 := Lib.hid (HIS.out.below hb4)
          have HAS4 := Lib.hid (HAS.out.below hb4)
          clear hi4 ha5 hb4
          go_wp2_with fail
          refine (sameInts_t A1 A4 n4 c1 c4 (hR ops).1 w4 HIS4.out HI4.out (by omega)).mono ?_
          rintro e w5 ⟨rfl, hb5⟩
          have HB5 := Lib.hid (qon HB4.out hb5)
          have HA55 := Lib.hid (HA5.out.below hb5)
          have HAS5 := Lib.hid (HAS4.out.below hb5)
          clear hb5
          go_wp2_with fail
          refine (eqAns_t A2 A5 n5 c2 c5 (hR ops).2 w5 HAS5.out HA55.out (by omega)).mono ?_
          rintro e w6 ⟨rfl, hb6⟩
          have HB6 := Lib.hid (qon HB5.out hb6)
          clear hb6
          go_wp2
          go_ret
          exact ⟨rfl, HB6.out⟩
      · obtain ⟨rfl, rfl⟩ := HF1.out hz
        have hzb : (Q == 0) = false := by simpa using hz
        have hzc : (Q != 0) = true := by simpa using hz
        clear hz
        by_cases hbn : 300 < n
        · obtain ⟨rfl, rfl, rfl⟩ := HBIG.out hbn
          go_wp2
          go_ret
          exact ⟨rfl, HB2.out⟩
        · obtain ⟨his, has, rfl⟩ := HSM.out (by omega)
          have HIS := Lib.hid (his.below HBS.out)
          have HAS := Lib.hid (has.below HBS.out)
          have hnn : n ≤ 300 := by omega
          have hl1 := hR_le ops
          have hn1 : n1 ≤ 300 := by rw [← his.len]; have := HL.out; omega
          have hn2 : n2 ≤ 300 := by rw [← has.len, hR_len, HL.out]; exact hnn
          have HANS := Lib.hid (HalfAnswered_any A n c ops wr (H.out.below HB2.out) hnn)
          clear his has hl1 hbn
          go_wp2_with fail
          refine HANS.out.mono ?_
          rintro e w4 ⟨A4, n4, c4, A5, n5, c5, rfl, hi4, ha5, hb4⟩
          obtain rfl : n4 = n1 := by rw [← hi4.len]; exact HIS.out.len
          obtain rfl : n5 = n2 := by rw [← ha5.len]; exact HAS.out.len
          have HB4 := Lib.hid (qon HB2.out hb4)
          have HI4 := Lib.hid hi4
          have HA5 := Lib.hid ha5
          have HIS4 := Lib.hid (HIS.out.below hb4)
          have HAS4 := Lib.hid (HAS.out.below hb4)
          clear hi4 ha5 hb4
          go_wp2_with fail
          refine (sameInts_t A1 A4 n4 c1 c4 (hR ops).1 w4 HIS4.out HI4.out (by omega)).mono ?_
          rintro e w5 ⟨rfl, hb5⟩
          have HB5 := Lib.hid (qon HB4.out hb5)
          have HA55 := Lib.hid (HA5.out.below hb5)
          have HAS5 := Lib.hid (HAS4.out.below hb5)
          clear hb5
          go_wp2_with fail
          refine (eqAns_t A2 A5 n5 c2 c5 (hR ops).2 w5 HAS5.out HA55.out (by omega)).mono ?_
          rintro e w6 ⟨rfl, hb6⟩
          have HB6 := Lib.hid (qon HB5.out hb6)
          clear hb6
          go_wp2
          go_ret
          exact ⟨rfl, HB6.out⟩

theorem qsays_any (A : Option Addr) (n c : Nat) (ops : List OP) (A' : Option Addr) (m c' : Nat) (ks : List Int) (w : World) (h : OS w A n c ops) (hn : n ≤ 9223372036854775807) (h' : IS w A' m c' ks) (hm : m ≤ 9223372036854775807) :
    Calls Try.prog 3 #[.slice A n c, .slice A' m c'] w (YesQ w) := by
  by_cases g1 : 300 < m
  · exact qsays_a A n c ops A' m c' ks w h h' hn hm g1
  · by_cases g2 : m = 0
    · exact qsays_b A n c ops A' m c' ks w h h' hn hm g2
    · exact qsays_c A n c ops A' m c' ks w h h' hn hm g1 g2

end Go.Proofs.Ytolfpjleckckiaa
