/-
  Joined texts: YtolfpjleckckiaaPutAll, YtolfpjleckckiaaQEndsL.
-/
import Derived.Test.YtolfpjleckckiaaOpRowsAll
import Derived.Test.YtolfpjleckckiaaKOne0All
import Derived.Test.YtolfpjleckckiaaKTabAll
/-
  hedgkeep.putAll.
-/
namespace Go.Proofs.Ytolfpjleckckiaa
open Go.RowKit

set_option maxRecDepth 100000 in
set_option maxHeartbeats 1000000 in
theorem putAll_any (A : Option Addr) (n c : Nat) (ks : List Int) (w : World) (h : IS w A n c ks) (hn : n ≤ 2000000) :
    Calls Try.prog 21 #[.slice A n c] w fun e w' => ∃ v, e = .returned v ∧ OwnO w' w.heap.size v (putsOf ks) ∧ Below w.heap.size w w' := by
  have H := Lib.hid h
  have HL := Lib.hid h.len
  clear h
  obtain ⟨i0, hi, hz0, hz1, hz2⟩ := info_parts op_info
  have HI := Lib.hid hi
  have HZ0 := Lib.hid hz0
  have HZ1 := Lib.hid hz1
  have HZ2 := Lib.hid hz2
  clear hi hz0 hz1 hz2
  go_enter Try.func21, Try.ntmps21
  go_wp2
  go_loopw [3, 8] (fun v i wr => ∃ k : Nat, k ≤ n ∧ i = .int .i64 k ∧ OwnO wr w.heap.size v (putsOf (ks.take k)) ∧ Below w.heap.size w wr) (fun _ i _ => n - (intOf i).toNat)
  case atStart => exact ⟨0, Nat.zero_le _, rfl, World.ownsRow_nil _ _ _ _, Below.refl _ _⟩
  case round =>
    obtain ⟨k, hk, rfl, hown, hnx⟩ := hrel
    by_cases hlt : k < n
    · have hkl : k < ks.length := by rw [HL.out]; exact hlt
      obtain ⟨b, off, rfl, hbw, hc⟩ := (H.out.below hnx).cell_at hlt
      obtain ⟨x, hx⟩ : ∃ x, ks[k] = x := ⟨_, rfl⟩
      rw [hx] at hc
      have HCT : Hid (putsOf (ks.take (k + 1)) = putsOf (ks.take k) ++ [(1, x, 0)]) := by
        show _ = _
        rw [List.take_succ_eq_append_getElem hkl, hx]
        simp [putsOf]
      obtain ⟨xs, hxs⟩ : ∃ xs, putsOf (ks.take k) = xs := ⟨_, rfl⟩
      have hxl : xs.length ≤ 2000000 := by rw [← hxs]; simp [putsOf]; omega
      rw [hxs] at hown HCT
      have HOWN := Lib.hid hown
      have HNX := Lib.hid hnx
      have hzi := hnx.size
      clear hx hown hnx hxs
      go_wp2_with (first
        | (at_builtin
           refine wpList_append_own_at _ rfl (.tmp 12) (.tmp 15) 22 rfl w.heap.size 39 i0 _ 3 24 Try.underlying22 HI.out HZ0.out HZ1.out HZ2.out rfl (by omega) _ xs.length (flatO xs) rfl (own_below HOWN.out ((Below.refl _ _).alloc (Nat.le_refl _) _)) ⟨wr.heap.size, 0, none⟩ 1 1 [I 1, I x, I 0] rfl rfl (three_new _ 1 x 0 _) (three_one 1 x 0) (by unfold maxLen; omega) (by omega) (by simp; omega) ?_
           intro v2 w9 hown2 hgrow2 _ hat2)
        | fail)
      go_roundw
      case rel =>
        refine ⟨k + 1, by omega, by go_num, ?_, ?_⟩
        · rw [HCT.out]
          unfold OwnO
          rw [flatO_append, List.length_append, List.length_singleton]
          exact hown2
        · exact Below.grown (HNX.out.alloc hzi _) hgrow2 (by simp; omega) (own_ge1 HOWN.out)
      case measure => simp [intOf]; omega
    · rw [List.take_of_length_le (by rw [HL.out]; omega)] at hown
      have HOWN := Lib.hid hown
      have HNX := Lib.hid hnx
      clear hown hnx
      go_wp2
      go_ret
      exact ⟨u3, rfl, HOWN.out, HNX.out⟩

end Go.Proofs.Ytolfpjleckckiaa

/-
  The walk of the law HalfEnds.
-/
namespace Go.Proofs.Ytolfpjleckckiaa
open Go.RowKit Go.Maps

def YesQ (w : World) (e : Ending) (w' : World) : Prop := e = .returned (.bool true) ∧ Below w.heap.size w w'
theorem QRun_some (A : Option Addr) (n c : Nat) (ops : List OP) (w : World) (h : OS w A n c ops) (hm : n ≤ 9223372036854775807) :
    Calls Try.prog 8 #[.slice A n c] w fun e w' => ∃ (A' : Option Addr) (n' c' : Nat) (A2 : Option Addr) (n2 c2 : Nat) (er : Int), e = .returned (.tuple #[.slice A' n' c', .slice A2 n2 c2, I er]) ∧ Below w.heap.size w w' := by
  by_cases hn : 300 < n
  · refine (QRun_large A n c w hn hm).mono ?_
    rintro e w' ⟨A1, n1, c1, A2, n2, c2, rfl, _, _, hb⟩
    exact ⟨_, _, _, _, _, _, _, rfl, hb⟩
  · refine (QRun_any A n c ops w h (by omega)).mono ?_
    rintro e w' ⟨A1, n1, c1, A2, n2, c2, rfl, _, _, hb⟩
    exact ⟨_, _, _, _, _, _, _, rfl, hb⟩
theorem qputs_all {ks : List Int} (h : qOK ks) : (hR (putsOf ks)).1 = qall ks := by
  rw [hR_is]
  exact hK_puts ks h 0

set_option maxRecDepth 100000 in
set_option maxHeartbeats 4000000 in
theorem qends_bad (A : Option Addr) (n c : Nat) (l : List Int) (w : World) (h : IS w A n c l) (hn : n ≤ 2000000) (he : qErr l ≠ 0) :
    Calls Try.prog 7 #[.slice A n c] w (YesQ w) := by
  have H := Lib.hid h
  have HE := Lib.hid (Ends_any A n c l w h (by omega))
  have hpl : (putsOf l).length = n := by simp [putsOf, h.len]
  have HPL := Lib.hid hpl
  obtain ⟨E, hE⟩ : ∃ E, qErr l = E := ⟨_, rfl⟩
  have hE0 : (E != 0) = true := by rw [← hE]; simpa using he
  have HEE := Lib.hid hE
  have HN := Lib.hid he
  clear h hpl hE he
  go_enter Try.func7, Try.ntmps7
  go_wp2_with fail
  refine HE.out.mono ?_
  rintro e w1 ⟨⟨lo, hi, rfl, hz, _⟩, hb1⟩
  obtain ⟨rfl, rfl⟩ := hz HN.out
  rw [HEE.out]
  have HB1 := Lib.hid hb1
  clear hb1 hz
  go_wp2_with fail
  refine (putAll_any A n c l w1 (H.out.below HB1.out) hn).mono ?_
  rintro e w2 ⟨v, rfl, hown, hb2⟩
  obtain ⟨A2, c2, rfl, hos⟩ := hown.os
  rw [HPL.out] at hos ⊢
  have HB2 := Lib.hid (qon HB1.out hb2)
  have HO2 := Lib.hid hos
  clear hown hos hb2
  go_wp2_with fail
  refine (QRun_some A2 n c2 _ w2 HO2.out (by omega)).mono ?_
  rintro e w3 ⟨A3, n3, c3, A4, n4, c4, er, rfl, hb3⟩
  have HB3 := Lib.hid (qon HB2.out hb3)
  clear hb3
  go_wp2_with fail
  refine (halfLives_any w3).mono ?_
  rintro e w4 ⟨rfl, hb4⟩
  have HB4 := Lib.hid (qon HB3.out hb4)
  clear hb4
  go_wp2_with fail
  refine (halfLives_any w4).mono ?_
  rintro e w5 ⟨rfl, hb5⟩
  have HB5 := Lib.hid (qon HB4.out hb5)
  clear hb5
  go_wp2
  go_ret
  exact ⟨rfl, HB5.out⟩

set_option maxRecDepth 100000 in
set_option maxHeartbeats 4000000 in
theorem qends_ok (A : Option Addr) (n c : Nat) (l : List Int) (w : World) (h : IS w A n c l) (he : qErr l = 0) :
    Calls Try.prog 7 #[.slice A n c] w (YesQ w) := by
  obtain ⟨h3, hok, hne⟩ := qErr_zero.1 he
  have hn : n ≤ 300 := by rw [← h.len]; exact h3
  have H := Lib.hid h
  have HE := Lib.hid (Ends_any A n c l w h (by omega))
  have hpl : (putsOf l).length = n := by simp [putsOf, h.len]
  have HPL := Lib.hid hpl
  have HPA := Lib.hid (qputs_all hok)
  have HZ := Lib.hid he
  have HQE : Hid (∀ lo hi, QEnds (· ∈ l) lo hi → (qall l).head? = some lo ∧ (qall l).getLast? = some hi) := fun lo hi hq => qall_ends hq.1 (fun x hx => (hq.2.2 x hx).1) hq.2.1 (fun x hx => (hq.2.2 x hx).2)
  clear h hpl hok hne h3 he
  go_enter Try.func7, Try.ntmps7
  go_wp2_with fail
  refine HE.out.mono ?_
  rintro e w1 ⟨⟨lo, hi, rfl, _, hz⟩, hb1⟩
  have hq := HQE.out lo hi (hz HZ.out)
  rw [HZ.out]
  have HB1 := Lib.hid hb1
  have HQ := Lib.hid hq
  clear hb1 hz hq
  go_wp2_with fail
  refine (putAll_any A n c l w1 (H.out.below HB1.out) (by omega)).mono ?_
  rintro e w2 ⟨v, rfl, hown, hb2⟩
  obtain ⟨A2, c2, rfl, hos⟩ := hown.os
  rw [HPL.out] at hos ⊢
  have HB2 := Lib.hid (qon HB1.out hb2)
  have HO2 := Lib.hid hos
  clear hown hos hb2
  go_wp2_with fail
  refine (QRun_any A2 n c2 _ w2 HO2.out hn).mono ?_
  rw [HPA.out]
  rintro e w3 ⟨A3, n3, c3, A4, n4, c4, rfl, his, has, hb3⟩
  have HB3 := Lib.hid (qon HB2.out hb3)
  have HI3 := Lib.hid his
  have hl3 := his.len
  obtain ⟨q1, q2⟩ := HQ.out
  have h0 : 0 < n3 := by
    rw [← hl3]
    cases hql : qall l with
    | nil => rw [hql] at q1; cases q1
    | cons a t => simp
  have hn3 : n3 ≤ 300 := by
    have := hR_le (putsOf l)
    rw [HPA.out, hl3, HPL.out] at this
    omega
  have HX : Hid ((qall l)[0]? = some lo ∧ (qall l)[n3 - 1]? = some hi) := by
    rw [List.head?_eq_getElem?] at q1
    rw [List.getLast?_eq_getElem?, hl3] at q2
    exact ⟨q1, q2⟩
  clear his has hb3 q1 q2 hl3 HQ
  go_wp2_with fail
  refine (halfLives_any w3).mono ?_
  rintro e w4 ⟨rfl, hb4⟩
  have HB4 := Lib.hid (qon HB3.out hb4)
  obtain ⟨b, off, rfl, hbb, hc⟩ := (HI3.out.below hb4).at_ h0
  have c0 := hc 0 h0
  have c1 := hc (n3 - 1) (by omega)
  obtain ⟨x1, x2⟩ := HX.out
  rw [List.getElem?_eq_getElem (by rw [HI3.out.len]; exact h0)] at x1
  rw [List.getElem?_eq_getElem (by rw [HI3.out.len]; omega)] at x2
  rw [Option.some.inj x1] at c0
  rw [Option.some.inj x2] at c1
  have e1 : IntKind.i64.wrap ((n3 : Int) - 1) = ((n3 - 1 : Nat) : Int) := by rw [IntWalk.i64_in _ (by omega)]; omega
  simp only [Nat.add_zero] at c0
  clear hb4 hc x1 x2
  go_wp2
  go_ret
  exact ⟨rfl, HB4.out⟩

end Go.Proofs.Ytolfpjleckckiaa
