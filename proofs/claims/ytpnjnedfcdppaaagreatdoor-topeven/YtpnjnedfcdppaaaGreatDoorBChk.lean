/-
  best.isOut, slices.ContainsFunc with it, best.check.
-/
import Derived.Test.YtpnjnedfcdppaaaGreatDoorInts
namespace Go.Proofs.YtpnjnedfcdppaaaGreatDoor
open Go.RowKit

def isO (x : Int) : Bool := decide (x < 0 ∨ 1000 < x)
theorem isOut_any (x : Int) (w : World) : Calls Tryz.prog 142 #[I x] w fun e w' => e = .returned (.bool (isO x)) ∧ w = w' := by
  by_cases h0 : x < 0
  · have HE : Hid (isO x = true) := by show _ = _; simp [isO, h0]
    go_enter Tryz.func142, Tryz.ntmps142
    go_wp2
    go_ret
    exact ⟨by rw [HE.out]; rfl, rfl⟩
  · by_cases h1 : 1000 < x
    · have HE : Hid (isO x = true) := by show _ = _; simp [isO, h1]
      go_enter Tryz.func142, Tryz.ntmps142
      go_wp2
      go_ret
      exact ⟨by rw [HE.out]; rfl, rfl⟩
    · have HE : Hid (isO x = false) := by show _ = _; simp [isO]; omega
      go_enter Tryz.func142, Tryz.ntmps142
      go_wp2
      go_ret
      exact ⟨by rw [HE.out]; rfl, rfl⟩
set_option maxRecDepth 100000 in
set_option maxHeartbeats 1000000 in
theorem ixOut_any (A : Option Addr) (n c : Nat) (l : List Int) (w : World) (h : IS w A n c l) (hn : n ≤ 1000) :
    Calls Tryz.prog 76 #[.slice A n c, .func (.func 142) #[] #[]] w fun e w' => (∃ k : Int, e = .returned (I k) ∧ decide (0 ≤ k) = l.any isO ∧ -1 ≤ k ∧ k ≤ 1000) ∧ w = w' := by
  have H := Lib.hid h
  have Hlen := Lib.hid h.len
  clear h
  go_enter Tryz.func76, Tryz.ntmps76
  go_wp2
  go_loop [8] (fun i => ∃ j : Nat, j ≤ n ∧ i = .int .i64 j ∧ ∀ q (hq : q < l.length), q < j → isO l[q] = false) (fun i => n - (intOf i).toNat)
  case atStart => exact ⟨0, Nat.zero_le _, rfl, fun q _ hq => absurd hq (by omega)⟩
  case round =>
    obtain ⟨j, hj, rfl, hall⟩ := hrel
    by_cases hlt : j < n
    · obtain ⟨b, off, rfl, hb, hcs⟩ := H.out.at_ (by omega)
      have hjl : j < l.length := by rw [Hlen.out]; exact hlt
      have hc0 : w.cell? ⟨b, off + j, none⟩ = some (I l[j]) := hcs j hlt
      have HCALL := Lib.hid (isOut_any l[j] w)
      cases ho : isO l[j] with
      | true =>
        rw [ho] at HCALL
        have HE : Hid (l.any isO = true) := by show _ = _; rw [List.any_eq_true]; exact ⟨_, List.getElem_mem hjl, ho⟩
        clear hcs hall ho
        go_wp2_with fail
        refine HCALL.out.mono ?_
        rintro e w1 ⟨rfl, rfl⟩
        go_wp2
        go_ret
        exact ⟨⟨j, rfl, by rw [HE.out]; simp, by omega, by omega⟩, rfl⟩
      | false =>
        rw [ho] at HCALL
        have HE : Hid (∀ q (hq : q < l.length), q < j + 1 → isO l[q] = false) := fun q hq h1 => by
          rcases Nat.lt_or_ge q j with h2 | h2
          · exact hall q hq h2
          · obtain rfl : q = j := by omega
            exact ho
        clear hcs hall ho
        go_wp2_with fail
        refine HCALL.out.mono ?_
        rintro e w1 ⟨rfl, rfl⟩
        go_wp2
        go_round
        case rel => exact ⟨j + 1, by omega, by go_num, HE.out⟩
        case measure => simp [intOf]; omega
    · have HE : Hid (l.any isO = false) := by
        show _ = _
        rw [List.any_eq_false]
        intro x hx
        obtain ⟨q, hq, rfl⟩ := List.getElem_of_mem hx
        rw [hall q hq (by rw [Hlen.out] at hq; omega)]
        simp
      clear hall
      go_wp2
      go_ret
      exact ⟨⟨-1, rfl, by rw [HE.out]; decide, by omega, by omega⟩, rfl⟩
set_option maxRecDepth 100000 in
theorem contOut_any (A : Option Addr) (n c : Nat) (l : List Int) (w : World) (h : IS w A n c l) (hn : n ≤ 1000) :
    Calls Tryz.prog 34 #[.slice A n c, .func (.func 142) #[] #[]] w fun e w' => e = .returned (.bool (l.any isO)) ∧ w = w' := by
  have HX := Lib.hid (ixOut_any A n c l w h hn)
  clear h
  go_enter Tryz.func34, Tryz.ntmps34
  go_wp2_with fail
  refine HX.out.mono ?_
  rintro e w1 ⟨⟨k, rfl, hk, hk1, hk2⟩, rfl⟩
  have HK := Lib.hid hk
  clear hk
  go_wp2
  go_ret
  exact ⟨by rw [← HK.out]; rfl, rfl⟩

def chkB (hits gaps : List Int) : Int := if 20 < hits.length then 2 else if gaps.length ≠ hits.length + 1 then 3 else if hits.any isO ∨ gaps.any isO then 1 else 0
theorem isO_in {l : List Int} (h : l.any isO = false) : ∀ x ∈ l, 0 ≤ x ∧ x ≤ 1000 := by
  intro x hx
  rw [List.any_eq_false] at h
  have := h x hx
  simp [isO] at this
  omega
/-- it may be asked -/
structure InB (hits gaps : List Int) (n : Nat) : Prop where
  h : hits.length = n
  g : gaps.length = n + 1
  n20 : n ≤ 20
  hh : ∀ x ∈ hits, 0 ≤ x ∧ x ≤ 1000
  hg : ∀ x ∈ gaps, 0 ≤ x ∧ x ≤ 1000
theorem chkB_ok {hits gaps : List Int} (h : chkB hits gaps = 0) : InB hits gaps hits.length := by
  unfold chkB at h
  split at h
  · cases h
  · split at h
    · cases h
    · split at h
      · cases h
      · rename_i h1 h2 h3
        simp only [not_or, Bool.not_eq_true] at h3
        exact ⟨rfl, by omega, by omega, isO_in h3.1, isO_in h3.2⟩
theorem chkB_in {hits gaps : List Int} {n : Nat} (h : InB hits gaps n) : chkB hits gaps = 0 := by
  have nb : ∀ l : List Int, (∀ x ∈ l, 0 ≤ x ∧ x ≤ 1000) → l.any isO = false := fun l hl => by
    rw [List.any_eq_false]
    intro x hx
    have := hl x hx
    simp [isO]
    omega
  have h1 := h.h
  have h2 := h.g
  have h3 := h.n20
  unfold chkB
  rw [if_neg (by omega), if_neg (by omega), if_neg (by rw [nb _ h.hh, nb _ h.hg]; simp)]

set_option maxRecDepth 100000 in
set_option maxHeartbeats 1000000 in
theorem checkB_any (A A' : Option Addr) (n c n' c' : Nat) (hits gaps : List Int) (w : World) (h : IS w A n c hits) (h' : IS w A' n' c' gaps) (hn : n ≤ 9223372036854775807) (hn' : n' ≤ 9223372036854775807) :
    Calls Tryz.prog 69 #[.slice A n c, .slice A' n' c'] w fun e w' => e = .returned (I (chkB hits gaps)) ∧ w = w' := by
  have H := Lib.hid h
  have H' := Lib.hid h'
  have HL := Lib.hid h.len
  have HL' := Lib.hid h'.len
  clear h h'
  by_cases h20 : 20 < n
  · have HE : Hid (chkB hits gaps = 2) := by show _ = _; unfold chkB; rw [if_pos (by rw [HL.out]; exact h20)]
    go_enter Tryz.func69, Tryz.ntmps69
    go_wp2
    go_ret
    exact ⟨ret_int (by rw [HE.out]), rfl⟩
  · by_cases hne : n' = n + 1
    · subst hne
      have hx : ((((n + 1 : Nat)) : Int) != (n : Int) + 1) = false := by simp
      have HC1 := Lib.hid (contOut_any A n c hits w H.out (by omega))
      have HC2 := Lib.hid (contOut_any A' (n + 1) c' gaps w H'.out (by omega))
      have HD : Hid (chkB hits gaps = if hits.any isO ∨ gaps.any isO then 1 else 0) := by
        show _ = _
        unfold chkB
        rw [if_neg (by rw [HL.out]; exact h20), if_neg (by rw [HL.out, HL'.out]; simp)]
      cases h1 : hits.any isO with
      | true =>
        rw [h1] at HC1
        have HE : Hid (chkB hits gaps = 1) := by show _ = _; rw [HD.out, if_pos (.inl h1)]
        clear h1
        go_enter Tryz.func69, Tryz.ntmps69
        go_wp2_with fail
        refine HC1.out.mono ?_
        rintro e w1 ⟨rfl, rfl⟩
        go_wp2
        go_ret
        exact ⟨ret_int (by rw [HE.out]), rfl⟩
      | false =>
        rw [h1] at HC1
        cases h2 : gaps.any isO with
        | true =>
          rw [h2] at HC2
          have HE : Hid (chkB hits gaps = 1) := by show _ = _; rw [HD.out, if_pos (.inr h2)]
          clear h1 h2
          go_enter Tryz.func69, Tryz.ntmps69
          go_wp2_with fail
          refine HC1.out.mono ?_
          rintro e w1 ⟨rfl, rfl⟩
          go_wp2_with fail
          refine HC2.out.mono ?_
          rintro e w2 ⟨rfl, rfl⟩
          go_wp2
          go_ret
          exact ⟨ret_int (by rw [HE.out]), rfl⟩
        | false =>
          rw [h2] at HC2
          have HE : Hid (chkB hits gaps = 0) := by show _ = _; rw [HD.out, if_neg (by rw [h1, h2]; simp)]
          clear h1 h2
          go_enter Tryz.func69, Tryz.ntmps69
          go_wp2_with fail
          refine HC1.out.mono ?_
          rintro e w1 ⟨rfl, rfl⟩
          go_wp2_with fail
          refine HC2.out.mono ?_
          rintro e w2 ⟨rfl, rfl⟩
          go_wp2
          go_ret
          exact ⟨ret_int (by rw [HE.out]), rfl⟩
    · have HE : Hid (chkB hits gaps = 3) := by show _ = _; unfold chkB; rw [if_neg (by rw [HL.out]; exact h20), if_pos (by rw [HL.out, HL'.out]; exact hne)]
      have hx : ((n' : Int) != (n : Int) + 1) = true := by simp; omega
      go_enter Tryz.func69, Tryz.ntmps69
      go_wp2
      go_ret
      exact ⟨ret_int (by rw [HE.out]), rfl⟩

end Go.Proofs.YtpnjnedfcdppaaaGreatDoor
