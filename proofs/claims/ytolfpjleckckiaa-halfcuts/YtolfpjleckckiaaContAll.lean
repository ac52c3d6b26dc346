/-
  Joined texts: YtolfpjleckckiaaKOps, YtolfpjleckckiaaCont.
-/
import Derived.Test.YtolfpjleckckiaaMapK
import Derived.Test.YtolfpjleckckiaaOpRows
import Derived.Lib.SliceRun
/-
  slices.Clone of ops.
-/
namespace Go.Proofs.Ytolfpjleckckiaa
open Go.RowKit

set_option maxRecDepth 100000 in
set_option maxHeartbeats 1000000 in
theorem cloneO_any (A : Option Addr) (n c : Nat) (l : List OP) (w : World) (h : OS w A n c l) (hn : n * 24 ≤ 140737488355328) :
    Calls Try.prog 18 #[.slice A n c] w fun e w' => ∃ v, e = .returned v ∧ OwnO w' w.heap.size v l ∧ Below w.heap.size w w' := by
  have H := Lib.hid h
  have HL := Lib.hid h.len
  clear h
  have heq := fun w => Lib.run_eql_slice_nil (P := Try.prog) w 22 39 A n c 0 0 Try.underlying22
  obtain ⟨i0, hi, hz0, hz1, hz2⟩ := info_parts op_info
  have HI := Lib.hid hi
  have HZ0 := Lib.hid hz0
  have HZ1 := Lib.hid hz1
  have HZ2 := Lib.hid hz2
  clear hi hz0 hz1 hz2
  cases A with
  | none =>
    have hl : l = [] := by
      rcases Nat.eq_zero_or_pos n with h0 | h0
      · exact List.eq_nil_of_length_eq_zero (by rw [HL.out]; exact h0)
      · obtain ⟨b, off, e, _⟩ := H.out.rd.2 h0; cases e
    have HLN := Lib.hid hl
    clear hl
    go_enter Try.func18, Try.ntmps18
    go_wp2
    go_ret
    refine ⟨_, rfl, ?_, Below.refl _ _⟩
    rw [HLN.out]
    exact World.ownsRow_nil _ _ _ _
  | some ad =>
    have HF : Hid ((flatO l).length = n * 3) := by show _ = _; rw [flatO_length, HL.out]
    go_enter Try.func18, Try.ntmps18
    go_wp2_with (first
      | (at_builtin
         refine wpList_append_own_at _ rfl (.tmp 5) (.tmp 6) 22 rfl w.heap.size 39 i0 _ 3 24 Try.underlying22 HI.out HZ0.out HZ1.out HZ2.out rfl (by omega) (.slice (some ⟨w.heap.size, 0, none⟩) 0 0) 0 [] rfl (World.ownsRow_made w _ 0 (Nat.le_refl _) (by unfold maxLen; omega) (by simp)) ad n c (flatO l) rfl HF.out ((H.out.below ((Below.refl _ _).alloc (Nat.le_refl _) _)).cells rfl) (flatO_one l) (by unfold maxLen; omega) (by omega) (by simp) ?_
         intro v2 w2 hown2 hgrow2 _ hat2)
      | fail)
    go_ret
    refine ⟨v2, rfl, ?_, Below.grown ((Below.refl _ _).alloc (Nat.le_refl _) _) hgrow2 (by simp) (by simp [Value.ownBlock])⟩
    unfold OwnO
    rw [HL.out]
    simpa using hown2

end Go.Proofs.Ytolfpjleckckiaa

/-
  slices.Contains of numbers.
-/
namespace Go.Proofs.Ytolfpjleckckiaa
open Go.RowKit

set_option maxHeartbeats 1000000 in
theorem index_hit (A : Option Addr) (n c : Nat) (l : List Int) (k : Int) (w : World) (h : IS w A n c l) (hn : n ≤ 1000) (hk : k ∈ l) :
    Calls Try.prog 29 #[.slice A n c, I k] w fun e w' => ∃ r : Nat, e = .returned (I r) ∧ r ≤ 1000 ∧ w' = w := by
  have H := Lib.hid h
  have HL := Lib.hid h.len
  have HK := Lib.hid hk
  clear h hk
  go_enter Try.func29, Try.ntmps29
  go_wp2
  go_loop [8] (fun i => ∃ j : Nat, j ≤ n ∧ i = .int .i64 j ∧ ∀ i, i < j → l[i]? ≠ some k) (fun i => n - (intOf i).toNat)
  case atStart => exact ⟨0, Nat.zero_le _, rfl, fun i hi => absurd hi (by omega)⟩
  case round =>
    obtain ⟨j, hj, rfl, hno⟩ := hrel
    by_cases hlt : j < n
    · obtain ⟨b, off, rfl, hb, hc0⟩ := H.out.cell_at hlt
      obtain ⟨y, hy⟩ : ∃ y, l[j]'(by rw [HL.out]; exact hlt) = y := ⟨_, rfl⟩
      rw [hy] at hc0
      by_cases he : k = y
      · subst he
        clear hno hy
        go_wp2
        go_ret
        exact ⟨j, rfl, by omega, rfl⟩
      · have HN : Hid (∀ i, i < j + 1 → l[i]? ≠ some k) := fun i hi => by
          rcases Nat.lt_or_ge i j with h1 | h1
          · exact hno i h1
          · obtain rfl : i = j := by omega
            rw [List.getElem?_eq_getElem (by rw [HL.out]; exact hlt), hy]
            intro e
            exact he (Option.some.inj e).symm
        have hbe : (k == y) = false := by simpa using he
        clear hno hy
        go_wp2
        go_round
        case rel => exact ⟨j + 1, by omega, by go_num, HN.out⟩
        case measure => simp [intOf]; omega
    · exfalso
      obtain ⟨i, hi, e⟩ := List.mem_iff_getElem.1 HK.out
      exact hno i (by have := HL.out; omega) (by rw [List.getElem?_eq_getElem hi, e])
set_option maxHeartbeats 1000000 in
theorem contains_hit (A : Option Addr) (n c : Nat) (l : List Int) (k : Int) (w : World) (h : IS w A n c l) (hn : n ≤ 1000) (hk : k ∈ l) :
    Calls Try.prog 19 #[.slice A n c, I k] w fun e w' => e = .returned (.bool true) ∧ w' = w := by
  have HC := Lib.hid (index_hit A n c l k w h hn hk)
  clear h hk
  go_enter Try.func19, Try.ntmps19
  go_wp2_with fail
  refine HC.out.mono ?_
  rintro e w1 ⟨r, rfl, hr, rfl⟩
  go_wp2
  go_ret
  exact ⟨by simp, rfl⟩
set_option maxHeartbeats 1000000 in
theorem index_miss (A : Option Addr) (n c : Nat) (l : List Int) (k : Int) (w : World) (h : IS w A n c l) (hn : n ≤ 1000) (hk : k ∉ l) :
    Calls Try.prog 29 #[.slice A n c, I k] w fun e w' => e = .returned (I (-1)) ∧ w' = w := by
  have H := Lib.hid h
  have HL := Lib.hid h.len
  have HK := Lib.hid hk
  clear h hk
  go_enter Try.func29, Try.ntmps29
  go_wp2
  go_loop [8] (fun i => ∃ j : Nat, j ≤ n ∧ i = .int .i64 j) (fun i => n - (intOf i).toNat)
  case atStart => exact ⟨0, Nat.zero_le _, rfl⟩
  case round =>
    obtain ⟨j, hj, rfl⟩ := hrel
    by_cases hlt : j < n
    · obtain ⟨b, off, rfl, hb, hc0⟩ := H.out.cell_at hlt
      have hjl : j < l.length := by rw [HL.out]; exact hlt
      obtain ⟨y, hy⟩ : ∃ y, l[j] = y := ⟨_, rfl⟩
      have hbe : (k == y) = false := by
        have : k ≠ y := fun e => HK.out (by rw [e, ← hy]; exact List.getElem_mem hjl)
        simpa using this
      rw [hy] at hc0
      clear hy hjl
      go_wp2
      go_round
      case rel => exact ⟨j + 1, by omega, by go_num⟩
      case measure => simp [intOf]; omega
    · go_wp2
      go_ret
      exact ⟨rfl, rfl⟩
set_option maxHeartbeats 1000000 in
theorem contains_miss (A : Option Addr) (n c : Nat) (l : List Int) (k : Int) (w : World) (h : IS w A n c l) (hn : n ≤ 1000) (hk : k ∉ l) :
    Calls Try.prog 19 #[.slice A n c, I k] w fun e w' => e = .returned (.bool false) ∧ w' = w := by
  have HC := Lib.hid (index_miss A n c l k w h hn hk)
  clear h hk
  go_enter Try.func19, Try.ntmps19
  go_wp2_with fail
  refine HC.out.mono ?_
  rintro e w1 ⟨rfl, rfl⟩
  go_wp2
  go_ret
  exact ⟨rfl, rfl⟩

end Go.Proofs.Ytolfpjleckckiaa
