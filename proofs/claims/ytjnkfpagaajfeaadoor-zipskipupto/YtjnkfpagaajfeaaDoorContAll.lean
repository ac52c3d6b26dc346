/-
  Joined texts: YtjnkfpagaajfeaaDoorZSkipP, YtjnkfpagaajfeaaDoorCont.
-/
import Derived.Test.YtjnkfpagaajfeaaDoorZPure
import Derived.Test.YtjnkfpagaajfeaaDoorSParAll
import Derived.Test.YtjnkfpagaajfeaaDoorMapK
/-
  WHERE A KEY THAT IS NOT THERE WOULD STAND: plain mathematics.
-/
namespace Go.Proofs.YtjnkfpagaajfeaaDoor

/-- how many are less, from the front -/
def plt (ks : List Int) (key : Int) : Nat := (ks.takeWhile fun k => decide (k < key)).length
theorem plt_le (ks : List Int) (key : Int) : plt ks key ≤ ks.length := by
  unfold plt
  exact (List.takeWhile_sublist _).length_le
theorem plt_iff (key : Int) : ∀ (ks : List Int), ks.Pairwise (· < ·) → ∀ i (hi : i < ks.length), i < plt ks key ↔ ks[i] < key
  | [], _, i, hi => absurd hi (by simp)
  | k :: t, hp, i, hi => by
    have hp' := List.pairwise_cons.1 hp
    by_cases hk : k < key
    · have e : plt (k :: t) key = plt t key + 1 := by simp [plt, List.takeWhile_cons, hk]
      rw [e]
      cases i with
      | zero => simpa using hk
      | succ i =>
        have := plt_iff key t hp'.2 i (by simpa using hi)
        simp only [List.getElem_cons_succ]
        omega
    · have e : plt (k :: t) key = 0 := by simp [plt, List.takeWhile_cons, hk]
      rw [e]
      cases i with
      | zero => simpa using hk
      | succ i =>
        have hi' : i < t.length := by simpa using hi
        have := hp'.1 t[i] (List.getElem_mem hi')
        simp only [List.getElem_cons_succ]
        omega

/-- the lower one of both neighbours, as far as one has looked -/
def atv (S : PL) (p k : Nat) : Int := if k < p then -1 else if k = p then (p : Int) - 1 else if p = 0 then 0 else if dp S (p - 1) < dp S p then (p : Int) else (p : Int) - 1
theorem atv_low {S : PL} {p k : Nat} (h : k < p) : atv S p k = -1 := by unfold atv; rw [if_pos h]
theorem atv_eq (S : PL) (p : Nat) : atv S p p = (p : Int) - 1 := by unfold atv; rw [if_neg (by omega), if_pos rfl]
theorem atv_zero {S : PL} {k : Nat} (h : 0 < k) : atv S 0 k = 0 := by unfold atv; rw [if_neg (by omega), if_neg (by omega), if_pos rfl]
theorem atv_hi {S : PL} {p k : Nat} (h : p < k) (h0 : 0 < p) : atv S p k = if dp S (p - 1) < dp S p then (p : Int) else (p : Int) - 1 := by
  unfold atv
  rw [if_neg (by omega), if_neg (by omega), if_neg (by omega)]
theorem atv_past {S : PL} {p k : Nat} (h : p < k) : atv S p (k + 1) = atv S p k := by
  have h1 : ¬ k + 1 < p := by omega
  have h2 : ¬ k + 1 = p := by omega
  have h3 : ¬ k < p := by omega
  have h4 : ¬ k = p := by omega
  unfold atv
  rw [if_neg h1, if_neg h2, if_neg h3, if_neg h4]
theorem at_final {t : Tr} {ks : List Int} (h : Hp t (zpl ks)) {p : Nat} (hp : p ≤ ks.length) (h0 : 0 < ks.length) :
    ∃ a : Nat, atv (t.sp 0) p ks.length = a ∧ a < ks.length ∧ ((a + 1 = p) ∨ (a = p ∧ (0 < p → Out (zpl ks) (p - 1) p))) := by
  rcases Nat.lt_or_ge p ks.length with hlt | hge
  · rcases Nat.eq_zero_or_pos p with hp0 | hp0
    · subst hp0
      exact ⟨0, atv_zero h0, h0, .inr ⟨rfl, fun h => absurd h (by omega)⟩⟩
    · rw [atv_hi hlt hp0]
      rcases next_deep h hp0 (by rw [zpl_length]; exact hlt) with ⟨h1, h2⟩ | ⟨h1, h2⟩
      · rw [if_pos h2]
        exact ⟨p, rfl, hlt, .inr ⟨rfl, fun _ => h1⟩⟩
      · rw [if_neg (by omega)]
        exact ⟨p - 1, by omega, by omega, .inl (by omega)⟩
  · obtain rfl : p = ks.length := by omega
    rw [atv_eq]
    exact ⟨ks.length - 1, by omega, by omega, .inl (by omega)⟩
theorem zstops_len {l : List Int} (hR : Rise l) (key : Int) : (stops l key).length ≤ 2400 := by
  have h1 := stTo_len l key 12
  have h2 := hR.len
  unfold stops
  omega
theorem rev_takeP (l : PL) (k : Nat) (h : k < l.length) : (l.drop k).reverse = (l.drop (k + 1)).reverse ++ [l[k]] := by
  rw [List.drop_eq_getElem_cons h, List.reverse_cons]
theorem par_next {t : Tr} {l : PL} (h : Hp t l) {i : Nat} (hi : i < t.size) : par (t.sp 0) i = -1 ∨ ∃ r : Nat, par (t.sp 0) i = r ∧ r < t.size ∧ (dp (t.sp 0) r).toNat + 1 ≤ (dp (t.sp 0) i).toNat := by
  rcases par_hp h hi with ⟨e, _⟩ | ⟨r, e, hr⟩
  · exact .inl e
  · refine .inr ⟨r, e, hr.lt, ?_⟩
    have h1 := hr.deep 0
    have h2 := sp_ge t 0 r hr.lt
    omega

end Go.Proofs.YtjnkfpagaajfeaaDoor

/-
  slices.Contains of numbers.
-/
namespace Go.Proofs.YtjnkfpagaajfeaaDoor
open Go.RowKit

set_option maxHeartbeats 1000000 in
theorem index_hit (A : Option Addr) (n c : Nat) (l : List Int) (k : Int) (w : World) (h : IS w A n c l) (hn : n ≤ 1000) (hk : k ∈ l) :
    Calls Tryd.prog 46 #[.slice A n c, I k] w fun e w' => ∃ r : Nat, e = .returned (I r) ∧ r ≤ 1000 ∧ w' = w := by
  have H := Lib.hid h
  have HL := Lib.hid h.len
  have HK := Lib.hid hk
  clear h hk
  go_enter Tryd.func46, Tryd.ntmps46
  go_wp2
  go_loop [8] (fun i => ∃ j : Nat, j ≤ n ∧ i = .int .i64 j ∧ ∀ i, i < j → l[i]? ≠ some k) (fun i => n - (intOf i).toNat)
  case atStart => exact ⟨0, Nat.zero_le _, rfl, fun i hi => absurd hi (by omega)⟩
  case round =>
    obtain ⟨j, hj, rfl, hno⟩ := hrel
    by_cases hlt : j < n
    · obtain ⟨b, off, rfl, hb, hc0⟩ := H.out.cell_at hlt
      obtain ⟨y, hy⟩ : ∃ y, l[j]'(by rw [HL.out]; exact hlt) = y := ⟨_, rfl⟩
      rw [hy] at hc0
      by_cases he : k = y
      · subst he
        clear hno hy
        go_wp2
        go_ret
        exact ⟨j, rfl, by omega, rfl⟩
      · have HN : Hid (∀ i, i < j + 1 → l[i]? ≠ some k) := fun i hi => by
          rcases Nat.lt_or_ge i j with h1 | h1
          · exact hno i h1
          · obtain rfl : i = j := by omega
            rw [List.getElem?_eq_getElem (by rw [HL.out]; exact hlt), hy]
            intro e
            exact he (Option.some.inj e).symm
        have hbe : (k == y) = false := by simpa using he
        clear hno hy
        go_wp2
        go_round
        case rel => exact ⟨j + 1, by omega, by go_num, HN.out⟩
        case measure => simp [intOf]; omega
    · exfalso
      obtain ⟨i, hi, e⟩ := List.mem_iff_getElem.1 HK.out
      exact hno i (by have := HL.out; omega) (by rw [List.getElem?_eq_getElem hi, e])
set_option maxHeartbeats 1000000 in
theorem contains_hit (A : Option Addr) (n c : Nat) (l : List Int) (k : Int) (w : World) (h : IS w A n c l) (hn : n ≤ 1000) (hk : k ∈ l) :
    Calls Tryd.prog 25 #[.slice A n c, I k] w fun e w' => e = .returned (.bool true) ∧ w' = w := by
  have HC := Lib.hid (index_hit A n c l k w h hn hk)
  clear h hk
  go_enter Tryd.func25, Tryd.ntmps25
  go_wp2_with fail
  refine HC.out.mono ?_
  rintro e w1 ⟨r, rfl, hr, rfl⟩
  go_wp2
  go_ret
  exact ⟨by simp, rfl⟩
set_option maxHeartbeats 1000000 in
theorem index_miss (A : Option Addr) (n c : Nat) (l : List Int) (k : Int) (w : World) (h : IS w A n c l) (hn : n ≤ 1000) (hk : k ∉ l) :
    Calls Tryd.prog 46 #[.slice A n c, I k] w fun e w' => e = .returned (I (-1)) ∧ w' = w := by
  have H := Lib.hid h
  have HL := Lib.hid h.len
  have HK := Lib.hid hk
  clear h hk
  go_enter Tryd.func46, Tryd.ntmps46
  go_wp2
  go_loop [8] (fun i => ∃ j : Nat, j ≤ n ∧ i = .int .i64 j) (fun i => n - (intOf i).toNat)
  case atStart => exact ⟨0, Nat.zero_le _, rfl⟩
  case round =>
    obtain ⟨j, hj, rfl⟩ := hrel
    by_cases hlt : j < n
    · obtain ⟨b, off, rfl, hb, hc0⟩ := H.out.cell_at hlt
      have hjl : j < l.length := by rw [HL.out]; exact hlt
      obtain ⟨y, hy⟩ : ∃ y, l[j] = y := ⟨_, rfl⟩
      have hbe : (k == y) = false := by
        have : k ≠ y := fun e => HK.out (by rw [e, ← hy]; exact List.getElem_mem hjl)
        simpa using this
      rw [hy] at hc0
      clear hy hjl
      go_wp2
      go_round
      case rel => exact ⟨j + 1, by omega, by go_num⟩
      case measure => simp [intOf]; omega
    · go_wp2
      go_ret
      exact ⟨rfl, rfl⟩
set_option maxHeartbeats 1000000 in
theorem contains_miss (A : Option Addr) (n c : Nat) (l : List Int) (k : Int) (w : World) (h : IS w A n c l) (hn : n ≤ 1000) (hk : k ∉ l) :
    Calls Tryd.prog 25 #[.slice A n c, I k] w fun e w' => e = .returned (.bool false) ∧ w' = w := by
  have HC := Lib.hid (index_miss A n c l k w h hn hk)
  clear h hk
  go_enter Tryd.func25, Tryd.ntmps25
  go_wp2_with fail
  refine HC.out.mono ?_
  rintro e w1 ⟨rfl, rfl⟩
  go_wp2
  go_ret
  exact ⟨rfl, rfl⟩

end Go.Proofs.YtjnkfpagaajfeaaDoor
