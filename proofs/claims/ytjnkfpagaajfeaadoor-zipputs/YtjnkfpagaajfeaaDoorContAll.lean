/-
  Joined texts: YtjnkfpagaajfeaaDoorZPutsP, YtjnkfpagaajfeaaDoorCont.
-/
import Derived.Test.YtjnkfpagaajfeaaDoorKOne0
import Derived.Test.YtjnkfpagaajfeaaDoorStepsAll
import Derived.Test.YtjnkfpagaajfeaaDoorMapK
/-
  KEYS PUT IN ORDER; a key put and taken away: plain lists.
-/
namespace Go.Proofs.YtjnkfpagaajfeaaDoor

theorem ins_last : ∀ (l : PL) (k v : Int), (∀ p ∈ l, p.1 < k) → insR k v l = l ++ [(k, v)]
  | [], _, _, _ => rfl
  | p :: t, k, v, h => by
    show (if p.1 < k then p :: insR k v t else _) = _
    rw [if_pos (h p (by simp)), ins_last t k v fun q hq => h q (by simp [hq])]
    rfl
theorem rise_chk {ks : List Int} (h : Rise ks) : chk (ks.map fun k => (k, (0 : Int))) = 0 :=
  (chk_zero _).2 ⟨by simpa using h.len, srt_of ks 0 h.pw h.bd⟩
theorem rise_front {a b : List Int} (h : Rise (a ++ b)) : Rise a := by
  have hl := h.len
  rw [List.length_append] at hl
  exact ⟨by omega, (List.pairwise_append.1 h.pw).1, fun k hk => h.bd k (by simp [hk])⟩
theorem puts_up : ∀ (post pre : List Int), Rise (pre ++ post) → foldL (putsOf post) (pre.map fun k => (k, (0 : Int))) = (pre ++ post).map fun k => (k, (0 : Int))
  | [], pre, _ => by simp [putsOf, foldL]
  | k :: t, pre, h => by
    have hl := h.len
    rw [List.length_append, List.length_cons] at hl
    have hkb := h.bd k (by simp)
    have hk : keyB k = true := by simp [keyB]; omega
    have hlow : ∀ p ∈ pre.map (fun k => (k, (0 : Int))), p.1 < k := by
      intro p hp
      obtain ⟨q, hq, rfl⟩ := List.mem_map.1 hp
      exact (List.pairwise_append.1 h.pw).2.2 q hq k (by simp)
    have e : doL (pre.map fun k => (k, (0 : Int))) 1 k 0 = (pre ++ [k]).map fun k => (k, (0 : Int)) := by
      rw [doL_put (rise_chk (rise_front h)), hk, if_pos rfl, putL_eq, if_pos (.inr (by simp; omega)), ins_last _ k 0 hlow]
      simp
    show foldL (putsOf t) (doL (pre.map fun k => (k, (0 : Int))) 1 k 0) = _
    rw [e, puts_up t (pre ++ [k]) (by simpa using h)]
    simp
theorem runR_puts {ks : List Int} (h : Rise ks) : (runR (putsOf ks)).1 = ks.map fun k => (k, (0 : Int)) := by
  rw [runR_fst]
  simpa using puts_up ks [] (by simpa using h)
theorem get_none : ∀ (l : PL) (k : Int), (∀ p ∈ l, p.1 ≠ k) → getR k l = none
  | [], _, _ => rfl
  | p :: t, k, h => by
    show (if p.1 < k then getR k t else if p.1 = k then _ else none) = none
    split
    · exact get_none t k fun q hq => h q (by simp [hq])
    · rw [if_neg (h p (by simp))]
theorem put_cut {L : PL} {key : Int} (hc : chk L = 0) (hno : getR key L = none) : doL (doL L 1 key 0) 3 key 0 = L := by
  by_cases hk : keyB key = true
  · rw [doL_put hc, if_pos hk, putL_eq]
    split
    · rename_i h1
      have hlen : L.length < 200 := by
        rcases h1 with h1 | h1
        · rw [hno] at h1
          cases h1
        · exact h1
      obtain ⟨h2, h3⟩ := (chk_zero L).1 hc
      have hb : 0 ≤ key ∧ key ≤ 1000000 := by simpa [keyB] using hk
      have hc2 : chk (insR key 0 L) = 0 := (chk_zero _).2 ⟨by rw [len_ins, hno]; simp; omega, srt_ins L key 0 0 h3 hb.1 hb.2⟩
      rw [doL_cut hc2, if_pos hk, cutL_eq, del_ins L key 0 hno]
    · rw [doL_cut hc, if_pos hk, cutL_eq, del_eq, has_iff, hno]
      rfl
  · rw [doL_put hc, if_neg hk, doL_cut hc, if_neg hk]
theorem runR_putcut {ks : List Int} {key : Int} (h : Rise ks) (hno : key ∉ ks) : (runR (putsOf ks ++ [(1, key, 0), (3, key, 0)])).1 = ks.map fun k => (k, (0 : Int)) := by
  rw [runR_fst, foldL_append, ← runR_fst, runR_puts h]
  show doL (doL _ 1 key 0) 3 key 0 = _
  refine put_cut (rise_chk h) (get_none _ key ?_)
  intro p hp e
  obtain ⟨q, hq, rfl⟩ := List.mem_map.1 hp
  exact hno (by rw [← e]; exact hq)

end Go.Proofs.YtjnkfpagaajfeaaDoor

/-
  slices.Contains of numbers.
-/
namespace Go.Proofs.YtjnkfpagaajfeaaDoor
open Go.RowKit

set_option maxHeartbeats 1000000 in
theorem index_hit (A : Option Addr) (n c : Nat) (l : List Int) (k : Int) (w : World) (h : IS w A n c l) (hn : n ≤ 1000) (hk : k ∈ l) :
    Calls Tryd.prog 46 #[.slice A n c, I k] w fun e w' => ∃ r : Nat, e = .returned (I r) ∧ r ≤ 1000 ∧ w' = w := by
  have H := Lib.hid h
  have HL := Lib.hid h.len
  have HK := Lib.hid hk
  clear h hk
  go_enter Tryd.func46, Tryd.ntmps46
  go_wp2
  go_loop [8] (fun i => ∃ j : Nat, j ≤ n ∧ i = .int .i64 j ∧ ∀ i, i < j → l[i]? ≠ some k) (fun i => n - (intOf i).toNat)
  case atStart => exact ⟨0, Nat.zero_le _, rfl, fun i hi => absurd hi (by omega)⟩
  case round =>
    obtain ⟨j, hj, rfl, hno⟩ := hrel
    by_cases hlt : j < n
    · obtain ⟨b, off, rfl, hb, hc0⟩ := H.out.cell_at hlt
      obtain ⟨y, hy⟩ : ∃ y, l[j]'(by rw [HL.out]; exact hlt) = y := ⟨_, rfl⟩
      rw [hy] at hc0
      by_cases he : k = y
      · subst he
        clear hno hy
        go_wp2
        go_ret
        exact ⟨j, rfl, by omega, rfl⟩
      · have HN : Hid (∀ i, i < j + 1 → l[i]? ≠ some k) := fun i hi => by
          rcases Nat.lt_or_ge i j with h1 | h1
          · exact hno i h1
          · obtain rfl : i = j := by omega
            rw [List.getElem?_eq_getElem (by rw [HL.out]; exact hlt), hy]
            intro e
            exact he (Option.some.inj e).symm
        have hbe : (k == y) = false := by simpa using he
        clear hno hy
        go_wp2
        go_round
        case rel => exact ⟨j + 1, by omega, by go_num, HN.out⟩
        case measure => simp [intOf]; omega
    · exfalso
      obtain ⟨i, hi, e⟩ := List.mem_iff_getElem.1 HK.out
      exact hno i (by have := HL.out; omega) (by rw [List.getElem?_eq_getElem hi, e])
set_option maxHeartbeats 1000000 in
theorem contains_hit (A : Option Addr) (n c : Nat) (l : List Int) (k : Int) (w : World) (h : IS w A n c l) (hn : n ≤ 1000) (hk : k ∈ l) :
    Calls Tryd.prog 25 #[.slice A n c, I k] w fun e w' => e = .returned (.bool true) ∧ w' = w := by
  have HC := Lib.hid (index_hit A n c l k w h hn hk)
  clear h hk
  go_enter Tryd.func25, Tryd.ntmps25
  go_wp2_with fail
  refine HC.out.mono ?_
  rintro e w1 ⟨r, rfl, hr, rfl⟩
  go_wp2
  go_ret
  exact ⟨by simp, rfl⟩
set_option maxHeartbeats 1000000 in
theorem index_miss (A : Option Addr) (n c : Nat) (l : List Int) (k : Int) (w : World) (h : IS w A n c l) (hn : n ≤ 1000) (hk : k ∉ l) :
    Calls Tryd.prog 46 #[.slice A n c, I k] w fun e w' => e = .returned (I (-1)) ∧ w' = w := by
  have H := Lib.hid h
  have HL := Lib.hid h.len
  have HK := Lib.hid hk
  clear h hk
  go_enter Tryd.func46, Tryd.ntmps46
  go_wp2
  go_loop [8] (fun i => ∃ j : Nat, j ≤ n ∧ i = .int .i64 j) (fun i => n - (intOf i).toNat)
  case atStart => exact ⟨0, Nat.zero_le _, rfl⟩
  case round =>
    obtain ⟨j, hj, rfl⟩ := hrel
    by_cases hlt : j < n
    · obtain ⟨b, off, rfl, hb, hc0⟩ := H.out.cell_at hlt
      have hjl : j < l.length := by rw [HL.out]; exact hlt
      obtain ⟨y, hy⟩ : ∃ y, l[j] = y := ⟨_, rfl⟩
      have hbe : (k == y) = false := by
        have : k ≠ y := fun e => HK.out (by rw [e, ← hy]; exact List.getElem_mem hjl)
        simpa using this
      rw [hy] at hc0
      clear hy hjl
      go_wp2
      go_round
      case rel => exact ⟨j + 1, by omega, by go_num⟩
      case measure => simp [intOf]; omega
    · go_wp2
      go_ret
      exact ⟨rfl, rfl⟩
set_option maxHeartbeats 1000000 in
theorem contains_miss (A : Option Addr) (n c : Nat) (l : List Int) (k : Int) (w : World) (h : IS w A n c l) (hn : n ≤ 1000) (hk : k ∉ l) :
    Calls Tryd.prog 25 #[.slice A n c, I k] w fun e w' => e = .returned (.bool false) ∧ w' = w := by
  have HC := Lib.hid (index_miss A n c l k w h hn hk)
  clear h hk
  go_enter Tryd.func25, Tryd.ntmps25
  go_wp2_with fail
  refine HC.out.mono ?_
  rintro e w1 ⟨rfl, rfl⟩
  go_wp2
  go_ret
  exact ⟨rfl, rfl⟩

end Go.Proofs.YtjnkfpagaajfeaaDoor
