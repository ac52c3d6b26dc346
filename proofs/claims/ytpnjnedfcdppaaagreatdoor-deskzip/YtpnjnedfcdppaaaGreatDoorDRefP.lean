/-
  The desk's text as hedgref reads it, plain: SplitN at one byte, tabs into blanks. No program.
-/
import Derived.Test.YtpnjnedfcdppaaaGreatDoorDSplAll
namespace Go.Proofs.YtpnjnedfcdppaaaGreatDoor
open Go.Lib

theorem tw_ne {c : UInt8} : ∀ {l : List UInt8} {b : UInt8}, b ∈ l.takeWhile (· != c) → b ≠ c
  | [], b, h => by cases h
  | a :: t, b, h => by
    rw [List.takeWhile_cons] at h
    split at h
    · next hc =>
      rcases List.mem_cons.mp h with rfl | h
      · simpa using hc
      · exact tw_ne h
    · cases h
theorem map_no {l : List UInt8} (h : ∀ b ∈ l, b ≠ 9) : l.map t2b = l := by
  conv => rhs; rw [← List.map_id l]
  refine List.map_congr_left fun b hb => ?_
  simp [t2b, h b hb]
theorem idx_at {c : UInt8} : ∀ {l : List UInt8} {i : Nat}, index l [c] = i → i < l.length → l = l.take i ++ c :: l.drop (i + 1)
  | [], i, h, hi => absurd hi (by simp)
  | b :: t, i, h, hi => by
    rw [index1] at h
    by_cases e : c = b
    · rw [if_pos e] at h
      obtain rfl : i = 0 := by omega
      subst e
      simp
    · rw [if_neg e] at h
      split at h
      · omega
      · obtain ⟨j, rfl⟩ : ∃ j, i = j + 1 := ⟨i - 1, by omega⟩
        have := idx_at (c := c) (l := t) (i := j) (by omega) (by simp at hi; omega)
        simp only [List.take_succ_cons, List.drop_succ_cons, List.cons_append]
        rw [← this]
theorem repK_t2b : ∀ (f : Nat) (l : List UInt8), l.length < f → replaceK [9] [32] (countFrom [9] f l) l = l.map t2b
  | 0, l, h => absurd h (Nat.not_lt_zero _)
  | f + 1, l, h => by
    rw [countFrom]
    rcases idx_spl 9 l with ⟨h1, _, h3⟩ | ⟨i, h1, h2, _, h4⟩
    · rw [if_pos (by simp [h1])]
      have : ∀ b ∈ l, b ≠ 9 := fun b hb => tw_ne (l := l) (by rw [h3]; exact hb)
      rw [map_no this]
      rfl
    · have e : (index l [9]).toNat = i := by omega
      have hn : ∀ b ∈ l.take i, b ≠ 9 := fun b hb => tw_ne (l := l) (by rw [h4]; exact hb)
      rw [if_neg (by simp [h1]), Nat.add_comm 1, replaceK_hit _ _ _ _ i h1, e]
      simp only [List.length_singleton]
      rw [repK_t2b f (l.drop (i + 1)) (by rw [List.length_drop]; omega)]
      conv => rhs; rw [idx_at h1 h2]
      rw [List.map_append, map_no hn, List.map_cons]
      simp [t2b]
theorem rep_t2b (l : List UInt8) : replaceAll l [9] [32] = l.map t2b := by
  unfold replaceAll replace replaceNum
  rw [if_neg (by decide), if_pos (.inl (by decide))]
  exact repK_t2b _ l (Nat.lt_succ_self _)
theorem splitK_first (c : UInt8) (l : List UInt8) (k : Nat) (hk : (l = [] ∧ k = 0) ∨ k = 1) : ∃ r, splitK [c] 0 k l = l.takeWhile (· != c) :: r := by
  rcases hk with ⟨rfl, rfl⟩ | rfl
  · exact ⟨[], rfl⟩
  · rcases idx_spl c l with ⟨h1, _, h3⟩ | ⟨i, h1, _, _, h4⟩
    · exact ⟨[], by rw [splitK, if_pos (by simp [h1]), h3]⟩
    · have e : (index l [c]).toNat = i := by omega
      exact ⟨_, by rw [splitK, if_neg (by simp [h1]), e, h4, Nat.add_zero]⟩
theorem splitB_first (sep : ByteArray) (c : UInt8) (hc : sep.data.toList = [c]) (s : ByteArray) : ∃ y r, splitB sep 0 (min 2 (s.size + 1) - 1) s = y :: r ∧ y.data.toList = s.data.toList.takeWhile (· != c) := by
  have hd := splitB_data sep 0 (min 2 (s.size + 1) - 1) s
  rw [hc] at hd
  have hz : s.size = s.data.toList.length := by show s.data.size = _; simp
  obtain ⟨r, hr⟩ := splitK_first c s.data.toList (min 2 (s.size + 1) - 1) (by
    rcases Nat.eq_zero_or_pos s.size with h0 | h0
    · exact .inl ⟨List.eq_nil_of_length_eq_zero (by omega), by omega⟩
    · exact .inr (by omega))
  rw [hr] at hd
  cases hs : splitB sep 0 (min 2 (s.size + 1) - 1) s with
  | nil => rw [hs] at hd; cases hd
  | cons y t =>
    rw [hs] at hd
    simp only [List.map_cons, List.cons.injEq] at hd
    exact ⟨y, t, rfl, hd.1⟩
theorem wds_ref (l : List UInt8) : wds l = (spl 32 (replaceAll l [9] [32])).filter (fun x => !x.isEmpty) := by rw [rep_t2b, wds_spl]
theorem rep_len (l : List UInt8) : (replaceAll l [9] [32]).length = l.length := by rw [rep_t2b, List.length_map]
end Go.Proofs.YtpnjnedfcdppaaaGreatDoor
