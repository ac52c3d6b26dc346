/-
  PATHS, AS LISTS. Nothing is walked here.
-/
import Derived.Test.YtjnkfpagaajfeaaDoorKPure
namespace Go.Proofs.YtjnkfpagaajfeaaDoor

/-- those of a row that are passed: more than a, less than key -/
def pas (L : List Int) (a key : Int) : List Int := L.filter fun k => decide (a < k ∧ k < key)
def lastD (f : List Int) (a : Int) : Int := f.getLast?.getD a
theorem lastD_nil (a : Int) : lastD [] a = a := rfl
theorem lastD_snoc (f : List Int) (x a : Int) : lastD (f ++ [x]) a = x := by simp [lastD]
theorem lastD_cases (f : List Int) (a : Int) : f = [] ∧ lastD f a = a ∨ ∃ g, f = g ++ [lastD f a] := by
  rcases List.eq_nil_or_concat f with h | ⟨g, x, h⟩
  · exact .inl ⟨h, by rw [h]; rfl⟩
  · refine .inr ⟨g, ?_⟩
    rw [h, List.concat_eq_append, lastD_snoc]
theorem lastD_mem (f : List Int) (a : Int) : lastD f a = a ∨ lastD f a ∈ f := by
  rcases lastD_cases f a with ⟨_, h⟩ | ⟨g, h⟩
  · exact .inl h
  · right
    have : lastD f a ∈ g ++ [lastD f a] := by simp
    rw [← h] at this
    exact this
theorem pas_mem {L : List Int} {a key k : Int} : k ∈ pas L a key ↔ k ∈ L ∧ a < k ∧ k < key := by simp [pas, and_assoc]
theorem lastD_ge (L : List Int) (a key : Int) : a ≤ lastD (pas L a key) a := by
  rcases lastD_mem (pas L a key) a with h | h
  · omega
  · have := (pas_mem.1 h).2
    omega
theorem pas_snoc (L : List Int) (j : Nat) (hj : j < L.length) (a key : Int) : pas (L.take (j + 1)) a key = if a < L[j] ∧ L[j] < key then pas (L.take j) a key ++ [L[j]] else pas (L.take j) a key := by
  rw [List.take_succ_eq_append_getElem hj]
  unfold pas
  rw [List.filter_append]
  by_cases h : a < L[j] ∧ L[j] < key
  · simp [h]
  · rw [if_neg h]
    have : List.filter (fun k => decide (a < k ∧ k < key)) [L[j]] = [] := by
      simp only [List.filter_cons, List.filter_nil]
      rw [if_neg (by simpa using h)]
    rw [this, List.append_nil]
theorem take_lt {L : List Int} (h : L.Pairwise (· < ·)) {j : Nat} (hj : j < L.length) {k : Int} (hk : k ∈ L.take j) : k < L[j] := by
  obtain ⟨i, hi, rfl⟩ := List.mem_iff_getElem.1 hk
  rw [List.length_take] at hi
  rw [List.getElem_take]
  exact List.pairwise_iff_getElem.1 h i j (by omega) hj (by omega)
theorem pas_gt {L : List Int} (h : L.Pairwise (· < ·)) {j : Nat} (hj : j < L.length) (a key : Int) : lastD (pas (L.take j) a key) a < L[j] ↔ a < L[j] := by
  constructor
  · intro h1
    have := lastD_ge (L.take j) a key
    omega
  · intro h1
    rcases lastD_mem (pas (L.take j) a key) a with h2 | h2
    · omega
    · exact take_lt h hj (pas_mem.1 h2).1
theorem pas_stop {L : List Int} (h : L.Pairwise (· < ·)) {j : Nat} (hj : j < L.length) {a key : Int} (hk : key ≤ L[j]) : pas (L.take j) a key = pas L a key := by
  conv => rhs; rw [← List.take_append_drop j L]
  unfold pas
  rw [List.filter_append]
  have : List.filter (fun k => decide (a < k ∧ k < key)) (L.drop j) = [] := by
    rw [List.filter_eq_nil_iff]
    intro k hk2
    obtain ⟨i, hi, rfl⟩ := List.mem_iff_getElem.1 hk2
    rw [List.getElem_drop]
    have hle : L[j] ≤ L[j + i]'(by rw [List.length_drop] at hi; omega) := by
      rcases Nat.eq_zero_or_pos i with h0 | h0
      · subst h0; exact Int.le_refl _
      · exact Int.le_of_lt (List.pairwise_iff_getElem.1 h j (j + i) hj (by rw [List.length_drop] at hi; omega) (by omega))
    simp
    omega
  rw [this, List.append_nil]

/-- behind the m highest rows: the stops, and where one is -/
def stTo (l : List Int) (key : Int) : Nat → PL × Int
  | 0 => ([], -1)
  | m + 1 => ((stTo l key m).1 ++ (pas (rowL l (11 - m)) (stTo l key m).2 key).map (fun k => ((11 : Int) - m, k)), lastD (pas (rowL l (11 - m)) (stTo l key m).2 key) (stTo l key m).2)
def stops (l : List Int) (key : Int) : PL := (stTo l key 12).1

structure Pin (l : List Int) (key : Int) (m : Nat) (p : PL) (a : Int) : Prop where
  pw : p.Pairwise fun x y => x.2 < y.2 ∧ y.1 ≤ x.1
  each : ∀ s ∈ p, s.1 = (ht s.2 : Int) - 1 ∧ s.2 ∈ l ∧ s.2 < key ∧ s.2 ≤ a ∧ (12 : Int) - m ≤ s.1
  low : -1 ≤ a
  last : p = [] ∧ a = -1 ∨ ∃ q r, p = q ++ [(r, a)]
  met : ∀ k ∈ l, k < key → 12 - m < ht k → k ≤ a
theorem stTo_pin {l : List Int} (hR : Rise l) (key : Int) : ∀ m, m ≤ 12 → Pin l key m (stTo l key m).1 (stTo l key m).2
  | 0, _ => ⟨List.Pairwise.nil, fun s h => absurd h (by simp [stTo]), by simp [stTo], .inl ⟨rfl, rfl⟩, fun k _ _ h => by have := ht_le k; omega⟩
  | m + 1, hm => by
    have ih := stTo_pin hR key m (by omega)
    show Pin l key (m + 1) ((stTo l key m).1 ++ (pas (rowL l (11 - m)) (stTo l key m).2 key).map (fun k => ((11 : Int) - m, k))) (lastD (pas (rowL l (11 - m)) (stTo l key m).2 key) (stTo l key m).2)
    generalize (stTo l key m).1 = p at ih ⊢
    generalize (stTo l key m).2 = a at ih ⊢
    obtain ⟨f, hf⟩ : ∃ f, pas (rowL l (11 - m)) a key = f := ⟨_, rfl⟩
    have hmem : ∀ k, k ∈ f → k ∈ l ∧ ht k = 12 - m ∧ a < k ∧ k < key := fun k hk => by
      rw [← hf, pas_mem] at hk
      obtain ⟨h1, h2, h3⟩ := hk
      unfold rowL at h1
      rw [List.mem_filter] at h1
      obtain ⟨h4, h5⟩ := h1
      simp at h5
      refine ⟨h4, ?_, h2, h3⟩
      rcases Nat.lt_or_ge (12 - m) (ht k) with h6 | h6
      · have := ih.met k h4 h3 h6
        omega
      · omega
    have hfp : f.Pairwise (· < ·) := by rw [← hf]; exact (rowL_pw hR.pw _).sublist List.filter_sublist
    have hge : a ≤ lastD f a := by rw [← hf]; exact lastD_ge _ _ _
    have hall : ∀ k ∈ f, k ≤ lastD f a := fun k hk => by
      rcases lastD_cases f a with ⟨h0, _⟩ | ⟨g, hg⟩
      · rw [h0] at hk; cases hk
      · obtain ⟨z, hz⟩ : ∃ z, lastD f a = z := ⟨_, rfl⟩
        rw [hz] at hg ⊢
        rw [hg, List.mem_append, List.mem_singleton] at hk
        rcases hk with hk | hk
        · rw [hg, List.pairwise_append] at hfp
          exact Int.le_of_lt (hfp.2.2 k hk z (by simp))
        · omega
    rw [hf]
    refine ⟨?_, ?_, ?_, ?_, ?_⟩
    · rw [List.pairwise_append, List.pairwise_map]
      refine ⟨ih.pw, hfp.imp fun h => ⟨h, Int.le_refl _⟩, fun x hx y hy => ?_⟩
      obtain ⟨k, hk, rfl⟩ := List.mem_map.1 hy
      have h1 := ih.each x hx
      have h2 := hmem k hk
      exact ⟨by show x.2 < k; omega, by show (11 : Int) - m ≤ x.1; omega⟩
    · intro s hs
      rcases List.mem_append.1 hs with hs | hs
      · have h1 := ih.each s hs
        exact ⟨h1.1, h1.2.1, h1.2.2.1, by omega, by omega⟩
      · obtain ⟨k, hk, rfl⟩ := List.mem_map.1 hs
        have h2 := hmem k hk
        exact ⟨by show (11 : Int) - m = (ht k : Int) - 1; omega, h2.1, h2.2.2.2, hall k hk, by show (12 : Int) - ((m + 1 : Nat) : Int) ≤ 11 - m; omega⟩
    · have := ih.low
      omega
    · rcases lastD_cases f a with ⟨h0, h1⟩ | ⟨g, hg⟩
      · rw [h1, h0]
        simpa using ih.last
      · refine .inr ⟨p ++ g.map (fun k => ((11 : Int) - m, k)), (11 : Int) - m, ?_⟩
        conv => lhs; rw [hg]
        rw [List.map_append, List.append_assoc]
        rfl
    · intro k hk h1 h2
      rcases Int.lt_or_le a k with h3 | h3
      · refine hall k ?_
        rw [← hf, pas_mem]
        refine ⟨?_, h3, h1⟩
        unfold rowL
        rw [List.mem_filter]
        exact ⟨hk, by simp; omega⟩
      · omega
theorem stops_pin {l : List Int} (hR : Rise l) (key : Int) : Pin l key 12 (stops l key) (stTo l key 12).2 := stTo_pin hR key 12 (Nat.le_refl _)
theorem pas_len (L : List Int) (a key : Int) : (pas L a key).length ≤ L.length := List.length_filter_le _ _
theorem stTo_len (l : List Int) (key : Int) (m : Nat) : (stTo l key m).1.length ≤ m * l.length := by
  induction m with
  | zero => simp [stTo]
  | succ m ih =>
    show ((stTo l key m).1 ++ _).length ≤ _
    rw [List.length_append, List.length_map, Nat.succ_mul]
    have h1 := pas_len (rowL l (11 - m)) (stTo l key m).2 key
    have h2 := rowL_len l (11 - m)
    omega

/-- the last one of all that is less -/
def blwK (l : List Int) (key : Int) : Int := l.foldl (fun b k => if k < key then k else b) (-1)
theorem blwK_succ (l : List Int) (key : Int) (k : Nat) (h : k < l.length) : blwK (l.take (k + 1)) key = if l[k] < key then l[k] else blwK (l.take k) key := by
  rw [List.take_succ_eq_append_getElem h, blwK, List.foldl_append]
  rfl
theorem blwK_last (key : Int) : ∀ (l : List Int) (b : Int), l.foldl (fun b k => if k < key then k else b) b = lastD (l.filter fun k => decide (k < key)) b
  | [], b => rfl
  | k :: t, b => by
    rw [List.foldl_cons, blwK_last key t]
    by_cases h : k < key
    · rw [if_pos h, List.filter_cons_of_pos (by simpa using h)]
      rcases List.eq_nil_or_concat (t.filter fun k => decide (k < key)) with e | ⟨g, x, e⟩
      · rw [e]; rfl
      · rw [e, List.concat_eq_append, lastD_snoc, ← List.cons_append, lastD_snoc]
    · rw [if_neg h, List.filter_cons_of_neg (by simpa using h)]
theorem blwK_is {l : List Int} (hR : Rise l) (key : Int) : blwK l key = (stTo l key 12).2 := by
  have hp := stops_pin hR key
  generalize (stTo l key 12).2 = a at hp ⊢
  unfold blwK
  rw [blwK_last]
  have hmet : ∀ k ∈ l, k < key → k ≤ a := fun k hk h => hp.met k hk h (by have := ht_pos k; omega)
  have hfp : (l.filter fun k => decide (k < key)).Pairwise (· < ·) := hR.pw.sublist List.filter_sublist
  rcases hp.last with ⟨h0, h1⟩ | ⟨q, r, h0⟩
  · subst h1
    have : (l.filter fun k => decide (k < key)) = [] := by
      rw [List.filter_eq_nil_iff]
      intro k hk h
      have := hmet k hk (by simpa using h)
      have := (hR.bd k hk).1
      omega
    rw [this]
    rfl
  · have ha := hp.each (r, a) (by rw [h0]; simp)
    have hin : a ∈ l.filter fun k => decide (k < key) := by
      rw [List.mem_filter]
      exact ⟨ha.2.1, by simpa using ha.2.2.1⟩
    rcases lastD_cases (l.filter fun k => decide (k < key)) (-1) with ⟨e, _⟩ | ⟨g, e⟩
    · rw [e] at hin; cases hin
    · obtain ⟨z, hz⟩ : ∃ z, lastD (l.filter fun k => decide (k < key)) (-1) = z := ⟨_, rfl⟩
      rw [hz] at e ⊢
      have hzl : z ∈ l.filter fun k => decide (k < key) := by rw [e]; simp
      rw [List.mem_filter] at hzl
      have h3 := hmet z hzl.1 (by simpa using hzl.2)
      rw [e, List.mem_append, List.mem_singleton] at hin
      rcases hin with hin | hin
      · rw [e, List.pairwise_append] at hfp
        have := hfp.2.2 a hin z (by simp)
        omega
      · omega
end Go.Proofs.YtjnkfpagaajfeaaDoor
