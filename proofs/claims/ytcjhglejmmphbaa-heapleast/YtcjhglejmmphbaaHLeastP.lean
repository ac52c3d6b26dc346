/-
  THE NEAREST LESSER NUMBER AHEAD, and the tree of places with numbers turned for ranks: plain mathematics. Nothing of the program.
-/
import Derived.Test.YtcjhglejmmphbaaHPure
import Derived.Test.YtcjhglejmmphbaaHMap
namespace Go.Proofs.Ytcjhglejmmphbaa

theorem Out.trans {l : PL} {a b c : Nat} (h : Out l a b) (h' : Out l b c) : Out l a c := by
  unfold Out at *
  omega
theorem Anc.trans {l : PL} {r q k : Nat} (h : Anc l r q) (h' : Anc l q k) : Anc l r k := by
  intro m h1 h2 h3
  by_cases hq : m = q
  · subst hq
    exact h m (.inr (Nat.le_refl _)) (.inr (Nat.le_refl _)) h3
  · by_cases hb : (r ≤ m ∨ q ≤ m) ∧ (m ≤ r ∨ m ≤ q)
    · exact h m hb.1 hb.2 h3
    · have h4 : Out l q m := h' m (by omega) (by omega) hq
      by_cases hrq : r = q
      · subst hrq
        exact h4
      · exact (h.out hrq).trans h4

/-- places with numbers turned -/
def prs (l : List Int) (k : Nat) : PL := (List.range k).map fun i : Nat => ((i : Int), -(l[i]?.getD 0))
theorem prs_length (l : List Int) (k : Nat) : (prs l k).length = k := by simp [prs]
theorem prs_snoc (l : List Int) (k : Nat) : prs l (k + 1) = prs l k ++ [((k : Int), -(l[k]?.getD 0))] := by simp [prs, List.range_succ]
theorem prs_dp (l : List Int) (k i : Nat) (h : i < k) : dp (prs l k) i = -(l[i]?.getD 0) := by
  rw [dp_in (by rw [prs_length]; exact h)]
  simp [prs]
theorem prs_right (l : List Int) (k : Nat) (hk : k ≤ 200) : chk (prs l k) = 0 := by
  refine chk_right.2 ⟨by rw [prs_length]; exact hk, ?_, ?_⟩
  · intro p hp
    simp only [prs, List.mem_map, List.mem_range] at hp
    obtain ⟨i, hi, rfl⟩ := hp
    constructor
    · show (0 : Int) ≤ (i : Int)
      omega
    · show (i : Int) ≤ 1000000
      omega
  · refine List.pairwise_map.2 ?_
    refine List.Pairwise.imp ?_ List.pairwise_lt_range
    intro i j hij
    show (i : Int) < (j : Int)
    omega
theorem near_anc {l : List Int} {d k j : Nat} (hk : k < d) (h : near l k = j) : Anc (prs l d) j k := by
  have hb := lst_bd l (l[k]?.getD 0) k
  have hl : l[j]?.getD 0 < l[k]?.getD 0 := lst_less h
  have hj : j < k := by unfold near at h; omega
  intro m h1 h2 h3
  left
  rw [prs_dp l d m (by omega), prs_dp l d j (by omega)]
  by_cases hm : m = k
  · subst hm
    omega
  · have := lst_none (l := l) (x := l[k]?.getD 0) (k := k) m (by omega) (by unfold near at h; omega)
    omega
/-- what holds on the way up -/
structure Wy (l : List Int) (d k q : Nat) : Prop where
  lt : q < d
  anc : Anc (prs l d) q k
  near : ∀ j : Nat, near l k = j → Anc (prs l d) j q
theorem Wy.start {l : List Int} {d k : Nat} (hk : k < d) : Wy l d k k := ⟨hk, Anc.refl _ _, fun _ h => near_anc hk h⟩
theorem Wy.step {l : List Int} {d k q : Nat} {t : Tr} (ht : Hp t (prs l d)) (hk : k < d) (h : Wy l d k q) (hc : k < q ∨ l[k]?.getD 0 ≤ l[q]?.getD 0) :
    (par (t.sp 0) q = -1 ∧ Go.Proofs.Ytcjhglejmmphbaa.near l k = -1) ∨ ∃ r : Nat, par (t.sp 0) q = r ∧ Wy l d k r ∧ dp (t.sp 0) r < dp (t.sp 0) q := by
  have hs : t.size = d := by rw [← hp_len ht, prs_length]
  have hb := lst_bd l (l[k]?.getD 0) k
  have hnj : ∀ j : Nat, Go.Proofs.Ytcjhglejmmphbaa.near l k = j → j ≠ q := by
    intro j hj e
    subst e
    have h1 : l[j]?.getD 0 < l[k]?.getD 0 := lst_less hj
    unfold Go.Proofs.Ytcjhglejmmphbaa.near at hj
    omega
  rcases par_hp ht (show q < t.size by have := h.lt; omega) with ⟨e, hno⟩ | ⟨r, e, hr⟩
  · left
    refine ⟨e, ?_⟩
    apply Classical.byContradiction
    intro hne
    have hb2 : -1 ≤ Go.Proofs.Ytcjhglejmmphbaa.near l k := hb.1
    have hb3 : Go.Proofs.Ytcjhglejmmphbaa.near l k < k := hb.2
    have hj : Go.Proofs.Ytcjhglejmmphbaa.near l k = ((Go.Proofs.Ytcjhglejmmphbaa.near l k).toNat : Int) := by omega
    exact hnj _ hj (hno _ (by omega) (h.near _ hj))
  · right
    have hb3 : Go.Proofs.Ytcjhglejmmphbaa.near l k < k := hb.2
    refine ⟨r, e, ⟨by have := hr.lt; omega, hr.anc.trans h.anc, fun j hj => hr.all j (by omega) (hnj j hj) (h.near j hj)⟩, hr.deep 0⟩
theorem Wy.exit {l : List Int} {d k q : Nat} (hk : k < d) (h : Wy l d k q) (h1 : ¬ k < q) (h2 : l[q]?.getD 0 < l[k]?.getD 0) : Go.Proofs.Ytcjhglejmmphbaa.near l k = q := by
  have hb := lst_bd l (l[k]?.getD 0) k
  have hqk : q ≠ k := by
    intro e
    subst e
    omega
  have hge : ¬ Go.Proofs.Ytcjhglejmmphbaa.near l k < q := by
    intro hlt
    have := lst_none (l := l) (x := l[k]?.getD 0) (k := k) q (by omega) hlt
    omega
  have hb3 : Go.Proofs.Ytcjhglejmmphbaa.near l k < k := hb.2
  obtain ⟨j, hj⟩ : ∃ j : Nat, Go.Proofs.Ytcjhglejmmphbaa.near l k = j := ⟨(Go.Proofs.Ytcjhglejmmphbaa.near l k).toNat, by omega⟩
  rw [hj] at hge hb3 ⊢
  by_cases hjq : j = q
  · rw [hjq]
  · exfalso
    have o1 : Out (prs l d) q j := h.anc j (by omega) (by omega) hjq
    have o2 : Out (prs l d) j q := (h.near j hj).out hjq
    exact o1.asymm o2

end Go.Proofs.Ytcjhglejmmphbaa
