/-
  A right list's tree, what its Parents are.
-/
import Derived.Test.YtcjhglejmmphbaaHLives
import Derived.Test.YtcjhglejmmphbaaSPar
namespace Go.Proofs.Ytcjhglejmmphbaa
open Go.RowKit

theorem hp_up {t : Tr} {l : PL} (h : Hp t l) (hr : HRise l) : Up t.ks := by
  rw [hp_ks h]
  exact List.pairwise_map.2 hr
theorem hp_tree {t : Tr} {l : PL} (h : Hp t l) (hc : chk l = 0) : IsTree (t.sp 0) := by
  obtain ⟨h1, _, h3⟩ := chk_right.1 hc
  exact istree_of (hp_up h h3) (by rw [← hp_len h]; exact h1)
/-- Parents of a tree of n nodes -/
theorem Parents_is (A : Option Addr) (n c : Nat) (l : PL) (w : World) (h : PS w A n c l) (hT : IsTree l) :
    Calls Try.prog 23 #[.slice A n c] w fun e w' => ∃ A' c', e = .returned (.tuple #[.slice A' n c', I 0]) ∧ IS w' A' n c' (parL l) ∧ Below w.heap.size w w' := by
  refine (Parents_ok A n c l w h hT).mono ?_
  rintro e w' ⟨A', n', c', rfl, hi, hb, _⟩
  obtain rfl : n' = n := by rw [← hi.len, parL_length, h.len]
  exact ⟨A', c', rfl, hi, hb⟩
theorem parL_get (l : PL) (i : Nat) (h : i < l.length) : (parL l)[i]?.getD 0 = par l i := by rw [parL_at l i h]; rfl
theorem istree_nil : IsTree [] := ⟨by simp, fun i hi => absurd hi (by simp), .nil, rfl⟩
/-- who stands next above ranks no lower, and of one rank has the lesser key -/
theorem par_ranks {t : Tr} {l : PL} (h : Hp t l) (hr : HRise l) {i : Nat} (hi : i < l.length) : par (t.sp 0) i = -1 ∨ ∃ p : Nat, par (t.sp 0) i = p ∧ p < l.length ∧ (dp l i < dp l p ∨ (dp l i = dp l p ∧ ky l p < ky l i)) := by
  have hs := hp_len h
  rcases par_hp h (show i < t.size by omega) with ⟨e, _⟩ | ⟨p, e, hp⟩
  · exact .inl e
  · refine .inr ⟨p, e, by have := hp.lt; omega, ?_⟩
    rcases hp.anc.out hp.ne with h1 | ⟨h1, h2⟩
    · exact .inl h1
    · refine .inr ⟨h1, ?_⟩
      have hpl : p < l.length := by omega
      rw [ky_in hpl, ky_in hi]
      exact List.pairwise_iff_getElem.1 hr p i hpl hi h2

end Go.Proofs.Ytcjhglejmmphbaa
