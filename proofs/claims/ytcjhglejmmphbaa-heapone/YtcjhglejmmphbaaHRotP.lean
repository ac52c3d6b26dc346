/-
  ROTATING BY EXCHANGES: plain mathematics. Nothing of the program.
-/
import Derived.Test.YtcjhglejmmphbaaHSortP
namespace Go.Proofs.Ytcjhglejmmphbaa

/-- what is rotated, on its way -/
structure Rot (T : PL) (m i j : Nat) (L : PL) : Prop where
  has : ∃ X A B Y : PL, L = X ++ A ++ B ++ Y ∧ T = X ++ B ++ A ++ Y ∧ A.length = i ∧ B.length = j ∧ X.length + A.length = m
theorem Rot.len {T L : PL} {m i j : Nat} (h : Rot T m i j L) : L.length = T.length ∧ i ≤ m ∧ m + j ≤ T.length := by
  obtain ⟨X, A, B, Y, rfl, rfl, h1, h2, h3⟩ := h.has
  simp
  omega
theorem Rot.more {T L : PL} {m i j : Nat} (h : Rot T m i j L) (hij : j < i) : Rot T m (i - j) j (sr L (m - i) m j) := by
  obtain ⟨X, A, B, Y, rfl, rfl, h1, h2, h3⟩ := h.has
  have e : X ++ A ++ B ++ Y = X ++ A.take j ++ A.drop j ++ B ++ Y := by simp
  have hs := sr_all (X := X) (P := A.take j) (M := A.drop j) (Q := B) (Y := Y) (a := m - i) (b := m) (n := j) (by omega) (by simp; omega) (by simp; omega) (by omega)
  rw [e, hs]
  exact ⟨⟨X ++ B, A.drop j, A.take j, Y, rfl, by simp, by simp; omega, by simp; omega, by simp; omega⟩⟩
theorem Rot.less {T L : PL} {m i j : Nat} (h : Rot T m i j L) (hij : i < j) : Rot T m i (j - i) (sr L (m - i) (m + j - i) i) := by
  obtain ⟨X, A, B, Y, rfl, rfl, h1, h2, h3⟩ := h.has
  have e : X ++ A ++ B ++ Y = X ++ A ++ B.take (j - i) ++ B.drop (j - i) ++ Y := by simp
  have hs := sr_all (X := X) (P := A) (M := B.take (j - i)) (Q := B.drop (j - i)) (Y := Y) (a := m - i) (b := m + j - i) (n := i) (by omega) (by simp; omega) (by omega) (by simp; omega)
  rw [e, hs]
  have e2 : X ++ B ++ A ++ Y = X ++ B.take (j - i) ++ B.drop (j - i) ++ (A ++ Y) := by simp
  refine ⟨⟨X, B.drop (j - i), B.take (j - i), A ++ Y, by simp, e2, by simp; omega, by simp; omega, by simp; omega⟩⟩
theorem Rot.last {T L : PL} {m i : Nat} (h : Rot T m i i L) : sr L (m - i) m i = T := by
  obtain ⟨X, A, B, Y, rfl, rfl, h1, h2, h3⟩ := h.has
  have e : X ++ A ++ B ++ Y = X ++ A ++ [] ++ B ++ Y := by simp
  rw [e, sr_all (by omega) (by simp; omega) (by omega) (by omega)]
  simp

end Go.Proofs.Ytcjhglejmmphbaa
