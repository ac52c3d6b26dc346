/-
  What DeskZip wants: the keys told, put anew, lead to the same keys: plain. No program is walked.
-/
import Derived.Test.YtpnjnedfcdppaaaGreatDoorDFrontL
namespace Go.Proofs.YtpnjnedfcdppaaaGreatDoor

def dSt (ops : List OP) (Ls : List (List (List UInt8))) : List OP := Ls.foldl (fun o w => (dAns o w).2) ops
theorem dRunL_app : ∀ (A B : List (List (List UInt8))) (ops : List OP), dRunL ops (A ++ B) = dRunL ops A ++ dRunL (dSt ops A) B
  | [], B, ops => rfl
  | w :: t, B, ops => by
    show (dAns ops w).1 ++ [10] ++ dRunL (dAns ops w).2 (t ++ B) = (dAns ops w).1 ++ [10] ++ dRunL (dAns ops w).2 t ++ dRunL (dSt (dAns ops w).2 t) B
    rw [dRunL_app t B]
    simp
theorem dSt_len : ∀ (A : List (List (List UInt8))) (ops : List OP), (dSt ops A).length ≤ ops.length + A.length
  | [], ops => Nat.le_refl _
  | w :: t, ops => by
    have h1 := dSt_len t (dAns ops w).2
    have h2 := (dAns_len ops w).2
    show (dSt (dAns ops w).2 t).length ≤ ops.length + (t.length + 1)
    omega
/- a text, parted at a byte -/
theorem spl_at (c : UInt8) : ∀ (a b : List UInt8), spl c (a ++ c :: b) = spl c a ++ spl c b
  | [], b => by simp [spl]
  | x :: t, b => by
    have ih := spl_at c t b
    rw [List.cons_append, spl, spl, ih]
    by_cases hx : (x == c) = true
    · rw [if_pos hx, if_pos hx]; rfl
    · rw [if_neg hx, if_neg hx]
      cases hs : spl c t with
      | nil => exact absurd hs (spl_ne c t)
      | cons y r => rfl
theorem spl_no (c : UInt8) : ∀ {l : List UInt8}, (∀ b ∈ l, b ≠ c) → spl c l = [l]
  | [], _ => rfl
  | x :: t, h => by
    have hx : (x == c) = false := by simpa using h x (by simp)
    rw [spl, hx, spl_no c (l := t) fun b hb => h b (by simp [hb])]
    rfl
/-- the two lines that tell the zipped tree and the rows -/
def zEnd : List UInt8 := [116, 114, 101, 101, 32, 122, 105, 112, 10, 114, 111, 119, 115, 10]
def zLs : List (List (List UInt8)) := [[[116, 114, 101, 101], [122, 105, 112]], [[114, 111, 119, 115]]]
theorem zEnd_dln : dln zEnd = zLs := by decide +kernel
def tellT (K : List Int) : List UInt8 := orN (jnd (zT K).pre)
def tellR (K : List Int) : List UInt8 := orN (rowsT (rowsL K))
theorem zEnd_run (ops : List OP) : dRunL ops zLs = tellT (kys (runR ops).1) ++ 10 :: (tellR (kys (runR ops).1) ++ [10]) := by
  have e1 : dAns ops [[116, 114, 101, 101], [122, 105, 112]] = (tellT (kys (runR ops).1), ops) := by
    show ordR ops [[122, 105, 112]] = _
    exact ordR_some rfl
  have e2 : dAns ops [[114, 111, 119, 115]] = (tellR (kys (runR ops).1), ops) := rfl
  show (dAns ops [[116, 114, 101, 101], [122, 105, 112]]).1 ++ [10] ++ ((dAns (dAns ops [[116, 114, 101, 101], [122, 105, 112]]).2 [[114, 111, 119, 115]]).1 ++ [10] ++ []) = _
  rw [e1]
  show tellT _ ++ [10] ++ ((dAns ops [[114, 111, 119, 115]]).1 ++ [10] ++ []) = _
  rw [e2]
  simp
theorem nn_tellT (K : List Int) : nn (tellT K) := nn_orN (nn_jnd _)
theorem nn_tellR (K : List Int) : nn (tellR K) := nn_orN (nn_rowsT _)
/-- what is told, parted: the last three -/
theorem told_last (A : List (List (List UInt8))) : ∃ Y : List (List UInt8), spl 10 (dRunL [] (A ++ zLs)) = Y ++ [tellT (kys (runR (dSt [] A)).1), tellR (kys (runR (dSt [] A)).1), []] ∧ Y.length = A.length := by
  rw [dRunL_app, zEnd_run]
  have hlast : spl 10 (tellT (kys (runR (dSt [] A)).1) ++ 10 :: (tellR (kys (runR (dSt [] A)).1) ++ [10])) = [tellT (kys (runR (dSt [] A)).1), tellR (kys (runR (dSt [] A)).1), []] := by
    rw [spl_at, spl_no 10 (nn_tellT _)]
    have : tellR (kys (runR (dSt [] A)).1) ++ [10] = tellR (kys (runR (dSt [] A)).1) ++ 10 :: [] := rfl
    rw [this, spl_at, spl_no 10 (nn_tellR _)]
    rfl
  have hl := dRunL_count A []
  rcases dRunL_end A [] with h | h
  · rw [h] at hl ⊢
    refine ⟨[], by rw [List.nil_append, hlast]; rfl, by simpa using hl⟩
  · unfold Lib.hasSuffix at h
    rw [List.isSuffixOf_iff_suffix] at h
    obtain ⟨c, hc⟩ := h
    rw [← hc] at hl ⊢
    refine ⟨spl 10 c, ?_, ?_⟩
    · rw [List.append_assoc, List.singleton_append, spl_at, hlast]
    · rw [spl_length]
      rw [List.count_append] at hl
      simpa using hl
end Go.Proofs.YtpnjnedfcdppaaaGreatDoor
