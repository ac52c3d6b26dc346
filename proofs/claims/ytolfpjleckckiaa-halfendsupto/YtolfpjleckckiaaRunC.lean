/-
  What Run leads to is right: plain lists.
-/
import Derived.Test.YtolfpjleckckiaaSteps
namespace Go.Proofs.Ytolfpjleckckiaa
open Go.RowKit

theorem chk_doL {l : PL} (h : chk l = 0) (kind key val : Int) : chk (doL l kind key val) = 0 := by
  unfold doL
  rw [if_neg (by simpa using h)]
  cases ho : opB kind key with
  | false => simpa using h
  | true =>
    rw [if_neg (by simp)]
    split
    · rename_i hk
      subst hk
      have hk : keyB key = true := by simpa [opB] using ho
      rw [putL_eq]
      split
      · rename_i hr
        obtain ⟨h1, h2⟩ := (chk_zero l).1 h
        have hk' : 0 ≤ key ∧ key ≤ 1000000 := by simpa [keyB] using hk
        refine (chk_zero _).2 ⟨?_, srt_ins l key val 0 h2 hk'.1 hk'.2⟩
        rw [len_ins]
        split
        · exact h1
        · rcases hr with hr | hr
          · contradiction
          · omega
      · exact h
    · split
      · rw [cutL_eq]
        obtain ⟨h1, h2⟩ := (chk_zero l).1 h
        refine (chk_zero _).2 ⟨?_, srt_del l key 0 h2⟩
        rw [len_del]
        split <;> omega
      · exact h
theorem chk_runR (ops : List OP) : chk (runR ops).1 = 0 := by
  have h : ∀ (s : PL × List An), chk s.1 = 0 → chk (ops.foldl stepR s).1 = 0 := by
    induction ops with
    | nil => intro s hs; exact hs
    | cons o t ih => intro s hs; exact ih _ (chk_doL hs _ _ _)
  exact h ([], []) (by decide)

end Go.Proofs.Ytolfpjleckckiaa
