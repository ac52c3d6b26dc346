/-
  BY OTHER OPS TO THE SAME KEYS, as lists. Nothing is walked here.
-/
import Derived.Test.YtpnjnedfcdppaaaGreatDoorKKeysAll
import Derived.Test.YtpnjnedfcdppaaaGreatDoorKRef1All
import Derived.Test.YtpnjnedfcdppaaaGreatDoorRanksAll
namespace Go.Proofs.YtpnjnedfcdppaaaGreatDoor

theorem srt_pw : ∀ (l : PL) (lo : Int), Srt lo l → (kys l).Pairwise (· < ·) ∧ ∀ x ∈ kys l, lo ≤ x ∧ x ≤ 1000000
  | [], _, _ => ⟨List.Pairwise.nil, fun x h => by cases h⟩
  | p :: t, lo, h => by
    obtain ⟨h1, h2, h3⟩ := h
    obtain ⟨h4, h5⟩ := srt_pw t (p.1 + 1) h3
    refine ⟨List.Pairwise.cons (fun x hx => ?_) h4, fun x hx => ?_⟩
    · have := h5 x hx
      omega
    · rcases List.mem_cons.1 hx with rfl | hx
      · exact ⟨h1, h2⟩
      · have := h5 x hx
        omega
theorem rise_kys {l : PL} (h : chk l = 0) : Rise (kys l) := by
  obtain ⟨h1, h2⟩ := (chk_zero l).1 h
  obtain ⟨h3, h4⟩ := srt_pw l 0 h2
  exact ⟨by rw [kys_len]; exact h1, h3, h4⟩
end Go.Proofs.YtpnjnedfcdppaaaGreatDoor
