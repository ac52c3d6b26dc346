/-
  The walk of the law BestSays.
-/
import Derived.Test.YtconegligedniaaBAsk
import Derived.Test.YtconegligedniaaBRootsL
namespace Go.Proofs.Ytconegligedniaa
open Go.RowKit Go.Maps

theorem costE_bad {l : PL} {hits gaps : List Int} (h : chkB hits gaps ≠ 0) : costE l hits gaps = chkB hits gaps := by
  unfold costE
  rw [if_pos h]
theorem costE_ok {l : PL} {hits gaps : List Int} {n : Nat} (hI : InB hits gaps n) : costE l hits gaps = if chkS l ≠ 0 then chkS l else if keysR l n then 0 else 3 := by
  unfold costE
  rw [if_neg (by rw [chkB_in hI]; simp), hI.h]
theorem keysR_true {l : PL} {n : Nat} (h : keysR l n = true) : l.length = n ∧ ∀ i, i < l.length → ky l i = i := by
  unfold keysR at h
  exact of_decide_eq_true h
theorem costE_zero {l : PL} {hits gaps : List Int} {n : Nat} (hI : InB hits gaps n) (h : costE l hits gaps = 0) : ∃ t : Tr, l = t.sp 0 ∧ Rng t 0 n ∧ IsTree l ∧ ∀ i, i < l.length → ky l i = i := by
  rw [costE_ok hI] at h
  split at h
  · rename_i hc; exact absurd h hc
  · rename_i hc
    have hT := chkS_zero.1 (Classical.not_not.1 hc)
    cases hk : keysR l n with
    | false => rw [hk] at h; simp at h
    | true =>
      obtain ⟨h1, h2⟩ := keysR_true hk
      obtain ⟨t, ht⟩ := hT.2.2
      refine ⟨t, ht, ?_, hT, h2⟩
      have hs : t.size = n := by rw [← sp_length t 0, ← ht, h1]
      have := rng_of t 0 0 (fun q hq => by rw [← ht, h2 q (by omega)]; omega)
      rw [Nat.zero_add, hs] at this
      exact this
theorem ask_same {hits gaps : List Int} {t t' : Tr} {n : Nat} (h : Rng t 0 n) (h' : Rng t' 0 n) (he : t.sp 0 = t'.sp 0) : t.ask hits gaps 0 0 = t'.ask hits gaps 0 0 := by
  have hs : t.size = t'.size := by rw [← sp_length t 0, ← sp_length t' 0, he]
  rw [ask_sums hits gaps t 0 n 0 h, ask_sums hits gaps t' 0 n 0 h', he, hs]
theorem chkS_two {l : PL} (h : 200 < l.length) : chkS l = 2 := by unfold chkS; rw [if_pos h]
theorem chkS_three {l : PL} (h : l.length ≤ 200) (hn : ¬ IsTree l) : chkS l = 3 := by
  have hz : chkS l ≠ 0 := fun e => hn (chkS_zero.1 e)
  unfold chkS at hz ⊢
  rw [if_neg (by omega)] at hz ⊢
  split at hz
  · exact absurd rfl hz
  · rename_i hc; rw [if_neg hc]

set_option maxRecDepth 100000 in
set_option maxHeartbeats 4000000 in
theorem bsays_bad (A1 A A' : Option Addr) (n1 c1 n c n' c' : Nat) (l : PL) (hits gaps : List Int) (w : World) (h1 : PS w A1 n1 c1 l) (h : IS w A n c hits) (h' : IS w A' n' c' gaps) (hn1 : n1 ≤ 9223372036854775807) (hn : n ≤ 9223372036854775807) (hn' : n' ≤ 9223372036854775807) (hbad : chkB hits gaps ≠ 0) :
    Calls Try.prog 3 #[.slice A1 n1 c1, .slice A n c, .slice A' n' c'] w (YesB w) := by
  obtain ⟨E, hE⟩ : ∃ E, chkB hits gaps = E := ⟨_, rfl⟩
  have HC := Lib.hid (Cost_bad A1 A A' n1 c1 n c n' c' l hits gaps w h1 h h' hn1 hn hn' E (by rw [costE_bad hbad, hE]) (by rw [← hE]; exact hbad))
  rw [hE] at hbad
  have HT := Lib.hid (fun W (a : IS W A n c hits) (b : IS W A' n' c' gaps) => TreeB_bad A A' n c n' c' hits gaps W a b hn hn' E hE hbad)
  have HR := Lib.hid (fun W (a : IS W A n c hits) (b : IS W A' n' c' gaps) => Roots_bad A A' n c n' c' hits gaps W a b hn hn' E hE hbad)
  have HBR := Lib.hid (fun W (a : IS W A n c hits) (b : IS W A' n' c' gaps) => bright_any A A' n c n' c' hits gaps W a b hn hn')
  rw [hE] at HBR
  have H := Lib.hid h
  have H' := Lib.hid h'
  have hb1 : (E != 0) = true := by simpa using hbad
  have hbe : (E == E) = true := by simp
  clear h h' h1 hE hbad
  go_enter Try.func3, Try.ntmps3
  go_wp2_with fail
  refine HC.out.mono ?_
  rintro e w1 ⟨rfl, hx1⟩
  have HB1 := Lib.hid hx1
  clear hx1
  go_wp2_with fail
  refine (HT.out w1 (H.out.below HB1.out) (H'.out.below HB1.out)).mono ?_
  rintro e w2 ⟨rfl, rfl⟩
  go_wp2_with fail
  refine (HR.out w1 (H.out.below HB1.out) (H'.out.below HB1.out)).mono ?_
  rintro e w3 ⟨rfl, rfl⟩
  go_wp2_with fail
  refine (HBR.out w1 (H.out.below HB1.out) (H'.out.below HB1.out)).mono ?_
  rintro e w4 ⟨rfl, hx4⟩
  have HB4 := Lib.hid (below_next HB1.out hx4)
  clear hx4
  go_wp2
  go_ret
  exact ⟨rfl, HB4.out⟩

/-- what is said while the keys are looked at -/
def SayR (l : PL) (S0 : Int) (k : Nat) (s : Int) : Prop := (S0 ≠ 0 ∧ s = S0) ∨ (S0 = 0 ∧ ((s = 0 ∧ ∀ q, q < k → ky l q = q) ∨ (s = 3 ∧ ∃ q, q < k ∧ ky l q ≠ q)))
/-- what was said of the spots, behind their length -/
def SayS (l : PL) (n1 n : Nat) (S0 : Int) : Prop := 0 ≤ S0 ∧ S0 ≤ 3 ∧ (200 < n1 → S0 = 2) ∧ (n1 ≤ 200 → S0 = 0 ∨ S0 = 3) ∧ (S0 = 0 → IsTree l ∧ n1 = n) ∧ (IsTree l → (∀ i, i < l.length → 0 ≤ ky l i ∧ ky l i ≤ 1000000) → n1 = n → S0 = 0)
/-- at the end it says what Cost tells -/
theorem say_end {l : PL} {hits gaps : List Int} {n1 n : Nat} {S0 s : Int} (hI : InB hits gaps n) (hl : l.length = n1) (h0 : SayS l n1 n S0) (h : SayR l S0 n1 s) : s = costE l hits gaps := by
  obtain ⟨_, _, a1, a2, a3, a4⟩ := h0
  have hn := hI.n20
  rw [costE_ok hI]
  rcases Nat.lt_or_ge 200 n1 with h200 | h200
  · have e := a1 h200
    rw [chkS_two (by omega)]
    rcases h with ⟨_, hs⟩ | ⟨hs, _⟩
    · rw [hs, e]; simp
    · omega
  · by_cases hT : IsTree l
    · rw [if_neg (by rw [chkS_zero.2 hT]; simp)]
      cases hk : keysR l n with
      | true =>
        obtain ⟨k1, k2⟩ := keysR_true hk
        have e := a4 hT (fun i hi => by rw [k2 i hi]; omega) (by omega)
        rcases h with ⟨hs, _⟩ | ⟨_, hs | ⟨_, q, hq, hne⟩⟩
        · exact absurd e hs
        · rw [hs.1]; rfl
        · exact absurd (k2 q (by omega)) hne
      | false =>
        rcases h with ⟨hs, hs2⟩ | ⟨hs, hs2 | hs2⟩
        · have := a2 h200
          rw [hs2]
          rcases this with e | e
          · exact absurd e hs
          · rw [e]; rfl
        · have hnn := (a3 hs).2
          exfalso
          have : keysR l n = true := by
            unfold keysR
            rw [decide_eq_true_eq]
            exact ⟨by omega, fun i hi => hs2.2 i (by omega)⟩
          rw [this] at hk
          cases hk
        · rw [hs2.1]; rfl
    · rw [chkS_three (by omega) hT]
      have h3 : S0 = 3 := by
        rcases a2 h200 with e | e
        · exact absurd (a3 e).1 hT
        · exact e
      rcases h with ⟨_, hs⟩ | ⟨hs, _⟩
      · rw [hs, h3]; simp
      · omega

end Go.Proofs.Ytconegligedniaa
