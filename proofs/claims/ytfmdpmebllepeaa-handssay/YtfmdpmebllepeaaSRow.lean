/-
  A ROW OF SPOTS OF THE CALL'S OWN, WITH SPARE ROOM: what append, stores do to it. Nothing of the program.
-/
import Derived.Test.YtfmdpmebllepeaaCopy
import Derived.Test.YtfmdpmebllepeaaSPureAll
import Derived.Maps.AppendAt
import Derived.OwnWalk
namespace Go.Proofs.Ytfmdpmebllepeaa
open Go.RowKit

def OwnR (w : World) (base t : Nat) (v : Value) (L : PL) : Prop := w.ownsRow base t 2 v L.length (flat L)
def SB (w : World) (g t : Nat) (L : PL) : Prop := ∃ cur, w.heap[g]? = some (.cells cur t (0, 0)) ∧ cur.toList.take (L.length * 2) = flat L
theorem SB.lt {w : World} {g t : Nat} {L : PL} (h : SB w g t L) : g < w.heap.size := by
  obtain ⟨cur, h, _⟩ := h
  rcases Nat.lt_or_ge g w.heap.size with hlt | hge
  · exact hlt
  · rw [Array.getElem?_eq_none hge] at h; cases h
theorem SB.cell {w : World} {g t : Nat} {L : PL} (h : SB w g t L) (i : Nat) (hi : i < L.length) : w.cell? ⟨g, i * 2, none⟩ = some (I (ky L i)) ∧ w.cell? ⟨g, i * 2 + 1, none⟩ = some (I (dp L i)) := by
  obtain ⟨cur, hg, htk⟩ := h
  have hf := flat_at L i hi
  rw [← htk, List.getElem?_take, List.getElem?_take, if_pos (by omega), if_pos (by omega)] at hf
  rw [ky_in hi, dp_in hi, cell_of_row _ _ _ _ _ _ hg, cell_of_row _ _ _ _ _ _ hg]
  exact ⟨by simpa using hf.1, by simpa using hf.2⟩
theorem SB.frozen {w : World} {g t : Nat} {L : PL} (h : SB w g t L) (i : Nat) : w.frozen? ⟨g, i, none⟩ = false := by
  obtain ⟨cur, hg, _⟩ := h
  simp [World.frozen?, hg]
theorem SB.ps {w : World} {g t c : Nat} {L : PL} (h : SB w g t L) (hc : L.length ≤ c) : PS w (some ⟨g, 0, none⟩) L.length c L := by
  refine ⟨rfl, hc, fun _ => ⟨g, 0, rfl, h.lt, fun i hi j hj => ?_⟩⟩
  have hx := h.cell i hi
  rcases (show j = 0 ∨ j = 1 by omega) with rfl | rfl
  · simpa [pf, ky] using hx.1
  · simpa [pf, dp] using hx.2
theorem SB.below {w w' : World} {g t B : Nat} {L : PL} (h : SB w g t L) (hb : Below B w w') (hg : g < B) : SB w' g t L := by
  obtain ⟨cur, h1, h2⟩ := h
  exact ⟨cur, (hb.block g hg).trans h1, h2⟩
theorem OwnR.sb {w : World} {base t n : Nat} {A : Option Addr} {c : Nat} {L : PL} (h : OwnR w base t (.slice A n c) L) (h0 : 0 < L.length) : ∃ g, A = some ⟨g, 0, none⟩ ∧ n = L.length ∧ base ≤ g ∧ L.length ≤ c ∧ SB w g t L := by
  rcases h.2 with ⟨_, h1⟩ | ⟨g, cap, cur, hv, hb, hg, hnc, _, _, htk⟩
  · omega
  · cases hv
    exact ⟨g, rfl, rfl, hb, hnc, cur, hg, htk⟩
theorem OwnR.ps {w : World} {base t : Nat} {v : Value} {L : PL} (h : OwnR w base t v L) : ∃ A c, v = .slice A L.length c ∧ PS w A L.length c L ∧ ∀ ad, A = some ad → base ≤ ad.block := by
  rcases h.2 with ⟨rfl, h0⟩ | ⟨g, cap, cur, rfl, hb, hg, hnc, _, hsz, htk⟩
  · have hl : L = [] := List.eq_nil_of_length_eq_zero h0
    subst hl
    exact ⟨none, 0, rfl, ⟨rfl, Rd.none_⟩, fun _ h => by cases h⟩
  · exact ⟨_, cap, rfl, SB.ps ⟨cur, hg, htk⟩ hnc, fun ad h => by cases h; exact hb⟩
theorem OwnR.ge {w : World} {base t : Nat} {v : Value} {L : PL} (h : OwnR w base t v L) : ∀ g, v.ownBlock = some g → base ≤ g := by
  intro g hg
  rcases h.2 with ⟨rfl, _⟩ | ⟨g', cap, cur, rfl, hb, _⟩
  · simp [Value.ownBlock] at hg
  · simp [Value.ownBlock] at hg; omega

end Go.Proofs.Ytfmdpmebllepeaa
