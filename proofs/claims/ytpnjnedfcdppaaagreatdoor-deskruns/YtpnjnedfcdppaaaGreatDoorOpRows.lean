/-
  ROWS OF OPS of the call's own.
-/
import Derived.Test.YtpnjnedfcdppaaaGreatDoorRanksAll
import Derived.Test.YtpnjnedfcdppaaaGreatDoorInts
import Derived.Deep.AppendLies
namespace Go.Proofs.YtpnjnedfcdppaaaGreatDoor
open Go.RowKit

def flatO : List OP → List Value
  | [] => []
  | o :: t => I o.1 :: I o.2.1 :: I o.2.2 :: flatO t
theorem flatO_length (l : List OP) : (flatO l).length = l.length * 3 := by induction l <;> simp [flatO, *]; omega
theorem flatO_append (l m : List OP) : flatO (l ++ m) = flatO l ++ flatO m := by induction l <;> simp [flatO, *]
theorem flatO_at (l : List OP) (i j : Nat) (h : i < l.length) (hj : j < 3) : (flatO l)[i * 3 + j]? = some (of_ l i j) := by
  induction l generalizing i with
  | nil => simp at h
  | cons o t ih =>
    cases i with
    | zero => rcases (show j = 0 ∨ j = 1 ∨ j = 2 by omega) with rfl | rfl | rfl <;> simp [flatO, of_]
    | succ i =>
      rw [show (i + 1) * 3 + j = i * 3 + j + 1 + 1 + 1 by omega]
      simp only [flatO, List.getElem?_cons_succ]
      rw [ih i (by simpa using h)]
      simp [of_]
theorem flatO_one (l : List OP) : ∀ u ∈ flatO l, u.oneCell' = true := by
  induction l with
  | nil => intro u h; cases h
  | cons o t ih =>
    intro u h
    simp [flatO] at h
    rcases h with rfl | rfl | rfl | h
    · rfl
    · rfl
    · rfl
    · exact ih u h
def OwnO (w : World) (base : Nat) (v : Value) (L : List OP) : Prop := w.ownsRow base 69 3 v L.length (flatO L)
theorem OwnO.os {w : World} {base : Nat} {v : Value} {L : List OP} (h : OwnO w base v L) : ∃ A c, v = .slice A L.length c ∧ OS w A L.length c L := by
  rcases h.2 with ⟨rfl, h0⟩ | ⟨g, cap, cur, rfl, hb, hg, hnc, _, hsz, htk⟩
  · have hl : L = [] := List.eq_nil_of_length_eq_zero h0
    subst hl
    exact ⟨none, 0, rfl, ⟨rfl, Rd.none_⟩⟩
  · refine ⟨_, cap, rfl, ⟨rfl, hnc, fun _ => ⟨g, 0, rfl, ?_, fun i hi j hj => ?_⟩⟩⟩
    · rcases Nat.lt_or_ge g w.heap.size with hlt | hge
      · exact hlt
      · rw [Array.getElem?_eq_none hge] at hg; cases hg
    · rw [cell_of_row _ _ _ _ _ _ hg]
      have h1 := flatO_at L i j hi hj
      rw [← htk, List.getElem?_take, if_pos (by omega)] at h1
      simpa using h1
theorem op_info : (Tryz.prog.info? 69).map (fun i => (i.zero, i.size, i.bytes)) = some (some (.agg #[I 0, I 0, I 0]), 3, 24) := by kernel_rfl
theorem OS.cells {w : World} {n c : Nat} {A : Option Addr} {l : List OP} (h : OS w A n c l) {ad : Addr} (e : A = some ad) : ∀ j u, (flatO l)[j]? = some u → w.cell? (ad.add j) = some u := by
  intro j u hu
  have hj : j < (flatO l).length := by
    rcases Nat.lt_or_ge j (flatO l).length with h1 | h1
    · exact h1
    · rw [List.getElem?_eq_none h1] at hu; cases hu
  rw [flatO_length, h.len] at hj
  obtain ⟨b, off, e2, hb, hc⟩ := h.rd.2 (by omega)
  rw [e] at e2
  injection e2 with e2
  subst e2
  have h1 := hc (j / 3) (by omega) (j % 3) (by omega)
  have h2 := flatO_at l (j / 3) (j % 3) (by rw [h.len]; omega) (by omega)
  rw [show j / 3 * 3 + j % 3 = j by omega] at h1 h2
  rw [addn, h1]
  rw [h2] at hu
  exact hu
theorem OS.drewN {w : World} {n c : Nat} {A : Option Addr} {l : List OP} (h : OS w A n c l) (k : Nat) : OS (w.drewN k) A n c l := ⟨h.len, h.rd⟩

theorem three_new (w : World) (a b c : Int) (t : Nat) : ∀ j u, [I a, I b, I c][j]? = some u → (w.alloc (.cells #[I a, I b, I c] t)).cell? ((⟨w.heap.size, 0, none⟩ : Addr).add j) = some u := by
  intro j u hu
  rw [addn, Nat.zero_add]
  have := heap_alloc_new w (.cells #[I a, I b, I c] t)
  rw [cell_of_row _ _ _ _ _ _ this]
  simpa using hu
theorem three_one (a b c : Int) : ∀ u ∈ [I a, I b, I c], u.oneCell' = true := by
  intro u hu
  simp at hu
  rcases hu with rfl | rfl | rfl <;> rfl
end Go.Proofs.YtpnjnedfcdppaaaGreatDoor
