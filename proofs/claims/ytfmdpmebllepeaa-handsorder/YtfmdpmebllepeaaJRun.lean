/-
  package hands: run: all steps of all hands.
-/
import Derived.Test.YtfmdpmebllepeaaJInit
import Derived.Test.YtfmdpmebllepeaaMLivesAll
namespace Go.Proofs.Ytfmdpmebllepeaa
open Go.RowKit

/-- the hands that an order names -/
def ordN (nh : Nat) (ord : List Int) : List Nat := ord.filterMap fun x : Int => if 0 ≤ x ∧ x < (nh : Int) then some x.toNat else none
theorem ordN_lt {nh : Nat} {ord : List Int} : ∀ v ∈ ordN nh ord, v < nh := by
  intro v hv
  unfold ordN at hv
  obtain ⟨x, _, hx⟩ := List.mem_filterMap.mp hv
  split at hx
  · cases hx; omega
  · cases hx
theorem ordN_len (nh : Nat) (ord : List Int) : (ordN nh ord).length ≤ ord.length := List.length_filterMap_le ..
theorem ordN_yes {nh k : Nat} {ord : List Int} (hk : k < ord.length) {v : Nat} (hv : ord[k] = v) (hlt : v < nh) : ordN nh (ord.take (k + 1)) = ordN nh (ord.take k) ++ [v] := by
  unfold ordN
  rw [List.take_succ_eq_append_getElem hk, List.filterMap_append, hv]
  simp [hlt]
theorem ordN_no {nh k : Nat} {ord : List Int} (hk : k < ord.length) (hno : ¬ (0 ≤ ord[k] ∧ ord[k] < nh)) : ordN nh (ord.take (k + 1)) = ordN nh (ord.take k) := by
  unfold ordN
  rw [List.take_succ_eq_append_getElem hk, List.filterMap_append]
  simp [hno]
section
variable {A : Alg} {D : Nat → Nat → Int × Int} {len : Nat → Nat}
theorem runs_snoc (W : Wd) (ws : List Nat) (v : Nat) : W.runs A D len (ws ++ [v]) = (W.runs A D len ws).go1 A D len v := by unfold Wd.runs; rw [List.foldl_append]; rfl
theorem runs_idle {W : Wd} : ∀ (ws : List Nat), (∀ v ∈ ws, ¬ W.ix v < len v) → W.runs A D len ws = W := by
  intro ws
  induction ws with
  | nil => intro _; rfl
  | cons a ws ih =>
    intro h
    show (W.go1 A D len a).runs A D len ws = W
    have e : W.go1 A D len a = W := by unfold Wd.go1; rw [if_neg (h a (List.mem_cons_self ..))]
    rw [e]
    exact ih fun v hv => h v (List.mem_cons_of_mem _ hv)
theorem rounds_idle {nh : Nat} {W : Wd} (h : ∀ v, v < nh → ¬ W.ix v < len v) : ∀ k, W.rounds A D len nh k = W := by
  intro k
  induction k with
  | zero => rfl
  | succ k ih =>
    show (W.rounds A D len nh k).runs A D len (List.range nh) = W
    rw [ih]
    exact runs_idle _ fun v hv => h v (List.mem_range.mp hv)
theorem rounds_add {nh : Nat} (W : Wd) (k : Nat) : ∀ m, W.rounds A D len nh (k + m) = (W.rounds A D len nh k).rounds A D len nh m := by
  intro m
  induction m with
  | zero => rfl
  | succ m ih => show (W.rounds A D len nh (k + m)).runs A D len (List.range nh) = _; rw [ih]; rfl
/-- who is over stays so: later rounds change nothing -/
theorem rounds_stop {nh k K : Nat} {W : Wd} (hk : k ≤ K) (h : ∀ v, v < nh → ¬ (W.rounds A D len nh k).ix v < len v) : W.rounds A D len nh K = W.rounds A D len nh k := by
  obtain ⟨m, rfl⟩ : ∃ m, K = k + m := ⟨K - k, by omega⟩
  rw [rounds_add]
  exact rounds_idle h m
end
/-- what holds of a list that is told in the end -/
structure ListOk (s : Bs) : Prop where
  h0 : 0 < s.sz
  h0t : 0 ≠ s.tl
  htl : s.tl < s.sz
  hnl : ∀ i, i < s.sz → i ≠ s.tl → s.nx i < s.sz
  hk : s.key s.tl = 10
  hk2 : ∀ i, i < s.sz → i ≠ s.tl → s.key i ≠ 10
  hup : ∀ i, i < s.sz → i ≠ s.tl → s.key i < s.key (s.nx i)
  hkb : ∀ i, i < s.sz → s.key i ≤ 10
  kb : KB s
/-- what must hold of all that comes -/
structure Sound (al nh : Nat) (P : Nat → PL) (l ord : List Int) (Inv : Wd → Prop) : Prop where
  i0 : Inv (Wd.begin_ l)
  go : ∀ {W v}, Inv W → v < nh → W.ix v < (P v).length → Inv (W.go (alg al) (dds P) v)
  ok : ∀ {W}, Inv W → Okay al P W
  lf : ∀ {W}, Inv W → ListOk W.s
  nows : ∀ k, k ≤ 875 → (((Wd.begin_ l).runs (alg al) (dds P) (fun v => (P v).length) (ordN nh ord)).rounds (alg al) (dds P) (fun v => (P v).length) nh k).now ≤ 500 + 4 * k
  fin : ∀ v, v < nh → ¬ (((Wd.begin_ l).runs (alg al) (dds P) (fun v => (P v).length) (ordN nh ord)).rounds (alg al) (dds P) (fun v => (P v).length) nh 875).ix v < (P v).length
/-- in the end -/
def Wend (al nh : Nat) (P : Nat → PL) (l ord : List Int) : Wd := ((Wd.begin_ l).runs (alg al) (dds P) (fun v => (P v).length) (ordN nh ord)).rounds (alg al) (dds P) (fun v => (P v).length) nh 875
section
variable {al nh : Nat} {P : Nat → PL} {l ord : List Int} {Inv : Wd → Prop}
theorem Sound.go1 (h : Sound al nh P l ord Inv) {W : Wd} {v : Nat} (hW : Inv W) (hv : v < nh) : Inv (W.go1 (alg al) (dds P) (fun v => (P v).length) v) := by
  unfold Wd.go1
  by_cases hi : W.ix v < (P v).length
  · rw [if_pos hi]; exact h.go hW hv hi
  · rw [if_neg hi]; exact hW
theorem Sound.runs (h : Sound al nh P l ord Inv) : ∀ (ws : List Nat) {W : Wd}, Inv W → (∀ v ∈ ws, v < nh) → Inv (W.runs (alg al) (dds P) (fun v => (P v).length) ws) := by
  intro ws
  induction ws with
  | nil => intro W hW _; exact hW
  | cons a ws ih => intro W hW hlt; exact ih (h.go1 hW (hlt a (List.mem_cons_self ..))) fun v hv => hlt v (List.mem_cons_of_mem _ hv)
theorem Sound.rounds (h : Sound al nh P l ord Inv) {W : Wd} (hW : Inv W) : ∀ k, Inv (W.rounds (alg al) (dds P) (fun v => (P v).length) nh k) := by
  intro k
  induction k with
  | zero => exact hW
  | succ k ih => exact h.runs _ ih fun v hv => List.mem_range.mp hv
theorem may_go1 {W : Wd} (v : Nat) (h : W.now < 4000) : W.may (alg al) P v = W.go1 (alg al) (dds P) (fun v => (P v).length) v := by
  unfold Wd.may Wd.go1
  by_cases hi : W.ix v < (P v).length
  · rw [if_pos ⟨h, hi⟩, if_pos hi]
  · rw [if_neg (fun e => hi e.2), if_neg hi]
end

end Go.Proofs.Ytfmdpmebllepeaa
