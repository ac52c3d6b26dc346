/-
  hedgref's map of the keys that are there (map[int]int), and what was met of it in whatever order.
-/
import Derived.Test.YtolfpjleckckiaaQOps
import Derived.Test.YtolfpjleckckiaaGCheck
import Derived.Maps.OwnSet
import Derived.Maps.RangeWalk
namespace Go.Proofs.Ytolfpjleckckiaa
open Go.RowKit Go.Maps

theorem qzero_int (w : World) : (zeroValue 3).run Try.prog w = .ok (I 0) w := by kernel_rfl
theorem qwf_one : (Lit.int .i64 (1 : Int)).wf = true := wf_key (by omega)
/-- the map has just the keys l -/
def hmD (D : DataW Unit) (l : List Int) : Prop := IsMap D ∧ ∀ k : Int, has D (.int .i64 k) = decide (k ∈ l) ∧ (k ∈ l → ∀ z, D.atKey (.int .i64 k) z = .lit (.int .i64 1))
def HMb (w : World) (b T : Nat) (l : List Int) : Prop := ∃ D, w.ownsMap Try.prog 3 (plainElem Try.prog 3) b T D ∧ hmD D l
theorem HMb.lt {w : World} {b T : Nat} {l : List Int} (h : HMb w b T l) : b < w.heap.size := by obtain ⟨D, h1, _⟩ := h; exact h1.lt
theorem HMb.keep {w w' : World} {b T : Nat} {l : List Int} (h : HMb w b T l) (e : w'.heap[b]? = w.heap[b]?) : HMb w' b T l := by
  obtain ⟨D, ⟨es, clock, hb', F, hs, hD⟩, h2⟩ := h
  exact ⟨D, ⟨es, clock, e.trans hb', F, hs, hD⟩, h2⟩
theorem HMb.mono {w : World} {b T T' : Nat} {l : List Int} (h : HMb w b T l) (hT : T ≤ T') : HMb w b T' l := by
  obtain ⟨D, h1, h2⟩ := h
  exact ⟨D, h1.mono hT, h2⟩
theorem HMb.made (w : World) : HMb (w.alloc (.map #[] 0)) w.heap.size 0 [] := ⟨.map [], World.ownsMap_made _ _ _ _, isMap_empty, fun k => ⟨by simp [has], fun h => by cases h⟩⟩
theorem HMb.look {w : World} {b T : Nat} {l : List Int} (h : HMb w b T l) {k : Int} (hk : 0 ≤ k ∧ k ≤ 1000000) :
    (Instr.lookup 61 (.map (some b)) (I k) false).run Try.prog w = .ok (I (if k ∈ l then 1 else 0)) w := by
  have hkey := keyOf_int_mk Try.underlying3 (wf_key hk)
  obtain ⟨D, h1, _, h3⟩ := h
  obtain ⟨c, hrun, hat, _⟩ := h1.lookup_int keyed_int Try.underlying61 Try.underlying3 (qzero_int w) hkey
  obtain ⟨h4, h5⟩ := h3 k
  by_cases hm : k ∈ l
  · rw [h5 hm] at hat
    have : (1 : Int) = c := by simpa using hat
    rw [if_pos hm, this]
    exact hrun
  · rw [atKey_of_not_has (by rw [h4]; simpa using hm)] at hat
    have : (0 : Int) = c := by simpa using hat
    rw [if_neg hm, this]
    exact hrun
theorem hmD_put {D : DataW Unit} {l : List Int} (h : hmD D l) (k : Int) : hmD (D.put (.int .i64 k) (.lit (.int .i64 1))) (qins k l) := by
  refine ⟨h.1.put _ _, fun x => ?_⟩
  have hm : ∀ y, y ∈ qins k l ↔ y = k ∨ y ∈ l := fun y => mem_qins
  by_cases hx : x = k
  · subst hx
    refine ⟨?_, fun _ z => atKey_put_same h.1 (by first | trivial | simp [WideAt.IsKeyLit]) _ _⟩
    rw [has_put_same h.1 (by first | trivial | simp [WideAt.IsKeyLit])]
    exact (decide_eq_true ((hm x).2 (.inl rfl))).symm
  · have hne : (Lit.int .i64 x) ≠ .int .i64 k := by simp [hx]
    refine ⟨?_, fun hmx z => ?_⟩
    · rw [has_put_other hne, (h.2 x).1]
      congr 1
      exact propext ⟨fun e => (hm x).2 (.inr e), fun e => ((hm x).1 e).resolve_left hx⟩
    · rw [atKey_put_other hne]
      exact (h.2 x).2 (((hm x).1 hmx).resolve_left hx) z
theorem hmD_del {D : DataW Unit} {l : List Int} (h : hmD D l) (k : Int) : hmD (D.del (.int .i64 k)) (qdel k l) := by
  refine ⟨h.1.del _, fun x => ?_⟩
  have hm : ∀ y, y ∈ qdel k l ↔ y ∈ l ∧ y ≠ k := fun y => mem_qdel
  by_cases hx : x = k
  · subst hx
    refine ⟨?_, fun e => absurd rfl ((hm x).1 e).2⟩
    rw [has_del_same]
    exact (decide_eq_false (fun e => ((hm x).1 e).2 rfl)).symm
  · have hne : (Lit.int .i64 x) ≠ .int .i64 k := by simp [hx]
    refine ⟨?_, fun hmx z => ?_⟩
    · rw [has_del_other hne, (h.2 x).1]
      congr 1
      exact propext ⟨fun e => (hm x).2 ⟨e, hx⟩, fun e => ((hm x).1 e).1⟩
    · rw [atKey_del_other hne]
      exact (h.2 x).2 ((hm x).1 hmx).1 z
theorem HMb.store {w : World} {b T : Nat} {l : List Int} (h : HMb w b T l) (hT : T < 1000000) {k : Int} (hk : 0 ≤ k ∧ k ≤ 1000000) :
    ∃ w', (Instr.mapUpdate 61 (.map (some b)) (I k) (I 1)).run Try.prog w = .ok () w' ∧ HMb w' b (T + 1) (qins k l) ∧ w.grownBy w' (some b) := by
  have hkey := keyOf_int_mk Try.underlying3 (wf_key hk)
  obtain ⟨D, h1, h2⟩ := h
  obtain ⟨w', hrun, ho, hg⟩ := h1.update keyed_int Try.underlying61 (by unfold maxLen; omega) hkey (plainElem_int Try.underlying3 qwf_one)
  exact ⟨w', hrun, ⟨_, ho, hmD_put h2 k⟩, hg⟩

/-- what was met of it: each once -/
def QSn (left : Lit → Bool) (l seen : List Int) : Prop := seen.Nodup ∧ ∀ x : Int, x ∈ seen ↔ x ∈ l ∧ left (.int .i64 x) = false
theorem QSn.start {D : DataW Unit} {l : List Int} (h : hmD D l) : QSn (has D) l [] := by
  refine ⟨List.nodup_nil, fun x => ⟨fun e => (by cases e), fun e => ?_⟩⟩
  have := (h.2 x).1
  rw [e.2] at this
  simp [e.1] at this
theorem qmet {D : DataW Unit} {l : List Int} (h : hmD D l) {x c : Int} (hat : ∀ zd, D.atKey (.int .i64 x) zd = .lit (.int .i64 c)) : x ∈ l := by
  have := has_true_of_atKey hat
  rw [(h.2 x).1] at this
  simpa using this
theorem QSn.step {left : Lit → Bool} {l seen : List Int} (h : QSn left l seen) {x : Int} (hx : x ∈ l) (hl : left (.int .i64 x) = true) : QSn (fun z => left z && !z.sameKey (.int .i64 x)) l (seen ++ [x]) := by
  have hns : x ∉ seen := fun e => by have := ((h.2 x).1 e).2; rw [hl] at this; cases this
  refine ⟨nodup_snoc h.1 hns, fun y => ?_⟩
  rw [List.mem_append, List.mem_singleton, h.2 y]
  by_cases hy : y = x
  · subst hy
    have : (Lit.int .i64 y).sameKey (.int .i64 y) = true := by simp [Lit.sameKey]
    simp [this, hx]
  · have : (Lit.int .i64 y).sameKey (.int .i64 x) = false := sameKey_ne (by simp [hy])
    simp [this, hy]
theorem QSn.all {left : Lit → Bool} {l seen : List Int} (h : QSn left l seen) (hl : ∀ kl, left kl = false) : ∀ z, z ∈ seen ↔ z ∈ l := fun z => by
  rw [h.2 z]
  exact ⟨fun e => e.1, fun e => ⟨e, hl _⟩⟩

end Go.Proofs.Ytolfpjleckckiaa
