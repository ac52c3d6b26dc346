/-
  check: may these keys come? What was seen is kept in a map of the call's own.
-/
import Derived.Test.YtolfpjleckckiaaChecked
import Derived.Test.YtolfpjleckckiaaGPure
import Derived.Test.YtolfpjleckckiaaEqAll
import Derived.Maps.OwnSet
import Derived.Maps.AppendAt
import Derived.WalkKit
import Derived.Deep.LoopGhost
import Derived.BigQuiet
import Derived.Deep.QuietTactic
namespace Go.Proofs.Ytolfpjleckckiaa
open Go.RowKit Go.Maps

theorem keyed_int : Keyed Try.prog 3 := int_keyed Try.underlying3
theorem zero_bool (w : World) : (zeroValue 4).run Try.prog w = .ok (.bool false) w := by kernel_rfl
theorem elem_bool_inv {P : Program} {e : TypeId} (he : P.underlying e = some .bool) {v : Value} {z : DataW Unit × List MemPlace} (h : plainElem P e v = some z) : ∃ x, v = .bool x ∧ z = (.lit (.bool x), []) := by
  unfold plainElem at h
  rw [he] at h
  cases v <;> simp at h
  exact ⟨_, rfl, h.symm⟩

/-- the keys that were seen -/
def Sd (l : List Int) : DataW Unit := l.foldl (fun D x => D.put (.int .i64 x) (.lit (.bool true))) (.map [])
theorem Sd_snoc (l : List Int) (x : Int) : Sd (l ++ [x]) = (Sd l).put (.int .i64 x) (.lit (.bool true)) := by simp [Sd]
theorem fold_at (x : Int) (z : DataW Unit) : ∀ (l : List Int) (D : DataW Unit), IsMap D →
    (l.foldl (fun D x => D.put (.int .i64 x) (.lit (.bool true))) D).atKey (.int .i64 x) z = if x ∈ l then .lit (.bool true) else D.atKey (.int .i64 x) z
  | [], D, _ => by simp
  | y :: l, D, hD => by
    rw [List.foldl_cons, fold_at x z l _ (hD.put _ _)]
    by_cases h1 : x ∈ l
    · simp [h1]
    · by_cases h2 : x = y
      · subst h2
        simp only [List.mem_cons, h1, or_false, if_true, if_false]
        exact atKey_put_same hD (by first | trivial | simp [WideAt.IsKeyLit]) _ _
      · simp only [List.mem_cons, h1, h2, or_false, if_false]
        exact atKey_put_other (by simp [h2]) _ _
theorem Sd_at (l : List Int) (x : Int) : (Sd l).atKey (.int .i64 x) (.lit (.bool false)) = .lit (.bool (decide (x ∈ l))) := by
  unfold Sd
  rw [fold_at x _ l _ isMap_empty]
  by_cases h : x ∈ l <;> simp [h]
  rfl
theorem wf_key {x : Int} (h : 0 ≤ x ∧ x ≤ 1000000) : (Lit.int .i64 x).wf = true := by
  have h1 : IntKind.i64.min = -9223372036854775808 := by decide
  have h2 : IntKind.i64.max = 9223372036854775807 := by decide
  simp [Lit.wf, h1, h2]
  omega

theorem take_snoc {l : List Int} {k : Nat} (h : k < l.length) : l.take (k + 1) = l.take k ++ [l[k]] := List.take_succ_eq_append_getElem h
theorem nodup_snoc {l : List Int} {x : Int} (h : l.Nodup) (hx : x ∉ l) : (l ++ [x]).Nodup := by
  rw [List.nodup_append]
  exact ⟨h, by simp, fun a ha b hb => by simp only [List.mem_singleton] at hb; subst hb; exact fun e => hx (by rw [← e]; exact ha)⟩
theorem not_nodup {l : List Int} {k : Nat} (h : k < l.length) (hx : l[k] ∈ l.take k) : ¬ l.Nodup := fun hn => by
  have h2 : (l.take (k + 1)).Nodup := hn.sublist (List.take_sublist _ _)
  rw [take_snoc h, List.nodup_append] at h2
  exact h2.2.2 _ hx _ (by simp) rfl
theorem all_take {l : List Int} {p : Int → Prop} {k : Nat} (h : ∀ x ∈ l.take k, p x) (hk : k < l.length) (hp : p l[k]) : ∀ x ∈ l.take (k + 1), p x := by
  rw [take_snoc hk]
  intro x hx
  rcases List.mem_append.1 hx with e | e
  · exact h x e
  · simp only [List.mem_singleton] at e
    rw [e]; exact hp

end Go.Proofs.Ytolfpjleckckiaa
