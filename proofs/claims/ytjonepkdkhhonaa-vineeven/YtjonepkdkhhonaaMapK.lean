/-
  hedgref.MapKeys.
-/
import Derived.Test.YtjonepkdkhhonaaInts
import Derived.Test.YtjonepkdkhhonaaChecked
import Derived.Deep.AppendLies
namespace Go.Proofs.Ytjonepkdkhhonaa
open Go.RowKit

def kys (l : PL) : List Int := l.map Prod.fst
/-- numbers in new memory -/
def RetI (L : List Int) (w : World) (e : Ending) (w' : World) : Prop := ∃ A c, e = .returned (.slice A L.length c) ∧ IS w' A L.length c L ∧ Below w.heap.size w w'
theorem kys_take (l : PL) (k : Nat) (h : k < l.length) : kys (l.take (k + 1)) = kys (l.take k) ++ [l[k].1] := by
  unfold kys
  rw [List.take_succ_eq_append_getElem h, List.map_append]
  rfl

theorem IS.cell_at {w : World} {A : Option Addr} {n c : Nat} {l : List Int} (h : IS w A n c l) {k : Nat} (hk : k < n) : ∃ b off, A = some ⟨b, off, none⟩ ∧ b < w.heap.size ∧ w.cell? ⟨b, off + k, none⟩ = some (I (l[k]'(by rw [h.len]; exact hk))) := by
  obtain ⟨b, off, e, hb, hc⟩ := h.at_ (by omega)
  exact ⟨b, off, e, hb, hc k hk⟩
/-- the first k of them -/
def kysTo (l : PL) (k : Nat) : List Int := (kys l).take k ++ List.replicate (l.length - k) 0
theorem kys_len (l : PL) : (kys l).length = l.length := by simp [kys]
theorem kysTo_len (l : PL) (k : Nat) (h : k ≤ l.length) : (kysTo l k).length = l.length := by simp [kysTo, kys_len]; omega
theorem kysTo_set (l : PL) (k : Nat) (h : k < l.length) : (kysTo l k).set k l[k].1 = kysTo l (k + 1) := by
  unfold kysTo
  have h1 : ((kys l).take k).length = k := by simp [kys_len]; omega
  rw [List.set_append_right _ _ (by omega), h1, Nat.sub_self, List.take_succ_eq_append_getElem (by rw [kys_len]; exact h), show l.length - k = l.length - (k + 1) + 1 by omega, List.replicate_succ]
  simp [kys]
theorem kysTo_all (l : PL) : kysTo l l.length = kys l := by
  unfold kysTo
  rw [List.take_of_length_le (by rw [kys_len]; exact Nat.le_refl _)]
  simp

end Go.Proofs.Ytjonepkdkhhonaa
