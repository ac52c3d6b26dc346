/-
  RUNS THAT ARE PUT TOGETHER, TWO AND TWO: plain mathematics. Nothing of the program.
-/
import Derived.Test.YtcjhglejmmphbaaHSortP
namespace Go.Proofs.Ytcjhglejmmphbaa

/-- a range put in another order -/
def put (L M : PL) (x y : Nat) : PL := L.take x ++ M ++ L.drop y
theorem put_length {L M : PL} {x y : Nat} (h1 : x ≤ y) (h2 : y ≤ L.length) (hM : M.length = y - x) : (put L M x y).length = L.length := by
  simp [put, hM]
  omega
theorem put_seg {L M : PL} {x y : Nat} (h1 : x ≤ y) (h2 : y ≤ L.length) (hM : M.length = y - x) : seg (put L M x y) x y = M := seg_at (by simp; omega) (by simp [hM]; omega)
theorem put_ahead {L M : PL} {x y lo hi : Nat} (h1 : x ≤ y) (h2 : y ≤ L.length) (h : hi ≤ x) : seg (put L M x y) lo hi = seg L lo hi := by
  conv => rhs; rw [seg_cut L h1]
  exact seg_ahead (by simp; omega)
theorem put_behind {L M : PL} {x y lo hi : Nat} (h1 : x ≤ y) (h2 : y ≤ L.length) (hM : M.length = y - x) (h : y ≤ lo) : seg (put L M x y) lo hi = seg L lo hi := by
  conv => rhs; rw [seg_cut L h1]
  exact seg_behind (by rw [hM, seg_length h1 h2]) (by simp [hM]; omega)
theorem put_drop {L M : PL} {x y : Nat} (h1 : x ≤ y) (h2 : y ≤ L.length) (hM : M.length = y - x) : (put L M x y).drop y = L.drop y := by
  unfold put
  have e : (L.take x ++ M).length = y := by simp [hM]; omega
  conv => lhs; rw [← e]
  rw [List.drop_left, e]
theorem perm_length {L M : PL} {x y : Nat} (h1 : x ≤ y) (h2 : y ≤ L.length) (hp : M.Perm (seg L x y)) : M.length = y - x := by rw [hp.length_eq, seg_length h1 h2]
theorem good_put {L0 L M : PL} {x y : Nat} (h1 : x ≤ y) (h2 : y ≤ L.length) (hp : M.Perm (seg L x y)) (hp0 : (seg L x y).Perm (seg L0 x y)) (hO : Ord M) : Good L0 (put L M x y) x y := by
  unfold Good
  rw [put_seg h1 h2 (perm_length h1 h2 hp)]
  exact ⟨hp.trans hp0, hO⟩
theorem GP.put {L0 L M : PL} {bs x : Nat} (h : GP L0 L bs x) (h2 : x + bs ≤ L.length) (hp : M.Perm (seg L x (x + bs))) (hp0 : (seg L x (x + bs)).Perm (seg L0 x (x + bs))) (hO : Ord M) : GP L0 (put L M x (x + bs)) bs (x + bs) :=
  .step (h.keep x (Nat.le_refl _) fun lo hi hh => put_ahead (by omega) h2 hh) (good_put (by omega) h2 hp hp0 hO)
theorem seg_drop {L L0 : PL} {x y : Nat} (h : L.drop x = L0.drop x) : seg L x y = seg L0 x y := by unfold seg; rw [h]
theorem drop_more {L L0 : PL} {x y : Nat} (h : L.drop x = L0.drop x) (hxy : x ≤ y) : L.drop y = L0.drop y := by
  have := congrArg (List.drop (y - x)) h
  rw [List.drop_drop, List.drop_drop, show x + (y - x) = y by omega] at this
  exact this
/-- the last one -/
theorem GP.last {L0 L M : PL} {bs x n : Nat} (hb : 0 < bs) (h : GP L0 L bs x) (hn : L.length = n) (hx : x ≤ n) (hxn : n ≤ x + bs) (hp : M.Perm (seg L x n)) (hp0 : (seg L x n).Perm (seg L0 x n)) (hO : Ord M) : GF L0 (Go.Proofs.Ytcjhglejmmphbaa.put L M x n) n bs 0 := by
  have hk : GP L0 (Go.Proofs.Ytcjhglejmmphbaa.put L M x n) bs x := h.keep x (Nat.le_refl _) fun lo hi hh => put_ahead hx (by omega) hh
  refine hk.join hb hx ?_
  by_cases h1 : x < n
  · refine .step h1 ?_ (.done hxn)
    rw [Nat.min_eq_right hxn]
    exact good_put hx (by omega) hp hp0 hO
  · exact .done (by omega)
theorem GF.two {L0 L : PL} {n bs x : Nat} (hb : 0 < bs) (h : GF L0 L n bs x) (hx : x + bs < n) : Good L0 L x (x + bs) ∧ Good L0 L (x + bs) (min (x + bs + bs) n) ∧ GF L0 L n bs (x + bs + bs) := by
  cases h with
  | done h => omega
  | step h1 g1 h =>
    rw [Nat.min_eq_left (by omega)] at g1
    cases h with
    | done h => omega
    | step h2 g2 h => exact ⟨g1, g2, h⟩
theorem good_join {L0 L : PL} {x m y : Nat} (h1 : x ≤ m) (h2 : m ≤ y) (g1 : Good L0 L x m) (g2 : Good L0 L m y) : (seg L x y).Perm (seg L0 x y) := by
  rw [seg_join L h1 h2, seg_join L0 h1 h2]
  exact g1.1.append g2.1
theorem GF.putF {L0 L M : PL} {n bs lo x y : Nat} (h : GF L0 L n bs lo) (h1 : x ≤ y) (h2 : y ≤ L.length) (hM : M.length = y - x) (hlo : y ≤ lo) : GF L0 (Go.Proofs.Ytcjhglejmmphbaa.put L M x y) n bs lo :=
  h.keep y hlo fun a b hh => put_behind h1 h2 hM hh
/-- one run is left alone -/
theorem GP.alone {L0 L : PL} {n bs x : Nat} (hb : 0 < bs) (h : GP L0 L (bs + bs) x) (hf : GF L0 L n bs x) (hx : x ≤ n) (hxn : n ≤ x + bs) : GF L0 L n (bs + bs) 0 := by
  refine h.join (by omega) hx ?_
  cases hf with
  | done h => exact .done h
  | step h1 g1 _ =>
    refine .step h1 ?_ (.done (by omega))
    rw [Nat.min_eq_right hxn] at g1
    rw [Nat.min_eq_right (by omega)]
    exact g1
theorem GF.whole {L0 L : PL} {n bs : Nat} (h : GF L0 L n bs 0) (hn : L.length = n) (hn0 : L0.length = n) (hb : n ≤ bs) : L.Perm L0 ∧ Ord L := by
  have e : ∀ K : PL, K.length = n → seg K 0 n = K := by
    intro K hK
    unfold seg
    rw [List.drop_zero, Nat.sub_zero, List.take_of_length_le (by omega)]
  cases h with
  | done h =>
    have h1 : L = [] := List.eq_nil_of_length_eq_zero (by omega)
    have h2 : L0 = [] := List.eq_nil_of_length_eq_zero (by omega)
    rw [h1, h2]
    exact ⟨List.Perm.refl _, by simp⟩
  | step h1 g _ =>
    rw [Nat.zero_add, Nat.min_eq_right hb] at g
    have := g
    unfold Good at this
    rw [e L hn, e L0 hn0] at this
    exact this
theorem seg_keys {L0 : PL} {x y : Nat} (hr : L0.Pairwise fun p q => p.1 < q.1) : (seg L0 x y).Pairwise fun p q => p.1 < q.1 := hr.sublist ((List.take_sublist _ _).trans (List.drop_sublist _ _))

end Go.Proofs.Ytcjhglejmmphbaa
