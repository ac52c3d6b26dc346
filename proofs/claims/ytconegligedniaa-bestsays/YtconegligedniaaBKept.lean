/-
  WHAT IS KEPT: a map of the call's own, keyed by pairs; what it says of parts.
-/
import Derived.Test.YtconegligedniaaBNum
import Derived.Test.YtconegligedniaaLiftBase
import Derived.Maps.OwnSet
import Derived.Maps.AppendAt
import Derived.DeepKeys4
namespace Go.Proofs.Ytconegligedniaa
open Go.RowKit Go.Maps

/-- powers of three: how many parts are asked for at most -/
def T3p : Nat → Nat
  | 0 => 1
  | n + 1 => 3 * T3p n
theorem T3p_pos : ∀ n, 1 ≤ T3p n
  | 0 => Nat.le_refl _
  | n + 1 => by have := T3p_pos n; unfold T3p; omega
theorem T3p_le : ∀ {n m : Nat}, n ≤ m → T3p n ≤ T3p m := by
  intro n m h
  obtain ⟨d, rfl⟩ : ∃ d, m = n + d := ⟨m - n, by omega⟩
  induction d with
  | zero => exact Nat.le_refl _
  | succ d ih =>
    have := ih (by omega)
    rw [← Nat.add_assoc, T3p]
    omega
theorem T3p_20 : T3p 20 = 3486784401 := by decide

abbrev kyV (i j : Nat) : Value := .agg #[I i, I j]
theorem key_all : ((List.range 21).all fun i => (List.range 21).all fun j => (keyOf Try.prog 63 (kyV i j)).isSome) = true := by kernel_rfl
theorem key_some {i j : Nat} (hi : i ≤ 20) (hj : j ≤ 20) : ∃ kl, keyOf Try.prog 63 (kyV i j) = some kl := by
  have h1 := List.all_eq_true.1 key_all i (List.mem_range.2 (by omega))
  have h2 := List.all_eq_true.1 h1 j (List.mem_range.2 (by omega))
  exact Option.isSome_iff_exists.1 h2
theorem keyed_pair : Keyed Try.prog 63 := Keyed.of_law (deep_law_laid laidOut (m := 5) (by omega) (of_decide_eq_true (by kernel_rfl)) (by kernel_rfl) (by kernel_rfl))
theorem kyV_inj {i j i' j' : Nat} (h : kyV i j = kyV i' j') : i = i' ∧ j = j' := by
  simp only [Value.agg.injEq] at h
  have := congrArg Array.toList h
  simp at this
  omega

/-- how an element reads -/
def r2 (v : Value) : Option (DataW Unit × List MemPlace) :=
  match v with
  | .agg c => match c.toList with
    | [.int .i64 a, .int .i64 b] => some (.agg [.lit (.int .i64 a), .lit (.int .i64 b)], [])
    | _ => none
  | _ => none
theorem r2_mk (a b : Int) : r2 (.agg #[I a, I b]) = some (.agg [.lit (.int .i64 a), .lit (.int .i64 b)], []) := rfl
theorem r2_inv {v : Value} {a b : Int} {ps : List MemPlace} (h : r2 v = some (.agg [.lit (.int .i64 a), .lit (.int .i64 b)], ps)) : v = .agg #[I a, I b] := by
  unfold r2 at h
  split at h
  · rename_i c
    split at h
    · rename_i x y hc
      simp at h
      obtain ⟨⟨rfl, rfl⟩, _⟩ := h
      have : c = #[I x, I y] := by
        rw [← Array.toArray_toList (xs := c), hc]
      rw [this]
    · cases h
  · cases h
theorem zero_pair (w : World) : (zeroValue 63).run Try.prog w = .ok (.agg #[I 0, I 0]) w := by kernel_rfl
abbrev z2 : DataW Unit := .agg [.lit (.int .i64 0), .lit (.int .i64 0)]
abbrev d2 (x : Int) (t : Nat) : DataW Unit := .agg [.lit (.int .i64 x), .lit (.int .i64 t)]
/-- what the map says is so -/
def KI (W : Nat → Nat → Int) (D : DataW Unit) : Prop := IsMap D ∧ ∀ i j kl, i ≤ 20 → j ≤ 20 → keyOf Try.prog 63 (kyV i j) = some kl → has D kl = true → D.atKey kl z2 = d2 (lc W i j) (tp (lc W) i j)
theorem KI.none (W : Nat → Nat → Int) : KI W (.map []) := ⟨isMap_empty, fun i j kl _ _ _ h => by simp [has] at h⟩
theorem KI.put {W : Nat → Nat → Int} {D : DataW Unit} (h : KI W D) {i j : Nat} {kl : Lit} (hk : keyOf Try.prog 63 (kyV i j) = some kl) : KI W (D.put kl (d2 (lc W i j) (tp (lc W) i j))) := by
  refine ⟨h.1.put _ _, fun i' j' kl' h1 h2 hk' hh => ?_⟩
  by_cases he : kl' = kl
  · subst he
    obtain ⟨rfl, rfl⟩ := kyV_inj (keyed_pair.inj hk' hk)
    exact atKey_put_same h.1 (keyed_pair.key hk) _ _
  · rw [has_put_other he] at hh
    rw [atKey_put_other he]
    exact h.2 i' j' kl' h1 h2 hk' hh
/-- block gm is such a map -/
def KM (W : Nat → Nat → Int) (gm n : Nat) (w : World) : Prop := ∃ D, w.ownsMap Try.prog 63 r2 gm n D ∧ KI W D
theorem KM.lt {W : Nat → Nat → Int} {gm n : Nat} {w : World} (h : KM W gm n w) : gm < w.heap.size := by obtain ⟨D, h1, _⟩ := h; exact h1.lt
theorem KM.kept {W : Nat → Nat → Int} {gm n : Nat} {w w' : World} (h : KM W gm n w) (hb : Below w.heap.size w w') : KM W gm n w' := by
  obtain ⟨D, ⟨es, clock, hb', F, hs, hD⟩, h2⟩ := h
  exact ⟨D, ⟨es, clock, (hb.block gm (Array.getElem?_eq_some_iff.1 hb').1).trans hb', F, hs, hD⟩, h2⟩
theorem KM.mono {W : Nat → Nat → Int} {gm n n' : Nat} {w : World} (h : KM W gm n w) (hn : n ≤ n') : KM W gm n' w := by
  obtain ⟨D, h1, h2⟩ := h
  exact ⟨D, h1.mono hn, h2⟩
/-- 'x, is := kept[key]' -/
theorem KM.look {W : Nat → Nat → Int} {gm n i j : Nat} {w : World} (h : KM W gm n w) (hi : i ≤ 20) (hj : j ≤ 20) :
    (∃ v, r2 v = some (z2, []) ∧ (Instr.lookup 33 (.map (some gm)) (kyV i j) true).run Try.prog w = .ok (.tuple #[.agg #[I 0, I 0], .bool false]) w) ∨
    (Instr.lookup 33 (.map (some gm)) (kyV i j) true).run Try.prog w = .ok (.tuple #[.agg #[I (lc W i j), I (tp (lc W) i j)], .bool true]) w := by
  obtain ⟨D, h1, h2⟩ := h
  obtain ⟨kl, hk⟩ := key_some hi hj
  obtain ⟨v, ps, hrun, hv⟩ := h1.look_ok keyed_pair Try.underlying33 (zero_pair w) (r2_mk 0 0) hk
  cases hh : has D kl with
  | false =>
    rw [hh] at hrun
    rw [atKey_of_not_has hh] at hv
    have e := r2_inv hv
    subst e
    exact .inl ⟨_, r2_mk 0 0, hrun⟩
  | true =>
    rw [hh] at hrun
    rw [h2.2 i j kl hi hj hk hh] at hv
    have e := r2_inv hv
    subst e
    exact .inr hrun
/-- 'kept[key] = ..' -/
theorem KM.store {W : Nat → Nat → Int} {gm n i j : Nat} {w : World} (h : KM W gm n w) (hi : i ≤ 20) (hj : j ≤ 20) (hn : n < 1000000000000) :
    ∃ w', (Instr.mapUpdate 33 (.map (some gm)) (kyV i j) (.agg #[I (lc W i j), I (tp (lc W) i j)])).run Try.prog w = .ok () w' ∧ KM W gm (n + 1) w' ∧ w.grownBy w' (some gm) := by
  obtain ⟨D, h1, h2⟩ := h
  obtain ⟨kl, hk⟩ := key_some hi hj
  obtain ⟨w', hrun, ho, hg⟩ := h1.update keyed_pair Try.underlying33 (by unfold maxLen; omega) hk (r2_mk _ _)
  exact ⟨w', hrun, ⟨_, ho, h2.put hk⟩, hg⟩
theorem IS.grownB {w w' : World} {n c gm : Nat} {A : Option Addr} {l : List Int} (h : IS w A n c l) (hg : w.grownBy w' (some gm)) (hA : 0 < n → ∀ ad, A = some ad → ad.block ≠ gm) : IS w' A n c l := by
  refine ⟨h.len, h.rd.1, fun hn => ?_⟩
  obtain ⟨b, off, e, hb, hc⟩ := h.rd.2 hn
  have hne := hA hn _ e
  exact ⟨b, off, e, Nat.lt_of_lt_of_le hb hg.size, fun i hi j hj => hg.cell (hc i hi j hj) (by simpa using hne)⟩
theorem grown_drewN {w w' : World} {row : Option Nat} (h : w.grownBy w' row) (n : Nat) : w.grownBy (w'.drewN n) row := ⟨h.os, h.tape, h.output, h.size, h.block⟩
theorem grown_alloc {w w' : World} {row : Option Nat} (h : w.grownBy w' row) (o : Obj) : w.grownBy (w'.alloc o) row := h.trans (World.grownBy_alloc w' o row)
theorem grown_below {w w' : World} {row : Option Nat} (h : Below w.heap.size w w') : w.grownBy w' row := ⟨h.os, h.tape, h.output, h.size, fun k hk _ => h.block k hk⟩

end Go.Proofs.Ytconegligedniaa
