/-
  A ROW OF SPOTS OF THE CALL'S OWN, WITH SPARE ROOM: what append, stores do to it. Nothing of the program.
-/
import Derived.Test.YtpnjnedfcdppaaaGreatDoorCopy
import Derived.Test.YtpnjnedfcdppaaaGreatDoorSPureAll
import Derived.Maps.AppendAt
import Derived.OwnWalk
namespace Go.Proofs.YtpnjnedfcdppaaaGreatDoor
open Go.RowKit

/-- a slice of the call's own that reads as pairs -/
def OwnR (w : World) (base t : Nat) (v : Value) (L : PL) : Prop := w.ownsRow base t 2 v L.length (flat L)
/-- block g begins with the pairs L -/
def SB (w : World) (g t : Nat) (L : PL) : Prop := ∃ cur, w.heap[g]? = some (.cells cur t (0, 0)) ∧ cur.toList.take (L.length * 2) = flat L
theorem SB.lt {w : World} {g t : Nat} {L : PL} (h : SB w g t L) : g < w.heap.size := by
  obtain ⟨cur, h, _⟩ := h
  rcases Nat.lt_or_ge g w.heap.size with hlt | hge
  · exact hlt
  · rw [Array.getElem?_eq_none hge] at h; cases h
theorem SB.cell {w : World} {g t : Nat} {L : PL} (h : SB w g t L) (i : Nat) (hi : i < L.length) : w.cell? ⟨g, i * 2, none⟩ = some (I (ky L i)) ∧ w.cell? ⟨g, i * 2 + 1, none⟩ = some (I (dp L i)) := by
  obtain ⟨cur, hg, htk⟩ := h
  have hf := flat_at L i hi
  rw [← htk, List.getElem?_take, List.getElem?_take, if_pos (by omega), if_pos (by omega)] at hf
  rw [ky_in hi, dp_in hi, cell_of_row _ _ _ _ _ _ hg, cell_of_row _ _ _ _ _ _ hg]
  exact ⟨by simpa using hf.1, by simpa using hf.2⟩
theorem SB.frozen {w : World} {g t : Nat} {L : PL} (h : SB w g t L) (i : Nat) : w.frozen? ⟨g, i, none⟩ = false := by
  obtain ⟨cur, hg, _⟩ := h
  simp [World.frozen?, hg]
theorem SB.ps {w : World} {g t c : Nat} {L : PL} (h : SB w g t L) (hc : L.length ≤ c) : PS w (some ⟨g, 0, none⟩) L.length c L := by
  refine ⟨rfl, hc, fun _ => ⟨g, 0, rfl, h.lt, fun i hi j hj => ?_⟩⟩
  have hx := h.cell i hi
  rcases (show j = 0 ∨ j = 1 by omega) with rfl | rfl
  · simpa [pf, ky] using hx.1
  · simpa [pf, dp] using hx.2
theorem SB.below {w w' : World} {g t B : Nat} {L : PL} (h : SB w g t L) (hb : Below B w w') (hg : g < B) : SB w' g t L := by
  obtain ⟨cur, h1, h2⟩ := h
  exact ⟨cur, (hb.block g hg).trans h1, h2⟩
theorem SB.set1 {w : World} {g t : Nat} {L : PL} (h : SB w g t L) (i : Nat) (v : Int) (hi : i < L.length) : SB (w.setCell ⟨g, i * 2 + 1, none⟩ (I v)) g t (L.set i (ky L i, v)) := by
  obtain ⟨cur, h1, h2⟩ := h
  refine ⟨cur.setIfInBounds (i * 2 + 1) (I v), ?_, ?_⟩
  · rw [setCell_eq_setRow w g (i * 2 + 1) _ t (0, 0) (I v) h1, setRow_heap w g _ _ t (0, 0) h1]
  · rw [ky_in hi, ← flat_set1 L i v hi, ← h2, List.length_set]
    simp [List.take_set]
theorem OwnR.sb {w : World} {base t n : Nat} {A : Option Addr} {c : Nat} {L : PL} (h : OwnR w base t (.slice A n c) L) (h0 : 0 < L.length) : ∃ g, A = some ⟨g, 0, none⟩ ∧ n = L.length ∧ base ≤ g ∧ L.length ≤ c ∧ SB w g t L := by
  rcases h.2 with ⟨_, h1⟩ | ⟨g, cap, cur, hv, hb, hg, hnc, _, _, htk⟩
  · omega
  · cases hv
    exact ⟨g, rfl, rfl, hb, hnc, cur, hg, htk⟩
theorem OwnR.ps {w : World} {base t : Nat} {v : Value} {L : PL} (h : OwnR w base t v L) : ∃ A c, v = .slice A L.length c ∧ PS w A L.length c L ∧ ∀ ad, A = some ad → base ≤ ad.block := by
  rcases h.2 with ⟨rfl, h0⟩ | ⟨g, cap, cur, rfl, hb, hg, hnc, _, hsz, htk⟩
  · have hl : L = [] := List.eq_nil_of_length_eq_zero h0
    subst hl
    exact ⟨none, 0, rfl, ⟨rfl, Rd.none_⟩, fun _ h => by cases h⟩
  · exact ⟨_, cap, rfl, SB.ps ⟨cur, hg, htk⟩ hnc, fun ad h => by cases h; exact hb⟩
theorem OwnR.ge {w : World} {base t : Nat} {v : Value} {L : PL} (h : OwnR w base t v L) : ∀ g, v.ownBlock = some g → base ≤ g := by
  intro g hg
  rcases h.2 with ⟨rfl, _⟩ | ⟨g', cap, cur, rfl, hb, _⟩
  · simp [Value.ownBlock] at hg
  · simp [Value.ownBlock] at hg; omega

/-- append, whatever the source (none of it: nil too) -/
theorem run_app2 {P : Program} (w : World) (T ty e : TypeId) (hu : P.underlying T = some (.slice e)) (hi : (P.info? e).map (fun i => (i.zero, i.size, i.bytes)) = some (some (.agg #[I 0, I 0]), 2, 16))
    (base : Nat) (v : Value) (L xs : PL) (hown : w.ownsRow base e 2 v L.length (flat L)) (sp : Option Addr) (m c : Nat) (hx : Src w sp m xs) (hbound : L.length + m ≤ 1000000) (hbase : base ≤ w.heap.size) :
    ∃ v' w', (Builtin.append_ #[T, T] ty #[v, .slice sp m c]).run P w = .ok v' w' ∧ w'.ownsRow base e 2 v' (L ++ xs).length (flat (L ++ xs)) ∧ w.grownBy w' v.ownBlock ∧ (v'.ownBlock = v.ownBlock ∨ v'.ownBlock = some w.heap.size) := by
  obtain ⟨i, h1, hz, hs, hb⟩ := info_parts hi
  cases sp with
  | some ad =>
    have hcl : (flat xs).length = m * 2 := by rw [flat_length, hx.1]
    have hcells : ∀ j u, (flat xs)[j]? = some u → w.cell? (ad.add j) = some u := by
      intro j u hu'
      rcases Nat.eq_zero_or_pos m with h0 | h0
      · have : xs = [] := List.eq_nil_of_length_eq_zero (hx.1.trans h0)
        subst this
        simp [flat] at hu'
      · obtain ⟨ad', e', hc⟩ := hx.2 h0
        cases e'
        exact hc j u hu'
    obtain ⟨v', w', hr, h2, h3, _, h5⟩ := run_append_own_at (P := P) w base T ty e i _ 2 16 hu h1 hz hs hb rfl (by decide) v L.length (flat L) hown ad m c (flat xs) hcl hcells (flat_one xs) (by unfold maxLen; omega) (by omega) hbase
    refine ⟨v', w', hr, ?_, h3, h5⟩
    rw [flat_append, List.length_append, hx.1]
    exact h2
  | none =>
    have hm : m = 0 := by
      rcases Nat.eq_zero_or_pos m with h0 | h0
      · exact h0
      · obtain ⟨_, e', _⟩ := hx.2 h0; cases e'
    subst hm
    have hxs : xs = [] := List.eq_nil_of_length_eq_zero hx.1
    subst hxs
    refine ⟨v, w, ?_, by simpa using hown, World.grownBy.refl w _, .inl rfl⟩
    rcases hown.2 with ⟨rfl, h0⟩ | ⟨g, cap, cur, rfl, _, _, hnc, _⟩
    · simp [Builtin.append_, run_underlying hu, sizeOf, typeInfo, h1, Builtin.lenOf, Builtin.firstCells]
    · simp [Builtin.append_, run_underlying hu, sizeOf, typeInfo, h1, Builtin.lenOf, Builtin.firstCells, hnc, storeCells]
theorem wpList_app2 {P : Program} {w : World} {ops : Array Oper} {rest : List Oper} {o : Oper} {a : Act} {Q : Exit → Act → World → Prop} (hgd : o.guard = none) (s x : Operand) (T : TypeId)
    (ho : o.op = .call { callee := .builtin .append, args := #[s, x], argTypes := #[T, T] }) (e : TypeId) (hu : P.underlying T = some (.slice e)) (hi : (P.info? e).map (fun i => (i.zero, i.size, i.bytes)) = some (some (.agg #[I 0, I 0]), 2, 16))
    (base : Nat) (v : Value) (L xs : PL) (sp : Option Addr) (m c : Nat) (hs : a.eval s = v) (hsx : a.eval x = .slice sp m c) (hown : w.ownsRow base e 2 v L.length (flat L)) (hx : Src w sp m xs) (hbound : L.length + m ≤ 1000000) (hbase : base ≤ w.heap.size)
    (h : ∀ v' w', w'.ownsRow base e 2 v' (L ++ xs).length (flat (L ++ xs)) → w.grownBy w' v.ownBlock → (v'.ownBlock = v.ownBlock ∨ v'.ownBlock = some w.heap.size) → wpList P ops Q rest (a.put o.dst v') w') : wpList P ops Q (o :: rest) a w := by
  refine wpList_plain hgd fun K hK => ?_
  obtain ⟨v', w', hrun, h2, h3, h4⟩ := run_app2 (P := P) w T o.type e hu hi base v L xs hown sp m c hx hbound hbase
  unfold Oper.wp execOp
  simp only [ho, resolve, invoke, builtin, Sem.run_bind, Sem.run_pure, Result.andThen_ok, List.map_toArray, List.map_cons, List.map_nil, hs, hsx, hrun]
  exact hK _ _ (h v' w' h2 h3 h4)
theorem own2_empty {w : World} {B g t : Nat} (h : w.heap[g]? = some (.cells #[] t)) (hB : B ≤ g) : w.ownsRow B t 2 (.slice (some ⟨g, 0, none⟩) 0 0) ([] : PL).length (flat []) :=
  ⟨rfl, .inr ⟨g, 0, #[], rfl, hB, h, Nat.le_refl _, Nat.zero_le _, rfl, rfl⟩⟩

/-- the place of the first one with this key -/
def ixK (l : PL) (key : Int) : Int := match l.findIdx? (fun p => p.1 == key) with
  | some i => i
  | none => -1
theorem ixK_hit {l : PL} {key : Int} {k : Nat} (hk : k < l.length) (h : ky l k = key) (hno : ∀ j, j < k → ky l j ≠ key) : ixK l key = k := by
  have : l.findIdx? (fun p => p.1 == key) = some k := by
    rw [List.findIdx?_eq_some_iff_getElem]
    refine ⟨hk, by rw [ky_in hk] at h; simpa using h, fun j hj => ?_⟩
    have := hno j hj
    rw [ky_in (by omega)] at this
    simpa using this
  simp [ixK, this]
theorem ixK_none {l : PL} {key : Int} (hno : ∀ j, j < l.length → ky l j ≠ key) : ixK l key = -1 := by
  have : l.findIdx? (fun p => p.1 == key) = none := by
    rw [List.findIdx?_eq_none_iff]
    intro p hp
    obtain ⟨j, hj, rfl⟩ := List.getElem_of_mem hp
    have := hno j hj
    rw [ky_in hj] at this
    simpa using this
  simp [ixK, this]
theorem ixK_cases (l : PL) (key : Int) : (ixK l key = -1 ∧ ∀ j, j < l.length → ky l j ≠ key) ∨ ∃ k : Nat, ixK l key = k ∧ k < l.length ∧ ky l k = key := by
  cases h : l.findIdx? (fun p => p.1 == key) with
  | none =>
    left
    refine ⟨by simp [ixK, h], fun j hj => ?_⟩
    rw [List.findIdx?_eq_none_iff] at h
    have := h l[j] (List.getElem_mem hj)
    rw [ky_in hj]
    simpa using this
  | some k =>
    right
    rw [List.findIdx?_eq_some_iff_getElem] at h
    obtain ⟨hk, h1, h2⟩ := h
    refine ⟨k, ?_, hk, by rw [ky_in hk]; simpa using h1⟩
    refine ixK_hit hk (by rw [ky_in hk]; simpa using h1) (fun j hj => ?_)
    have := h2 j hj
    rw [ky_in (by omega)]
    simpa using this

theorem shf_none (l : PL) (x : Nat) (by_ : Int) : shf l x x by_ = l := by simp [shf]
theorem shf_step (l : PL) (x y : Nat) (by_ : Int) (hxy : x ≤ y) (hy : y < l.length) : (shf l x y by_).set y (ky (shf l x y by_) y, dp (shf l x y by_) y + by_) = shf l x (y + 1) by_ := by
  have he : l = l.take x ++ (l.drop x).take (y - x) ++ l.drop y := by
    conv => lhs; rw [← List.take_append_drop x l, ← List.take_append_drop (y - x) (l.drop x), List.drop_drop]
    rw [show x + (y - x) = y by omega, List.append_assoc]
  have hX : (l.take x).length = x := by simp; omega
  have hY : ((l.drop x).take (y - x)).length = y - x := by simp; omega
  have hZ : l.drop y = l[y] :: l.drop (y + 1) := List.drop_eq_getElem_cons hy
  rw [hZ] at he
  generalize l.take x = X at *
  generalize (l.drop x).take (y - x) = Y at *
  generalize l.drop (y + 1) = Z at *
  generalize l[y] = q at *
  have s1 := shf_at (by_ := by_) he hX.symm (y := y) (by rw [hX, hY]; omega)
  have he2 : l = X ++ (Y ++ [q]) ++ Z := by rw [he]; simp
  have s2 := shf_at (by_ := by_) he2 hX.symm (y := y + 1) (by rw [hX]; simp [hY]; omega)
  rw [s1, s2]
  have hlen : (X ++ Y.map (fun p => (p.1, p.2 + by_))).length = y := by simp [hX, hY]; omega
  have hk := ky_mid (X ++ Y.map (fun p => (p.1, p.2 + by_))) Z q
  have hd := dp_mid (X ++ Y.map (fun p => (p.1, p.2 + by_))) Z q
  rw [hlen] at hk hd
  rw [hk, hd, List.set_append_right _ _ (by omega), hlen, Nat.sub_self, List.set_cons_zero]
  simp
theorem shf_far (l : PL) (x y : Nat) (by_ : Int) (hxy : x ≤ y) (hy : y < l.length) : dp (shf l x y by_) y = dp l y := by
  have he : l = l.take x ++ (l.drop x).take (y - x) ++ l.drop y := by
    conv => lhs; rw [← List.take_append_drop x l, ← List.take_append_drop (y - x) (l.drop x), List.drop_drop]
    rw [show x + (y - x) = y by omega, List.append_assoc]
  have hX : (l.take x).length = x := by simp; omega
  have hY : ((l.drop x).take (y - x)).length = y - x := by simp; omega
  have s1 := shf_at (by_ := by_) he hX.symm (y := y) (by rw [hX, hY]; omega)
  rw [s1]
  conv => rhs; rw [he]
  rw [dp_right (by simp; omega), dp_right (by simp; omega)]
  simp
theorem dp_sp_lt (t : Tr) (d : Int) : ∀ i, i < t.size → dp (t.sp d) i < d + t.size := by
  induction t generalizing d with
  | nil => intro i h; simp [Tr.size] at h
  | node a k b iha ihb =>
    intro i h
    simp only [Tr.size] at h ⊢
    simp only [Tr.sp]
    rcases Nat.lt_trichotomy i a.size with h1 | h1 | h1
    · rw [dp_left (by rw [sp_length]; exact h1)]
      have := iha (d + 1) i h1
      omega
    · have := dp_mid (a.sp (d + 1)) (b.sp (d + 1)) (k, d)
      rw [sp_length] at this
      rw [h1, this]
      show d < _
      omega
    · rw [dp_right (by rw [sp_length]; omega), sp_length]
      have e : dp ((k, d) :: b.sp (d + 1)) (i - a.size) = dp (b.sp (d + 1)) (i - a.size - 1) := by
        obtain ⟨m, hm⟩ : ∃ m, i - a.size = m + 1 := ⟨i - a.size - 1, by omega⟩
        rw [hm]; simp [dp]
      rw [e]
      have := ihb (d + 1) (i - a.size - 1) (by omega)
      omega
theorem tree_dp {l : PL} (h : IsTree l) : ∀ i, 0 ≤ dp l i ∧ dp l i ≤ 200 := by
  intro i
  obtain ⟨h1, _, t, ht⟩ := h
  rcases Nat.lt_or_ge i l.length with hi | hi
  · have h2 : t.size ≤ 200 := by rw [ht, sp_length] at h1; exact h1
    rw [ht, sp_length] at hi
    have a := sp_ge t 0 i hi
    have b := dp_sp_lt t 0 i hi
    rw [ht]
    omega
  · have : dp l i = 0 := by simp [dp, List.getElem?_eq_none hi]
    omega

end Go.Proofs.YtpnjnedfcdppaaaGreatDoor
