/-
  Joined texts: YtolgncaaffmmnaaDoorInts, YtolgncaaffmmnaaDoorSpotB, YtolgncaaffmmnaaDoorAppP.
-/
import Derived.Test.YtolgncaaffmmnaaDoorEqAll
import Derived.Maps.AppendAt
import Derived.OwnWalk
import Derived.Test.YtolgncaaffmmnaaDoorSRow
import Derived.Test.YtolgncaaffmmnaaDoorChecked
import Derived.Test.YtolgncaaffmmnaaDoorCopy
import Derived.Deep.RegionLaw
/-
  ROWS OF NUMBERS of the call's own; hedgkeep.ok.
-/
namespace Go.Proofs.YtolgncaaffmmnaaDoor
open Go.RowKit

/-- block g is just the numbers L -/
def IB (w : World) (g t : Nat) (L : List Int) : Prop := w.heap[g]? = some (.cells (L.map I).toArray t (0, 0))
theorem IB.lt {w : World} {g t : Nat} {L : List Int} (h : IB w g t L) : g < w.heap.size := by
  rcases Nat.lt_or_ge g w.heap.size with hlt | hge
  · exact hlt
  · unfold IB at h; rw [Array.getElem?_eq_none hge] at h; cases h
theorem IB.cell {w : World} {g t : Nat} {L : List Int} (h : IB w g t L) (i : Nat) : w.cell? ⟨g, i, none⟩ = L[i]?.map I := by
  unfold IB at h
  simp [World.cell?, h]
theorem IB.frozen {w : World} {g t : Nat} {L : List Int} (h : IB w g t L) (i : Nat) : w.frozen? ⟨g, i, none⟩ = false := by
  unfold IB at h
  simp [World.frozen?, h]
theorem IB.is_ {w : World} {g t c : Nat} {L : List Int} (h : IB w g t L) (hc : L.length ≤ c) : IS w (some ⟨g, 0, none⟩) L.length c L := by
  refine ⟨rfl, hc, fun _ => ⟨g, 0, rfl, h.lt, fun i hi j hj => ?_⟩⟩
  obtain rfl : j = 0 := by omega
  rw [h.cell]
  simp [List.getElem?_eq_getElem hi]
theorem IB.below {w w' : World} {g t B : Nat} {L : List Int} (h : IB w g t L) (hb : Below B w w') (hg : g < B) : IB w' g t L := (hb.block g hg).trans h
theorem IB.new (w : World) (t : Nat) (L : List Int) : IB (w.alloc (.cells (L.map I).toArray t)) w.heap.size t L := heap_alloc_new w _
theorem IB.set {w : World} {g t : Nat} {L : List Int} (h : IB w g t L) (i : Nat) (v : Int) : IB (w.setCell ⟨g, i, none⟩ (I v)) g t (L.set i v) := by
  unfold IB at *
  rw [setCell_eq_setRow w g i _ t (0, 0) (I v) h, setRow_heap w g _ _ t (0, 0) h]
  simp [List.map_set]
theorem int_info : (Tryd.prog.info? 3).map (fun i => (i.zero, i.size, i.bytes)) = some (some (I 0), 1, 8) := by kernel_rfl
theorem run_makeI {P : Program} (t e : TypeId) (ht : P.underlying t = some (.slice e)) (hi : (P.info? e).map (fun i => (i.zero, i.size, i.bytes)) = some (some (I 0), 1, 8)) (n c : Nat) (hn : n ≤ c) (hc : c ≤ 1000000) (w : World) :
    (Instr.makeSlice t (.int .i64 (n : Int)) (.int .i64 (c : Int))).run P w = .ok (.slice (some ⟨w.heap.size, 0, none⟩) n c) (w.alloc (.cells ((List.replicate c (0 : Int)).map I).toArray e)) := by
  obtain ⟨i, h1, hz, hs, hb⟩ := info_parts hi
  have := run_make (P := P) w t e i _ ht h1 hz .i64 .i64 n c (by omega) (by omega) (by rw [hb]; omega) (by omega)
  rw [this, hs]
  simp only [Int.toNat_natCast, Value.cells]
  congr 3
  apply Array.ext
  · simp [size_madeCells]
  · intro k h1 h2
    simp [madeCells, Nat.mod_one]

/-- a list of numbers in new memory, and no error -/
def RetIs (L : List Int) (w : World) (e : Ending) (w' : World) : Prop :=
  ∃ A n c, e = .returned (.tuple #[.slice A n c, I 0]) ∧ IS w' A n c L ∧ Below w.heap.size w w' ∧ ∀ ad, A = some ad → w.heap.size ≤ ad.block

/-- a slice of the call's own that reads as numbers -/
def OwnI (w : World) (base : Nat) (v : Value) (L : List Int) : Prop := w.ownsRow base 3 1 v L.length (L.map I)
theorem own_below {w w' : World} {base e s n : Nat} {v : Value} {xs : List Value} (h : w.ownsRow base e s v n xs) (hb : Below w.heap.size w w') : w'.ownsRow base e s v n xs := by
  refine ⟨h.1, ?_⟩
  rcases h.2 with h0 | ⟨g, cap, cur, h1, h2, h3, h4⟩
  · exact .inl h0
  · refine .inr ⟨g, cap, cur, h1, h2, ?_, h4⟩
    rw [hb.block g ?_]
    · exact h3
    · rcases Nat.lt_or_ge g w.heap.size with hlt | hge
      · exact hlt
      · rw [Array.getElem?_eq_none hge] at h3; cases h3
theorem own_ge1 {w : World} {base e s n : Nat} {v : Value} {xs : List Value} (h : w.ownsRow base e s v n xs) : ∀ g, v.ownBlock = some g → base ≤ g := by
  intro g hg
  rcases h.2 with ⟨rfl, _⟩ | ⟨g', cap, cur, rfl, hb, _⟩
  · simp [Value.ownBlock] at hg
  · simp [Value.ownBlock] at hg; omega
theorem own_mono1 {w : World} {B B' e s n : Nat} {v : Value} {xs : List Value} (h : w.ownsRow B e s v n xs) (hB : B' ≤ B) : w.ownsRow B' e s v n xs := by
  refine ⟨h.1, ?_⟩
  rcases h.2 with h0 | ⟨g, cap, cur, h1, h2, h3⟩
  · exact .inl h0
  · exact .inr ⟨g, cap, cur, h1, by omega, h3⟩
theorem OwnI.is_ {w : World} {base : Nat} {v : Value} {L : List Int} (h : OwnI w base v L) : ∃ A c, v = .slice A L.length c ∧ IS w A L.length c L ∧ ∀ ad, A = some ad → base ≤ ad.block := by
  rcases h.2 with ⟨rfl, h0⟩ | ⟨g, cap, cur, rfl, hb, hg, hnc, _, hsz, htk⟩
  · have hl : L = [] := List.eq_nil_of_length_eq_zero h0
    subst hl
    exact ⟨none, 0, rfl, ⟨rfl, Rd.none_⟩, fun _ h => by cases h⟩
  · refine ⟨_, cap, rfl, ⟨rfl, hnc, fun _ => ⟨g, 0, rfl, ?_, fun i hi j hj => ?_⟩⟩, fun ad h => by cases h; exact hb⟩
    · rcases Nat.lt_or_ge g w.heap.size with hlt | hge
      · exact hlt
      · rw [Array.getElem?_eq_none hge] at hg; cases hg
    · obtain rfl : j = 0 := by omega
      rw [cell_of_row _ _ _ _ _ _ hg]
      have : (L.map I)[i]? = some (I L[i]) := by simp [List.getElem?_eq_getElem hi]
      rw [← htk, List.getElem?_take, if_pos (by omega)] at this
      simpa [List.getElem?_eq_getElem hi] using this
theorem IS.drop {w : World} {n c c' : Nat} {A : Option Addr} {l : List Int} (h : IS w A n c l) (k : Nat) (hk : k ≤ n) (sp : Option Addr) (hs : k < n → ∀ b off, A = some ⟨b, off, none⟩ → sp = some ⟨b, off + k, none⟩) (hc' : n - k ≤ c') : IS w sp (n - k) c' (l.drop k) := by
  refine ⟨by simp [h.len], hc', fun h0 => ?_⟩
  obtain ⟨b, off, e, hb, hc⟩ := h.rd.2 (by omega)
  refine ⟨b, off + k, hs (by omega) b off e, hb, fun i hi j hj => ?_⟩
  have := hc (k + i) (by omega) j hj
  rw [show off + ((k + i) * 1 + j) = off + k + (i * 1 + j) by omega] at this
  rw [this]
  simp [List.getElem?_drop]
theorem IS.take {w : World} {n c : Nat} {A : Option Addr} {l : List Int} (h : IS w A n c l) (k : Nat) (hk : k ≤ n) : IS w A k c (l.take k) := by
  refine ⟨by simp [h.len]; omega, by have := h.rd.1; omega, fun h0 => ?_⟩
  obtain ⟨b, off, e, hb, hc⟩ := h.rd.2 (by omega)
  refine ⟨b, off, e, hb, fun i hi j hj => ?_⟩
  rw [hc i (by omega) j hj]
  simp [List.getElem?_take, hi]
theorem IS.alloc {w : World} {n c : Nat} {A : Option Addr} {l : List Int} (h : IS w A n c l) (o : Obj) : IS (w.alloc o) A n c l := h.below ((Below.refl _ _).alloc (Nat.le_refl _) o)

theorem one_I (k : Int) : ∀ u ∈ [I k], u.oneCell' = true := by
  intro u hu
  simp at hu
  subst hu
  rfl

/-- a row of numbers comes back, nothing below base has turned -/
def RetOwn (L : List Int) (base : Nat) (w : World) (e : Ending) (w' : World) : Prop := ∃ v, e = .returned v ∧ OwnI w' base v L ∧ Below base w w'

set_option maxHeartbeats 1000000 in
theorem ok_any (A : Option Addr) (n c : Nat) (l : List Int) (w : World) (h : IS w A n c l) (hn : n ≤ 1000) (hz : ∀ x ∈ l, x = 0) :
    Calls Tryd.prog 22 #[.slice A n c] w fun e w' => e = .returned (.bool true) ∧ w = w' := by
  have H := Lib.hid h
  have Hlen := Lib.hid h.len
  have HZ := Lib.hid hz
  clear h hz
  go_enter Tryd.func22, Tryd.ntmps22
  go_wp2
  go_loop [7] (fun i => ∃ j : Nat, j ≤ n ∧ i = .int .i64 j) (fun i => n - (intOf i).toNat)
  case atStart => exact ⟨0, Nat.zero_le _, rfl⟩
  case round =>
    obtain ⟨j, hj, rfl⟩ := hrel
    by_cases hlt : j < n
    · obtain ⟨b, off, rfl, hb, hcs⟩ := H.out.at_ (by omega)
      have hjl : j < l.length := by rw [Hlen.out]; exact hlt
      have hc0 : w.cell? ⟨b, off + j, none⟩ = some (I 0) := by rw [hcs j hlt, HZ.out _ (List.getElem_mem hjl)]
      clear hcs
      go_wp2
      go_round
      case rel => exact ⟨j + 1, by omega, by go_num⟩
      case measure => simp [intOf]; omega
    · go_wp2
      go_ret
      exact ⟨rfl, rfl⟩

theorem is_new (w : World) (t : Nat) (L : List Int) : IS (w.alloc (.cells (L.map I).toArray t)) (some ⟨w.heap.size, 0, none⟩) L.length L.length L := (IB.new w t L).is_ (Nat.le_refl _)

end Go.Proofs.YtolgncaaffmmnaaDoor

/-
  Rows of spots of the call's own.
-/
namespace Go.Proofs.YtolgncaaffmmnaaDoor
open Go.RowKit

theorem gspot_info : (Tryd.prog.info? 65).map (fun i => (i.zero, i.size, i.bytes)) = some (some (.agg #[I 0, I 0]), 2, 16) := by kernel_rfl
theorem gsrc_one (w : World) (k d : Int) : Src (w.alloc (.cells #[I k, I d] 65)) (some ⟨w.heap.size, 0, none⟩) 1 [(k, d)] := by
  refine ⟨rfl, fun _ => ⟨_, rfl, fun j u hu => ?_⟩⟩
  match j with
  | 0 => simp [flat] at hu; simp [Addr.add, ← hu]
  | 1 => simp [flat] at hu; simp [Addr.add, ← hu]
  | j + 2 => simp [flat] at hu

def RetSO (L : PL) (base : Nat) (w : World) (e : Ending) (w' : World) : Prop := ∃ v, e = .returned v ∧ OwnR w' base 65 v L ∧ Below base w w'

end Go.Proofs.YtolgncaaffmmnaaDoor

/-
  append onto a row of pairs of the call's own, as one step of a region that draws its order. Nothing of the program.
-/
namespace Go.Proofs.YtolgncaaffmmnaaDoor
open Go.RowKit

/-- append, whatever the source (none of it: nil too) -/
theorem run_appP {P : Program} (w : World) (T ty e : TypeId) (hu : P.underlying T = some (.slice e)) (hi : (P.info? e).map (fun i => (i.zero, i.size, i.bytes)) = some (some (.agg #[I 0, I 0]), 2, 16))
    (base : Nat) (v : Value) (L xs : PL) (hown : w.ownsRow base e 2 v L.length (flat L)) (sp : Option Addr) (m c : Nat) (hx : Src w sp m xs) (hbound : L.length + m ≤ 1000000) (hbase : base ≤ w.heap.size) :
    ∃ v' w', (Builtin.append_ #[T, T] ty #[v, .slice sp m c]).run P w = .ok v' w' ∧ w'.ownsRow base e 2 v' (L ++ xs).length (flat (L ++ xs)) ∧ w.grownBy w' v.ownBlock := by
  obtain ⟨i, h1, hz, hs, hb⟩ := info_parts hi
  cases sp with
  | some ad =>
    have hcl : (flat xs).length = m * 2 := by rw [flat_length, hx.1]
    have hcells : ∀ j u, (flat xs)[j]? = some u → w.cell? (ad.add j) = some u := by
      intro j u hu'
      rcases Nat.eq_zero_or_pos m with h0 | h0
      · have : xs = [] := List.eq_nil_of_length_eq_zero (hx.1.trans h0)
        subst this
        simp [flat] at hu'
      · obtain ⟨ad', e', hc⟩ := hx.2 h0
        cases e'
        exact hc j u hu'
    obtain ⟨v', w', hr, h2, h3, _, _⟩ := run_append_own_at (P := P) w base T ty e i _ 2 16 hu h1 hz hs hb rfl (by decide) v L.length (flat L) hown ad m c (flat xs) hcl hcells (flat_one xs) (by unfold maxLen; omega) (by omega) hbase
    refine ⟨v', w', hr, ?_, h3⟩
    rw [flat_append, List.length_append, hx.1]
    exact h2
  | none =>
    have hm : m = 0 := by
      rcases Nat.eq_zero_or_pos m with h0 | h0
      · exact h0
      · obtain ⟨_, e', _⟩ := hx.2 h0; cases e'
    subst hm
    have hxs : xs = [] := List.eq_nil_of_length_eq_zero hx.1
    subst hxs
    refine ⟨v, w, ?_, by simpa using hown, World.grownBy.refl w _⟩
    rcases hown.2 with ⟨rfl, h0⟩ | ⟨g, cap, cur, rfl, _, _, hnc, _⟩
    · simp [Builtin.append_, run_underlying hu, sizeOf, typeInfo, h1, Builtin.lenOf, Builtin.firstCells]
    · simp [Builtin.append_, run_underlying hu, sizeOf, typeInfo, h1, Builtin.lenOf, Builtin.firstCells, hnc, storeCells]

theorem step_appP {P : Program} {w : World} {ops : Array Oper} {o : Oper} {a : Act} {K : Act → World → Prop} {Q : Exit → Act → World → Prop} {E : Prop} (hgd : o.guard = none) (s x : Operand) (T : TypeId)
    (ho : o.op = .call { callee := .builtin .append, args := #[s, x], argTypes := #[T, T] }) (e : TypeId) (hu : P.underlying T = some (.slice e)) (hi : (P.info? e).map (fun i => (i.zero, i.size, i.bytes)) = some (some (.agg #[I 0, I 0]), 2, 16))
    (base : Nat) (v : Value) (L xs : PL) (sp : Option Addr) (m c : Nat) (hs : a.eval s = v) (hsx : a.eval x = .slice sp m c) (hown : w.ownsRow base e 2 v L.length (flat L)) (hx : Src w sp m xs) (hbound : L.length + m ≤ 1000000) (hbase : base ≤ w.heap.size)
    (h : ∀ v' w', w'.ownsRow base e 2 v' (L ++ xs).length (flat (L ++ xs)) → w.grownBy w' v.ownBlock → K (a.put o.dst v') w') :
    if Region.wanted o (yielded ops a.tmps) = true then Oper.wp P o a w K Q else E := by
  have hw : Region.wanted o (yielded ops a.tmps) = true := by simp [Region.wanted, hgd]
  rw [if_pos hw]
  obtain ⟨v', w', hrun, h2, h3⟩ := run_appP (P := P) w T o.type e hu hi base v L xs hown sp m c hx hbound hbase
  unfold Oper.wp execOp
  simp only [ho, resolve, invoke, builtin, Sem.run_bind, Sem.run_pure, Result.andThen_ok, List.map_toArray, List.map_cons, List.map_nil, hs, hsx, hrun]
  exact h v' w' h2 h3

end Go.Proofs.YtolgncaaffmmnaaDoor
