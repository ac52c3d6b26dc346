/-
  Joined texts: YtjnkfpagaajfeaaDoorZBase, YtjnkfpagaajfeaaDoorAppP.
-/
import Derived.Test.YtjnkfpagaajfeaaDoorZStand
import Derived.Test.YtjnkfpagaajfeaaDoorKOne0All
import Derived.Test.YtjnkfpagaajfeaaDoorCopy
import Derived.Maps.AppendAt
import Derived.Deep.RegionLaw
/-
  ZIPPED TREES: keys, rows of pairs of the call's own; what the laws share. Nothing is walked here.
-/
namespace Go.Proofs.YtjnkfpagaajfeaaDoor
open Go.RowKit

theorem zpair_info : (Tryd.prog.info? 46).map (fun i => (i.zero, i.size, i.bytes)) = some (some (.agg #[I 0, I 0]), 2, 16) := by kernel_rfl
theorem zsrc_one (w : World) (k d : Int) (t : Nat) : Src (w.alloc (.cells #[I k, I d] t)) (some ⟨w.heap.size, 0, none⟩) 1 [(k, d)] := by
  refine ⟨rfl, fun _ => ⟨_, rfl, fun j u hu => ?_⟩⟩
  match j with
  | 0 => simp [flat] at hu; simp [Addr.add, ← hu]
  | 1 => simp [flat] at hu; simp [Addr.add, ← hu]
  | j + 2 => simp [flat] at hu
theorem zpl_take (ks : List Int) (k : Nat) (h : k < ks.length) : zpl (ks.take (k + 1)) = zpl (ks.take k) ++ [(ks[k], (ht ks[k] : Int))] := by
  unfold zpl
  rw [List.take_succ_eq_append_getElem h, List.map_append]
  rfl
theorem zrunR_200 (ops : List OP) : (runR ops).1.length ≤ 200 := chk_len (chk_runR ops)
theorem srt_zpl : ∀ (l : PL) (lo : Int), Srt lo l → Srt lo (zpl (kys l))
  | [], _, _ => trivial
  | p :: t, lo, h => ⟨h.1, h.2.1, srt_zpl t _ h.2.2⟩
theorem chk_zpl {l : PL} (h : chk l = 0) : chk (zpl (kys l)) = 0 := by
  obtain ⟨h1, h2⟩ := (chk_zero l).1 h
  exact (chk_zero _).2 ⟨by rw [zpl_kys_len]; exact h1, srt_zpl l 0 h2⟩
theorem zks {t : Tr} {ks : List Int} (h : Hp t (zpl ks)) : t.ks = ks := by
  rw [hp_ks h]
  unfold zpl
  rw [List.map_map]
  exact List.map_id'' (fun _ => rfl) ks
theorem zks_at {t : Tr} {ks : List Int} (h : Hp t (zpl ks)) (k : Nat) (hk : k < ks.length) : ky (t.sp 0) k = ks[k] := by
  have hs : k < t.size := by rw [← hp_len h, zpl_length]; exact hk
  rw [ks_ky t 0 k hs]
  have := zks h
  simp only [this]
theorem kys_sp {t : Tr} {ks : List Int} (h : Hp t (zpl ks)) (d : Int) : kys (t.sp d) = ks := (sp_ks t d).trans (zks h)
theorem zown_lt {w : World} {B t : Nat} {v : Value} {L : PL} (h : OwnR w B t v L) : ∀ g, v.ownBlock = some g → g < w.heap.size := by
  intro g hg
  rcases h.2 with ⟨rfl, _⟩ | ⟨g', cap, cur, rfl, _, hh, _⟩
  · simp [Value.ownBlock] at hg
  · simp [Value.ownBlock] at hg
    subst hg
    rcases Nat.lt_or_ge g' w.heap.size with h1 | h1
    · exact h1
    · rw [Array.getElem?_eq_none h1] at hh; cases hh
theorem zcell_lt {w : World} {a : Addr} {v : Value} (h : w.cell? a = some v) : a.block < w.heap.size := by
  rcases Nat.lt_or_ge a.block w.heap.size with h1 | h1
  · exact h1
  · unfold World.cell? at h; rw [Array.getElem?_eq_none h1] at h; cases h
theorem zck {w : World} {a : Addr} {v : Value} (h : w.cell? a = some v) (o : Obj) : (w.alloc o).cell? a = some v := (((Below.refl w.heap.size w).alloc (Nat.le_refl _) o).cell (zcell_lt h)).trans h

end Go.Proofs.YtjnkfpagaajfeaaDoor

/-
  append onto a row of pairs of the call's own, as one step of a region that draws its order. Nothing of the program.
-/
namespace Go.Proofs.YtjnkfpagaajfeaaDoor
open Go.RowKit

/-- append, whatever the source (none of it: nil too) -/
theorem run_appP {P : Program} (w : World) (T ty e : TypeId) (hu : P.underlying T = some (.slice e)) (hi : (P.info? e).map (fun i => (i.zero, i.size, i.bytes)) = some (some (.agg #[I 0, I 0]), 2, 16))
    (base : Nat) (v : Value) (L xs : PL) (hown : w.ownsRow base e 2 v L.length (flat L)) (sp : Option Addr) (m c : Nat) (hx : Src w sp m xs) (hbound : L.length + m ≤ 1000000) (hbase : base ≤ w.heap.size) :
    ∃ v' w', (Builtin.append_ #[T, T] ty #[v, .slice sp m c]).run P w = .ok v' w' ∧ w'.ownsRow base e 2 v' (L ++ xs).length (flat (L ++ xs)) ∧ w.grownBy w' v.ownBlock := by
  obtain ⟨i, h1, hz, hs, hb⟩ := info_parts hi
  cases sp with
  | some ad =>
    have hcl : (flat xs).length = m * 2 := by rw [flat_length, hx.1]
    have hcells : ∀ j u, (flat xs)[j]? = some u → w.cell? (ad.add j) = some u := by
      intro j u hu'
      rcases Nat.eq_zero_or_pos m with h0 | h0
      · have : xs = [] := List.eq_nil_of_length_eq_zero (hx.1.trans h0)
        subst this
        simp [flat] at hu'
      · obtain ⟨ad', e', hc⟩ := hx.2 h0
        cases e'
        exact hc j u hu'
    obtain ⟨v', w', hr, h2, h3, _, _⟩ := run_append_own_at (P := P) w base T ty e i _ 2 16 hu h1 hz hs hb rfl (by decide) v L.length (flat L) hown ad m c (flat xs) hcl hcells (flat_one xs) (by unfold maxLen; omega) (by omega) hbase
    refine ⟨v', w', hr, ?_, h3⟩
    rw [flat_append, List.length_append, hx.1]
    exact h2
  | none =>
    have hm : m = 0 := by
      rcases Nat.eq_zero_or_pos m with h0 | h0
      · exact h0
      · obtain ⟨_, e', _⟩ := hx.2 h0; cases e'
    subst hm
    have hxs : xs = [] := List.eq_nil_of_length_eq_zero hx.1
    subst hxs
    refine ⟨v, w, ?_, by simpa using hown, World.grownBy.refl w _⟩
    rcases hown.2 with ⟨rfl, h0⟩ | ⟨g, cap, cur, rfl, _, _, hnc, _⟩
    · simp [Builtin.append_, run_underlying hu, sizeOf, typeInfo, h1, Builtin.lenOf, Builtin.firstCells]
    · simp [Builtin.append_, run_underlying hu, sizeOf, typeInfo, h1, Builtin.lenOf, Builtin.firstCells, hnc, storeCells]

theorem step_appP {P : Program} {w : World} {ops : Array Oper} {o : Oper} {a : Act} {K : Act → World → Prop} {Q : Exit → Act → World → Prop} {E : Prop} (hgd : o.guard = none) (s x : Operand) (T : TypeId)
    (ho : o.op = .call { callee := .builtin .append, args := #[s, x], argTypes := #[T, T] }) (e : TypeId) (hu : P.underlying T = some (.slice e)) (hi : (P.info? e).map (fun i => (i.zero, i.size, i.bytes)) = some (some (.agg #[I 0, I 0]), 2, 16))
    (base : Nat) (v : Value) (L xs : PL) (sp : Option Addr) (m c : Nat) (hs : a.eval s = v) (hsx : a.eval x = .slice sp m c) (hown : w.ownsRow base e 2 v L.length (flat L)) (hx : Src w sp m xs) (hbound : L.length + m ≤ 1000000) (hbase : base ≤ w.heap.size)
    (h : ∀ v' w', w'.ownsRow base e 2 v' (L ++ xs).length (flat (L ++ xs)) → w.grownBy w' v.ownBlock → K (a.put o.dst v') w') :
    if Region.wanted o (yielded ops a.tmps) = true then Oper.wp P o a w K Q else E := by
  have hw : Region.wanted o (yielded ops a.tmps) = true := by simp [Region.wanted, hgd]
  rw [if_pos hw]
  obtain ⟨v', w', hrun, h2, h3⟩ := run_appP (P := P) w T o.type e hu hi base v L xs hown sp m c hx hbound hbase
  unfold Oper.wp execOp
  simp only [ho, resolve, invoke, builtin, Sem.run_bind, Sem.run_pure, Result.andThen_ok, List.map_toArray, List.map_cons, List.map_nil, hs, hsx, hrun]
  exact h v' w' h2 h3

end Go.Proofs.YtjnkfpagaajfeaaDoor
