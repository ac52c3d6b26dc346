/-
  Joined texts: YtpnjnedfcdppaaaGreatDoorGInts, YtpnjnedfcdppaaaGreatDoorGSort, YtpnjnedfcdppaaaGreatDoorOIn.
-/
import Derived.Test.YtpnjnedfcdppaaaGreatDoorInts
import Derived.Lib.AppendZeros
import Derived.Deep.LoopGhost
import Derived.Test.YtpnjnedfcdppaaaGreatDoorGOfAll
import Derived.Test.YtpnjnedfcdppaaaGreatDoorGRefUAll
import Derived.Test.YtpnjnedfcdppaaaGreatDoorOSumAll
/-
  ROWS OF NUMBERS: append, slices.Clone, slices.Grow at nil, slices.Concat at int.
-/
namespace Go.Proofs.YtpnjnedfcdppaaaGreatDoor
open Go.RowKit

def SrcI (w : World) (sp : Option Addr) (m : Nat) (xs : List Int) : Prop := xs.length = m ∧ (0 < m → ∃ ad, sp = some ad ∧ ∀ j u, (xs.map I)[j]? = some u → w.cell? (ad.add j) = some u)
theorem IS.src {w : World} {n c : Nat} {A : Option Addr} {l : List Int} (h : IS w A n c l) : SrcI w A n l := by
  refine ⟨h.len, fun hn => ?_⟩
  obtain ⟨b, off, e, hb, hc⟩ := h.at_ hn
  refine ⟨_, e, fun j u hu => ?_⟩
  rw [List.getElem?_map, Option.map_eq_some_iff] at hu
  obtain ⟨x, hx, rfl⟩ := hu
  obtain ⟨hj, rfl⟩ := List.getElem?_eq_some_iff.1 hx
  have := hc j (by rw [← h.len]; exact hj)
  rw [show (⟨b, off, none⟩ : Addr).add j = ⟨b, off + j, none⟩ by by_cases h0 : j = 0 <;> simp [Addr.add, h0]]
  exact this
theorem mapI_one (l : List Int) : ∀ u ∈ l.map I, u.oneCell' = true := by
  intro u hu
  obtain ⟨x, _, rfl⟩ := List.mem_map.1 hu
  rfl
theorem run_app1 {P : Program} (w : World) (T ty e : TypeId) (hu : P.underlying T = some (.slice e)) (hi : (P.info? e).map (fun i => (i.zero, i.size, i.bytes)) = some (some (I 0), 1, 8))
    (base : Nat) (v : Value) (L xs : List Int) (hown : w.ownsRow base e 1 v L.length (L.map I)) (sp : Option Addr) (m c : Nat) (hx : SrcI w sp m xs) (hbound : L.length + m ≤ 1000000) (hbase : base ≤ w.heap.size) :
    ∃ v' w', (Builtin.append_ #[T, T] ty #[v, .slice sp m c]).run P w = .ok v' w' ∧ w'.ownsRow base e 1 v' (L ++ xs).length ((L ++ xs).map I) ∧ w.grownBy w' v.ownBlock ∧ (v'.ownBlock = v.ownBlock ∨ v'.ownBlock = some w.heap.size) := by
  obtain ⟨i, h1, hz, hs, hb⟩ := info_parts hi
  cases sp with
  | some ad =>
    have hcl : (xs.map I).length = m * 1 := by simp [hx.1]
    have hcells : ∀ j u, (xs.map I)[j]? = some u → w.cell? (ad.add j) = some u := by
      intro j u hu'
      rcases Nat.eq_zero_or_pos m with h0 | h0
      · have : xs = [] := List.eq_nil_of_length_eq_zero (hx.1.trans h0)
        subst this
        simp at hu'
      · obtain ⟨ad', e', hc⟩ := hx.2 h0
        cases e'
        exact hc j u hu'
    obtain ⟨v', w', hr, h2, h3, _, h5⟩ := run_append_own_at (P := P) w base T ty e i _ 1 8 hu h1 hz hs hb rfl (by decide) v L.length (L.map I) hown ad m c (xs.map I) hcl hcells (mapI_one xs) (by unfold maxLen; omega) (by omega) hbase
    refine ⟨v', w', hr, ?_, h3, h5⟩
    rw [List.map_append, List.length_append, hx.1]
    exact h2
  | none =>
    have hm : m = 0 := by
      rcases Nat.eq_zero_or_pos m with h0 | h0
      · exact h0
      · obtain ⟨_, e', _⟩ := hx.2 h0; cases e'
    subst hm
    have hxs : xs = [] := List.eq_nil_of_length_eq_zero hx.1
    subst hxs
    refine ⟨v, w, ?_, by simpa using hown, World.grownBy.refl w _, .inl rfl⟩
    rcases hown.2 with ⟨rfl, h0⟩ | ⟨g, cap, cur, rfl, _, _, hnc, _⟩
    · simp [Builtin.append_, run_underlying hu, sizeOf, typeInfo, h1, Builtin.lenOf, Builtin.firstCells]
    · simp [Builtin.append_, run_underlying hu, sizeOf, typeInfo, h1, Builtin.lenOf, Builtin.firstCells, hnc, storeCells]
theorem srcI_one (w : World) (k : Int) : SrcI (w.alloc (.cells #[I k] 3)) (some ⟨w.heap.size, 0, none⟩) 1 [k] := (is_new w 3 [k]).src

structure SlI where
  A : Option Addr
  n : Nat
  c : Nat
  L : List Int
abbrev SlI.val (s : SlI) : Value := .slice s.A s.n s.c
abbrev slI0 : SlI := ⟨none, 0, 0, []⟩
def SlI.ok (w : World) (s : SlI) : Prop := IS w s.A s.n s.c s.L
structure RSI (w : World) (A : Option Addr) (m c : Nat) (es : List SlI) : Prop where
  len : es.length = m
  rd : Rd w w.heap.size 1 A m c (fun i _ => (es[i]?.getD slI0).val)
  each : ∀ s ∈ es, s.ok w
theorem RSI.below {w w' : World} {A : Option Addr} {m c : Nat} {es : List SlI} (h : RSI w A m c es) (hb : Below w.heap.size w w') : RSI w' A m c es := ⟨h.len, h.rd.below hb, fun s hs => IS.below (h.each s hs) hb⟩
theorem RSI.at_ {w : World} {A : Option Addr} {m c : Nat} {es : List SlI} (h : RSI w A m c es) (hm : 0 < m) :
    ∃ b off, A = some ⟨b, off, none⟩ ∧ b < w.heap.size ∧ ∀ i (hi : i < m), w.cell? ⟨b, off + i, none⟩ = some (es[i]'(by rw [h.len]; exact hi)).val := by
  obtain ⟨b, off, e, hb, hc⟩ := h.rd.2 hm
  refine ⟨b, off, e, hb, fun i hi => ?_⟩
  have hl : i < es.length := by rw [h.len]; exact hi
  have h0 := hc i hi 0 (by omega)
  simpa [List.getElem?_eq_getElem hl] using h0

end Go.Proofs.YtpnjnedfcdppaaaGreatDoor

/-
  sorted, Sort: by the first one; how often two were held against each other.
-/
namespace Go.Proofs.YtpnjnedfcdppaaaGreatDoor
open Go.RowKit

def Apt (u v : Value) : Prop := ∀ g, u.ownBlock = some g → v.ownBlock ≠ some g
theorem Apt.symm {u v : Value} (h : Apt u v) : Apt v u := fun g hg hu => h g hu hg
theorem Apt.or {u v : Value} (h : Apt u v) : u.ownBlock = none ∨ u.ownBlock ≠ v.ownBlock := by
  cases hu : u.ownBlock with
  | none => exact .inl rfl
  | some g => exact .inr fun e => h g hu e.symm
end Go.Proofs.YtpnjnedfcdppaaaGreatDoor

/-
  hedgref.inOrder: a tree's keys.
-/
namespace Go.Proofs.YtpnjnedfcdppaaaGreatDoor
open Go.RowKit

theorem step_app1 {P : Program} {w : World} {ops : Array Oper} {o : Oper} {a : Act} {K : Act → World → Prop} {Q : Exit → Act → World → Prop} {E : Prop} (hgd : o.guard = none) (s x : Operand) (T : TypeId)
    (ho : o.op = .call { callee := .builtin .append, args := #[s, x], argTypes := #[T, T] }) (e : TypeId) (hu : P.underlying T = some (.slice e)) (hi : (P.info? e).map (fun i => (i.zero, i.size, i.bytes)) = some (some (I 0), 1, 8))
    (base : Nat) (v : Value) (L xs : List Int) (sp : Option Addr) (m c : Nat) (hs : a.eval s = v) (hsx : a.eval x = .slice sp m c) (hown : w.ownsRow base e 1 v L.length (L.map I)) (hx : SrcI w sp m xs) (hbound : L.length + m ≤ 1000000) (hbase : base ≤ w.heap.size)
    (h : ∀ v' w', w'.ownsRow base e 1 v' (L ++ xs).length ((L ++ xs).map I) → w.grownBy w' v.ownBlock → K (a.put o.dst v') w') :
    if Region.wanted o (yielded ops a.tmps) = true then Oper.wp P o a w K Q else E := by
  have hw : Region.wanted o (yielded ops a.tmps) = true := by simp [Region.wanted, hgd]
  rw [if_pos hw]
  obtain ⟨v', w', hrun, h2, h3, _⟩ := run_app1 (P := P) w T o.type e hu hi base v L xs hown sp m c hx hbound hbase
  unfold Oper.wp execOp
  simp only [ho, resolve, invoke, builtin, Sem.run_bind, Sem.run_pure, Result.andThen_ok, List.map_toArray, List.map_cons, List.map_nil, hs, hsx, hrun]
  exact h v' w' h2 h3
theorem srcI_keep {w w' : World} {sp : Option Addr} {m : Nat} {xs : List Int} (h : SrcI w sp m xs) (hb : Below w.heap.size w w') : SrcI w' sp m xs := by
  refine ⟨h.1, fun h0 => ?_⟩
  obtain ⟨ad, e, hc⟩ := h.2 h0
  exact ⟨ad, e, fun j u hu => (hb.cell (cell_lt1 (hc j u hu))).trans (hc j u hu)⟩
abbrev inO (k : Int) : Obj := .cells #[I k] 3
theorem ownI_mono {w : World} {B B' : Nat} {v : Value} {L : List Int} (h : OwnI w B v L) (hB : B' ≤ B) : OwnI w B' v L := own_mono1 h hB
theorem ownI_below {w w' : World} {B : Nat} {v : Value} {L : List Int} (h : OwnI w B v L) (hb : Below w.heap.size w w') : OwnI w' B v L := own_below h hb
theorem ownI_row {w : World} {B : Nat} {v : Value} {L : List Int} (h : OwnI w B v L) : w.ownsRow B 3 1 v L.length (L.map I) := h
theorem ownI_beside {w w' : World} {B B' : Nat} {u v : Value} {L L' : List Int} (hu : OwnI w B u L) (hv : OwnI w B' v L') (hlt : ∀ g, u.ownBlock = some g → g < B') (hg : w.grownBy w' u.ownBlock) : OwnI w' B' v L' := by
  refine World.ownsRow.kept hv hg ?_
  cases hb : v.ownBlock with
  | none => exact .inl rfl
  | some g =>
    refine .inr fun e => ?_
    have h1 := own_ge1 hv g hb
    have h2 := hlt g e.symm
    omega
theorem ownI_lt {w : World} {B : Nat} {v : Value} {L : List Int} (h : OwnI w B v L) : ∀ g, v.ownBlock = some g → g < w.heap.size := by
  intro g hg
  rcases h.2 with ⟨rfl, _⟩ | ⟨g', cap, cur, rfl, _, hh, _⟩
  · simp [Value.ownBlock] at hg
  · simp [Value.ownBlock] at hg
    subst hg
    exact (Array.getElem?_eq_some_iff.1 hh).1
theorem ownI_told {w : World} {B n : Nat} {v : Value} {L : List Int} (h : OwnI w B v L) (hl : L.length = n) : ∃ A c, v = .slice A n c ∧ OwnI w B (.slice A n c) L ∧ IS w A n c L := by
  obtain ⟨A, c, e, hp, _⟩ := OwnI.is_ h
  subst hl
  subst e
  exact ⟨A, c, rfl, h, hp⟩

set_option maxRecDepth 100000 in
set_option maxHeartbeats 8000000 in
theorem inOrder_own (t : Tr) : ∀ (q : Option Addr) (w : World), RT w q t → t.size ≤ 1000 → Calls Tryz.prog 177 #[.pointer q] w (RetOwn t.ks w.heap.size w) := by
  induction t with
  | nil =>
    intro q w h hz
    obtain rfl : q = none := h
    go_enter Tryz.func177, Tryz.ntmps177
    go_wp2
    go_ret
    exact ⟨_, rfl, World.ownsRow_nil _ _ _ _, Below.refl _ _⟩
  | node a k b iha ihb =>
    intro q w h hz
    simp only [Tr.size] at hz
    obtain ⟨g, qa, qb, rfl, hg, ha, hb⟩ := h
    obtain ⟨hlt, c0, c1, c2⟩ := tree_cells hg
    have HA := Lib.hid ha
    have HB := Lib.hid hb
    have IHA : Hid (∀ W : World, RT W qa a → Calls Tryz.prog 177 #[.pointer qa] W (RetOwn a.ks W.heap.size W)) := fun W hW => iha qa W hW (by omega)
    have IHB : Hid (∀ W : World, RT W qb b → Calls Tryz.prog 177 #[.pointer qb] W (RetOwn b.ks W.heap.size W)) := fun W hW => ihb qb W hW (by omega)
    have hsp : (Tr.node a k b).ks = a.ks ++ [k] ++ b.ks := by simp [Tr.ks]
    have la := ks_length a
    have lb := ks_length b
    obtain ⟨nb, hnb⟩ : ∃ nb, b.size = nb := ⟨_, rfl⟩
    rw [hnb] at lb hz
    have hla : a.ks.length ≤ 1000 := by omega
    have hnb1 : nb ≤ 1000 := by omega
    have HLB := Lib.hid lb
    rw [hsp]
    generalize a.ks = La at *
    generalize b.ks = Lb at *
    clear hg ha hb iha ihb hsp la lb hnb
    go_enter Tryz.func177, Tryz.ntmps177
    go_wp2
    go_region_held3 (fun W => W.cell? ⟨g, 0, none⟩ = some (I k) ∧ W.cell? ⟨g, 1, none⟩ = some (.pointer qa) ∧ W.cell? ⟨g, 2, none⟩ = some (.pointer qb))
      (first
        | exact ⟨d0, d1, d2⟩
        | exact ⟨ck d0 _, ck d1 _, ck d2 _⟩
        | exact ⟨c0, c1, c2⟩
        | exact ⟨ck c0 _, ck c1 _, ck c2 _⟩)
      (first
        | (go_at_call 177
           with_reducible refine (IHA.out _ (by first | exact HA.out.drew | exact (HA.out.alloc _).drew)).mono ?_
           rintro e w2 ⟨v2, rfl, ho2, hb2⟩
           have hB2 : Below w.heap.size w w2 := by
             first
               | exact (Below.refl w.heap.size w).drew.trans hb2
               | exact ((Below.refl w.heap.size w).alloc (Nat.le_refl _) _).drew.trans (hb2.mono (by simp))
           have d0 : w2.cell? ⟨g, 0, none⟩ = some (I k) := (hB2.cell (by exact hlt)).trans c0
           have d1 : w2.cell? ⟨g, 1, none⟩ = some (.pointer qa) := (hB2.cell (by exact hlt)).trans c1
           have d2 : w2.cell? ⟨g, 2, none⟩ = some (.pointer qb) := (hB2.cell (by exact hlt)).trans c2
           have HO2 : Hid (OwnI w2 w.heap.size v2 La) := ownI_mono ho2 (by simp)
           try (have HS2 : Hid (SrcI w2 (some ⟨w.heap.size, 0, none⟩) 1 [k]) := srcI_keep (w := (w.alloc (inO k)).drew) (show SrcI (w.alloc (inO k)).drew _ _ _ from srcI_one w k) hb2)
           have HRB2 : Hid (RT w2 qb b) := HB.out.below hB2
           have HB2 := Lib.hid hB2
           clear ho2 hb2 hB2)
        | (go_at_call 177
           with_reducible refine (IHB.out _ (by first | exact HRB4.out | exact HRB2.out | exact HRB2.out.alloc _)).mono ?_
           rintro e w3 ⟨v3, rfl, ho3, hb3⟩
           have hB3 : Below w.heap.size w w3 := by
             first
               | exact HB4.out.trans (hb3.mono HB4.out.size)
               | exact HB2.out.trans (hb3.mono HB2.out.size)
               | exact (HB2.out.alloc HB2.out.size _).trans (hb3.mono (by have := HB2.out.size; simp; omega))
           have d0 : w3.cell? ⟨g, 0, none⟩ = some (I k) := (hB3.cell (by exact hlt)).trans c0
           have d1 : w3.cell? ⟨g, 1, none⟩ = some (.pointer qa) := (hB3.cell (by exact hlt)).trans c1
           have d2 : w3.cell? ⟨g, 2, none⟩ = some (.pointer qb) := (hB3.cell (by exact hlt)).trans c2
           obtain ⟨A3, c3, rfl, ho3', his3⟩ := ownI_told ho3 HLB.out
           have HIS3 := Lib.hid his3
           try (have HO43 : Hid (OwnI w3 w.heap.size v4 (La ++ [k])) := ownI_below HO4.out hb3)
           try (have HO23 : Hid (OwnI w3 w.heap.size v2 La) := (by first | exact ownI_below HO2.out hb3 | exact ownI_below (ownI_below HO2.out ((Below.refl _ _).alloc (Nat.le_refl _) _)) hb3))
           try (have HO3 : Hid (∃ B', OwnI w3 B' (.slice A3 nb c3) Lb ∧ ∀ g, v2.ownBlock = some g → g < B') := (by first | exact ⟨_, ho3', ownI_lt HO2.out⟩ | exact ⟨_, ho3', ownI_lt (ownI_below HO2.out ((Below.refl _ _).alloc (Nat.le_refl _) _))⟩))
           try (have HS3a : Hid (SrcI w3 (some ⟨w.heap.size, 0, none⟩) 1 [k]) := srcI_keep HS2.out hb3)
           try (have HS3b : Hid (SrcI w3 (some ⟨w2.heap.size, 0, none⟩) 1 [k]) := srcI_keep (srcI_one w2 k) hb3)
           have HB3 := Lib.hid hB3
           clear ho3 hb3 hB3 ho3' his3)
        | (refine step_app1 rfl (.tmp 9) (.tmp 14) 46 rfl 3 Tryz.underlying46 int_info w.heap.size v2 La [k] (some ⟨w.heap.size, 0, none⟩) 1 1 rfl rfl (ownI_row HO2.out) HS2.out (by omega) HB2.out.size ?_
           intro v4 w4 hown4 hgrow4
           have hB4 : Below w.heap.size w w4 := HB2.out.grown hgrow4 HB2.out.size (own_ge1 HO2.out)
           have d0 : w4.cell? ⟨g, 0, none⟩ = some (I k) := (hB4.cell (by exact hlt)).trans c0
           have d1 : w4.cell? ⟨g, 1, none⟩ = some (.pointer qa) := (hB4.cell (by exact hlt)).trans c1
           have d2 : w4.cell? ⟨g, 2, none⟩ = some (.pointer qb) := (hB4.cell (by exact hlt)).trans c2
           have HO4 : Hid (OwnI w4 w.heap.size v4 (La ++ [k])) := hown4
           have HRB4 : Hid (RT w4 qb b) := HB.out.below hB4
           have HB4 := Lib.hid hB4
           clear hown4 hgrow4 hB4)
        | (refine step_app1 rfl (.tmp 9) (.tmp 14) 46 rfl 3 Tryz.underlying46 int_info w.heap.size v2 La [k] (some ⟨w2.heap.size, 0, none⟩) 1 1 rfl rfl (ownI_row (ownI_below HO2.out ((Below.refl _ _).alloc (Nat.le_refl _) _))) (srcI_one w2 k) (by omega) (by have := HB2.out.size; simp; omega) ?_
           intro v4 w4 hown4 hgrow4
           have hB4 : Below w.heap.size w w4 := (HB2.out.alloc HB2.out.size _).grown hgrow4 (by have := HB2.out.size; simp; omega) (own_ge1 HO2.out)
           have d0 : w4.cell? ⟨g, 0, none⟩ = some (I k) := (hB4.cell (by exact hlt)).trans c0
           have d1 : w4.cell? ⟨g, 1, none⟩ = some (.pointer qa) := (hB4.cell (by exact hlt)).trans c1
           have d2 : w4.cell? ⟨g, 2, none⟩ = some (.pointer qb) := (hB4.cell (by exact hlt)).trans c2
           have HO4 : Hid (OwnI w4 w.heap.size v4 (La ++ [k])) := hown4
           have HRB4 : Hid (RT w4 qb b) := HB.out.below hB4
           have HB4 := Lib.hid hB4
           clear hown4 hgrow4 hB4)
        | (first
             | refine step_app1 rfl (.tmp 9) (.tmp 14) 46 rfl 3 Tryz.underlying46 int_info w.heap.size v2 La [k] (some ⟨w.heap.size, 0, none⟩) 1 1 rfl rfl (ownI_row HO23.out) HS3a.out (by omega) HB3.out.size ?_
             | refine step_app1 rfl (.tmp 9) (.tmp 14) 46 rfl 3 Tryz.underlying46 int_info w.heap.size v2 La [k] (some ⟨w2.heap.size, 0, none⟩) 1 1 rfl rfl (ownI_row HO23.out) HS3b.out (by omega) HB3.out.size ?_
           intro v4 w4 hown4 hgrow4
           have hB4 : Below w.heap.size w w4 := HB3.out.grown hgrow4 HB3.out.size (own_ge1 HO23.out)
           have d0 : w4.cell? ⟨g, 0, none⟩ = some (I k) := (hB4.cell (by exact hlt)).trans c0
           have d1 : w4.cell? ⟨g, 1, none⟩ = some (.pointer qa) := (hB4.cell (by exact hlt)).trans c1
           have d2 : w4.cell? ⟨g, 2, none⟩ = some (.pointer qb) := (hB4.cell (by exact hlt)).trans c2
           have HO4 : Hid (OwnI w4 w.heap.size v4 (La ++ [k])) := hown4
           have HIS4 : Hid (IS w4 A3 nb c3 Lb) := by
             obtain ⟨B', h1, h2⟩ := HO3.out
             obtain ⟨A', c', e', _, hp⟩ := ownI_told (ownI_beside HO23.out h1 h2 hgrow4) HLB.out
             cases e'
             exact hp
           have HB4 := Lib.hid hB4
           clear hown4 hgrow4 hB4)
        | (refine step_app1 rfl (.tmp 9) (.tmp 14) 46 rfl 3 Tryz.underlying46 int_info w.heap.size v2 La [k] (some ⟨w3.heap.size, 0, none⟩) 1 1 rfl rfl (ownI_row (ownI_below HO23.out ((Below.refl _ _).alloc (Nat.le_refl _) _))) (srcI_one w3 k) (by omega) (by have := HB3.out.size; simp; omega) ?_
           intro v4 w4 hown4 hgrow4
           have hB4 : Below w.heap.size w w4 := (HB3.out.alloc HB3.out.size _).grown hgrow4 (by have := HB3.out.size; simp; omega) (own_ge1 HO23.out)
           have d0 : w4.cell? ⟨g, 0, none⟩ = some (I k) := (hB4.cell (by exact hlt)).trans c0
           have d1 : w4.cell? ⟨g, 1, none⟩ = some (.pointer qa) := (hB4.cell (by exact hlt)).trans c1
           have d2 : w4.cell? ⟨g, 2, none⟩ = some (.pointer qb) := (hB4.cell (by exact hlt)).trans c2
           have HO4 : Hid (OwnI w4 w.heap.size v4 (La ++ [k])) := hown4
           have HIS4 : Hid (IS w4 A3 nb c3 Lb) := by
             obtain ⟨B', h1, h2⟩ := HO3.out
             obtain ⟨A', c', e', _, hp⟩ := ownI_told (ownI_beside (ownI_below HO23.out ((Below.refl _ _).alloc (Nat.le_refl _) _)) (ownI_below h1 ((Below.refl _ _).alloc (Nat.le_refl _) _)) h2 hgrow4) HLB.out
             cases e'
             exact hp
           have HB4 := Lib.hid hB4
           clear hown4 hgrow4 hB4)
        | (refine step_app1 rfl (.tmp 15) (.tmp 20) 46 rfl 3 Tryz.underlying46 int_info w.heap.size v4 (La ++ [k]) Lb A3 nb c3 rfl rfl (ownI_row HO43.out) (IS.src HIS3.out) (by simp; omega) HB3.out.size ?_
           intro v6 w6 hown6 hgrow6
           have hB6 : Below w.heap.size w w6 := HB3.out.grown hgrow6 HB3.out.size (own_ge1 HO43.out)
           have d0 : w6.cell? ⟨g, 0, none⟩ = some (I k) := (hB6.cell (by exact hlt)).trans c0
           have d1 : w6.cell? ⟨g, 1, none⟩ = some (.pointer qa) := (hB6.cell (by exact hlt)).trans c1
           have d2 : w6.cell? ⟨g, 2, none⟩ = some (.pointer qb) := (hB6.cell (by exact hlt)).trans c2
           have HO6 : Hid (OwnI w6 w.heap.size v6 (La ++ [k] ++ Lb)) := hown6
           have HB6 := Lib.hid hB6
           clear hown6 hgrow6 hB6)
        | (refine step_app1 rfl (.tmp 15) (.tmp 20) 46 rfl 3 Tryz.underlying46 int_info w.heap.size v4 (La ++ [k]) Lb A3 nb c3 rfl rfl (ownI_row HO4.out) (IS.src HIS4.out) (by simp; omega) HB4.out.size ?_
           intro v6 w6 hown6 hgrow6
           have hB6 : Below w.heap.size w w6 := HB4.out.grown hgrow6 HB4.out.size (own_ge1 HO4.out)
           have d0 : w6.cell? ⟨g, 0, none⟩ = some (I k) := (hB6.cell (by exact hlt)).trans c0
           have d1 : w6.cell? ⟨g, 1, none⟩ = some (.pointer qa) := (hB6.cell (by exact hlt)).trans c1
           have d2 : w6.cell? ⟨g, 2, none⟩ = some (.pointer qb) := (hB6.cell (by exact hlt)).trans c2
           have HO6 : Hid (OwnI w6 w.heap.size v6 (La ++ [k] ++ Lb)) := hown6
           have HB6 := Lib.hid hB6
           clear hown6 hgrow6 hB6)
        | fail)
    all_goals go_wp2
    all_goals go_ret
    all_goals exact ⟨v6, rfl, HO6.out, HB6.out⟩

theorem inOrder_any (t : Tr) (q : Option Addr) (n : Nat) (w : World) (h : RT w q t) (hn : t.size = n) (hz : n ≤ 1000) : Calls Tryz.prog 177 #[.pointer q] w fun e w' => ∃ A c, e = .returned (.slice A n c) ∧ IS w' A n c t.ks ∧ Below w.heap.size w w' := by
  refine (inOrder_own t q w h (by omega)).mono ?_
  rintro e w' ⟨v, rfl, ho, hb⟩
  obtain ⟨A, c, rfl, _, his⟩ := ownI_told ho (show t.ks.length = n by rw [ks_length, hn])
  exact ⟨A, c, rfl, his, hb⟩

end Go.Proofs.YtpnjnedfcdppaaaGreatDoor
