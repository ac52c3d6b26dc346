/-
  Joined texts: YtolgncaaffmmnaaDoorKRef2, YtolgncaaffmmnaaDoorGInts.
-/
import Derived.Test.YtolgncaaffmmnaaDoorMapKAll
import Derived.Test.YtolgncaaffmmnaaDoorKRowsAll
import Derived.Test.YtolgncaaffmmnaaDoorKTowAll
import Derived.Test.YtolgncaaffmmnaaDoorRefAll
import Derived.Test.YtolgncaaffmmnaaDoorOwnAll
import Derived.Test.YtolgncaaffmmnaaDoorSpotBAll
import Derived.Lib.AppendZeros
import Derived.Deep.LoopGhost
/-
  hedgref: KeysRight, SameInts, SameRows.
-/
namespace Go.Proofs.YtolgncaaffmmnaaDoor
open Go.RowKit

def lastK (l : List Int) (k : Nat) : Int := if k = 0 then -1 else l[k - 1]?.getD 0
theorem lastK_bd {l : List Int} {k : Nat} (h : okKs l k) : -1 ≤ lastK l k ∧ lastK l k ≤ 1000000 := by
  unfold lastK
  split
  · omega
  · have := (h (k - 1) (by omega)).1
    simp [kyB] at this
    omega
theorem okK_iff {l : List Int} {k : Nat} (h : okKs l k) : okK l k ↔ btwB (l[k]?.getD 0) (lastK l k + 1) 1000000 = true := by
  have hb := lastK_bd h
  by_cases h0 : k = 0
  · subst h0; simp [okK, btwB, kyB, lastK]
  · have hk : 0 < k := by omega
    have hl : lastK l k = l[k - 1]?.getD 0 := by simp [lastK, h0]
    rw [hl] at hb ⊢
    simp only [okK, btwB, kyB, decide_eq_true_eq]
    constructor
    · rintro ⟨h1, h2⟩
      have := h2 hk
      omega
    · rintro ⟨h1, h2⟩
      exact ⟨by omega, fun _ => by omega⟩

set_option maxHeartbeats 1000000 in
theorem KeysRight_any (A : Option Addr) (n c : Nat) (l : List Int) (w : World) (h : IS w A n c l) (hn : n ≤ 9223372036854775807) :
    Calls Tryd.prog 11 #[.slice A n c] w fun e w' => e = .returned (I (chkK l)) ∧ w' = w := by
  have H := Lib.hid h
  have Hlen := Lib.hid h.len
  clear h
  by_cases h200 : 200 < n
  · have HF := Lib.hid (chkK_large Hlen.out h200)
    go_enter Tryd.func11, Tryd.ntmps11
    go_wp2
    go_ret
    exact ⟨ret_int (by rw [HF.out]), rfl⟩
  · go_enter Tryd.func11, Tryd.ntmps11
    go_wp2
    go_loop [3, 11] (fun t i => ∃ k : Nat, k ≤ n ∧ i = .int .i64 k ∧ t = .int .i64 (lastK l k) ∧ okKs l k) (fun _ i => n - (intOf i).toNat)
    case atStart => exact ⟨0, Nat.zero_le _, rfl, rfl, fun i hi => absurd hi (by omega)⟩
    case round =>
      obtain ⟨k, hk, rfl, rfl, hok⟩ := hrel
      obtain ⟨hl0, hl1⟩ := lastK_bd hok
      by_cases hlt : k < n
      · have hkl : k < l.length := by have := Hlen.out; omega
        obtain ⟨b, off, rfl, hb, hc0⟩ := H.out.cell_at hlt
        have hiff := okK_iff hok
        simp only [List.getElem?_eq_getElem hkl, Option.getD_some] at hiff
        cases hkey : btwB l[k] (lastK l k + 1) 1000000 with
        | false =>
          have HF : Hid (chkK l = 3) := chkK_bad Hlen.out h200 hlt fun h => by
            have := hiff.1 h
            rw [hkey] at this
            cases this
          have HK := Lib.hid hkey
          clear hkey hok hiff
          go_wp2_with (go_at_call 15; refine (Between_f _ _ _ _ HK.out).mono ?_; rintro e w' ⟨rfl, rfl⟩)
          go_ret
          exact ⟨ret_int (by rw [HF.out]), rfl⟩
        | true =>
          have HO : Hid (okKs l (k + 1)) := okKs_succ hok (hiff.2 hkey)
          have HL : Hid (lastK l (k + 1) = l[k]) := by show lastK l (k + 1) = l[k]; simp [lastK, List.getElem?_eq_getElem hkl]
          have HK := Lib.hid hkey
          clear hkey hok hiff
          go_wp2_with (go_at_call 15; refine (Between_t _ _ _ _ HK.out).mono ?_; rintro e w' ⟨rfl, rfl⟩)
          go_round
          case rel => exact ⟨k + 1, by omega, by go_num, by rw [HL.out], HO.out⟩
          case measure => simp [intOf]; omega
      · have HF : Hid (chkK l = 0) := chkK_good Hlen.out h200 (by rw [show n = k by omega]; exact hok)
        clear hok
        go_wp2
        go_ret
        exact ⟨ret_int (by rw [HF.out]), rfl⟩

theorem IS.drewN {w : World} {n c : Nat} {A : Option Addr} {l : List Int} (h : IS w A n c l) (k : Nat) : IS (w.drewN k) A n c l := ⟨h.len, h.rd⟩
set_option maxRecDepth 100000 in
set_option maxHeartbeats 1000000 in
theorem ksameInts_t (A A' : Option Addr) (n c c' : Nat) (l : List Int) (w : World) (h : IS w A n c l) (h' : IS w A' n c' l) (hn : n ≤ 1000) :
    Calls Tryd.prog 23 #[.slice A n c, .slice A' n c'] w fun e w' => e = .returned (.bool true) ∧ ∃ q, w' = w.drewN q := by
  have H := Lib.hid h
  have H' := Lib.hid h'
  have HL := Lib.hid h.len
  clear h h'
  have hne : ((n : Int) != (n : Int)) = false := by simp
  go_enter Tryd.func23, Tryd.ntmps23
  go_wp2
  go_loopw [13] (fun i wr => ∃ k q : Nat, k ≤ n ∧ i = .int .i64 k ∧ wr = w.drewN q) (fun i _ => n - (intOf i).toNat)
  case atStart => exact ⟨0, 0, Nat.zero_le _, rfl, rfl⟩
  case round =>
    obtain ⟨k, q, hk, rfl, rfl⟩ := hrel
    by_cases hlt : k < n
    · obtain ⟨b, off, rfl, hb, hc0⟩ := H.out.cell_at hlt
      obtain ⟨b', off', rfl, hb', hc0'⟩ := H'.out.cell_at hlt
      obtain ⟨x, hx⟩ : ∃ x, l[k]'(by rw [HL.out]; exact hlt) = x := ⟨_, rfl⟩
      rw [hx] at hc0 hc0'
      have hne2 : (x != x) = false := by simp
      clear hx
      go_wp2
      go_quiet (fail)
      go_wp2
      go_roundw
      case rel => exact ⟨k + 1, _, by omega, by go_num, rfl⟩
      case measure => simp [intOf]; omega
    · go_wp2
      go_ret
      exact ⟨rfl, q, rfl⟩

end Go.Proofs.YtolgncaaffmmnaaDoor

/-
  ROWS OF NUMBERS: append, slices.Clone, slices.Grow at nil, slices.Concat at int.
-/
namespace Go.Proofs.YtolgncaaffmmnaaDoor
open Go.RowKit

/-- what is read by append -/
def SrcI (w : World) (sp : Option Addr) (m : Nat) (xs : List Int) : Prop := xs.length = m ∧ (0 < m → ∃ ad, sp = some ad ∧ ∀ j u, (xs.map I)[j]? = some u → w.cell? (ad.add j) = some u)
theorem IS.src {w : World} {n c : Nat} {A : Option Addr} {l : List Int} (h : IS w A n c l) : SrcI w A n l := by
  refine ⟨h.len, fun hn => ?_⟩
  obtain ⟨b, off, e, hb, hc⟩ := h.at_ hn
  refine ⟨_, e, fun j u hu => ?_⟩
  rw [List.getElem?_map, Option.map_eq_some_iff] at hu
  obtain ⟨x, hx, rfl⟩ := hu
  obtain ⟨hj, rfl⟩ := List.getElem?_eq_some_iff.1 hx
  have := hc j (by rw [← h.len]; exact hj)
  rw [show (⟨b, off, none⟩ : Addr).add j = ⟨b, off + j, none⟩ by by_cases h0 : j = 0 <;> simp [Addr.add, h0]]
  exact this
theorem mapI_one (l : List Int) : ∀ u ∈ l.map I, u.oneCell' = true := by
  intro u hu
  obtain ⟨x, _, rfl⟩ := List.mem_map.1 hu
  rfl
theorem run_app1 {P : Program} (w : World) (T ty e : TypeId) (hu : P.underlying T = some (.slice e)) (hi : (P.info? e).map (fun i => (i.zero, i.size, i.bytes)) = some (some (I 0), 1, 8))
    (base : Nat) (v : Value) (L xs : List Int) (hown : w.ownsRow base e 1 v L.length (L.map I)) (sp : Option Addr) (m c : Nat) (hx : SrcI w sp m xs) (hbound : L.length + m ≤ 1000000) (hbase : base ≤ w.heap.size) :
    ∃ v' w', (Builtin.append_ #[T, T] ty #[v, .slice sp m c]).run P w = .ok v' w' ∧ w'.ownsRow base e 1 v' (L ++ xs).length ((L ++ xs).map I) ∧ w.grownBy w' v.ownBlock ∧ (v'.ownBlock = v.ownBlock ∨ v'.ownBlock = some w.heap.size) := by
  obtain ⟨i, h1, hz, hs, hb⟩ := info_parts hi
  cases sp with
  | some ad =>
    have hcl : (xs.map I).length = m * 1 := by simp [hx.1]
    have hcells : ∀ j u, (xs.map I)[j]? = some u → w.cell? (ad.add j) = some u := by
      intro j u hu'
      rcases Nat.eq_zero_or_pos m with h0 | h0
      · have : xs = [] := List.eq_nil_of_length_eq_zero (hx.1.trans h0)
        subst this
        simp at hu'
      · obtain ⟨ad', e', hc⟩ := hx.2 h0
        cases e'
        exact hc j u hu'
    obtain ⟨v', w', hr, h2, h3, _, h5⟩ := run_append_own_at (P := P) w base T ty e i _ 1 8 hu h1 hz hs hb rfl (by decide) v L.length (L.map I) hown ad m c (xs.map I) hcl hcells (mapI_one xs) (by unfold maxLen; omega) (by omega) hbase
    refine ⟨v', w', hr, ?_, h3, h5⟩
    rw [List.map_append, List.length_append, hx.1]
    exact h2
  | none =>
    have hm : m = 0 := by
      rcases Nat.eq_zero_or_pos m with h0 | h0
      · exact h0
      · obtain ⟨_, e', _⟩ := hx.2 h0; cases e'
    subst hm
    have hxs : xs = [] := List.eq_nil_of_length_eq_zero hx.1
    subst hxs
    refine ⟨v, w, ?_, by simpa using hown, World.grownBy.refl w _, .inl rfl⟩
    rcases hown.2 with ⟨rfl, h0⟩ | ⟨g, cap, cur, rfl, _, _, hnc, _⟩
    · simp [Builtin.append_, run_underlying hu, sizeOf, typeInfo, h1, Builtin.lenOf, Builtin.firstCells]
    · simp [Builtin.append_, run_underlying hu, sizeOf, typeInfo, h1, Builtin.lenOf, Builtin.firstCells, hnc, storeCells]
theorem wpList_app1 {P : Program} {w : World} {ops : Array Oper} {rest : List Oper} {o : Oper} {a : Act} {Q : Exit → Act → World → Prop} (hgd : o.guard = none) (s x : Operand) (T : TypeId)
    (ho : o.op = .call { callee := .builtin .append, args := #[s, x], argTypes := #[T, T] }) (e : TypeId) (hu : P.underlying T = some (.slice e)) (hi : (P.info? e).map (fun i => (i.zero, i.size, i.bytes)) = some (some (I 0), 1, 8))
    (base : Nat) (v : Value) (L xs : List Int) (sp : Option Addr) (m c : Nat) (hs : a.eval s = v) (hsx : a.eval x = .slice sp m c) (hown : w.ownsRow base e 1 v L.length (L.map I)) (hx : SrcI w sp m xs) (hbound : L.length + m ≤ 1000000) (hbase : base ≤ w.heap.size)
    (h : ∀ v' w', w'.ownsRow base e 1 v' (L ++ xs).length ((L ++ xs).map I) → w.grownBy w' v.ownBlock → (v'.ownBlock = v.ownBlock ∨ v'.ownBlock = some w.heap.size) → wpList P ops Q rest (a.put o.dst v') w') : wpList P ops Q (o :: rest) a w := by
  refine wpList_plain hgd fun K hK => ?_
  obtain ⟨v', w', hrun, h2, h3, h4⟩ := run_app1 (P := P) w T o.type e hu hi base v L xs hown sp m c hx hbound hbase
  unfold Oper.wp execOp
  simp only [ho, resolve, invoke, builtin, Sem.run_bind, Sem.run_pure, Result.andThen_ok, List.map_toArray, List.map_cons, List.map_nil, hs, hsx, hrun]
  exact hK _ _ (h v' w' h2 h3 h4)
theorem srcI_one (w : World) (k : Int) : SrcI (w.alloc (.cells #[I k] 3)) (some ⟨w.heap.size, 0, none⟩) 1 [k] := (is_new w 3 [k]).src

theorem growI_own (w : World) (e : TypeId) (n : Nat) (h0 : 0 < n) (hn : n ≤ 1000) :
    (w.drew.alloc (.cells (Builtin.zeroCells (I 0).cells n ++ Builtin.zeroCells (I 0).cells (grownCap w n 0 e - n)) e)).ownsRow w.heap.size e 1 (.slice (some ⟨w.heap.size, 0, none⟩) 0 (grownCap w n 0 e)) ([] : List Int).length (([] : List Int).map I) := by
  have hge := grownCap_ge w n 0 e
  refine ⟨rfl, .inr ⟨w.heap.size, grownCap w n 0 e, _, rfl, Nat.le_refl _, heap_alloc_new w.drew _, Nat.zero_le _, grownCap_le_maxLen w n 0 e (by unfold maxLen; omega), ?_, rfl⟩⟩
  rw [Array.size_append, size_zeroCells, size_zeroCells]
  simp [Value.cells]
  omega

/-- a slice of numbers, with what it reads as -/
structure SlI where
  A : Option Addr
  n : Nat
  c : Nat
  L : List Int
abbrev SlI.val (s : SlI) : Value := .slice s.A s.n s.c
abbrev slI0 : SlI := ⟨none, 0, 0, []⟩
def SlI.ok (w : World) (s : SlI) : Prop := IS w s.A s.n s.c s.L
/-- a slice of slices of numbers -/
structure RSI (w : World) (A : Option Addr) (m c : Nat) (es : List SlI) : Prop where
  len : es.length = m
  rd : Rd w w.heap.size 1 A m c (fun i _ => (es[i]?.getD slI0).val)
  each : ∀ s ∈ es, s.ok w
theorem RSI.below {w w' : World} {A : Option Addr} {m c : Nat} {es : List SlI} (h : RSI w A m c es) (hb : Below w.heap.size w w') : RSI w' A m c es := ⟨h.len, h.rd.below hb, fun s hs => IS.below (h.each s hs) hb⟩
theorem RSI.at_ {w : World} {A : Option Addr} {m c : Nat} {es : List SlI} (h : RSI w A m c es) (hm : 0 < m) :
    ∃ b off, A = some ⟨b, off, none⟩ ∧ b < w.heap.size ∧ ∀ i (hi : i < m), w.cell? ⟨b, off + i, none⟩ = some (es[i]'(by rw [h.len]; exact hi)).val := by
  obtain ⟨b, off, e, hb, hc⟩ := h.rd.2 hm
  refine ⟨b, off, e, hb, fun i hi => ?_⟩
  have hl : i < es.length := by rw [h.len]; exact hi
  have h0 := hc i hi 0 (by omega)
  simpa [List.getElem?_eq_getElem hl] using h0

def sumI (es : List SlI) : Nat := es.foldr (fun s n => s.n + n) 0
def catI (es : List SlI) : List Int := es.flatMap SlI.L
theorem sumI_append (a b : List SlI) : sumI (a ++ b) = sumI a + sumI b := by
  induction a with
  | nil => simp [sumI]
  | cons s t ih => simp only [sumI, List.cons_append, List.foldr_cons] at *; omega
theorem sumI_step (es : List SlI) (k : Nat) (h : k < es.length) : sumI (es.take (k + 1)) = sumI (es.take k) + es[k].n := by
  rw [List.take_succ_eq_append_getElem h, sumI_append]
  simp [sumI]
theorem sumI_take (es : List SlI) (k : Nat) : sumI (es.take k) ≤ sumI es := by
  conv => rhs; rw [← List.take_append_drop k es]
  rw [sumI_append]
  omega
theorem catI_step (es : List SlI) (k : Nat) (h : k < es.length) : catI (es.take (k + 1)) = catI (es.take k) ++ es[k].L := by
  unfold catI
  rw [List.take_succ_eq_append_getElem h, List.flatMap_append]
  simp only [List.flatMap_cons, List.flatMap_nil, List.append_nil]
theorem catI_len (es : List SlI) (w : World) (h : ∀ s ∈ es, s.ok w) : (catI es).length = sumI es := by
  induction es with
  | nil => rfl
  | cons s t ih =>
    have := (h s (by simp)).len
    have e : catI (s :: t) = s.L ++ catI t := rfl
    have e2 : sumI (s :: t) = s.n + sumI t := rfl
    rw [e, e2, List.length_append, ih (fun x hx => h x (by simp [hx])), this]

end Go.Proofs.YtolgncaaffmmnaaDoor
