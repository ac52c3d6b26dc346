/-
  ROWS OF NUMBERS: append, slices.Clone, slices.Grow at nil, slices.Concat at int.
-/
import Derived.Test.YtpnjnedfcdppaaaGreatDoorInts
import Derived.Lib.AppendZeros
import Derived.Deep.LoopGhost
namespace Go.Proofs.YtpnjnedfcdppaaaGreatDoor
open Go.RowKit

/-- what is read by append -/
def SrcI (w : World) (sp : Option Addr) (m : Nat) (xs : List Int) : Prop := xs.length = m ∧ (0 < m → ∃ ad, sp = some ad ∧ ∀ j u, (xs.map I)[j]? = some u → w.cell? (ad.add j) = some u)
theorem IS.src {w : World} {n c : Nat} {A : Option Addr} {l : List Int} (h : IS w A n c l) : SrcI w A n l := by
  refine ⟨h.len, fun hn => ?_⟩
  obtain ⟨b, off, e, hb, hc⟩ := h.at_ hn
  refine ⟨_, e, fun j u hu => ?_⟩
  rw [List.getElem?_map, Option.map_eq_some_iff] at hu
  obtain ⟨x, hx, rfl⟩ := hu
  obtain ⟨hj, rfl⟩ := List.getElem?_eq_some_iff.1 hx
  have := hc j (by rw [← h.len]; exact hj)
  rw [show (⟨b, off, none⟩ : Addr).add j = ⟨b, off + j, none⟩ by by_cases h0 : j = 0 <;> simp [Addr.add, h0]]
  exact this
theorem mapI_one (l : List Int) : ∀ u ∈ l.map I, u.oneCell' = true := by
  intro u hu
  obtain ⟨x, _, rfl⟩ := List.mem_map.1 hu
  rfl
theorem run_app1 {P : Program} (w : World) (T ty e : TypeId) (hu : P.underlying T = some (.slice e)) (hi : (P.info? e).map (fun i => (i.zero, i.size, i.bytes)) = some (some (I 0), 1, 8))
    (base : Nat) (v : Value) (L xs : List Int) (hown : w.ownsRow base e 1 v L.length (L.map I)) (sp : Option Addr) (m c : Nat) (hx : SrcI w sp m xs) (hbound : L.length + m ≤ 1000000) (hbase : base ≤ w.heap.size) :
    ∃ v' w', (Builtin.append_ #[T, T] ty #[v, .slice sp m c]).run P w = .ok v' w' ∧ w'.ownsRow base e 1 v' (L ++ xs).length ((L ++ xs).map I) ∧ w.grownBy w' v.ownBlock ∧ (v'.ownBlock = v.ownBlock ∨ v'.ownBlock = some w.heap.size) := by
  obtain ⟨i, h1, hz, hs, hb⟩ := info_parts hi
  cases sp with
  | some ad =>
    have hcl : (xs.map I).length = m * 1 := by simp [hx.1]
    have hcells : ∀ j u, (xs.map I)[j]? = some u → w.cell? (ad.add j) = some u := by
      intro j u hu'
      rcases Nat.eq_zero_or_pos m with h0 | h0
      · have : xs = [] := List.eq_nil_of_length_eq_zero (hx.1.trans h0)
        subst this
        simp at hu'
      · obtain ⟨ad', e', hc⟩ := hx.2 h0
        cases e'
        exact hc j u hu'
    obtain ⟨v', w', hr, h2, h3, _, h5⟩ := run_append_own_at (P := P) w base T ty e i _ 1 8 hu h1 hz hs hb rfl (by decide) v L.length (L.map I) hown ad m c (xs.map I) hcl hcells (mapI_one xs) (by unfold maxLen; omega) (by omega) hbase
    refine ⟨v', w', hr, ?_, h3, h5⟩
    rw [List.map_append, List.length_append, hx.1]
    exact h2
  | none =>
    have hm : m = 0 := by
      rcases Nat.eq_zero_or_pos m with h0 | h0
      · exact h0
      · obtain ⟨_, e', _⟩ := hx.2 h0; cases e'
    subst hm
    have hxs : xs = [] := List.eq_nil_of_length_eq_zero hx.1
    subst hxs
    refine ⟨v, w, ?_, by simpa using hown, World.grownBy.refl w _, .inl rfl⟩
    rcases hown.2 with ⟨rfl, h0⟩ | ⟨g, cap, cur, rfl, _, _, hnc, _⟩
    · simp [Builtin.append_, run_underlying hu, sizeOf, typeInfo, h1, Builtin.lenOf, Builtin.firstCells]
    · simp [Builtin.append_, run_underlying hu, sizeOf, typeInfo, h1, Builtin.lenOf, Builtin.firstCells, hnc, storeCells]
theorem wpList_app1 {P : Program} {w : World} {ops : Array Oper} {rest : List Oper} {o : Oper} {a : Act} {Q : Exit → Act → World → Prop} (hgd : o.guard = none) (s x : Operand) (T : TypeId)
    (ho : o.op = .call { callee := .builtin .append, args := #[s, x], argTypes := #[T, T] }) (e : TypeId) (hu : P.underlying T = some (.slice e)) (hi : (P.info? e).map (fun i => (i.zero, i.size, i.bytes)) = some (some (I 0), 1, 8))
    (base : Nat) (v : Value) (L xs : List Int) (sp : Option Addr) (m c : Nat) (hs : a.eval s = v) (hsx : a.eval x = .slice sp m c) (hown : w.ownsRow base e 1 v L.length (L.map I)) (hx : SrcI w sp m xs) (hbound : L.length + m ≤ 1000000) (hbase : base ≤ w.heap.size)
    (h : ∀ v' w', w'.ownsRow base e 1 v' (L ++ xs).length ((L ++ xs).map I) → w.grownBy w' v.ownBlock → (v'.ownBlock = v.ownBlock ∨ v'.ownBlock = some w.heap.size) → wpList P ops Q rest (a.put o.dst v') w') : wpList P ops Q (o :: rest) a w := by
  refine wpList_plain hgd fun K hK => ?_
  obtain ⟨v', w', hrun, h2, h3, h4⟩ := run_app1 (P := P) w T o.type e hu hi base v L xs hown sp m c hx hbound hbase
  unfold Oper.wp execOp
  simp only [ho, resolve, invoke, builtin, Sem.run_bind, Sem.run_pure, Result.andThen_ok, List.map_toArray, List.map_cons, List.map_nil, hs, hsx, hrun]
  exact hK _ _ (h v' w' h2 h3 h4)
theorem srcI_one (w : World) (k : Int) : SrcI (w.alloc (.cells #[I k] 3)) (some ⟨w.heap.size, 0, none⟩) 1 [k] := (is_new w 3 [k]).src

set_option maxRecDepth 100000 in
set_option maxHeartbeats 1000000 in
theorem cloneI_any (A : Option Addr) (n c : Nat) (l : List Int) (w : World) (h : IS w A n c l) (hn : n ≤ 1000) :
    Calls Tryz.prog 38 #[.slice A n c] w fun e w' => ∃ v, e = .returned v ∧ OwnI w' w.heap.size v l ∧ Below w.heap.size w w' := by
  have H := Lib.hid h
  have HL := Lib.hid h.len
  clear h
  have heq := fun w => Lib.run_eql_slice_nil (P := Tryz.prog) w 46 3 A n c 0 0 Tryz.underlying46
  cases A with
  | none =>
    have hl : l = [] := by
      rcases Nat.eq_zero_or_pos n with h0 | h0
      · exact List.eq_nil_of_length_eq_zero (by rw [HL.out]; exact h0)
      · obtain ⟨b, off, e, _⟩ := H.out.rd.2 h0; cases e
    have HLN := Lib.hid hl
    clear hl
    go_enter Tryz.func38, Tryz.ntmps38
    go_wp2
    go_ret
    refine ⟨_, rfl, ?_, Below.refl _ _⟩
    rw [HLN.out]
    exact World.ownsRow_nil _ _ _ _
  | some ad =>
    go_enter Tryz.func38, Tryz.ntmps38
    go_wp2_with (first
      | (at_builtin
         refine wpList_app1 rfl (.tmp 5) (.tmp 6) 46 rfl 3 Tryz.underlying46 int_info w.heap.size (.slice (some ⟨w.heap.size, 0, none⟩) 0 0) [] l (some ad) n c rfl rfl (World.ownsRow_made w _ 0 (Nat.le_refl _) (by unfold maxLen; omega) (by simp)) (H.out.below ((Below.refl _ _).alloc (Nat.le_refl _) _)).src (by simp; omega) (by simp) ?_
         intro v2 w2 hown2 hgrow2 hat2)
      | fail)
    go_ret
    exact ⟨v2, rfl, by unfold OwnI; simpa using hown2, Below.grown ((Below.refl _ _).alloc (Nat.le_refl _) _) hgrow2 (by simp) (by simp [Value.ownBlock])⟩

theorem growI_own (w : World) (e : TypeId) (n : Nat) (h0 : 0 < n) (hn : n ≤ 1000) :
    (w.drew.alloc (.cells (Builtin.zeroCells (I 0).cells n ++ Builtin.zeroCells (I 0).cells (grownCap w n 0 e - n)) e)).ownsRow w.heap.size e 1 (.slice (some ⟨w.heap.size, 0, none⟩) 0 (grownCap w n 0 e)) ([] : List Int).length (([] : List Int).map I) := by
  have hge := grownCap_ge w n 0 e
  refine ⟨rfl, .inr ⟨w.heap.size, grownCap w n 0 e, _, rfl, Nat.le_refl _, heap_alloc_new w.drew _, Nat.zero_le _, grownCap_le_maxLen w n 0 e (by unfold maxLen; omega), ?_, rfl⟩⟩
  rw [Array.size_append, size_zeroCells, size_zeroCells]
  simp [Value.cells]
  omega

set_option maxRecDepth 100000 in
set_option maxHeartbeats 1000000 in
theorem GrowI_any (n : Nat) (w : World) (h0 : 0 < n) (hn : n ≤ 1000) :
    Calls Tryz.prog 201 #[.slice none 0 0, I n] w fun e w' => ∃ v, e = .returned v ∧ OwnI w' w.heap.size v [] ∧ Below w.heap.size w w' := by
  obtain ⟨i0, hi, hz0, hz1, hz2⟩ := info_parts int_info
  have hrun := fun ty => Lib.run_append_nil_zeros (P := Tryz.prog) w 46 3 ty 3 i0 _ .i64 .i64 Tryz.underlying46 Tryz.underlying3 hi hz0 n h0 (by omega) (by omega) (by rw [hz2]; omega)
  have HRUN := Lib.hid hrun
  have HOWN := Lib.hid (growI_own w 3 n h0 hn)
  have hge := grownCap_ge w n 0 3
  have HB : Hid (∀ o, Below w.heap.size w (w.drew.alloc o)) := fun o => ((Below.refl _ _).drew).alloc (Nat.le_refl _) _
  clear hi hz0 hz1 hz2 hrun
  go_enter Tryz.func201, Tryz.ntmps201
  go_wp2_with (at_builtin; refine Lib.wpList_append_run _ rfl (.tmp 20) (.tmp 21) _ _ rfl _ _ rfl rfl _ _ (HRUN.out _) ?_)
  generalize grownCap w n 0 3 = cap at *
  go_wp2
  go_ret
  exact ⟨_, rfl, HOWN.out, HB.out _⟩

/-- a slice of numbers, with what it reads as -/
structure SlI where
  A : Option Addr
  n : Nat
  c : Nat
  L : List Int
abbrev SlI.val (s : SlI) : Value := .slice s.A s.n s.c
abbrev slI0 : SlI := ⟨none, 0, 0, []⟩
def SlI.ok (w : World) (s : SlI) : Prop := IS w s.A s.n s.c s.L
/-- a slice of slices of numbers -/
structure RSI (w : World) (A : Option Addr) (m c : Nat) (es : List SlI) : Prop where
  len : es.length = m
  rd : Rd w w.heap.size 1 A m c (fun i _ => (es[i]?.getD slI0).val)
  each : ∀ s ∈ es, s.ok w
theorem RSI.below {w w' : World} {A : Option Addr} {m c : Nat} {es : List SlI} (h : RSI w A m c es) (hb : Below w.heap.size w w') : RSI w' A m c es := ⟨h.len, h.rd.below hb, fun s hs => IS.below (h.each s hs) hb⟩
theorem RSI.at_ {w : World} {A : Option Addr} {m c : Nat} {es : List SlI} (h : RSI w A m c es) (hm : 0 < m) :
    ∃ b off, A = some ⟨b, off, none⟩ ∧ b < w.heap.size ∧ ∀ i (hi : i < m), w.cell? ⟨b, off + i, none⟩ = some (es[i]'(by rw [h.len]; exact hi)).val := by
  obtain ⟨b, off, e, hb, hc⟩ := h.rd.2 hm
  refine ⟨b, off, e, hb, fun i hi => ?_⟩
  have hl : i < es.length := by rw [h.len]; exact hi
  have h0 := hc i hi 0 (by omega)
  simpa [List.getElem?_eq_getElem hl] using h0

def sumI (es : List SlI) : Nat := es.foldr (fun s n => s.n + n) 0
def catI (es : List SlI) : List Int := es.flatMap SlI.L
theorem sumI_append (a b : List SlI) : sumI (a ++ b) = sumI a + sumI b := by
  induction a with
  | nil => simp [sumI]
  | cons s t ih => simp only [sumI, List.cons_append, List.foldr_cons] at *; omega
theorem sumI_step (es : List SlI) (k : Nat) (h : k < es.length) : sumI (es.take (k + 1)) = sumI (es.take k) + es[k].n := by
  rw [List.take_succ_eq_append_getElem h, sumI_append]
  simp [sumI]
theorem sumI_take (es : List SlI) (k : Nat) : sumI (es.take k) ≤ sumI es := by
  conv => rhs; rw [← List.take_append_drop k es]
  rw [sumI_append]
  omega
theorem catI_step (es : List SlI) (k : Nat) (h : k < es.length) : catI (es.take (k + 1)) = catI (es.take k) ++ es[k].L := by
  unfold catI
  rw [List.take_succ_eq_append_getElem h, List.flatMap_append]
  simp only [List.flatMap_cons, List.flatMap_nil, List.append_nil]
theorem catI_len (es : List SlI) (w : World) (h : ∀ s ∈ es, s.ok w) : (catI es).length = sumI es := by
  induction es with
  | nil => rfl
  | cons s t ih =>
    have := (h s (by simp)).len
    have e : catI (s :: t) = s.L ++ catI t := rfl
    have e2 : sumI (s :: t) = s.n + sumI t := rfl
    rw [e, e2, List.length_append, ih (fun x hx => h x (by simp [hx])), this]

set_option maxRecDepth 100000 in
set_option maxHeartbeats 2000000 in
theorem ConcatI_any (A : Option Addr) (m c : Nat) (es : List SlI) (w : World) (h : RSI w A m c es) (hm : m ≤ 1000) (h0 : 0 < sumI es) (h1 : sumI es ≤ 1000) :
    Calls Tryz.prog 145 #[.slice A m c] w fun e w' => ∃ v, e = .returned v ∧ OwnI w' w.heap.size v (catI es) ∧ Below w.heap.size w w' := by
  have H := Lib.hid h
  have Hlen := Lib.hid h.len
  clear h
  go_enter Tryz.func145, Tryz.ntmps145
  go_wp2
  go_loop [3, 11] (fun t i => ∃ k : Nat, k ≤ m ∧ i = .int .i64 k ∧ t = .int .i64 (sumI (es.take k))) (fun _ i => m - (intOf i).toNat)
  case atStart => exact ⟨0, Nat.zero_le _, rfl, rfl⟩
  case round =>
    obtain ⟨k, hk, rfl, rfl⟩ := hrel
    by_cases hlt : k < m
    · obtain ⟨b, off, rfl, hb, hcs⟩ := H.out.at_ (by omega)
      have hkl : k < es.length := by rw [Hlen.out]; exact hlt
      have hc0 : w.cell? ⟨b, off + k, none⟩ = some es[k].val := hcs k hlt
      have hst := sumI_step es k hkl
      have hle := sumI_take es (k + 1)
      have HST := Lib.hid hst
      generalize es[k] = s at *
      have hb1 : sumI (es.take k) + s.n ≤ 1000 := by omega
      clear hst hle hcs
      generalize sumI (es.take k) = x at *
      go_wp2
      go_round
      case rel => exact ⟨k + 1, by omega, by go_num, by rw [HST.out]; go_num⟩
      case measure => simp [intOf]; omega
    · obtain rfl : k = m := by omega
      have ht : es.take k = es := List.take_of_length_le (by rw [Hlen.out]; exact Nat.le_refl _)
      rw [ht]
      clear ht
      obtain ⟨T, hT⟩ : ∃ T, sumI es = T := ⟨_, rfl⟩
      have HG := Lib.hid (GrowI_any (sumI es) w h0 h1)
      rw [hT] at HG h0 h1 ⊢
      have HT := Lib.hid hT
      clear hT hlt
      go_wp2_with fail
      refine HG.out.mono ?_
      rintro e w1 ⟨v1, rfl, hown1, hb1⟩
      have HO1 := Lib.hid hown1
      have HB1 := Lib.hid hb1
      clear hown1 hb1
      go_wp2
      go_loopw [6, 27] (fun v i wr => ∃ j : Nat, j ≤ k ∧ i = .int .i64 j ∧ OwnI wr w.heap.size v (catI (es.take j)) ∧ Below w.heap.size w wr) (fun _ i _ => k - (intOf i).toNat)
      case atStart => exact ⟨0, Nat.zero_le _, rfl, HO1.out, HB1.out⟩
      case round =>
        obtain ⟨j, hj, rfl, hown, hnx⟩ := hrel
        by_cases hlt : j < k
        · obtain ⟨b, off, rfl, hb, hcs⟩ := (H.out.below hnx).at_ (by omega)
          have hjl : j < es.length := by rw [Hlen.out]; exact hlt
          have hc0 : wr.cell? ⟨b, off + j, none⟩ = some es[j].val := hcs j hlt
          have hok : es[j].ok wr := (H.out.below hnx).each _ (List.getElem_mem hjl)
          have hst := catI_step es j hjl
          have hsum := sumI_step es j hjl
          have hle := sumI_take es (j + 1)
          have hcl := catI_len (es.take j) wr (fun s hs => (H.out.below hnx).each s (List.mem_of_mem_take hs))
          rw [HT.out] at hle
          have HST := Lib.hid hst
          have HOK := Lib.hid hok
          have HO := Lib.hid hown
          have HNX := Lib.hid hnx
          have hsz := hnx.size
          have hbd : (catI (es.take j)).length + es[j].n ≤ 1000 := by rw [hcl]; omega
          generalize es[j] = s at *
          clear hst hok hown hnx hcs hsum hle hcl
          go_wp2_with (at_builtin; refine wpList_app1 rfl (.tmp 31) (.tmp 32) 46 rfl 3 Tryz.underlying46 int_info w.heap.size u6 (catI (es.take j)) s.L s.A s.n s.c rfl rfl HO.out (IS.src HOK.out) (by omega) hsz ?_; intro v2 w2 hown2 hgrow2 _)
          have hb2 : Below w.heap.size w w2 := HNX.out.grown hgrow2 hsz (own_ge1 HO.out)
          have HB2 := Lib.hid hb2
          have HO2 : Hid (OwnI w2 w.heap.size v2 (catI (es.take (j + 1)))) := by
            show OwnI _ _ _ _
            rw [HST.out]
            exact hown2
          clear hown2 hgrow2 hb2
          go_roundw
          case rel => exact ⟨j + 1, by omega, by go_num, HO2.out, HB2.out⟩
          case measure => simp [intOf]; omega
        · have ht : es.take j = es := List.take_of_length_le (by rw [Hlen.out]; omega)
          rw [ht] at hown
          have HO := Lib.hid hown
          have HNX := Lib.hid hnx
          clear hown hnx ht
          go_wp2
          go_ret
          exact ⟨u6, rfl, HO.out, HNX.out⟩

end Go.Proofs.YtpnjnedfcdppaaaGreatDoor
