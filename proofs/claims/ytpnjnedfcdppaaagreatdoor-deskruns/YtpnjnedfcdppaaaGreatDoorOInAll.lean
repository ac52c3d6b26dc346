/-
  Joined texts: YtpnjnedfcdppaaaGreatDoorGInts, YtpnjnedfcdppaaaGreatDoorGSort, YtpnjnedfcdppaaaGreatDoorOIn.
-/
import Derived.Test.YtpnjnedfcdppaaaGreatDoorInts
import Derived.Lib.AppendZeros
import Derived.Deep.LoopGhost
import Derived.Test.YtpnjnedfcdppaaaGreatDoorGOfAll
import Derived.Test.YtpnjnedfcdppaaaGreatDoorGRefUAll
import Derived.Test.YtpnjnedfcdppaaaGreatDoorOSumAll
/-
  ROWS OF NUMBERS: append, slices.Clone, slices.Grow at nil, slices.Concat at int.
-/
namespace Go.Proofs.YtpnjnedfcdppaaaGreatDoor
open Go.RowKit

/-- what is read by append -/
def SrcI (w : World) (sp : Option Addr) (m : Nat) (xs : List Int) : Prop := xs.length = m ∧ (0 < m → ∃ ad, sp = some ad ∧ ∀ j u, (xs.map I)[j]? = some u → w.cell? (ad.add j) = some u)
theorem IS.src {w : World} {n c : Nat} {A : Option Addr} {l : List Int} (h : IS w A n c l) : SrcI w A n l := by
  refine ⟨h.len, fun hn => ?_⟩
  obtain ⟨b, off, e, hb, hc⟩ := h.at_ hn
  refine ⟨_, e, fun j u hu => ?_⟩
  rw [List.getElem?_map, Option.map_eq_some_iff] at hu
  obtain ⟨x, hx, rfl⟩ := hu
  obtain ⟨hj, rfl⟩ := List.getElem?_eq_some_iff.1 hx
  have := hc j (by rw [← h.len]; exact hj)
  rw [show (⟨b, off, none⟩ : Addr).add j = ⟨b, off + j, none⟩ by by_cases h0 : j = 0 <;> simp [Addr.add, h0]]
  exact this
theorem mapI_one (l : List Int) : ∀ u ∈ l.map I, u.oneCell' = true := by
  intro u hu
  obtain ⟨x, _, rfl⟩ := List.mem_map.1 hu
  rfl
theorem run_app1 {P : Program} (w : World) (T ty e : TypeId) (hu : P.underlying T = some (.slice e)) (hi : (P.info? e).map (fun i => (i.zero, i.size, i.bytes)) = some (some (I 0), 1, 8))
    (base : Nat) (v : Value) (L xs : List Int) (hown : w.ownsRow base e 1 v L.length (L.map I)) (sp : Option Addr) (m c : Nat) (hx : SrcI w sp m xs) (hbound : L.length + m ≤ 1000000) (hbase : base ≤ w.heap.size) :
    ∃ v' w', (Builtin.append_ #[T, T] ty #[v, .slice sp m c]).run P w = .ok v' w' ∧ w'.ownsRow base e 1 v' (L ++ xs).length ((L ++ xs).map I) ∧ w.grownBy w' v.ownBlock ∧ (v'.ownBlock = v.ownBlock ∨ v'.ownBlock = some w.heap.size) := by
  obtain ⟨i, h1, hz, hs, hb⟩ := info_parts hi
  cases sp with
  | some ad =>
    have hcl : (xs.map I).length = m * 1 := by simp [hx.1]
    have hcells : ∀ j u, (xs.map I)[j]? = some u → w.cell? (ad.add j) = some u := by
      intro j u hu'
      rcases Nat.eq_zero_or_pos m with h0 | h0
      · have : xs = [] := List.eq_nil_of_length_eq_zero (hx.1.trans h0)
        subst this
        simp at hu'
      · obtain ⟨ad', e', hc⟩ := hx.2 h0
        cases e'
        exact hc j u hu'
    obtain ⟨v', w', hr, h2, h3, _, h5⟩ := run_append_own_at (P := P) w base T ty e i _ 1 8 hu h1 hz hs hb rfl (by decide) v L.length (L.map I) hown ad m c (xs.map I) hcl hcells (mapI_one xs) (by unfold maxLen; omega) (by omega) hbase
    refine ⟨v', w', hr, ?_, h3, h5⟩
    rw [List.map_append, List.length_append, hx.1]
    exact h2
  | none =>
    have hm : m = 0 := by
      rcases Nat.eq_zero_or_pos m with h0 | h0
      · exact h0
      · obtain ⟨_, e', _⟩ := hx.2 h0; cases e'
    subst hm
    have hxs : xs = [] := List.eq_nil_of_length_eq_zero hx.1
    subst hxs
    refine ⟨v, w, ?_, by simpa using hown, World.grownBy.refl w _, .inl rfl⟩
    rcases hown.2 with ⟨rfl, h0⟩ | ⟨g, cap, cur, rfl, _, _, hnc, _⟩
    · simp [Builtin.append_, run_underlying hu, sizeOf, typeInfo, h1, Builtin.lenOf, Builtin.firstCells]
    · simp [Builtin.append_, run_underlying hu, sizeOf, typeInfo, h1, Builtin.lenOf, Builtin.firstCells, hnc, storeCells]
theorem wpList_app1 {P : Program} {w : World} {ops : Array Oper} {rest : List Oper} {o : Oper} {a : Act} {Q : Exit → Act → World → Prop} (hgd : o.guard = none) (s x : Operand) (T : TypeId)
    (ho : o.op = .call { callee := .builtin .append, args := #[s, x], argTypes := #[T, T] }) (e : TypeId) (hu : P.underlying T = some (.slice e)) (hi : (P.info? e).map (fun i => (i.zero, i.size, i.bytes)) = some (some (I 0), 1, 8))
    (base : Nat) (v : Value) (L xs : List Int) (sp : Option Addr) (m c : Nat) (hs : a.eval s = v) (hsx : a.eval x = .slice sp m c) (hown : w.ownsRow base e 1 v L.length (L.map I)) (hx : SrcI w sp m xs) (hbound : L.length + m ≤ 1000000) (hbase : base ≤ w.heap.size)
    (h : ∀ v' w', w'.ownsRow base e 1 v' (L ++ xs).length ((L ++ xs).map I) → w.grownBy w' v.ownBlock → (v'.ownBlock = v.ownBlock ∨ v'.ownBlock = some w.heap.size) → wpList P ops Q rest (a.put o.dst v') w') : wpList P ops Q (o :: rest) a w := by
  refine wpList_plain hgd fun K hK => ?_
  obtain ⟨v', w', hrun, h2, h3, h4⟩ := run_app1 (P := P) w T o.type e hu hi base v L xs hown sp m c hx hbound hbase
  unfold Oper.wp execOp
  simp only [ho, resolve, invoke, builtin, Sem.run_bind, Sem.run_pure, Result.andThen_ok, List.map_toArray, List.map_cons, List.map_nil, hs, hsx, hrun]
  exact hK _ _ (h v' w' h2 h3 h4)
theorem srcI_one (w : World) (k : Int) : SrcI (w.alloc (.cells #[I k] 3)) (some ⟨w.heap.size, 0, none⟩) 1 [k] := (is_new w 3 [k]).src

set_option maxRecDepth 100000 in
set_option maxHeartbeats 1000000 in
theorem cloneI_any (A : Option Addr) (n c : Nat) (l : List Int) (w : World) (h : IS w A n c l) (hn : n ≤ 1000) :
    Calls Tryz.prog 38 #[.slice A n c] w fun e w' => ∃ v, e = .returned v ∧ OwnI w' w.heap.size v l ∧ Below w.heap.size w w' := by
  have H := Lib.hid h
  have HL := Lib.hid h.len
  clear h
  have heq := fun w => Lib.run_eql_slice_nil (P := Tryz.prog) w 46 3 A n c 0 0 Tryz.underlying46
  cases A with
  | none =>
    have hl : l = [] := by
      rcases Nat.eq_zero_or_pos n with h0 | h0
      · exact List.eq_nil_of_length_eq_zero (by rw [HL.out]; exact h0)
      · obtain ⟨b, off, e, _⟩ := H.out.rd.2 h0; cases e
    have HLN := Lib.hid hl
    clear hl
    go_enter Tryz.func38, Tryz.ntmps38
    go_wp2
    go_ret
    refine ⟨_, rfl, ?_, Below.refl _ _⟩
    rw [HLN.out]
    exact World.ownsRow_nil _ _ _ _
  | some ad =>
    go_enter Tryz.func38, Tryz.ntmps38
    go_wp2_with (first
      | (at_builtin
         refine wpList_app1 rfl (.tmp 5) (.tmp 6) 46 rfl 3 Tryz.underlying46 int_info w.heap.size (.slice (some ⟨w.heap.size, 0, none⟩) 0 0) [] l (some ad) n c rfl rfl (World.ownsRow_made w _ 0 (Nat.le_refl _) (by unfold maxLen; omega) (by simp)) (H.out.below ((Below.refl _ _).alloc (Nat.le_refl _) _)).src (by simp; omega) (by simp) ?_
         intro v2 w2 hown2 hgrow2 hat2)
      | fail)
    go_ret
    exact ⟨v2, rfl, by unfold OwnI; simpa using hown2, Below.grown ((Below.refl _ _).alloc (Nat.le_refl _) _) hgrow2 (by simp) (by simp [Value.ownBlock])⟩

theorem growI_own (w : World) (e : TypeId) (n : Nat) (h0 : 0 < n) (hn : n ≤ 1000) :
    (w.drew.alloc (.cells (Builtin.zeroCells (I 0).cells n ++ Builtin.zeroCells (I 0).cells (grownCap w n 0 e - n)) e)).ownsRow w.heap.size e 1 (.slice (some ⟨w.heap.size, 0, none⟩) 0 (grownCap w n 0 e)) ([] : List Int).length (([] : List Int).map I) := by
  have hge := grownCap_ge w n 0 e
  refine ⟨rfl, .inr ⟨w.heap.size, grownCap w n 0 e, _, rfl, Nat.le_refl _, heap_alloc_new w.drew _, Nat.zero_le _, grownCap_le_maxLen w n 0 e (by unfold maxLen; omega), ?_, rfl⟩⟩
  rw [Array.size_append, size_zeroCells, size_zeroCells]
  simp [Value.cells]
  omega

set_option maxRecDepth 100000 in
set_option maxHeartbeats 1000000 in
theorem GrowI_any (n : Nat) (w : World) (h0 : 0 < n) (hn : n ≤ 1000) :
    Calls Tryz.prog 201 #[.slice none 0 0, I n] w fun e w' => ∃ v, e = .returned v ∧ OwnI w' w.heap.size v [] ∧ Below w.heap.size w w' := by
  obtain ⟨i0, hi, hz0, hz1, hz2⟩ := info_parts int_info
  have hrun := fun ty => Lib.run_append_nil_zeros (P := Tryz.prog) w 46 3 ty 3 i0 _ .i64 .i64 Tryz.underlying46 Tryz.underlying3 hi hz0 n h0 (by omega) (by omega) (by rw [hz2]; omega)
  have HRUN := Lib.hid hrun
  have HOWN := Lib.hid (growI_own w 3 n h0 hn)
  have hge := grownCap_ge w n 0 3
  have HB : Hid (∀ o, Below w.heap.size w (w.drew.alloc o)) := fun o => ((Below.refl _ _).drew).alloc (Nat.le_refl _) _
  clear hi hz0 hz1 hz2 hrun
  go_enter Tryz.func201, Tryz.ntmps201
  go_wp2_with (at_builtin; refine Lib.wpList_append_run _ rfl (.tmp 20) (.tmp 21) _ _ rfl _ _ rfl rfl _ _ (HRUN.out _) ?_)
  generalize grownCap w n 0 3 = cap at *
  go_wp2
  go_ret
  exact ⟨_, rfl, HOWN.out, HB.out _⟩

/-- a slice of numbers, with what it reads as -/
structure SlI where
  A : Option Addr
  n : Nat
  c : Nat
  L : List Int
abbrev SlI.val (s : SlI) : Value := .slice s.A s.n s.c
abbrev slI0 : SlI := ⟨none, 0, 0, []⟩
def SlI.ok (w : World) (s : SlI) : Prop := IS w s.A s.n s.c s.L
/-- a slice of slices of numbers -/
structure RSI (w : World) (A : Option Addr) (m c : Nat) (es : List SlI) : Prop where
  len : es.length = m
  rd : Rd w w.heap.size 1 A m c (fun i _ => (es[i]?.getD slI0).val)
  each : ∀ s ∈ es, s.ok w
theorem RSI.below {w w' : World} {A : Option Addr} {m c : Nat} {es : List SlI} (h : RSI w A m c es) (hb : Below w.heap.size w w') : RSI w' A m c es := ⟨h.len, h.rd.below hb, fun s hs => IS.below (h.each s hs) hb⟩
theorem RSI.at_ {w : World} {A : Option Addr} {m c : Nat} {es : List SlI} (h : RSI w A m c es) (hm : 0 < m) :
    ∃ b off, A = some ⟨b, off, none⟩ ∧ b < w.heap.size ∧ ∀ i (hi : i < m), w.cell? ⟨b, off + i, none⟩ = some (es[i]'(by rw [h.len]; exact hi)).val := by
  obtain ⟨b, off, e, hb, hc⟩ := h.rd.2 hm
  refine ⟨b, off, e, hb, fun i hi => ?_⟩
  have hl : i < es.length := by rw [h.len]; exact hi
  have h0 := hc i hi 0 (by omega)
  simpa [List.getElem?_eq_getElem hl] using h0

def sumI (es : List SlI) : Nat := es.foldr (fun s n => s.n + n) 0
def catI (es : List SlI) : List Int := es.flatMap SlI.L
theorem sumI_append (a b : List SlI) : sumI (a ++ b) = sumI a + sumI b := by
  induction a with
  | nil => simp [sumI]
  | cons s t ih => simp only [sumI, List.cons_append, List.foldr_cons] at *; omega
theorem sumI_step (es : List SlI) (k : Nat) (h : k < es.length) : sumI (es.take (k + 1)) = sumI (es.take k) + es[k].n := by
  rw [List.take_succ_eq_append_getElem h, sumI_append]
  simp [sumI]
theorem sumI_take (es : List SlI) (k : Nat) : sumI (es.take k) ≤ sumI es := by
  conv => rhs; rw [← List.take_append_drop k es]
  rw [sumI_append]
  omega
theorem catI_step (es : List SlI) (k : Nat) (h : k < es.length) : catI (es.take (k + 1)) = catI (es.take k) ++ es[k].L := by
  unfold catI
  rw [List.take_succ_eq_append_getElem h, List.flatMap_append]
  simp only [List.flatMap_cons, List.flatMap_nil, List.append_nil]
theorem catI_len (es : List SlI) (w : World) (h : ∀ s ∈ es, s.ok w) : (catI es).length = sumI es := by
  induction es with
  | nil => rfl
  | cons s t ih =>
    have := (h s (by simp)).len
    have e : catI (s :: t) = s.L ++ catI t := rfl
    have e2 : sumI (s :: t) = s.n + sumI t := rfl
    rw [e, e2, List.length_append, ih (fun x hx => h x (by simp [hx])), this]

set_option maxRecDepth 100000 in
set_option maxHeartbeats 2000000 in
theorem ConcatI_any (A : Option Addr) (m c : Nat) (es : List SlI) (w : World) (h : RSI w A m c es) (hm : m ≤ 1000) (h0 : 0 < sumI es) (h1 : sumI es ≤ 1000) :
    Calls Tryz.prog 145 #[.slice A m c] w fun e w' => ∃ v, e = .returned v ∧ OwnI w' w.heap.size v (catI es) ∧ Below w.heap.size w w' := by
  have H := Lib.hid h
  have Hlen := Lib.hid h.len
  clear h
  go_enter Tryz.func145, Tryz.ntmps145
  go_wp2
  go_loop [3, 11] (fun t i => ∃ k : Nat, k ≤ m ∧ i = .int .i64 k ∧ t = .int .i64 (sumI (es.take k))) (fun _ i => m - (intOf i).toNat)
  case atStart => exact ⟨0, Nat.zero_le _, rfl, rfl⟩
  case round =>
    obtain ⟨k, hk, rfl, rfl⟩ := hrel
    by_cases hlt : k < m
    · obtain ⟨b, off, rfl, hb, hcs⟩ := H.out.at_ (by omega)
      have hkl : k < es.length := by rw [Hlen.out]; exact hlt
      have hc0 : w.cell? ⟨b, off + k, none⟩ = some es[k].val := hcs k hlt
      have hst := sumI_step es k hkl
      have hle := sumI_take es (k + 1)
      have HST := Lib.hid hst
      generalize es[k] = s at *
      have hb1 : sumI (es.take k) + s.n ≤ 1000 := by omega
      clear hst hle hcs
      generalize sumI (es.take k) = x at *
      go_wp2
      go_round
      case rel => exact ⟨k + 1, by omega, by go_num, by rw [HST.out]; go_num⟩
      case measure => simp [intOf]; omega
    · obtain rfl : k = m := by omega
      have ht : es.take k = es := List.take_of_length_le (by rw [Hlen.out]; exact Nat.le_refl _)
      rw [ht]
      clear ht
      obtain ⟨T, hT⟩ : ∃ T, sumI es = T := ⟨_, rfl⟩
      have HG := Lib.hid (GrowI_any (sumI es) w h0 h1)
      rw [hT] at HG h0 h1 ⊢
      have HT := Lib.hid hT
      clear hT hlt
      go_wp2_with fail
      refine HG.out.mono ?_
      rintro e w1 ⟨v1, rfl, hown1, hb1⟩
      have HO1 := Lib.hid hown1
      have HB1 := Lib.hid hb1
      clear hown1 hb1
      go_wp2
      go_loopw [6, 27] (fun v i wr => ∃ j : Nat, j ≤ k ∧ i = .int .i64 j ∧ OwnI wr w.heap.size v (catI (es.take j)) ∧ Below w.heap.size w wr) (fun _ i _ => k - (intOf i).toNat)
      case atStart => exact ⟨0, Nat.zero_le _, rfl, HO1.out, HB1.out⟩
      case round =>
        obtain ⟨j, hj, rfl, hown, hnx⟩ := hrel
        by_cases hlt : j < k
        · obtain ⟨b, off, rfl, hb, hcs⟩ := (H.out.below hnx).at_ (by omega)
          have hjl : j < es.length := by rw [Hlen.out]; exact hlt
          have hc0 : wr.cell? ⟨b, off + j, none⟩ = some es[j].val := hcs j hlt
          have hok : es[j].ok wr := (H.out.below hnx).each _ (List.getElem_mem hjl)
          have hst := catI_step es j hjl
          have hsum := sumI_step es j hjl
          have hle := sumI_take es (j + 1)
          have hcl := catI_len (es.take j) wr (fun s hs => (H.out.below hnx).each s (List.mem_of_mem_take hs))
          rw [HT.out] at hle
          have HST := Lib.hid hst
          have HOK := Lib.hid hok
          have HO := Lib.hid hown
          have HNX := Lib.hid hnx
          have hsz := hnx.size
          have hbd : (catI (es.take j)).length + es[j].n ≤ 1000 := by rw [hcl]; omega
          generalize es[j] = s at *
          clear hst hok hown hnx hcs hsum hle hcl
          go_wp2_with (at_builtin; refine wpList_app1 rfl (.tmp 31) (.tmp 32) 46 rfl 3 Tryz.underlying46 int_info w.heap.size u6 (catI (es.take j)) s.L s.A s.n s.c rfl rfl HO.out (IS.src HOK.out) (by omega) hsz ?_; intro v2 w2 hown2 hgrow2 _)
          have hb2 : Below w.heap.size w w2 := HNX.out.grown hgrow2 hsz (own_ge1 HO.out)
          have HB2 := Lib.hid hb2
          have HO2 : Hid (OwnI w2 w.heap.size v2 (catI (es.take (j + 1)))) := by
            show OwnI _ _ _ _
            rw [HST.out]
            exact hown2
          clear hown2 hgrow2 hb2
          go_roundw
          case rel => exact ⟨j + 1, by omega, by go_num, HO2.out, HB2.out⟩
          case measure => simp [intOf]; omega
        · have ht : es.take j = es := List.take_of_length_le (by rw [Hlen.out]; omega)
          rw [ht] at hown
          have HO := Lib.hid hown
          have HNX := Lib.hid hnx
          clear hown hnx ht
          go_wp2
          go_ret
          exact ⟨u6, rfl, HO.out, HNX.out⟩

end Go.Proofs.YtpnjnedfcdppaaaGreatDoor

/-
  sorted, Sort: by the first one; how often two were held against each other.
-/
namespace Go.Proofs.YtpnjnedfcdppaaaGreatDoor
open Go.RowKit

def RetGs (L : List Int) (k : Int) (w : World) (e : Ending) (w' : World) : Prop := ∃ A n c, e = .returned (.tuple #[.slice A n c, I k]) ∧ IS w' A n c L ∧ Below w.heap.size w w'

theorem gown_lt {w : World} {base e s n : Nat} {v : Value} {xs : List Value} (h : w.ownsRow base e s v n xs) : ∀ g, v.ownBlock = some g → g < w.heap.size := by
  intro g hg
  rcases h.2 with ⟨rfl, _⟩ | ⟨g', cap, cur, rfl, _, hh, _⟩
  · simp [Value.ownBlock] at hg
  · simp [Value.ownBlock] at hg
    subst hg
    exact (Array.getElem?_eq_some_iff.1 hh).1
/-- two rows lie in two blocks -/
def Apt (u v : Value) : Prop := ∀ g, u.ownBlock = some g → v.ownBlock ≠ some g
theorem Apt.symm {u v : Value} (h : Apt u v) : Apt v u := fun g hg hu => h g hu hg
theorem Apt.or {u v : Value} (h : Apt u v) : u.ownBlock = none ∨ u.ownBlock ≠ v.ownBlock := by
  cases hu : u.ownBlock with
  | none => exact .inl rfl
  | some g => exact .inr fun e => h g hu e.symm
/-- one more onto the row u, beside the row v -/
theorem app_beside {w w' : World} {base : Nat} {u u' v : Value} {L : List Int} (hv : OwnI w base v L) (ha : Apt u v) (o : Obj) (hg : (w.alloc o).grownBy w' u.ownBlock) (hat : u'.ownBlock = u.ownBlock ∨ u'.ownBlock = some (w.alloc o).heap.size) :
    OwnI w' base v L ∧ Apt u' v := by
  have hv1 : (w.alloc o).ownsRow base 3 1 v L.length (L.map I) := own_below hv ((Below.refl _ _).alloc (Nat.le_refl _) _)
  refine ⟨hv1.kept hg ha.symm.or, fun g hgu hgv => ?_⟩
  rcases hat with e | e
  · exact ha g (by rw [← e]; exact hgu) hgv
  · have := gown_lt hv g hgv
    rw [e] at hgu
    simp at hgu
    omega
theorem lo_snoc (x y : Int) (l : List Int) : lo x (l ++ [y]) = if y < x then lo x l ++ [y] else lo x l := by
  unfold lo
  by_cases h : y < x <;> simp [h]
theorem hi_snoc (x y : Int) (l : List Int) : hi x (l ++ [y]) = if y < x then hi x l else hi x l ++ [y] := by
  unfold hi
  by_cases h : y < x <;> simp [h]
theorem rsi_three {w : World} {g t : Nat} {a b c : SlI} (hh : w.heap[g]? = some (.cells #[a.val, b.val, c.val] t (0, 0))) (ha : a.ok w) (hb : b.ok w) (hc : c.ok w) : RSI w (some ⟨g, 0, none⟩) 3 3 [a, b, c] := by
  refine ⟨rfl, ⟨Nat.le_refl _, fun _ => ⟨g, 0, rfl, (Array.getElem?_eq_some_iff.1 hh).1, fun i hi j hj => ?_⟩⟩, fun s hs => ?_⟩
  · obtain rfl : j = 0 := by omega
    match i, hi with
    | 0, _ => simp [World.cell?, hh]
    | 1, _ => simp [World.cell?, hh]
    | 2, _ => simp [World.cell?, hh]
  · simp at hs
    rcases hs with rfl | rfl | rfl
    · exact ha
    · exact hb
    · exact hc

set_option maxRecDepth 100000 in
set_option maxHeartbeats 4000000 in
theorem sorted_any : ∀ (m : Nat) (l : List Int), l.length ≤ m → ∀ (A : Option Addr) (n c : Nat) (w : World), IS w A n c l → n ≤ 200 →
    Calls Tryz.prog 75 #[.slice A n c] w (RetGs (qs l) (hel l) w) := by
  intro m
  induction m with
  | zero =>
    intro l hl A n c w h hn
    have hl0 : l = [] := List.eq_nil_of_length_eq_zero (by omega)
    have hn0 : n = 0 := by rw [← h.len, hl0]; rfl
    subst hn0
    subst hl0
    have HC := Lib.hid (cloneI_any A 0 c [] w h (by omega))
    clear h hl hn
    rw [qs_nil, hel_nil]
    go_enter Tryz.func75, Tryz.ntmps75
    go_wp2_with fail
    refine HC.out.mono ?_
    rintro e w1 ⟨v, rfl, ho, hb⟩
    obtain ⟨A1, c1, rfl, his, _⟩ := OwnI.is_ ho
    go_wp2
    go_ret2
    exact ⟨A1, _, c1, rfl, his, hb⟩
  | succ m ih =>
    intro l hl A n c w h hn
    by_cases h2 : n < 2
    · have hq : qs l = l ∧ hel l = 0 := by
        match l, h.len with
        | [], _ => exact ⟨qs_nil, hel_nil⟩
        | [x], _ => exact ⟨by rw [qs_cons]; simp [lo, hi, qs_nil], by rw [hel_cons]; simp [lo, hi, hel_nil]⟩
        | x :: y :: r, e => simp at e; omega
      rw [hq.1, hq.2]
      have HC := Lib.hid (cloneI_any A n c l w h (by omega))
      have h2' : (n : Int) < 2 := by omega
      clear h hl hn hq ih
      go_enter Tryz.func75, Tryz.ntmps75
      go_wp2_with fail
      refine HC.out.mono ?_
      rintro e w1 ⟨v, rfl, ho, hb⟩
      obtain ⟨A1, c1, rfl, his, _⟩ := OwnI.is_ ho
      go_wp2
      go_ret2
      exact ⟨A1, _, c1, rfl, his, hb⟩
    · match l, h.len, hl with
      | [], e, _ => simp at e; omega
      | x :: r, hlen, hl =>
      have hrl : r.length = n - 1 := by simp at hlen; omega
      have hcap := h.rd.1
      obtain ⟨b, off, rfl, hb, hc⟩ := h.at_ (by omega)
      have hc0 : w.cell? ⟨b, off, none⟩ = some (I x) := by simpa using hc 0 (by omega)
      have HT : Hid (IS w (some ⟨b, off + 1, none⟩) (n - 1) (c - 1) r) := by
        have := h.drop (c' := c - 1) 1 (by omega) (some ⟨b, off + 1, none⟩) (fun _ b' off' e => by cases e; rfl) (by omega)
        simp only [List.drop_succ_cons, List.drop_zero] at this
        exact this
      have hlh := lo_hi x r
      have b1 := hel_bd _ (lo x r) (Nat.le_refl _) (by omega)
      have b2 := hel_bd _ (hi x r) (Nat.le_refl _) (by omega)
      have l1 := qs_length _ (lo x r) (Nat.le_refl _)
      have l2 := qs_length _ (hi x r) (Nat.le_refl _)
      have hll : (lo x r).length ≤ 200 := by omega
      have hhl : (hi x r).length ≤ 200 := by omega
      have hll2 : (lo x r).length ≤ m := by simp at hl; omega
      have hhl2 : (hi x r).length ≤ m := by simp at hl; omega
      have hxl : ((lo x r).length : Int) + (hi x r).length = (n : Int) - 1 := by omega
      have IH := Lib.hid ih
      have HRL := Lib.hid hrl
      have L1 := Lib.hid l1
      have L2 := Lib.hid l2
      have h2' : ¬ (n : Int) < 2 := by omega
      have hn0 : 0 < n := by omega
      have hc1 : c ≠ 1 := by omega
      have h1c : 1 ≤ n := by omega
      rw [qs_cons, hel_cons]
      clear h hc ih hlen hl hrl l1 l2
      go_enter Tryz.func75, Tryz.ntmps75
      go_wp2
      go_quiet (fail)
      · skip
        have HT0 : Hid (IS (w.drewN nq) (some ⟨b, off + 1, none⟩) (n - 1) (c - 1) r) := HT.out.below (below_drewN (Below.refl _ _) nq)
        have HW0 : Hid (Below w.heap.size w (w.drewN nq)) := below_drewN (Below.refl _ _) nq
        have hs0 : (w.drewN nq).heap.size = w.heap.size := rfl
        generalize w.drewN nq = W0 at *
        go_wp2
        go_loopg [6, 7, 26] (n - 1) (fun m' u v i wr => ∃ j : Nat, j ≤ n - 1 ∧ n - 1 - j ≤ m' ∧ i = .int .i64 j ∧ OwnI wr w.heap.size u (lo x (r.take j)) ∧ OwnI wr w.heap.size v (hi x (r.take j)) ∧ Apt u v ∧ Below w.heap.size w wr)
        case atStart => exact ⟨0, Nat.zero_le _, by omega, rfl, World.ownsRow_nil _ _ _ _, World.ownsRow_nil _ _ _ _, fun g hg => by simp [Value.ownBlock] at hg, HW0.out⟩
        case round =>
          obtain ⟨j, hj, hjm, rfl, ho6, ho7, hap, hnx⟩ := hrel
          have HO6 := Lib.hid ho6
          have HO7 := Lib.hid ho7
          have HAP := Lib.hid hap
          have HNX := Lib.hid hnx
          have hsz := hnx.size
          clear ho6 ho7 hap hnx
          by_cases hjn : j < n - 1
          · obtain ⟨b', off', e', hb', hc'⟩ := HT.out.at_ (by omega)
            cases e'
            have hjr : j < r.length := by rw [HRL.out]; exact hjn
            have hcj : wr.cell? ⟨b, off + 1 + j, none⟩ = some (I r[j]) := (HNX.out.cell (by exact hb)).trans (hc' j hjn)
            have hts := take_snoc hjr
            have HLO := Lib.hid (show lo x (r.take (j + 1)) = if r[j] < x then lo x (r.take j) ++ [r[j]] else lo x (r.take j) by rw [hts]; exact lo_snoc x r[j] (r.take j))
            have HHI := Lib.hid (show hi x (r.take (j + 1)) = if r[j] < x then hi x (r.take j) else hi x (r.take j) ++ [r[j]] by rw [hts]; exact hi_snoc x r[j] (r.take j))
            have hl6 : (lo x (r.take j)).length ≤ 200 := by have := lo_le x (r.take j); rw [List.length_take] at this; omega
            have hl7 : (hi x (r.take j)).length ≤ 200 := by have := hi_le x (r.take j); rw [List.length_take] at this; omega
            clear hc' hts
            generalize r[j] = y at hcj HLO HHI
            by_cases hyx : y < x
            · rw [if_pos hyx] at HLO HHI
              go_wp2_with (first
                | (at_builtin
                   refine wpList_app1 rfl (.tmp 33) (.tmp 35) 46 rfl 3 Tryz.underlying46 int_info w.heap.size u6 (lo x (r.take j)) [y] (some ⟨wr.heap.size, 0, none⟩) 1 1 rfl rfl (own_below HO6.out ((Below.refl _ _).alloc (Nat.le_refl _) _)) (srcI_one wr y) (by omega) (by simp; omega) ?_
                   intro v2 w2 hown2 hgrow2 hat2)
                | fail)
              have hbs := app_beside HO7.out HAP.out _ hgrow2 hat2
              have HB2 := Lib.hid ((HNX.out.alloc hsz _).grown hgrow2 (by simp; omega) (own_ge1 HO6.out))
              have HOW := Lib.hid hown2
              have HBS := Lib.hid hbs
              clear hown2 hgrow2 hat2 hbs
              go_wp2
              go_roundg (gk - 1)
              case measure => omega
              case rel => exact ⟨j + 1, by omega, by omega, by go_num, by rw [HLO.out]; exact HOW.out, by rw [HHI.out]; exact HBS.out.1, HBS.out.2, HB2.out⟩
            · rw [if_neg hyx] at HLO HHI
              go_wp2_with (first
                | (at_builtin
                   refine wpList_app1 rfl (.tmp 37) (.tmp 39) 46 rfl 3 Tryz.underlying46 int_info w.heap.size u7 (hi x (r.take j)) [y] (some ⟨wr.heap.size, 0, none⟩) 1 1 rfl rfl (own_below HO7.out ((Below.refl _ _).alloc (Nat.le_refl _) _)) (srcI_one wr y) (by omega) (by simp; omega) ?_
                   intro v2 w2 hown2 hgrow2 hat2)
                | fail)
              have hbs := app_beside HO6.out HAP.out.symm _ hgrow2 hat2
              have HB2 := Lib.hid ((HNX.out.alloc hsz _).grown hgrow2 (by simp; omega) (own_ge1 HO7.out))
              have HOW := Lib.hid hown2
              have HBS := Lib.hid hbs
              clear hown2 hgrow2 hat2 hbs
              go_wp2
              go_roundg (gk - 1)
              case measure => omega
              case rel => exact ⟨j + 1, by omega, by omega, by go_num, by rw [HLO.out]; exact HBS.out.1, by rw [HHI.out]; exact HOW.out, HBS.out.2.symm, HB2.out⟩
          · have ht : r.take j = r := List.take_of_length_le (by rw [HRL.out]; omega)
            rw [ht] at HO6 HO7
            obtain ⟨A6, c6, e6, h6, _⟩ := OwnI.is_ HO6.out
            obtain ⟨A7, c7, e7, h7, _⟩ := OwnI.is_ HO7.out
            subst e6 e7
            have H7 := Lib.hid h7
            have HI6 := Lib.hid (IH.out (lo x r) hll2 A6 _ c6 wr h6 hll)
            clear ht h6 h7 HO6 HO7 HAP
            go_wp2_with fail
            refine HI6.out.mono ?_
            rintro e w2 ⟨A2, n2, c2, rfl, his2, hb2⟩
            have HI7 := Lib.hid (IH.out (hi x r) hhl2 A7 _ c7 w2 (H7.out.below hb2) hhl)
            have HS2 := Lib.hid his2
            have HB2 := Lib.hid hb2
            clear his2 hb2 HI6
            go_wp2_with fail
            refine HI7.out.mono ?_
            rintro e w3 ⟨A3, n3, c3, rfl, his3, hb3⟩
            have HS3 := Lib.hid his3
            have HB3 := Lib.hid hb3
            have HS2' := Lib.hid (HS2.out.below hb3)
            clear his3 hb3 HI7
            have hn2 : n2 = (lo x r).length := by rw [← HS2.out.len, L1.out]
            have hn3 : n3 = (hi x r).length := by rw [← HS3.out.len, L2.out]
            have HN2 := Lib.hid hn2
            have HN3 := Lib.hid hn3
            have hbB : Below w3.heap.size w3 ((w3.alloc (.cells #[I x] 3)).alloc (.cells #[.slice A2 n2 c2, .slice (some ⟨w3.heap.size, 0, none⟩) 1 1, .slice A3 n3 c3] 46)) := ((Below.refl _ _).alloc (Nat.le_refl _) _).alloc (by simp) _
            have HRS := Lib.hid (rsi_three (w := (w3.alloc (.cells #[I x] 3)).alloc (.cells #[.slice A2 n2 c2, .slice (some ⟨w3.heap.size, 0, none⟩) 1 1, .slice A3 n3 c3] 46)) (g := w3.heap.size + 1) (t := 46) (a := ⟨A2, n2, c2, qs (lo x r)⟩) (b := ⟨some ⟨w3.heap.size, 0, none⟩, 1, 1, [x]⟩) (c := ⟨A3, n3, c3, qs (hi x r)⟩)
              (by have := heap_alloc_new (w3.alloc (.cells #[I x] 3)) (.cells #[.slice A2 n2 c2, .slice (some ⟨w3.heap.size, 0, none⟩) 1 1, .slice A3 n3 c3] 46); simpa using this)
              (HS2'.out.below hbB) ((is_new w3 3 [x]).alloc _) (HS3.out.below hbB))
            have HBB := Lib.hid hbB
            clear hn2 hn3 hbB
            have hsum : sumI [(⟨A2, n2, c2, qs (lo x r)⟩ : SlI), ⟨some ⟨w3.heap.size, 0, none⟩, 1, 1, [x]⟩, ⟨A3, n3, c3, qs (hi x r)⟩] = n2 + (1 + (n3 + 0)) := rfl
            have HSUM := Lib.hid hsum
            have HCAT := Lib.hid (show catI [(⟨A2, n2, c2, qs (lo x r)⟩ : SlI), ⟨some ⟨w3.heap.size, 0, none⟩, 1, 1, [x]⟩, ⟨A3, n3, c3, qs (hi x r)⟩] = qs (lo x r) ++ x :: qs (hi x r) by simp [catI])
            have HCON := Lib.hid (ConcatI_any _ 3 3 _ _ HRS.out (by omega) (by rw [HSUM.out]; omega) (by rw [HSUM.out, HN2.out, HN3.out]; omega))
            clear hsum HRS
            go_wp2_with fail
            refine HCON.out.mono ?_
            rintro e w5 ⟨v5, rfl, ho5, hb5⟩
            rw [HCAT.out] at ho5
            obtain ⟨A5, c5, ev5, his5, _⟩ := OwnI.is_ ho5
            generalize (qs (lo x r) ++ x :: qs (hi x r)).length = N5 at ev5 his5
            subst ev5
            have HS5 := Lib.hid his5
            have HB5 := Lib.hid hb5
            clear ho5 his5 hb5 HCON HCAT
            have hp1 := b1.1
            have hp2 := b1.2
            have hq1 := b2.1
            have hq2 := b2.2
            have HRES := Lib.hid (show (r.length : Int) + hel (lo x r) + hel (hi x r) = ((n - 1 : Nat) : Int) + hel (lo x r) + hel (hi x r) by rw [HRL.out])
            go_wp2
            go_ret2
            refine ⟨A5, N5, c5, ?_, HS5.out, ?_⟩
            · rw [HRES.out]
              rfl
            · have z1 := HB2.out.size
              have z2 := HB3.out.size
              have z3 := HBB.out.size
              exact (HNX.out.trans (HB2.out.mono hsz)).trans ((HB3.out.mono (by omega)).trans ((HBB.out.mono (by omega)).trans (HB5.out.mono (by omega))))

set_option maxHeartbeats 1000000 in
theorem Sort_bad (A : Option Addr) (n c : Nat) (l : List Int) (w : World) (h : IS w A n c l) (E : Int) (hE : unl l = E) (hE0 : E ≠ 0) :
    Calls Tryz.prog 33 #[.slice A n c] w fun e w' => e = .returned (.tuple #[.slice none 0 0, I 0, I E]) ∧ Below w.heap.size w w' := by
  have HK := Lib.hid (gcheck_any A n c l w h)
  have HE := Lib.hid hE
  have hne : (E != 0) = true := by simpa using hE0
  clear h hE
  go_enter Tryz.func33, Tryz.ntmps33
  go_wp2_with fail
  refine HK.out.mono ?_
  rintro e w1 ⟨rfl, hb⟩
  rw [HE.out]
  go_wp2
  go_ret3
  exact ⟨rfl, hb⟩
def RetGs3 (L : List Int) (k : Int) (w : World) (e : Ending) (w' : World) : Prop := ∃ A n c, e = .returned (.tuple #[.slice A n c, I k, I 0]) ∧ IS w' A n c L ∧ Below w.heap.size w w'
set_option maxHeartbeats 1000000 in
theorem Sort_ok (A : Option Addr) (n c : Nat) (l : List Int) (w : World) (h : IS w A n c l) (hu : unl l = 0) :
    Calls Tryz.prog 33 #[.slice A n c] w (RetGs3 (qs l) (hel l) w) := by
  have HK := Lib.hid (gcheck_any A n c l w h)
  have HU := Lib.hid hu
  have hn : n ≤ 200 := by rw [← h.len]; exact (unl_zero.1 hu).1
  have H := Lib.hid h
  clear h hu
  go_enter Tryz.func33, Tryz.ntmps33
  go_wp2_with fail
  refine HK.out.mono ?_
  rintro e w1 ⟨rfl, hb⟩
  rw [HU.out]
  have HS := Lib.hid (sorted_any l.length l (Nat.le_refl _) A n c w1 (H.out.below hb) hn)
  have HB := Lib.hid hb
  clear hb HK
  go_wp2_with fail
  refine HS.out.mono ?_
  rintro e w2 ⟨A2, n2, c2, rfl, his, hb2⟩
  have HI := Lib.hid his
  have HB2 := Lib.hid hb2
  clear his hb2 HS
  go_wp2
  go_ret3
  exact ⟨A2, n2, c2, rfl, HI.out, HB.out.trans (HB2.out.mono HB.out.size)⟩

end Go.Proofs.YtpnjnedfcdppaaaGreatDoor

/-
  hedgref.inOrder: a tree's keys.
-/
namespace Go.Proofs.YtpnjnedfcdppaaaGreatDoor
open Go.RowKit

theorem step_app1 {P : Program} {w : World} {ops : Array Oper} {o : Oper} {a : Act} {K : Act → World → Prop} {Q : Exit → Act → World → Prop} {E : Prop} (hgd : o.guard = none) (s x : Operand) (T : TypeId)
    (ho : o.op = .call { callee := .builtin .append, args := #[s, x], argTypes := #[T, T] }) (e : TypeId) (hu : P.underlying T = some (.slice e)) (hi : (P.info? e).map (fun i => (i.zero, i.size, i.bytes)) = some (some (I 0), 1, 8))
    (base : Nat) (v : Value) (L xs : List Int) (sp : Option Addr) (m c : Nat) (hs : a.eval s = v) (hsx : a.eval x = .slice sp m c) (hown : w.ownsRow base e 1 v L.length (L.map I)) (hx : SrcI w sp m xs) (hbound : L.length + m ≤ 1000000) (hbase : base ≤ w.heap.size)
    (h : ∀ v' w', w'.ownsRow base e 1 v' (L ++ xs).length ((L ++ xs).map I) → w.grownBy w' v.ownBlock → K (a.put o.dst v') w') :
    if Region.wanted o (yielded ops a.tmps) = true then Oper.wp P o a w K Q else E := by
  have hw : Region.wanted o (yielded ops a.tmps) = true := by simp [Region.wanted, hgd]
  rw [if_pos hw]
  obtain ⟨v', w', hrun, h2, h3, _⟩ := run_app1 (P := P) w T o.type e hu hi base v L xs hown sp m c hx hbound hbase
  unfold Oper.wp execOp
  simp only [ho, resolve, invoke, builtin, Sem.run_bind, Sem.run_pure, Result.andThen_ok, List.map_toArray, List.map_cons, List.map_nil, hs, hsx, hrun]
  exact h v' w' h2 h3
theorem srcI_keep {w w' : World} {sp : Option Addr} {m : Nat} {xs : List Int} (h : SrcI w sp m xs) (hb : Below w.heap.size w w') : SrcI w' sp m xs := by
  refine ⟨h.1, fun h0 => ?_⟩
  obtain ⟨ad, e, hc⟩ := h.2 h0
  exact ⟨ad, e, fun j u hu => (hb.cell (cell_lt1 (hc j u hu))).trans (hc j u hu)⟩
abbrev inO (k : Int) : Obj := .cells #[I k] 3
theorem ownI_mono {w : World} {B B' : Nat} {v : Value} {L : List Int} (h : OwnI w B v L) (hB : B' ≤ B) : OwnI w B' v L := own_mono1 h hB
theorem ownI_below {w w' : World} {B : Nat} {v : Value} {L : List Int} (h : OwnI w B v L) (hb : Below w.heap.size w w') : OwnI w' B v L := own_below h hb
theorem ownI_row {w : World} {B : Nat} {v : Value} {L : List Int} (h : OwnI w B v L) : w.ownsRow B 3 1 v L.length (L.map I) := h
theorem ownI_beside {w w' : World} {B B' : Nat} {u v : Value} {L L' : List Int} (hu : OwnI w B u L) (hv : OwnI w B' v L') (hlt : ∀ g, u.ownBlock = some g → g < B') (hg : w.grownBy w' u.ownBlock) : OwnI w' B' v L' := by
  refine World.ownsRow.kept hv hg ?_
  cases hb : v.ownBlock with
  | none => exact .inl rfl
  | some g =>
    refine .inr fun e => ?_
    have h1 := own_ge1 hv g hb
    have h2 := hlt g e.symm
    omega
theorem ownI_lt {w : World} {B : Nat} {v : Value} {L : List Int} (h : OwnI w B v L) : ∀ g, v.ownBlock = some g → g < w.heap.size := by
  intro g hg
  rcases h.2 with ⟨rfl, _⟩ | ⟨g', cap, cur, rfl, _, hh, _⟩
  · simp [Value.ownBlock] at hg
  · simp [Value.ownBlock] at hg
    subst hg
    exact (Array.getElem?_eq_some_iff.1 hh).1
theorem ownI_told {w : World} {B n : Nat} {v : Value} {L : List Int} (h : OwnI w B v L) (hl : L.length = n) : ∃ A c, v = .slice A n c ∧ OwnI w B (.slice A n c) L ∧ IS w A n c L := by
  obtain ⟨A, c, e, hp, _⟩ := OwnI.is_ h
  subst hl
  subst e
  exact ⟨A, c, rfl, h, hp⟩

set_option maxRecDepth 100000 in
set_option maxHeartbeats 8000000 in
theorem inOrder_own (t : Tr) : ∀ (q : Option Addr) (w : World), RT w q t → t.size ≤ 1000 → Calls Tryz.prog 177 #[.pointer q] w (RetOwn t.ks w.heap.size w) := by
  induction t with
  | nil =>
    intro q w h hz
    obtain rfl : q = none := h
    go_enter Tryz.func177, Tryz.ntmps177
    go_wp2
    go_ret
    exact ⟨_, rfl, World.ownsRow_nil _ _ _ _, Below.refl _ _⟩
  | node a k b iha ihb =>
    intro q w h hz
    simp only [Tr.size] at hz
    obtain ⟨g, qa, qb, rfl, hg, ha, hb⟩ := h
    obtain ⟨hlt, c0, c1, c2⟩ := tree_cells hg
    have HA := Lib.hid ha
    have HB := Lib.hid hb
    have IHA : Hid (∀ W : World, RT W qa a → Calls Tryz.prog 177 #[.pointer qa] W (RetOwn a.ks W.heap.size W)) := fun W hW => iha qa W hW (by omega)
    have IHB : Hid (∀ W : World, RT W qb b → Calls Tryz.prog 177 #[.pointer qb] W (RetOwn b.ks W.heap.size W)) := fun W hW => ihb qb W hW (by omega)
    have hsp : (Tr.node a k b).ks = a.ks ++ [k] ++ b.ks := by simp [Tr.ks]
    have la := ks_length a
    have lb := ks_length b
    obtain ⟨nb, hnb⟩ : ∃ nb, b.size = nb := ⟨_, rfl⟩
    rw [hnb] at lb hz
    have hla : a.ks.length ≤ 1000 := by omega
    have hnb1 : nb ≤ 1000 := by omega
    have HLB := Lib.hid lb
    rw [hsp]
    generalize a.ks = La at *
    generalize b.ks = Lb at *
    clear hg ha hb iha ihb hsp la lb hnb
    go_enter Tryz.func177, Tryz.ntmps177
    go_wp2
    go_region_held3 (fun W => W.cell? ⟨g, 0, none⟩ = some (I k) ∧ W.cell? ⟨g, 1, none⟩ = some (.pointer qa) ∧ W.cell? ⟨g, 2, none⟩ = some (.pointer qb))
      (first
        | exact ⟨d0, d1, d2⟩
        | exact ⟨ck d0 _, ck d1 _, ck d2 _⟩
        | exact ⟨c0, c1, c2⟩
        | exact ⟨ck c0 _, ck c1 _, ck c2 _⟩)
      (first
        | (go_at_call 177
           with_reducible refine (IHA.out _ (by first | exact HA.out.drew | exact (HA.out.alloc _).drew)).mono ?_
           rintro e w2 ⟨v2, rfl, ho2, hb2⟩
           have hB2 : Below w.heap.size w w2 := by
             first
               | exact (Below.refl w.heap.size w).drew.trans hb2
               | exact ((Below.refl w.heap.size w).alloc (Nat.le_refl _) _).drew.trans (hb2.mono (by simp))
           have d0 : w2.cell? ⟨g, 0, none⟩ = some (I k) := (hB2.cell (by exact hlt)).trans c0
           have d1 : w2.cell? ⟨g, 1, none⟩ = some (.pointer qa) := (hB2.cell (by exact hlt)).trans c1
           have d2 : w2.cell? ⟨g, 2, none⟩ = some (.pointer qb) := (hB2.cell (by exact hlt)).trans c2
           have HO2 : Hid (OwnI w2 w.heap.size v2 La) := ownI_mono ho2 (by simp)
           try (have HS2 : Hid (SrcI w2 (some ⟨w.heap.size, 0, none⟩) 1 [k]) := srcI_keep (w := (w.alloc (inO k)).drew) (show SrcI (w.alloc (inO k)).drew _ _ _ from srcI_one w k) hb2)
           have HRB2 : Hid (RT w2 qb b) := HB.out.below hB2
           have HB2 := Lib.hid hB2
           clear ho2 hb2 hB2)
        | (go_at_call 177
           with_reducible refine (IHB.out _ (by first | exact HRB4.out | exact HRB2.out | exact HRB2.out.alloc _)).mono ?_
           rintro e w3 ⟨v3, rfl, ho3, hb3⟩
           have hB3 : Below w.heap.size w w3 := by
             first
               | exact HB4.out.trans (hb3.mono HB4.out.size)
               | exact HB2.out.trans (hb3.mono HB2.out.size)
               | exact (HB2.out.alloc HB2.out.size _).trans (hb3.mono (by have := HB2.out.size; simp; omega))
           have d0 : w3.cell? ⟨g, 0, none⟩ = some (I k) := (hB3.cell (by exact hlt)).trans c0
           have d1 : w3.cell? ⟨g, 1, none⟩ = some (.pointer qa) := (hB3.cell (by exact hlt)).trans c1
           have d2 : w3.cell? ⟨g, 2, none⟩ = some (.pointer qb) := (hB3.cell (by exact hlt)).trans c2
           obtain ⟨A3, c3, rfl, ho3', his3⟩ := ownI_told ho3 HLB.out
           have HIS3 := Lib.hid his3
           try (have HO43 : Hid (OwnI w3 w.heap.size v4 (La ++ [k])) := ownI_below HO4.out hb3)
           try (have HO23 : Hid (OwnI w3 w.heap.size v2 La) := (by first | exact ownI_below HO2.out hb3 | exact ownI_below (ownI_below HO2.out ((Below.refl _ _).alloc (Nat.le_refl _) _)) hb3))
           try (have HO3 : Hid (∃ B', OwnI w3 B' (.slice A3 nb c3) Lb ∧ ∀ g, v2.ownBlock = some g → g < B') := (by first | exact ⟨_, ho3', ownI_lt HO2.out⟩ | exact ⟨_, ho3', ownI_lt (ownI_below HO2.out ((Below.refl _ _).alloc (Nat.le_refl _) _))⟩))
           try (have HS3a : Hid (SrcI w3 (some ⟨w.heap.size, 0, none⟩) 1 [k]) := srcI_keep HS2.out hb3)
           try (have HS3b : Hid (SrcI w3 (some ⟨w2.heap.size, 0, none⟩) 1 [k]) := srcI_keep (srcI_one w2 k) hb3)
           have HB3 := Lib.hid hB3
           clear ho3 hb3 hB3 ho3' his3)
        | (refine step_app1 rfl (.tmp 9) (.tmp 14) 46 rfl 3 Tryz.underlying46 int_info w.heap.size v2 La [k] (some ⟨w.heap.size, 0, none⟩) 1 1 rfl rfl (ownI_row HO2.out) HS2.out (by omega) HB2.out.size ?_
           intro v4 w4 hown4 hgrow4
           have hB4 : Below w.heap.size w w4 := HB2.out.grown hgrow4 HB2.out.size (own_ge1 HO2.out)
           have d0 : w4.cell? ⟨g, 0, none⟩ = some (I k) := (hB4.cell (by exact hlt)).trans c0
           have d1 : w4.cell? ⟨g, 1, none⟩ = some (.pointer qa) := (hB4.cell (by exact hlt)).trans c1
           have d2 : w4.cell? ⟨g, 2, none⟩ = some (.pointer qb) := (hB4.cell (by exact hlt)).trans c2
           have HO4 : Hid (OwnI w4 w.heap.size v4 (La ++ [k])) := hown4
           have HRB4 : Hid (RT w4 qb b) := HB.out.below hB4
           have HB4 := Lib.hid hB4
           clear hown4 hgrow4 hB4)
        | (refine step_app1 rfl (.tmp 9) (.tmp 14) 46 rfl 3 Tryz.underlying46 int_info w.heap.size v2 La [k] (some ⟨w2.heap.size, 0, none⟩) 1 1 rfl rfl (ownI_row (ownI_below HO2.out ((Below.refl _ _).alloc (Nat.le_refl _) _))) (srcI_one w2 k) (by omega) (by have := HB2.out.size; simp; omega) ?_
           intro v4 w4 hown4 hgrow4
           have hB4 : Below w.heap.size w w4 := (HB2.out.alloc HB2.out.size _).grown hgrow4 (by have := HB2.out.size; simp; omega) (own_ge1 HO2.out)
           have d0 : w4.cell? ⟨g, 0, none⟩ = some (I k) := (hB4.cell (by exact hlt)).trans c0
           have d1 : w4.cell? ⟨g, 1, none⟩ = some (.pointer qa) := (hB4.cell (by exact hlt)).trans c1
           have d2 : w4.cell? ⟨g, 2, none⟩ = some (.pointer qb) := (hB4.cell (by exact hlt)).trans c2
           have HO4 : Hid (OwnI w4 w.heap.size v4 (La ++ [k])) := hown4
           have HRB4 : Hid (RT w4 qb b) := HB.out.below hB4
           have HB4 := Lib.hid hB4
           clear hown4 hgrow4 hB4)
        | (first
             | refine step_app1 rfl (.tmp 9) (.tmp 14) 46 rfl 3 Tryz.underlying46 int_info w.heap.size v2 La [k] (some ⟨w.heap.size, 0, none⟩) 1 1 rfl rfl (ownI_row HO23.out) HS3a.out (by omega) HB3.out.size ?_
             | refine step_app1 rfl (.tmp 9) (.tmp 14) 46 rfl 3 Tryz.underlying46 int_info w.heap.size v2 La [k] (some ⟨w2.heap.size, 0, none⟩) 1 1 rfl rfl (ownI_row HO23.out) HS3b.out (by omega) HB3.out.size ?_
           intro v4 w4 hown4 hgrow4
           have hB4 : Below w.heap.size w w4 := HB3.out.grown hgrow4 HB3.out.size (own_ge1 HO23.out)
           have d0 : w4.cell? ⟨g, 0, none⟩ = some (I k) := (hB4.cell (by exact hlt)).trans c0
           have d1 : w4.cell? ⟨g, 1, none⟩ = some (.pointer qa) := (hB4.cell (by exact hlt)).trans c1
           have d2 : w4.cell? ⟨g, 2, none⟩ = some (.pointer qb) := (hB4.cell (by exact hlt)).trans c2
           have HO4 : Hid (OwnI w4 w.heap.size v4 (La ++ [k])) := hown4
           have HIS4 : Hid (IS w4 A3 nb c3 Lb) := by
             obtain ⟨B', h1, h2⟩ := HO3.out
             obtain ⟨A', c', e', _, hp⟩ := ownI_told (ownI_beside HO23.out h1 h2 hgrow4) HLB.out
             cases e'
             exact hp
           have HB4 := Lib.hid hB4
           clear hown4 hgrow4 hB4)
        | (refine step_app1 rfl (.tmp 9) (.tmp 14) 46 rfl 3 Tryz.underlying46 int_info w.heap.size v2 La [k] (some ⟨w3.heap.size, 0, none⟩) 1 1 rfl rfl (ownI_row (ownI_below HO23.out ((Below.refl _ _).alloc (Nat.le_refl _) _))) (srcI_one w3 k) (by omega) (by have := HB3.out.size; simp; omega) ?_
           intro v4 w4 hown4 hgrow4
           have hB4 : Below w.heap.size w w4 := (HB3.out.alloc HB3.out.size _).grown hgrow4 (by have := HB3.out.size; simp; omega) (own_ge1 HO23.out)
           have d0 : w4.cell? ⟨g, 0, none⟩ = some (I k) := (hB4.cell (by exact hlt)).trans c0
           have d1 : w4.cell? ⟨g, 1, none⟩ = some (.pointer qa) := (hB4.cell (by exact hlt)).trans c1
           have d2 : w4.cell? ⟨g, 2, none⟩ = some (.pointer qb) := (hB4.cell (by exact hlt)).trans c2
           have HO4 : Hid (OwnI w4 w.heap.size v4 (La ++ [k])) := hown4
           have HIS4 : Hid (IS w4 A3 nb c3 Lb) := by
             obtain ⟨B', h1, h2⟩ := HO3.out
             obtain ⟨A', c', e', _, hp⟩ := ownI_told (ownI_beside (ownI_below HO23.out ((Below.refl _ _).alloc (Nat.le_refl _) _)) (ownI_below h1 ((Below.refl _ _).alloc (Nat.le_refl _) _)) h2 hgrow4) HLB.out
             cases e'
             exact hp
           have HB4 := Lib.hid hB4
           clear hown4 hgrow4 hB4)
        | (refine step_app1 rfl (.tmp 15) (.tmp 20) 46 rfl 3 Tryz.underlying46 int_info w.heap.size v4 (La ++ [k]) Lb A3 nb c3 rfl rfl (ownI_row HO43.out) (IS.src HIS3.out) (by simp; omega) HB3.out.size ?_
           intro v6 w6 hown6 hgrow6
           have hB6 : Below w.heap.size w w6 := HB3.out.grown hgrow6 HB3.out.size (own_ge1 HO43.out)
           have d0 : w6.cell? ⟨g, 0, none⟩ = some (I k) := (hB6.cell (by exact hlt)).trans c0
           have d1 : w6.cell? ⟨g, 1, none⟩ = some (.pointer qa) := (hB6.cell (by exact hlt)).trans c1
           have d2 : w6.cell? ⟨g, 2, none⟩ = some (.pointer qb) := (hB6.cell (by exact hlt)).trans c2
           have HO6 : Hid (OwnI w6 w.heap.size v6 (La ++ [k] ++ Lb)) := hown6
           have HB6 := Lib.hid hB6
           clear hown6 hgrow6 hB6)
        | (refine step_app1 rfl (.tmp 15) (.tmp 20) 46 rfl 3 Tryz.underlying46 int_info w.heap.size v4 (La ++ [k]) Lb A3 nb c3 rfl rfl (ownI_row HO4.out) (IS.src HIS4.out) (by simp; omega) HB4.out.size ?_
           intro v6 w6 hown6 hgrow6
           have hB6 : Below w.heap.size w w6 := HB4.out.grown hgrow6 HB4.out.size (own_ge1 HO4.out)
           have d0 : w6.cell? ⟨g, 0, none⟩ = some (I k) := (hB6.cell (by exact hlt)).trans c0
           have d1 : w6.cell? ⟨g, 1, none⟩ = some (.pointer qa) := (hB6.cell (by exact hlt)).trans c1
           have d2 : w6.cell? ⟨g, 2, none⟩ = some (.pointer qb) := (hB6.cell (by exact hlt)).trans c2
           have HO6 : Hid (OwnI w6 w.heap.size v6 (La ++ [k] ++ Lb)) := hown6
           have HB6 := Lib.hid hB6
           clear hown6 hgrow6 hB6)
        | fail)
    all_goals go_wp2
    all_goals go_ret
    all_goals exact ⟨v6, rfl, HO6.out, HB6.out⟩

theorem inOrder_any (t : Tr) (q : Option Addr) (n : Nat) (w : World) (h : RT w q t) (hn : t.size = n) (hz : n ≤ 1000) : Calls Tryz.prog 177 #[.pointer q] w fun e w' => ∃ A c, e = .returned (.slice A n c) ∧ IS w' A n c t.ks ∧ Below w.heap.size w w' := by
  refine (inOrder_own t q w h (by omega)).mono ?_
  rintro e w' ⟨v, rfl, ho, hb⟩
  obtain ⟨A, c, rfl, _, his⟩ := ownI_told ho (show t.ks.length = n by rw [ks_length, hn])
  exact ⟨A, c, rfl, his, hb⟩

end Go.Proofs.YtpnjnedfcdppaaaGreatDoor
