/-
  best.Roots.
-/
import Derived.Test.YtconegligedniaaBTree
import Derived.Test.YtconegligedniaaBRow
import Derived.Test.YtconegligedniaaGInts
namespace Go.Proofs.Ytconegligedniaa
open Go.RowKit

/-- the tops of the parts from i on: so many as told -/
def rowTo (W : Nat → Nat → Int) (i m : Nat) : List Int := (List.range m).map fun d => (tp (lc W) i (i + 1 + d) : Int)
def rowB (W : Nat → Nat → Int) (n i : Nat) : List Int := rowTo W i (n - i)
theorem rowTo_length (W : Nat → Nat → Int) (i m : Nat) : (rowTo W i m).length = m := by simp [rowTo]
theorem rowTo_succ (W : Nat → Nat → Int) (i m : Nat) : rowTo W i (m + 1) = rowTo W i m ++ [(tp (lc W) i (i + 1 + m) : Int)] := by simp [rowTo, List.range_succ]
/-- rows while the k-th is filled -/
def rowsK (W : Nat → Nat → Int) (n k m i : Nat) : List Int := if i < k then rowB W n i else if i = k then rowTo W k m else []
theorem rowsK_next (W : Nat → Nat → Int) (n k i : Nat) : rowsK W n k (n - k) i = rowsK W n (k + 1) 0 i := by
  unfold rowsK
  by_cases h : i < k
  · rw [if_pos h, if_pos (by omega)]
  · rw [if_neg h]
    by_cases h1 : i = k
    · subst h1; rw [if_pos rfl, if_pos (by omega)]; rfl
    · rw [if_neg h1, if_neg (by omega)]
      by_cases h2 : i = k + 1
      · subst h2; rw [if_pos rfl]; simp [rowTo]
      · rw [if_neg h2]
theorem rowsK_step (W : Nat → Nat → Int) (n k m i : Nat) : (if i = k then rowsK W n k m k ++ [(tp (lc W) k (k + 1 + m) : Int)] else rowsK W n k m i) = rowsK W n k (m + 1) i := by
  unfold rowsK
  by_cases h : i = k
  · subst h; simp [rowTo_succ]
  · rw [if_neg h, if_neg h, if_neg h]
theorem rowsK_at (W : Nat → Nat → Int) (n k m : Nat) : rowsK W n k m k = rowTo W k m := by simp [rowsK]
theorem rowsK_start (W : Nat → Nat → Int) (n i : Nat) : rowsK W n 0 0 i = [] := by
  unfold rowsK
  rw [if_neg (by omega)]
  split <;> simp [rowTo]
theorem rowsK_end (W : Nat → Nat → Int) (n i : Nat) (h : i < n) : rowsK W n n 0 i = rowB W n i := by unfold rowsK; rw [if_pos h]

theorem rows_info : (Try.prog.info? 23).map (fun i => (i.zero, i.size, i.bytes)) = some (some (.slice none 0 0), 1, 24) := by kernel_rfl
set_option maxRecDepth 100000 in
theorem run_makeRows (n : Nat) (hn : n ≤ 1000) (w : World) :
    (Instr.makeSlice 29 (.int .i64 (n : Int)) (.int .i64 (n : Int))).run Try.prog w = .ok (.slice (some ⟨w.heap.size, 0, none⟩) n n) (w.alloc (.cells (noneN n).toArray 23)) := by
  obtain ⟨i, h1, hz, hs, hb⟩ := info_parts rows_info
  have := run_make (P := Try.prog) w 29 23 i _ Try.underlying29 h1 hz .i64 .i64 n n (by omega) (by omega) (by rw [hb]; omega) (by omega)
  rw [this, hs]
  simp only [Int.toNat_natCast, Value.cells]
  congr 3
  apply Array.ext
  · simp [size_madeCells, noneN]
  · intro k h1 h2
    simp [madeCells, Nat.mod_one, noneN]
/-- rows, told -/
structure RQ (w : World) (A : Option Addr) (n c : Nat) (rows : Nat → List Int) : Prop where
  cap : n ≤ c
  at_ : 0 < n → ∃ b, A = some ⟨b, 0, none⟩ ∧ b < w.heap.size ∧ ∀ i, i < n → ∃ A' c', w.cell? ⟨b, i, none⟩ = some (.slice A' (rows i).length c') ∧ IS w A' (rows i).length c' (rows i)
theorem RQ.below {w w' : World} {A : Option Addr} {n c : Nat} {rows : Nat → List Int} (h : RQ w A n c rows) (hb : Below w.heap.size w w') : RQ w' A n c rows := by
  refine ⟨h.cap, fun h0 => ?_⟩
  obtain ⟨b, e, hlt, hc⟩ := h.at_ h0
  refine ⟨b, e, Nat.lt_of_lt_of_le hlt hb.size, fun i hi => ?_⟩
  obtain ⟨A', c', h1, h2⟩ := hc i hi
  exact ⟨A', c', (hb.cell (by exact hlt)).trans h1, h2.below hb⟩
theorem Tn.rq {n : Nat} {w : World} {base g t : Nat} {vs : List Value} {rows : Nat → List Int} (h : Tn n w base g t vs rows) : RQ w (some ⟨g, 0, none⟩) n n rows := by
  refine ⟨Nat.le_refl _, fun _ => ⟨g, rfl, h.lt, fun i hi => ?_⟩⟩
  obtain ⟨A', c', e, his, _⟩ := (h.own i hi).is_
  exact ⟨A', c', by rw [h.cell i hi, e], his⟩
/-- what Roots answers -/
def RetRo (rows : Nat → List Int) (n : Nat) (w : World) (e : Ending) (w' : World) : Prop := ∃ A c, e = .returned (.tuple #[.slice A n c, I 0]) ∧ RQ w' A n c rows ∧ Below w.heap.size w w'

theorem bck {w : World} {b q : Nat} {u : Value} (h : w.cell? ⟨b, q, none⟩ = some u) (o : Obj) : (w.alloc o).cell? ⟨b, q, none⟩ = some u := by
  have hb : b < w.heap.size := by
    rcases Nat.lt_or_ge b w.heap.size with h1 | h1
    · exact h1
    · simp [World.cell?, Array.getElem?_eq_none h1] at h
  exact (((Below.refl w.heap.size w).alloc (Nat.le_refl _) o).cell (by exact hb)).trans h
theorem step_appB {P : Program} {w : World} {ops : Array Oper} {o : Oper} {a : Act} {K : Act → World → Prop} {Q : Exit → Act → World → Prop} {E : Prop} (hgd : o.guard = none) (s x : Operand) (T : TypeId)
    (ho : o.op = .call { callee := .builtin .append, args := #[s, x], argTypes := #[T, T] }) (e : TypeId) (hu : P.underlying T = some (.slice e)) (hi : (P.info? e).map (fun i => (i.zero, i.size, i.bytes)) = some (some (I 0), 1, 8))
    (base : Nat) (v : Value) (L xs : List Int) (sp : Option Addr) (m c : Nat) (hs : a.eval s = v) (hsx : a.eval x = .slice sp m c) (hown : w.ownsRow base e 1 v L.length (L.map I)) (hx : SrcI w sp m xs) (hbound : L.length + m ≤ 1000000) (hbase : base ≤ w.heap.size)
    (h : ∀ v' w', w'.ownsRow base e 1 v' (L ++ xs).length ((L ++ xs).map I) → w.grownBy w' v.ownBlock → (v'.ownBlock = v.ownBlock ∨ v'.ownBlock = some w.heap.size) → K (a.put o.dst v') w') :
    if Region.wanted o (yielded ops a.tmps) = true then Oper.wp P o a w K Q else E := by
  have hw : Region.wanted o (yielded ops a.tmps) = true := by simp [Region.wanted, hgd]
  rw [if_pos hw]
  obtain ⟨v', w', hrun, h2, h3, h4⟩ := run_app1 (P := P) w T o.type e hu hi base v L xs hown sp m c hx hbound hbase
  unfold Oper.wp execOp
  simp only [ho, resolve, invoke, builtin, Sem.run_bind, Sem.run_pure, Result.andThen_ok, List.map_toArray, List.map_cons, List.map_nil, hs, hsx, hrun]
  exact h v' w' h2 h3 h4

set_option maxRecDepth 100000 in
set_option maxHeartbeats 2000000 in
theorem Roots_bad (A A' : Option Addr) (n c n' c' : Nat) (hits gaps : List Int) (w : World) (h : IS w A n c hits) (h' : IS w A' n' c' gaps) (hn : n ≤ 9223372036854775807) (hn' : n' ≤ 9223372036854775807) (E : Int) (hE : chkB hits gaps = E) (hE0 : E ≠ 0) :
    Calls Try.prog 10 #[.slice A n c, .slice A' n' c'] w fun e w' => e = .returned (.tuple #[.slice none 0 0, I E]) ∧ w = w' := by
  have HC := Lib.hid (checkB_any A A' n c n' c' hits gaps w h h' hn hn')
  rw [hE] at HC
  have hne : (E != 0) = true := by simpa using hE0
  clear h h' hE hE0
  go_enter Try.func10, Try.ntmps10
  go_wp2_with fail
  refine HC.out.mono ?_
  rintro e w1 ⟨rfl, rfl⟩
  go_wp2
  go_ret2
  exact ⟨rfl, rfl⟩

/-- the rows, while the k-th has m tops -/
def RoSt (W : Nat → Nat → Int) (n gt gr : Nat) (w : World) (k m : Nat) (wr : World) : Prop := ∃ vs, Tn n wr (gr + 1) gr 23 vs (rowsK W n k m) ∧ TQ wr gt (tbz W n) ∧ Below w.heap.size w wr
theorem RoSt.step {W : Nat → Nat → Int} {n gt gr k m m' : Nat} {w w4 w5 : World} {o : Obj} {vs : List Value} {Ar A5 : Option Addr} {cr c5 mr : Nat} {xs : List Int} {top : Nat} (hr : k < n) (hgg : gt < gr) (hwg : w.heap.size ≤ gr) (h : Tn n w4 (gr + 1) gr 23 vs (rowsK W n k m)) (hq : TQ w4 gt (tbz W n)) (hb : Below w.heap.size w w4)
    (hv : brAt vs k = .slice Ar mr cr) (hxs : rowsK W n k m k = xs) (hnext : ∀ i, (if i = k then rowsK W n k m k ++ [(top : Int)] else rowsK W n k m i) = rowsK W n k m' i)
    (hown : w5.ownsRow (gr + 1) 3 1 (.slice A5 (xs ++ [(top : Int)]).length c5) (xs ++ [(top : Int)]).length ((xs ++ [(top : Int)]).map I))
    (hg : (w4.alloc o).grownBy w5 (Value.slice Ar mr cr).ownBlock) (hat : (Value.slice A5 (xs ++ [(top : Int)]).length c5).ownBlock = (Value.slice Ar mr cr).ownBlock ∨ (Value.slice A5 (xs ++ [(top : Int)]).length c5).ownBlock = some (w4.alloc o).heap.size) :
    RoSt W n gt gr w k m' (w5.setCell ⟨gr, k, none⟩ (.slice A5 (xs.length + 1) c5)) := by
  have e : (xs ++ [(top : Int)]).length = xs.length + 1 := by simp
  have ho : OwnI w5 (gr + 1) (.slice A5 (xs.length + 1) c5) (rowsK W n k m k ++ [(top : Int)]) := by
    rw [hxs]
    unfold OwnI
    rw [e] at hown ⊢
    exact hown
  rw [e] at hat
  have hge := own_ge1 (h.own k hr)
  rw [hv] at hge
  have hlt := h.lt
  have hb5 : Below (gr + 1) (w4.alloc o) w5 := (Below.refl _ _).grown hg (by simp; omega) hge
  refine ⟨_, Tn.congr ((h.alloc o).append hr ho (by rw [hv]; exact hg) (by rw [hv]; exact hat)) (fun i _ => hnext i), ?_, ?_⟩
  · exact ((hq.below ((Below.refl _ _).alloc (Nat.le_refl _) _) hq.lt).below hb5 (by omega)).far (by show gt ≠ gr; omega) _
  · exact ((hb.alloc hb.size o).trans (hb5.mono (by omega))).setCell (by exact hwg) _

set_option maxRecDepth 100000 in
set_option maxHeartbeats 4000000 in
theorem Roots_ok (A A' : Option Addr) (n c c' : Nat) (hits gaps : List Int) (w : World) (h : IS w A n c hits) (h' : IS w A' (n + 1) c' gaps) (hI : InB hits gaps n) :
    Calls Try.prog 10 #[.slice A n c, .slice A' (n + 1) c'] w (RetRo (rowB (wij hits gaps) n) n w) := by
  have hn := hI.n20
  have HC := Lib.hid (checkB_any A A' n c (n + 1) c' hits gaps w h h' (by omega) (by omega))
  rw [chkB_in hI] at HC
  have HT := Lib.hid (costsOf_any A A' n c c' hits gaps w h h' hI)
  have HW : Hid (∀ i j, i ≤ j → j ≤ n → 0 ≤ wij hits gaps i j ∧ wij hits gaps i j ≤ 41000) := fun i j _ h2 => wij_bd hI.hh hI.hg i j (by omega)
  clear h h' hI
  generalize wij hits gaps = W at *
  have hz := (zero_of_info tab_zero).1
  obtain ⟨Z, hZ⟩ : ∃ Z, (tabV fun _ _ => 0).toArray = Z := ⟨_, rfl⟩
  rw [hZ] at hz
  have HZ := Lib.hid hZ
  obtain ⟨O, HO, hmk⟩ : ∃ O, Hid (O = .cells (noneN n).toArray 23) ∧ ∀ w, (Instr.makeSlice 29 (.int .i64 (n : Int)) (.int .i64 (n : Int))).run Try.prog w = .ok (.slice (some ⟨w.heap.size, 0, none⟩) n n) (w.alloc O) :=
    ⟨_, Lib.hid rfl, fun w => run_makeRows n (by omega) w⟩
  clear hZ
  go_enter Try.func10, Try.ntmps10
  go_wp2_with fail
  refine HC.out.mono ?_
  rintro e w1 ⟨rfl, rfl⟩
  go_wp2_with fail
  refine HT.out.mono ?_
  rintro e w2 ⟨rfl, hb2⟩
  have HB2 := Lib.hid hb2
  have hnew : TQ (w2.alloc (.cells Z 59)) w2.heap.size (fun _ _ => 0) := by rw [← HZ.out]; exact TQ.new w2 _
  have HNEW := Lib.hid hnew
  clear hb2 hnew
  go_wp2_with (first
    | (refine wpList_store_row rfl 59 (.tmp 8) (.tmp 22) rfl w2.heap.size _ rfl rfl _ _ HNEW.out (tab_size _) (by simp [tabV_length]) (tabV_one _) ?_)
    | fail)
  obtain ⟨wf, hwf⟩ : ∃ wf, (w2.alloc (.cells Z 59)).setRow w2.heap.size (tabV (tbz W n)).toArray = wf := ⟨_, rfl⟩
  have hqf : TQ wf w2.heap.size (tbz W n) := by rw [← hwf]; exact HNEW.out.row _
  have hbf : Below w.heap.size w wf := by rw [← hwf]; exact below_row (HB2.out.alloc HB2.out.size _) HB2.out.size _
  have hgt : w.heap.size ≤ w2.heap.size := HB2.out.size
  have hsz : wf.heap.size = w2.heap.size + 1 := by rw [← hwf]; simp [World.setRow]
  rw [hwf]
  clear hwf HNEW hz
  generalize w2.heap.size = gt at *
  have hlf := hqf.lt
  have hst : RoSt W n gt wf.heap.size w 0 0 (wf.alloc O) := by
    refine ⟨noneN n, Tn.congr (Tn.start (by omega) (by rw [HO.out]; exact heap_alloc_new wf _)) (fun i _ => (rowsK_start W n i).symm), hqf.below ((Below.refl _ _).alloc (Nat.le_refl _) O) hlf, hbf.alloc (by have := hbf.size; omega) O⟩
  have HST := Lib.hid hst
  have hgr : gt < wf.heap.size := hlf
  rw [hsz] at HST hst hgr
  clear hsz hlf
  generalize wf.alloc O = w6 at *
  generalize gt + 1 = gr at *
  have HTP : Hid (∀ (k t : Nat) (W1 : World), k < t → t ≤ n → TQ W1 gt (tbz W n) → Calls Try.prog 30 #[.pointer (some ⟨gt, 0, none⟩), .int .i64 k, .int .i64 t] W1 fun e w' => e = .returned (I (tp (lc W) k t)) ∧ ∃ m, w' = W1.drewN m) := fun k t W1 h1 h2 hq => by
    rw [← tbz_tp W h1 h2]
    exact topOfB_any gt _ k t W1 hq h1 (by omega) (fun i j => tbz_bd W n hn HW.out i j)
  clear hqf hbf hst
  go_loopw [27] (fun i wr => ∃ k : Nat, k ≤ n ∧ i = .int .i64 k ∧ RoSt W n gt gr w k 0 wr) (fun i _ => n - (intOf i).toNat)
  case atStart => exact ⟨0, Nat.zero_le _, rfl, HST.out⟩
  case round =>
    obtain ⟨k, hk, rfl, hrs⟩ := hrel
    by_cases hlt : k < n
    · obtain ⟨vs, htn, htq, hbl⟩ := hrs
      obtain ⟨O2, HO2, hmk2⟩ : ∃ O2, Hid (O2 = .cells ((List.replicate (n - k) (0 : Int)).map I).toArray 3) ∧ ∀ w, (Instr.makeSlice 23 (.int .i64 0) (.int .i64 ((n : Int) - (k : Int)))).run Try.prog w = .ok (.slice (some ⟨w.heap.size, 0, none⟩) 0 (n - k)) (w.alloc O2) :=
        ⟨_, Lib.hid rfl, fun w => by
          have := run_makeI (P := Try.prog) 23 3 Try.underlying23 int_info 0 (n - k) (by omega) (by omega) w
          rw [show ((n - k : Nat) : Int) = (n : Int) - (k : Int) by omega] at this
          exact this⟩
      have hcell := htn.cell k hlt
      have hfz := htn.frozen k
      have hltr := htn.lt
      have HTN := Lib.hid htn
      have HTQ := Lib.hid htq
      have HBL := Lib.hid hbl
      clear htn htq hbl
      have hst1 : RoSt W n gt gr w k 0 ((wr.setCell ⟨gr, k, none⟩ (.slice (some ⟨wr.heap.size, 0, none⟩) 0 (n - k))).alloc O2) := by
        rw [← World.setCell_alloc_past O2 gr k _ hltr]
        have hown : OwnI (wr.alloc O2) (gr + 1) (.slice (some ⟨wr.heap.size, 0, none⟩) 0 (n - k)) [] := by
          rw [HO2.out]
          exact ⟨rfl, .inr ⟨wr.heap.size, n - k, _, rfl, hltr, heap_alloc_new wr _, Nat.zero_le _, by unfold maxLen; omega, by simp, rfl⟩⟩
        refine ⟨_, HTN.out.fresh hlt ((Below.refl _ _).alloc (Nat.le_refl _) _) hown (fun b hb => by simp [Value.ownBlock] at hb; omega) (by rw [rowsK_at]; simp [rowTo]), ?_, ?_⟩
        · exact (HTQ.out.below ((Below.refl _ _).alloc (Nat.le_refl _) _) HTQ.out.lt).far (by simp; omega) _
        · exact (HBL.out.alloc HBL.out.size _).setCell (by show w.heap.size ≤ gr; omega) _
      have HST1 := Lib.hid hst1
      have ek : IntKind.i64.wrap ((k : Int) + 1) = (k : Int) + 1 := IntWalk.i64_in _ (by omega)
      clear hst1
      go_wp2
      go_loopw [11] (fun i wr => ∃ t : Nat, k < t ∧ t ≤ n + 1 ∧ i = .int .i64 t ∧ RoSt W n gt gr w k (t - (k + 1)) wr) (fun i _ => n + 1 - (intOf i).toNat)
      case atStart => exact ⟨k + 1, by omega, by omega, by go_num, by rw [Nat.sub_self]; exact HST1.out⟩
      case round =>
        obtain ⟨t, ht1, ht2, rfl, hrs⟩ := hrel
        by_cases htn : t ≤ n
        · obtain ⟨vs2, htnr, htqr, hblr⟩ := hrs
          obtain ⟨Ar, cr, hvr, hisr, _⟩ := (htnr.own k hlt).is_
          rw [rowsK_at, rowTo_length] at hvr
          have hcr := htnr.cell k hlt
          rw [hvr] at hcr
          have hownr := htnr.own k hlt
          rw [rowsK_at, hvr] at hownr
          have hltr2 := htnr.lt
          obtain ⟨xs, hxs⟩ : ∃ xs, rowTo W k (t - (k + 1)) = xs := ⟨_, rfl⟩
          have hxl : xs.length = t - (k + 1) := by rw [← hxs, rowTo_length]
          rw [hxs] at hownr
          have HNEXT : Hid (∀ i, (if i = k then rowsK W n k (t - (k + 1)) k ++ [(tp (lc W) k t : Int)] else rowsK W n k (t - (k + 1)) i) = rowsK W n k (t + 1 - (k + 1)) i) := fun i => by
            have := rowsK_step W n k (t - (k + 1)) i
            rw [show k + 1 + (t - (k + 1)) = t by omega, show t - (k + 1) + 1 = t + 1 - (k + 1) by omega] at this
            exact this
          have HXS : Hid (rowsK W n k (t - (k + 1)) k = xs) := by show _ = _; rw [rowsK_at, hxs]
          have HTP2 := Lib.hid (fun W1 (hq : TQ W1 gt (tbz W n)) => HTP.out k t W1 ht1 htn hq)
          obtain ⟨top, htop⟩ : ∃ top, tp (lc W) k t = top := ⟨_, rfl⟩
          rw [htop] at HNEXT HTP2
          obtain ⟨m, hm⟩ : ∃ m, t - (k + 1) = m := ⟨_, rfl⟩
          rw [hm] at hvr hcr hxl HNEXT HXS htnr hownr
          have HV := Lib.hid hvr
          have HOW := Lib.hid hownr
          have HTN2 := Lib.hid htnr
          have HTQ2 := Lib.hid htqr
          have HBL2 := Lib.hid hblr
          have hm20 : m ≤ 20 := by omega
          have hxl20 : xs.length ≤ 20 := by omega
          have hlt2 : (k : Int) < (n : Int) := by omega
          have hk0 : 0 ≤ (k : Int) := by omega
          have HXL := Lib.hid hxl
          obtain ⟨i0, hi, hz0, hz1, hz2⟩ := info_parts int_info
          have HI := Lib.hid hi
          have HZ0 := Lib.hid hz0
          have HZ1 := Lib.hid hz1
          have HZ2 := Lib.hid hz2
          clear hi hz0 hz1 hz2 hvr hownr htnr htqr hblr hxs htop hm hxl hisr hcell hfz hmk2 hmk
          have hzs := HBL2.out.size
          go_wp2
          go_region_law
            (first
              | (go_simp
                 go_at_call 30
                 refine (HTP2.out _ (by exact HTQ2.out)).mono ?_
                 rintro e w4 ⟨rfl, m4, hw4⟩
                 have hbw4 : Below wr.heap.size wr w4 := by rw [hw4]; exact below_drewN ((Below.refl _ _).drew) _
                 have hsz4 : wr.heap.size ≤ w4.heap.size := hbw4.size
                 have d4 : w4.cell? ⟨gr, k, none⟩ = some (.slice Ar m cr) := (hbw4.cell (by exact hltr2)).trans hcr
                 have hltr4 : gr < w4.heap.size := by omega
                 have HTN4 := Lib.hid (HTN2.out.below hbw4)
                 have HTQ4 := Lib.hid (HTQ2.out.below hbw4 HTQ2.out.lt)
                 have HBL4 := Lib.hid (below_next HBL2.out hbw4)
                 have HOW4 : Hid ((w4.alloc (.cells #[I top] 3)).ownsRow (gr + 1) 3 1 (.slice Ar m cr) xs.length (xs.map I)) := own_below (own_below HOW.out hbw4) ((Below.refl _ _).alloc (Nat.le_refl _) _)
                 clear hw4 hbw4)
              | (refine step_appB rfl (.tmp 49) (.tmp 53) 23 rfl 3 Try.underlying23 int_info (gr + 1) (.slice Ar m cr) xs [(top : Int)] (some ⟨w4.heap.size, 0, none⟩) 1 1 rfl rfl HOW4.out (srcI_one w4 top) (by omega) (by simp; omega) ?_
                 intro v5 w5 hown5 hgrow5 hat5
                 obtain ⟨A5, c5, hv5⟩ : ∃ A5 c5, v5 = .slice A5 (xs ++ [(top : Int)]).length c5 := by
                   obtain ⟨A5, c5, e5, _⟩ := OwnI.is_ (L := xs ++ [(top : Int)]) hown5
                   exact ⟨A5, c5, e5⟩
                 subst hv5
                 obtain ⟨d4, f5⟩ := HTN4.out.after hlt HV.out hgrow5
                 have HOW5 := Lib.hid hown5
                 have HGR5 := Lib.hid hgrow5
                 have HAT5 := Lib.hid hat5
                 clear hown5 hgrow5 hat5)
              | fail)
          all_goals
            (have hst5 := RoSt.step hlt hgr (by omega) HTN4.out HTQ4.out HBL4.out HV.out HXS.out HNEXT.out HOW5.out HGR5.out HAT5.out
             have HST5 := Lib.hid hst5
             clear hst5
             go_wp2
             go_roundw
             case rel => exact ⟨t + 1, by omega, by omega, by go_num, HST5.out⟩
             case measure => simp [intOf]; omega)
        · obtain rfl : t = n + 1 := by omega
          have hst2 : RoSt W n gt gr w (k + 1) 0 wr := by
            obtain ⟨vs2, h1, h2⟩ := hrs
            refine ⟨vs2, h1.congr fun i _ => ?_, h2⟩
            rw [show n + 1 - (k + 1) = n - k by omega]
            exact rowsK_next W n k i
          have HST2 := Lib.hid hst2
          have hz9 : ¬ ((n : Int) + 1 ≤ (n : Int)) := by omega
          clear hst2 hrs
          go_wp2
          go_roundw
          case rel => exact ⟨k + 1, by omega, by go_num, HST2.out⟩
          case measure => first | (simp [intOf]; done) | (simp [intOf]; omega)
    · obtain rfl : k = n := by omega
      obtain ⟨vs, htn, _, hbl⟩ := hrs
      have HRQ : Hid (RQ wr (some ⟨gr, 0, none⟩) k k (rowB W k)) := (htn.congr (fun i hi => rowsK_end W k i hi)).rq
      have HBL := Lib.hid hbl
      clear htn hbl
      go_wp2
      go_ret2
      exact ⟨_, _, rfl, HRQ.out, HBL.out⟩

end Go.Proofs.Ytconegligedniaa
