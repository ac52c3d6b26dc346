/-
  Joined texts: YtfmdpmebllepeaaJRunH, YtfmdpmebllepeaaJRunAll, YtfmdpmebllepeaaJOrd1, YtfmdpmebllepeaaJLivesW, YtfmdpmebllepeaaJKey, YtfmdpmebllepeaaJRight, YtfmdpmebllepeaaUAll, YtfmdpmebllepeaaUIx, YtfmdpmebllepeaaURow2.
-/
import Derived.Test.YtfmdpmebllepeaaJRunWAll
import Derived.Maps.OwnSet
import Derived.Test.YtfmdpmebllepeaaLiftBase
import Derived.Test.YtfmdpmebllepeaaUTellAll
import Derived.BigQuiet
import Derived.Test.YtfmdpmebllepeaaURowAll
/-
  package hands: ways; Run, whole.
-/
namespace Go.Proofs.Ytfmdpmebllepeaa
open Go.RowKit Go.Maps

def wd : Option Nat → DataW Unit
  | none => .nil
  | some g => .lit (.int .i64 g)
abbrev wp (o : Option Nat) : Value := match o with | none => .nilFunc | some g => .func (.func g) #[] #[]
def rw' (v : Value) : Option (DataW Unit × List MemPlace) :=
  match v with
  | .nilFunc => some (.nil, [])
  | .func (.func g) a b => if a.size = 0 ∧ b.size = 0 then some (.lit (.int .i64 g), []) else none
  | _ => none
theorem rw_mk (o : Option Nat) : rw' (wp o) = some (wd o, []) := by cases o <;> rfl
theorem rw_inv {v : Value} {o : Option Nat} {ps : List MemPlace} (h : rw' v = some (wd o, ps)) : v = wp o := by
  unfold rw' at h
  split at h
  · cases o with
    | none => rfl
    | some g => simp [wd] at h
  · split at h
    · rename_i hh
      cases o with
      | none => simp [wd] at h
      | some g =>
        simp [wd] at h
        have e := Int.ofNat.inj h.1
        subst e
        rw [Array.eq_empty_of_size_eq_zero hh.1, Array.eq_empty_of_size_eq_zero hh.2]
    · cases h
  · cases h
theorem jwf {x : Int} (h : -9223372036854775808 ≤ x ∧ x ≤ 9223372036854775807) : (Lit.int .i64 x).wf = true := by
  have h1 : IntKind.i64.min = -9223372036854775808 := by decide
  have h2 : IntKind.i64.max = 9223372036854775807 := by decide
  simp [Lit.wf, h1, h2]
  omega
theorem jkeyed : Keyed Try.prog 3 := int_keyed Try.underlying3
theorem zero_way (w : World) : (zeroValue 42).run Try.prog w = .ok (wp none) w := by kernel_rfl
def wQ (k : Int) : Option Nat := if k = 1 then some 24 else if k = 2 then some 25 else if k = 3 then some 26 else if k = 4 then some 27 else none
def WM (w : World) (b T : Nat) (Q : Int → Option Nat) : Prop := ∃ D, w.ownsMap Try.prog 3 rw' b T D ∧ (∀ h, D.atKey (.int .i64 h) .nil = wd (Q h)) ∧ ∀ h, Maps.has D (.int .i64 h) = (Q h).isSome
theorem WM.made (w : World) : WM (w.alloc (.map #[] 0)) w.heap.size 0 (fun _ => none) := ⟨.map [], World.ownsMap_made _ _ _ _, fun _ => rfl, fun _ => rfl⟩
theorem WM.store {w : World} {b T : Nat} {Q : Int → Option Nat} (h : WM w b T Q) (hT : T < 1000) {k : Int} (hk : 0 ≤ k ∧ k ≤ 1000000) (g : Nat) :
    ∃ w', (Instr.mapUpdate 44 (.map (some b)) (I k) (.func (.func g) #[] #[])).run Try.prog w = .ok () w' ∧ WM w' b (T + 1) (fun x => if x = k then some g else Q x) ∧ w.grownBy w' (some b) := by
  have hkey := keyOf_int_mk Try.underlying3 (jwf (x := k) (by omega))
  obtain ⟨D, h1, h2, h3⟩ := h
  obtain ⟨w', hrun, ho, hg⟩ := h1.update jkeyed Try.underlying44 (by unfold maxLen; omega) hkey (rw_mk (some g))
  refine ⟨w', hrun, ⟨_, ho, fun x => ?_, fun x => ?_⟩, hg⟩
  · show _ = wd (if x = k then some g else Q x)
    by_cases hx : x = k
    · subst hx
      rw [if_pos rfl]
      exact atKey_put_same h1.isMap (by first | trivial | simp [WideAt.IsKeyLit]) _ _
    · rw [if_neg hx, ← h2 x]
      exact atKey_put_other (by simp [hx]) _ _
  · show _ = (if x = k then some g else Q x).isSome
    by_cases hx : x = k
    · subst hx
      rw [if_pos rfl]
      exact has_put_same h1.isMap (by first | trivial | simp [WideAt.IsKeyLit]) _
    · rw [if_neg hx, ← h3 x]
      exact has_put_other (by simp [hx]) _
theorem WM.look {w : World} {b T : Nat} {Q : Int → Option Nat} (h : WM w b T Q) {k : Int} (hw : keyOf Try.prog 3 (I k) = some (.int .i64 k)) :
    (Instr.lookup 44 (.map (some b)) (I k) true).run Try.prog w = .ok (.tuple #[wp (Q k), .bool (Q k).isSome]) w := by
  obtain ⟨D, h1, h2, h3⟩ := h
  obtain ⟨v, ps, hrun, hv⟩ := h1.look_ok jkeyed Try.underlying44 (zero_way w) (rw_mk none) hw
  rw [show wd none = DataW.nil from rfl, h2 k] at hv
  rw [h3 k] at hrun
  rw [← rw_inv hv]
  exact hrun
set_option maxRecDepth 100000 in
set_option maxHeartbeats 4000000 in
theorem ways_any (w : World) : Calls Try.prog 12 #[] w fun e w' => e = .returned (.map (some w.heap.size)) ∧ WM w' w.heap.size 4 wQ ∧ Below w.heap.size w w' := by
  obtain ⟨w2, r2, m2, g2⟩ := (WM.made w).store (k := 1) (by omega) (by omega) 24
  obtain ⟨w3, r3, m3, g3⟩ := m2.store (k := 2) (by omega) (by omega) 25
  obtain ⟨w4, r4, m4, g4⟩ := m3.store (k := 3) (by omega) (by omega) 26
  obtain ⟨w5, r5, m5, g5⟩ := m4.store (k := 4) (by omega) (by omega) 27
  have hmm := @run_makeMap Try.prog
  have z2 := g2.size
  have z3 := g3.size
  have z4 := g4.size
  have HB : Hid (Below w.heap.size w w5) := by
    have b1 : Below w.heap.size w (w.alloc (.map #[] 0)) := (Below.refl _ _).alloc (Nat.le_refl _) _
    have hz1 : w.heap.size ≤ (w.alloc (.map #[] 0)).heap.size := by simp
    have b2 := b1.grown g2 hz1 (fun k e => by cases e; exact Nat.le_refl _)
    have b3 := b2.grown g3 (by omega) (fun k e => by cases e; exact Nat.le_refl _)
    have b4 := b3.grown g4 (by omega) (fun k e => by cases e; exact Nat.le_refl _)
    exact b4.grown g5 (by omega) (fun k e => by cases e; exact Nat.le_refl _)
  have HM5 := Lib.hid m5
  clear m2 m3 m4 m5 g2 g3 g4 g5 z2 z3 z4
  go_enter Try.func12, Try.ntmps12
  go_wp2
  go_ret
  refine ⟨rfl, ?_, HB.out⟩
  have := HM5.out
  have e : (fun x : Int => if x = 4 then some 27 else if x = 3 then some 26 else if x = 2 then some 25 else if x = 1 then some 24 else (none : Option Nat)) = wQ := by
    funext x
    unfold wQ
    by_cases h1 : x = 1
    · subst h1; rfl
    · by_cases h2 : x = 2
      · subst h2; rfl
      · by_cases h3 : x = 3
        · subst h3; rfl
        · by_cases h4 : x = 4
          · subst h4; rfl
          · simp [h1, h2, h3, h4]
  rw [← e]
  exact this

abbrev told0 : Value := .agg #[.slice none 0 0, .slice none 0 0]
def RetRun (al nh : Nat) (P : Nat → PL) (l ord : List Int) (w : World) (e : Ending) (w' : World) : Prop :=
  ∃ dv lv m, e = .returned (.tuple #[.agg #[dv, lv], I 0]) ∧ Pn (Wend al nh P l ord).s.nx (Wend al nh P l ord).s.tl ((Wend al nh P l ord).s.nx 0) m ∧ OwnD w' w.heap.size dv (Tdl (Wend al nh P l ord) nh (fun v => (P v).length)) ∧ OwnI w' w.heap.size lv (lft (Wend al nh P l ord).s m ((Wend al nh P l ord).s.nx 0)) ∧ Below w.heap.size w w'
theorem wQ_none {algo : Int} (h : ¬ (1 ≤ algo ∧ algo ≤ 4)) : wQ algo = none := by
  unfold wQ
  rw [if_neg (by omega), if_neg (by omega), if_neg (by omega), if_neg (by omega)]
theorem wQ_some {al : Nat} (h : al = 1 ∨ al = 2 ∨ al = 3 ∨ al = 4) : wp (wQ al) = fWay al ∧ (wQ al).isSome = true := by
  rcases h with rfl | rfl | rfl | rfl <;> exact ⟨rfl, rfl⟩
section
variable (A PA OA : Option Addr) (n c nh pc on oc : Nat) (l ord : List Int) (es : List Sl) (w : World)
set_option maxRecDepth 100000 in
set_option maxHeartbeats 8000000 in
theorem Run_arg (algo : Int) (hw : keyOf Try.prog 3 (I algo) = some (.int .i64 algo)) (ha : ¬ (1 ≤ algo ∧ algo ≤ 4)) :
    Calls Try.prog 5 #[I algo, .slice A n c, .slice PA nh pc, .slice OA on oc] w fun e w' => e = .returned (.tuple #[told0, I 1]) ∧ Below w.heap.size w w' := by
  have hwy := ways_any (w.alloc (.cells #[.slice none 0 0, .slice none 0 0] 26))
  rw [World.size_alloc] at hwy
  have HWY := Lib.hid hwy
  clear hwy
  have HKW := Lib.hid hw
  have HQ := Lib.hid (wQ_none ha)
  clear hw ha
  go_enter Try.func5, Try.ntmps5
  go_wp2_with fail
  refine HWY.out.mono ?_
  rintro e w1 ⟨rfl, hwm, hb1⟩
  have hlk := hwm.look HKW.out
  rw [HQ.out] at hlk
  have htb : TBk w1 w.heap.size := (hb1.block _ (by omega)).trans (heap_alloc_new w _)
  have t0 : w1.cell? ⟨w.heap.size, 0, none⟩ = some (.slice none 0 0) := by rw [jcell htb]; rfl
  have t1 : w1.cell? ⟨w.heap.size, 1, none⟩ = some (.slice none 0 0) := by rw [jcell htb]; rfl
  have f0 := jfroz (i := 0) htb
  have f1 := jfroz (i := 1) htb
  have HB1 := Lib.hid hb1
  have HTB := Lib.hid htb
  clear hwm hb1 htb
  go_wp2
  have hfin := jset_at (i := 1) (v := (.slice none 0 0)) (jset_at (i := 0) (v := (.slice none 0 0)) HTB.out)
  have r0 : ((w1.setCell ⟨w.heap.size, 0, none⟩ (.slice none 0 0)).setCell ⟨w.heap.size, 1, none⟩ (.slice none 0 0)).cell? ⟨w.heap.size, 0, none⟩ = some (.slice none 0 0) := by rw [jcell hfin]; rfl
  have r1 : ((w1.setCell ⟨w.heap.size, 0, none⟩ (.slice none 0 0)).setCell ⟨w.heap.size, 1, none⟩ (.slice none 0 0)).cell? ⟨w.heap.size, 1, none⟩ = some (.slice none 0 0) := by rw [jcell hfin]; rfl
  clear hfin
  refine bodyPost_ret (v := .tuple #[.agg #[(.slice none 0 0), (.slice none 0 0)], I 1]) (by simp [results, Try.results5, go_sem, r0, r1]) rfl ?_
  exact ⟨rfl, ((((Below.refl _ _).alloc (Nat.le_refl _) _).trans (HB1.out.mono (by omega))).setCell (p := ⟨w.heap.size, 0, none⟩) (Nat.le_refl _) _).setCell (p := ⟨w.heap.size, 1, none⟩) (Nat.le_refl _) _⟩
set_option maxRecDepth 100000 in
set_option maxHeartbeats 8000000 in
theorem Run_err {al : Nat} (hal : al = 1 ∨ al = 2 ∨ al = 3 ∨ al = 4) (h : IS w A n c l) (hP : RS w PA nh pc es) (hn : n ≤ 9223372036854775807) (hnh : nh ≤ 9223372036854775807) (hon : on ≤ 9223372036854775807) (hes : ∀ s ∈ es, s.n ≤ 9223372036854775807) {E : Int} (hE : chkH l es on = E) (hE0 : E ≠ 0) :
    Calls Try.prog 5 #[I al, .slice A n c, .slice PA nh pc, .slice OA on oc] w fun e w' => e = .returned (.tuple #[told0, I E]) ∧ Below w.heap.size w w' := by
  have hkw : keyOf Try.prog 3 (I al) = some (.int .i64 al) := keyOf_int_mk Try.underlying3 (jwf (x := (al : Int)) (by omega))
  have hwy := ways_any (w.alloc (.cells #[.slice none 0 0, .slice none 0 0] 26))
  rw [World.size_alloc] at hwy
  have HWY := Lib.hid hwy
  clear hwy
  have HKW := Lib.hid hkw
  obtain ⟨q1, q2⟩ := wQ_some hal
  obtain ⟨wf, hwf⟩ := fWay_is (al := al)
  rw [hwf] at q1
  have HQ1 := Lib.hid q1
  have HQ2 := Lib.hid q2
  have HCK : Hid (∀ w1, Below w.heap.size w w1 → Calls Try.prog 13 #[.slice A n c, .slice PA nh pc, .slice OA on oc] w1 fun e w' => e = .returned (I E) ∧ Below w1.heap.size w1 w') := fun w1 hb => by
    have := checkH_any A PA OA n c nh pc on oc l es w1 (h.below hb) (hP.below hb) hn hnh hon hes
    rw [hE] at this
    exact this
  have hne : (E != 0) = true := by simpa using hE0
  clear hkw q1 q2 hwf h hP hn hnh hon hes hE hE0
  go_enter Try.func5, Try.ntmps5
  go_wp2_with fail
  refine HWY.out.mono ?_
  rintro e w1 ⟨rfl, hwm, hb1⟩
  have hlk := hwm.look HKW.out
  rw [HQ1.out, HQ2.out] at hlk
  have HB01 : Hid (Below w.heap.size w w1) := ((Below.refl _ _).alloc (Nat.le_refl _) _).trans (hb1.mono (by omega))
  have htb1 : TBk w1 w.heap.size := (hb1.block _ (by omega)).trans (heap_alloc_new w _)
  have HTB1 := Lib.hid htb1
  have HC := Lib.hid (HCK.out w1 HB01.out)
  clear hwm hb1 htb1
  go_wp2_with fail
  refine HC.out.mono ?_
  rintro e w2 ⟨rfl, hb2⟩
  have htb : TBk w2 w.heap.size := (hb2.block _ (jblk HTB1.out)).trans HTB1.out
  have t0 : w2.cell? ⟨w.heap.size, 0, none⟩ = some (.slice none 0 0) := by rw [jcell htb]; rfl
  have t1 : w2.cell? ⟨w.heap.size, 1, none⟩ = some (.slice none 0 0) := by rw [jcell htb]; rfl
  have f0 := jfroz (i := 0) htb
  have f1 := jfroz (i := 1) htb
  have HB2 : Hid (Below w.heap.size w w2) := HB01.out.trans (hb2.mono HB01.out.size)
  have HTB := Lib.hid htb
  clear hb2 htb hlk
  go_wp2
  have hfin := jset_at (i := 1) (v := (.slice none 0 0)) (jset_at (i := 0) (v := (.slice none 0 0)) HTB.out)
  have r0 : ((w2.setCell ⟨w.heap.size, 0, none⟩ (.slice none 0 0)).setCell ⟨w.heap.size, 1, none⟩ (.slice none 0 0)).cell? ⟨w.heap.size, 0, none⟩ = some (.slice none 0 0) := by rw [jcell hfin]; rfl
  have r1 : ((w2.setCell ⟨w.heap.size, 0, none⟩ (.slice none 0 0)).setCell ⟨w.heap.size, 1, none⟩ (.slice none 0 0)).cell? ⟨w.heap.size, 1, none⟩ = some (.slice none 0 0) := by rw [jcell hfin]; rfl
  clear hfin
  refine bodyPost_ret (v := .tuple #[.agg #[(.slice none 0 0), (.slice none 0 0)], I E]) (by simp [results, Try.results5, go_sem, r0, r1]) rfl ?_
  exact ⟨rfl, (HB2.out.setCell (p := ⟨w.heap.size, 0, none⟩) (Nat.le_refl _) _).setCell (p := ⟨w.heap.size, 1, none⟩) (Nat.le_refl _) _⟩
theorem dok_of (hP : RS w PA nh pc es) {on : Nat} (hE : chkH l es on = 0) : DOk nh (prog0 es) l ∧ on ≤ 500 ∧ (∀ s ∈ es, s.n ≤ 4) := by
  have hlen := hP.len
  unfold chkH at hE
  split at hE
  · cases hE
  · rename_i h1
    split at hE
    · cases hE
    · rename_i h2
      split at hE
      · cases hE
      · rename_i h3
        simp only [not_or] at h1
        obtain ⟨a1, a2, a3⟩ := h1
        have hes : ∀ s ∈ es, s.n ≤ 4 := fun s hs => by
          have : es.any lng = false := by simpa using a2
          have := List.any_eq_false.mp this s hs
          unfold lng at this
          simp at this
          omega
        have hl : ∀ s ∈ es, s.L.length = s.n := fun s hs => (show PS w s.A s.n s.c s.L from hP.each s hs).len
        have hpl : ∀ v, (prog0 es v).length ≤ 4 := fun v => by
          unfold prog0
          rcases Nat.lt_or_ge v es.length with hv | hv
          · rw [List.getElem?_eq_getElem hv, Option.getD_some, hl _ (List.getElem_mem hv)]
            exact hes _ (List.getElem_mem hv)
          · rw [List.getElem?_eq_none hv]; simp
        refine ⟨⟨Classical.not_not.mp h2, by omega, hpl, fun v hv => ?_, fun v j hj => ?_⟩, by omega, hes⟩
        · unfold prog0
          rw [List.getElem?_eq_none (by omega)]
          rfl
        · have hj' : j < (prog0 es v).length := hj
          rw [dds_at hj']
          have hv : v < es.length := by
            apply Classical.byContradiction
            intro hn
            have : (prog0 es v).length = 0 := by unfold prog0; rw [List.getElem?_eq_none (by omega)]; rfl
            omega
          have he : prog0 es v = es[v].L := by unfold prog0; rw [List.getElem?_eq_getElem hv]; rfl
          have hb : es.any (fun s => s.L.any dbad) = false := by simpa using h3
          have hb1 := List.any_eq_false.mp hb es[v] (List.getElem_mem hv)
          have hb2 : es[v].L.any dbad = false := by simpa using hb1
          have hmem : (prog0 es v)[j] ∈ es[v].L := by rw [← he]; exact List.getElem_mem hj'
          have hb3 := List.any_eq_false.mp hb2 _ hmem
          unfold dbad at hb3
          simp only [Bool.not_eq_true, Bool.not_eq_false', decide_eq_true_eq] at hb3
          exact ⟨hb3.2, hb3.1⟩
set_option maxRecDepth 100000 in
set_option maxHeartbeats 8000000 in
theorem Run_ok {al : Nat} (hal : al = 1 ∨ al = 2 ∨ al = 3 ∨ al = 4) (h : IS w A n c l) (hP : RS w PA nh pc es) (hO : IS w OA on oc ord) (hn : n ≤ 9223372036854775807) (hnh : nh ≤ 9223372036854775807) (hon : on ≤ 9223372036854775807) (hes : ∀ s ∈ es, s.n ≤ 9223372036854775807) (hE : chkH l es on = 0) :
    Calls Try.prog 5 #[I al, .slice A n c, .slice PA nh pc, .slice OA on oc] w (RetRun al nh (prog0 es) l ord w) := by
  have hkw : keyOf Try.prog 3 (I al) = some (.int .i64 al) := keyOf_int_mk Try.underlying3 (jwf (x := (al : Int)) (by omega))
  have hwy := ways_any (w.alloc (.cells #[.slice none 0 0, .slice none 0 0] 26))
  rw [World.size_alloc] at hwy
  have HWY := Lib.hid hwy
  clear hwy
  have HKW := Lib.hid hkw
  obtain ⟨q1, q2⟩ := wQ_some hal
  obtain ⟨wf, hwf⟩ := fWay_is (al := al)
  obtain ⟨hd, ho5, hes4⟩ := dok_of PA nh pc l es w hP hE
  obtain ⟨Inv, hS⟩ := sound_any (ord := ord) hal hd (by rw [hO.len]; exact ho5)
  have hinv : Inv (Wend al nh (prog0 es) l ord) := hS.rounds (hS.runs (ordN nh ord) hS.i0 ordN_lt) 875
  obtain ⟨m, hm1, hm2⟩ := (hS.lf hinv).pn
  have hDLs := wend_DLs hS hd
  have hDL5 : ∀ v, v < nh → (DL (Wend al nh (prog0 es) l ord) v).length ≤ 5 := fun v _ => by
    rw [(wend_DL hS hd).2 v]
    simp
    have := hd.l4 v
    omega
  have hn10 : n ≤ 1000 := by have := ris_len hd.ris; rw [h.len] at this; omega
  have HRN : Hid (∀ w1, Below w.heap.size w w1 → Calls Try.prog 14 #[fWay al, .slice A n c, .slice PA nh pc, .slice OA on oc, I 4000] w1 (RetTold w1.heap.size (DLs (Wend al nh (prog0 es) l ord) nh) (lft (Wend al nh (prog0 es) l ord).s m ((Wend al nh (prog0 es) l ord).s.nx 0)) w1)) := fun w1 hb =>
    run_any hS hal A PA OA n c pc on oc m w1 (h.below hb) hn10 (hP.below hb) hd.nh4 hes4 (hO.below hb) ho5 hm1 hm2 hDL5
  rw [hwf] at q1 HRN
  have HQ1 := Lib.hid q1
  have HQ2 := Lib.hid q2
  have HCK : Hid (∀ w1, Below w.heap.size w w1 → Calls Try.prog 13 #[.slice A n c, .slice PA nh pc, .slice OA on oc] w1 fun e w' => e = .returned (I 0) ∧ Below w1.heap.size w1 w') := fun w1 hb => by
    have := checkH_any A PA OA n c nh pc on oc l es w1 (h.below hb) (hP.below hb) hn hnh hon hes
    rw [hE] at this
    exact this
  rw [hDLs] at HRN
  have HPN := Lib.hid hm1
  obtain ⟨D, hD⟩ : ∃ D, Tdl (Wend al nh (prog0 es) l ord) nh (fun v => (prog0 es v).length) = D := ⟨_, rfl⟩
  obtain ⟨L, hL⟩ : ∃ L, lft (Wend al nh (prog0 es) l ord).s m ((Wend al nh (prog0 es) l ord).s.nx 0) = L := ⟨_, rfl⟩
  rw [hD, hL] at HRN
  have HD := Lib.hid hD
  have HL := Lib.hid hL
  clear hkw q1 q2 hwf h hP hO hn hnh hon hes hE hd ho5 hes4 hS hinv hm1 hm2 hDLs hDL5 hn10 hD hL
  go_enter Try.func5, Try.ntmps5
  go_wp2_with fail
  refine HWY.out.mono ?_
  rintro e w1 ⟨rfl, hwm, hb1⟩
  have hlk := hwm.look HKW.out
  rw [HQ1.out, HQ2.out] at hlk
  have HB01 : Hid (Below w.heap.size w w1) := ((Below.refl _ _).alloc (Nat.le_refl _) _).trans (hb1.mono (by omega))
  have htb1 : TBk w1 w.heap.size := (hb1.block _ (by omega)).trans (heap_alloc_new w _)
  have HTB1 := Lib.hid htb1
  have HC := Lib.hid (HCK.out w1 HB01.out)
  clear hwm hb1 htb1
  go_wp2_with fail
  refine HC.out.mono ?_
  rintro e w2 ⟨rfl, hb2⟩
  have HTB2 : Hid (TBk w2 w.heap.size) := (hb2.block _ (jblk HTB1.out)).trans HTB1.out
  have HB2 : Hid (Below w.heap.size w w2) := HB01.out.trans (hb2.mono HB01.out.size)
  have HR := Lib.hid (HRN.out w2 HB2.out)
  clear hb2 hlk
  go_wp2_with fail
  refine HR.out.mono ?_
  rintro e w3 ⟨dv, lv, rfl, hd3, hl3, hb3⟩
  have htb : TBk w3 w.heap.size := (hb3.block _ (jblk HTB2.out)).trans HTB2.out
  have t0 : w3.cell? ⟨w.heap.size, 0, none⟩ = some (.slice none 0 0) := by rw [jcell htb]; rfl
  have t1 : w3.cell? ⟨w.heap.size, 1, none⟩ = some (.slice none 0 0) := by rw [jcell htb]; rfl
  have f0 := jfroz (i := 0) htb
  have f1 := jfroz (i := 1) htb
  have hlt2 : w.heap.size < w2.heap.size := jblk HTB2.out
  have hz := HB2.out.size
  have HB3 : Hid (Below w.heap.size w w3) := HB2.out.trans (hb3.mono hz)
  have HTB := Lib.hid htb
  have HD3 := Lib.hid hd3
  have HL3 := Lib.hid hl3
  clear hb3 htb hd3 hl3
  obtain ⟨dA, dc, rfl, -⟩ := HD3.out.is_
  obtain ⟨lA, lc, rfl, -, -⟩ := HL3.out.is_
  obtain ⟨dn, hdn⟩ : ∃ dn, D.length = dn := ⟨_, rfl⟩
  obtain ⟨ln, hln⟩ : ∃ ln, L.length = ln := ⟨_, rfl⟩
  have HDN := Lib.hid hdn
  have HLN := Lib.hid hln
  rw [hdn, hln]
  clear hdn hln
  go_wp2
  have hfin := jset_at (i := 1) (v := (.slice lA ln lc)) (jset_at (i := 0) (v := (.slice dA dn dc)) HTB.out)
  have r0 : ((w3.setCell ⟨w.heap.size, 0, none⟩ (.slice dA dn dc)).setCell ⟨w.heap.size, 1, none⟩ (.slice lA ln lc)).cell? ⟨w.heap.size, 0, none⟩ = some (.slice dA dn dc) := by rw [jcell hfin]; rfl
  have r1 : ((w3.setCell ⟨w.heap.size, 0, none⟩ (.slice dA dn dc)).setCell ⟨w.heap.size, 1, none⟩ (.slice lA ln lc)).cell? ⟨w.heap.size, 1, none⟩ = some (.slice lA ln lc) := by rw [jcell hfin]; rfl
  clear hfin
  refine bodyPost_ret (v := .tuple #[.agg #[(.slice dA dn dc), (.slice lA ln lc)], I 0]) (by simp [results, Try.results5, go_sem, r0, r1]) rfl ?_
  unfold RetRun
  rw [HD.out]
  have hD2 : OwnD w3 w2.heap.size (.slice dA dn dc) D := by have := HD3.out; rw [HDN.out] at this; exact this
  have hL2 : OwnI w3 w2.heap.size (.slice lA ln lc) L := by have := HL3.out; rw [HLN.out] at this; exact this
  refine ⟨_, _, m, rfl, HPN.out, ?_, ?_, (HB3.out.setCell (p := ⟨w.heap.size, 0, none⟩) (Nat.le_refl _) _).setCell (p := ⟨w.heap.size, 1, none⟩) (Nat.le_refl _) _⟩
  · have hD4 : OwnD w3 w.heap.size (.slice dA dn dc) D := own_mono1 hD2 hz
    refine hD4.keep fun g hg => ?_
    have hge := own_ge1 hD2 g hg
    have hne : g ≠ w.heap.size := by omega
    rw [Below.heap_setCell _ _ _ _ hne, Below.heap_setCell _ _ _ _ hne]
  · rw [HL.out]
    refine ⟨hL2.1, ?_⟩
    rcases hL2.2 with h0 | ⟨g, cap, cur, h1, h2, h3, h4⟩
    · exact .inl h0
    · have hne : g ≠ w.heap.size := by omega
      exact .inr ⟨g, cap, cur, h1, by omega, by rw [Below.heap_setCell _ _ _ _ hne, Below.heap_setCell _ _ _ _ hne]; exact h3, h4⟩
end

end Go.Proofs.Ytfmdpmebllepeaa

/-
  What Run answers, whatever it is given; deeds that are told, where they lie.
-/
namespace Go.Proofs.Ytfmdpmebllepeaa
open Go.RowKit Go.Maps

structure DR (w : World) (A : Option Addr) (n : Nat) (L : List Dn) : Prop where
  len : L.length = n
  at_ : 0 < n → ∃ g, A = some ⟨g, 0, none⟩ ∧ g < w.heap.size ∧ ∀ i (hi : i < L.length) k, k < 5 → w.cell? ⟨g, i * 5 + k, none⟩ = (dcells L[i])[k]?
theorem DR.below {w w' : World} {A : Option Addr} {n : Nat} {L : List Dn} (h : DR w A n L) (hb : Below w.heap.size w w') : DR w' A n L := by
  refine ⟨h.len, fun h0 => ?_⟩
  obtain ⟨g, e, hg, hc⟩ := h.at_ h0
  exact ⟨g, e, Nat.lt_of_lt_of_le hg hb.size, fun i hi k hk => (hb.cell (p := ⟨g, i * 5 + k, none⟩) hg).trans (hc i hi k hk)⟩
theorem OwnD.dr {w : World} {base : Nat} {v : Value} {L : List Dn} (h : OwnD w base v L) : ∃ A c, v = .slice A L.length c ∧ DR w A L.length L := by
  obtain ⟨A, c, rfl, hA⟩ := h.is_
  refine ⟨A, c, rfl, rfl, fun h0 => ?_⟩
  obtain ⟨g, rfl⟩ : ∃ g, A = some ⟨g, 0, none⟩ := by
    rcases hA with e | e
    · omega
    · exact e
  obtain ⟨cs, hcs, hct⟩ : ∃ cs : Array Value, w.heap[g]? = some (.cells cs 37 (0, 0)) ∧ cs.toList.take (L.length * 5) = flatD L := by
    rcases h.2 with ⟨h0, _⟩ | ⟨g', cap, cur, h0, h2, h3, h4, h5, h6, h7⟩
    · cases h0
    · cases h0
      refine ⟨cur, h3, ?_⟩
      exact h7
  refine ⟨g, rfl, jblk hcs, fun i hi k hk => ?_⟩
  rw [← flatD_at L i k hi hk, ← hct, List.getElem?_take, if_pos (by omega), jcell hcs]
  simp
end Go.Proofs.Ytfmdpmebllepeaa

/-
  slices.ContainsFunc of deeds that are told, by hedgref.Orders's closure.
-/
namespace Go.Proofs.Ytfmdpmebllepeaa
open Go.RowKit Go.Maps

abbrev dval (d : Dn) : Value := .agg #[I d.w, I d.j, I d.b, I d.e, .bool d.is_]
end Go.Proofs.Ytfmdpmebllepeaa

/-
  hedgkeep.handsLives; hedgref.SameInts of lists that are the same.
-/
namespace Go.Proofs.Ytfmdpmebllepeaa
open Go.RowKit

end Go.Proofs.Ytfmdpmebllepeaa

/-
  hedgref.Between, KeySet.
-/
namespace Go.Proofs.Ytfmdpmebllepeaa
open Go.RowKit

set_option maxRecDepth 100000 in
theorem jbetween_any (a l h : Int) (w : World) {b : Bool} (hb : (decide (l ≤ a) && decide (a ≤ h)) = b) : Calls Try.prog 15 #[I a, I l, I h] w fun e w' => e = .returned (.bool b) ∧ w' = w := by
  by_cases h1 : l ≤ a
  · by_cases h2 : a ≤ h
    · obtain rfl : b = true := by rw [← hb]; simp [h1, h2]
      clear hb
      go_enter Try.func15, Try.ntmps15
      go_wp2
      go_ret
      exact ⟨by first | rfl | simp, rfl⟩
    · obtain rfl : b = false := by rw [← hb]; simp [h2]
      clear hb
      go_enter Try.func15, Try.ntmps15
      go_wp2
      go_ret
      exact ⟨by first | rfl | simp, rfl⟩
  · obtain rfl : b = false := by rw [← hb]; simp [h1]
    clear hb
    go_enter Try.func15, Try.ntmps15
    go_wp2
    go_ret
    exact ⟨by first | rfl | simp, rfl⟩
abbrev k10 (b : Nat → Bool) : Array Value := #[.bool (b 0), .bool (b 1), .bool (b 2), .bool (b 3), .bool (b 4), .bool (b 5), .bool (b 6), .bool (b 7), .bool (b 8), .bool (b 9)]
def KBk (w : World) (g : Nat) (b : Nat → Bool) : Prop := w.heap[g]? = some (.cells (k10 b) 39 (0, 0))
theorem KBk.set {w : World} {g : Nat} {b : Nat → Bool} (h : KBk w g b) {x : Nat} (hx : x < 10) : KBk (w.setCell ⟨g, x, none⟩ (.bool true)) g (upd b x true) := by
  unfold KBk
  rw [jset_at h]
  rcases (show x = 0 ∨ x = 1 ∨ x = 2 ∨ x = 3 ∨ x = 4 ∨ x = 5 ∨ x = 6 ∨ x = 7 ∨ x = 8 ∨ x = 9 by omega) with rfl | rfl | rfl | rfl | rfl | rfl | rfl | rfl | rfl | rfl <;> rfl
theorem KBk.cell {w : World} {g : Nat} {b : Nat → Bool} (h : KBk w g b) {x : Nat} (hx : x < 10) : w.cell? ⟨g, x, none⟩ = some (.bool (b x)) := by
  rw [jcell h]
  rcases (show x = 0 ∨ x = 1 ∨ x = 2 ∨ x = 3 ∨ x = 4 ∨ x = 5 ∨ x = 6 ∨ x = 7 ∨ x = 8 ∨ x = 9 by omega) with rfl | rfl | rfl | rfl | rfl | rfl | rfl | rfl | rfl | rfl <;> rfl
end Go.Proofs.Ytfmdpmebllepeaa

/-
  hedgref.HandsRight.
-/
namespace Go.Proofs.Ytfmdpmebllepeaa
open Go.RowKit Go.Maps

def rl (l : List Int) (k : Nat) : Int := if k = 0 then -1 else l[k - 1]?.getD 0
theorem rist_down {l : List Int} {k : Nat} (h : RisT l (k + 1)) : RisT l k := ⟨fun i hi hk => h.1 i hi (by omega), fun i hi hk => h.2 i hi (by omega)⟩
theorem rl_bd {l : List Int} {k : Nat} (hk : k ≤ l.length) (h : RisT l k) : -1 ≤ rl l k ∧ rl l k ≤ 9 := by
  unfold rl
  split
  · omega
  · have h1 : k - 1 < l.length := by omega
    rw [List.getElem?_eq_getElem h1, Option.getD_some]
    have := h.1 (k - 1) h1 (by omega)
    omega
theorem rl_next {l : List Int} {k : Nat} (hk : k < l.length) : rl l (k + 1) = l[k] := by
  unfold rl
  rw [if_neg (by omega), Nat.add_sub_cancel, List.getElem?_eq_getElem hk, Option.getD_some]
theorem rist_next {l : List Int} {k : Nat} (hk : k < l.length) (h : RisT l k) : RisT l (k + 1) ↔ (rl l k + 1 ≤ l[k] ∧ l[k] ≤ 9) := by
  constructor
  · intro h'
    refine ⟨?_, (h'.1 k hk (by omega)).2⟩
    unfold rl
    split
    · have := (h'.1 k hk (by omega)).1
      omega
    · rename_i h0
      have h1 : k - 1 < l.length := by omega
      rw [List.getElem?_eq_getElem h1, Option.getD_some]
      have := h'.2 (k - 1) (by omega) (by omega)
      have e : k - 1 + 1 = k := by omega
      simp only [e] at this
      omega
  · rintro ⟨h1, h2⟩
    have hb := rl_bd (Nat.le_of_lt hk) h
    refine ⟨fun i hi hik => ?_, fun i hi hik => ?_⟩
    · by_cases e : i = k
      · subst e; omega
      · exact h.1 i hi (by omega)
    · by_cases e : i + 1 = k
      · subst e
        have : rl l (i + 1) = l[i] := rl_next (by omega)
        omega
      · exact h.2 i hi (by omega)
theorem ris_t {l : List Int} : RisT l l.length ↔ Ris l := ⟨ris_of, fun h => ⟨fun i hi _ => (ris_at h hi).1, fun i hi _ => (ris_at h (by omega : i < l.length)).2 hi⟩⟩
def errR (algo : Int) (l : List Int) (es : List Sl) (on : Nat) : Int := if ¬ (1 ≤ algo ∧ algo ≤ 4) then 1 else chkH l es on
theorem errR_is {algo : Int} {l : List Int} {es : List Sl} {on : Nat} {g f b : Bool} (hg : ((decide (4 < es.length) || decide (500 < on)) || es.any lng) = g) {F0 : Bool} (h0 : F0 = true ↔ Ris l) (hf : (F0 && !es.any (fun s => s.L.any dbad)) = f) (hb : (decide (1 ≤ algo) && decide (algo ≤ 4)) = b) :
    errR algo l es on = if b = false then 1 else if g = true then 2 else if f = false then 3 else 0 := by
  have hC : (4 < es.length ∨ es.any lng = true ∨ 500 < on) ↔ g = true := by
    rw [← hg]
    simp only [Bool.or_eq_true, decide_eq_true_eq]
    constructor
    · rintro (h | h | h)
      · exact .inl (.inl h)
      · exact .inr h
      · exact .inl (.inr h)
    · rintro ((h | h) | h)
      · exact .inl h
      · exact .inr (.inr h)
      · exact .inr (.inl h)
  have hA : (¬ (1 ≤ algo ∧ algo ≤ 4)) ↔ b = false := by
    rw [← hb]
    by_cases h1 : 1 ≤ algo <;> by_cases h2 : algo ≤ 4 <;> simp [h1, h2]
  have hR : (¬ Ris l) ↔ F0 = false := by
    rw [← h0]
    cases F0 <;> simp
  unfold errR chkH
  simp only [hC, hA, hR]
  subst hf
  cases b <;> cases g <;> cases F0 <;> cases es.any (fun s => s.L.any dbad) <;> rfl
theorem any_next {α : Type} {p : α → Bool} {l : List α} {k : Nat} (hk : k < l.length) : (l.take (k + 1)).any p = ((l.take k).any p || p l[k]) := by
  rw [List.take_succ_eq_append_getElem hk, List.any_append]
  simp
set_option maxRecDepth 100000 in
set_option maxHeartbeats 16000000 in
theorem right_any (algo : Int) (A PA OA : Option Addr) (n c nh pc on oc : Nat) (l : List Int) (es : List Sl) (w : World) (h : IS w A n c l) (hP : RS w PA nh pc es) (hn : n ≤ 9223372036854775807) (hnh : nh ≤ 9223372036854775807) (hon : on ≤ 9223372036854775807) (hes : ∀ s ∈ es, s.n ≤ 9223372036854775807) :
    Calls Try.prog 6 #[I algo, .slice A n c, .slice PA nh pc, .slice OA on oc] w fun e w' => e = .returned (I (errR algo l es on)) ∧ Below w.heap.size w w' := by
  have H := Lib.hid h
  have HP := Lib.hid hP
  have HL := Lib.hid h.len
  have HPL := Lib.hid hP.len
  have HES := Lib.hid hes
  have HG : Hid ((decide (4 < (nh : Int)) || decide (500 < (on : Int))) = (decide (4 < es.length) || decide (500 < on))) := by
    show _ = _
    rw [hP.len]
    congr 1 <;> (apply decide_eq_decide.mpr; omega)
  clear h hP hes
  have HB := Lib.hid (fun wq => jbetween_any algo 1 4 wq rfl)
  have h4c : (4 < (nh : Int)) ∨ ¬ (4 < (nh : Int)) := by omega
  rcases h4c with h4 | h4
  all_goals
    go_enter Try.func6, Try.ntmps6
    go_wp2
    go_loopw [10, 11, 28] (fun fo la iv wr => ∃ (k : Nat) (f : Bool), k ≤ n ∧ iv = .int .i64 k ∧ fo = .bool f ∧ la = .int .i64 (rl l k) ∧ Hid (f = true ↔ RisT l k) ∧ wr = w) (fun _ _ iv _ => n - (intOf iv).toNat)
    case atStart => exact ⟨0, true, Nat.zero_le _, rfl, rfl, rfl, ⟨fun _ => ⟨fun i _ hi => absurd hi (by omega), fun i _ hi => absurd hi (by omega)⟩, fun _ => rfl⟩, rfl⟩
    case round =>
      obtain ⟨k, f, hk, rfl, rfl, rfl, HF, rfl⟩ := hrel
      by_cases hlt : k < n
      · obtain ⟨b, off, rfl, hb, hc⟩ := H.out.at_ (by omega)
        have hkl : k < l.length := by rw [HL.out]; exact hlt
        have hck : wr.cell? ⟨b, off + k, none⟩ = some (I l[k]) := hc k hlt
        have HRN := Lib.hid (rl_next hkl)
        cases f with
        | false =>
          have HN : Hid (false = true ↔ RisT l (k + 1)) := ⟨fun h => (by cases h), fun h => HF.out.2 (rist_down h)⟩
          obtain ⟨x, hx⟩ : ∃ x, l[k] = x := ⟨_, rfl⟩
          rw [hx] at hck HRN
          clear hc hx
          go_wp2
          go_roundw
          case rel => exact ⟨k + 1, false, by omega, by go_num, rfl, by rw [HRN.out], HN, by first | rfl | trivial⟩
          case measure => simp [intOf]; omega
        | true =>
          have hrt := HF.out.1 rfl
          have hbd := rl_bd (Nat.le_of_lt hkl) hrt
          have hnx := rist_next hkl hrt
          obtain ⟨x, hx⟩ : ∃ x, l[k] = x := ⟨_, rfl⟩
          obtain ⟨y, hy⟩ : ∃ y, rl l k = y := ⟨_, rfl⟩
          rw [hx] at hck hnx HRN
          rw [hy] at hbd hnx
          obtain ⟨bb, hbb⟩ : ∃ bb, (decide (y + 1 ≤ x) && decide (x ≤ 9)) = bb := ⟨_, rfl⟩
          have HN : Hid (bb = true ↔ RisT l (k + 1)) := by
            show _ ↔ _
            rw [hnx, ← hbb]
            simp
          have i1 : IntKind.i64.wrap (y + 1) = y + 1 := IntWalk.i64_in _ (by omega)
          have HBB := Lib.hid (jbetween_any x (y + 1) 9 wr hbb)
          rw [hy]
          clear hc hx hrt hnx hbb hy
          go_wp2_with fail
          refine HBB.out.mono ?_
          rintro e w1 ⟨rfl, hw1⟩
          have hw2 := hw1.symm
          subst hw2
          go_wp2
          go_roundw
          case rel => exact ⟨k + 1, bb, by omega, by go_num, rfl, by rw [HRN.out], HN, by first | rfl | trivial⟩
          case measure => simp [intOf]; omega
      · obtain rfl : n = k := by omega
        have HF0 : Hid (f = true ↔ Ris l) := by
          have := HF.out
          rw [← HL.out, ris_t] at this
          exact this
        go_wp2
        obtain ⟨wo, hwo⟩ : ∃ wo, wo = wr := ⟨_, rfl⟩
        subst hwo
        go_loopw [9, 10, 43] (fun la fo iv wr => ∃ (k : Nat) (g f' : Bool), k ≤ nh ∧ iv = .int .i64 k ∧ la = .bool g ∧ fo = .bool f' ∧ Hid (((decide (4 < es.length) || decide (500 < on)) || (es.take k).any lng) = g) ∧ Hid ((f && !(es.take k).any fun s => s.L.any dbad) = f') ∧ Below wo.heap.size wo wr) (fun _ _ iv _ => nh - (intOf iv).toNat)
        case atStart => exact ⟨0, _, _, Nat.zero_le _, rfl, rfl, rfl, Lib.hid (by rw [← HG.out, List.take_zero, List.any_nil, Bool.or_false]; first | (rw [show decide (4 < (nh : Int)) = true from decide_eq_true (by omega)]; rfl) | (rw [show decide (4 < (nh : Int)) = false from decide_eq_false (by omega)]; rfl)), Lib.hid (by simp), Below.refl _ _⟩
        case round =>
          obtain ⟨k, g, f', hk, rfl, rfl, rfl, HGK, HFK, hbl⟩ := hrel
          have HBL := Lib.hid hbl
          by_cases hlt : k < nh
          · obtain ⟨b, off, rfl, hb, hc⟩ := HP.out.at_ (by omega)
            have hkl : k < es.length := by rw [HPL.out]; exact hlt
            have hck : wr.cell? ⟨b, off + k, none⟩ = some es[k].val := (hbl.cell (by exact hb)).trans (hc k hlt)
            have hps : PS wr es[k].A es[k].n es[k].c es[k].L := PS.below (HP.out.each _ (List.getElem_mem hkl)) hbl
            have hsn := HES.out _ (List.getElem_mem hkl)
            have hng := any_next (p := lng) hkl
            have hnf := any_next (p := fun s : Sl => s.L.any dbad) hkl
            obtain ⟨⟨sA, sn, sc, sL⟩, hsv⟩ : ∃ s, es[k] = s := ⟨_, rfl⟩
            rw [hsv] at hck hps hsn hng hnf
            replace hck : wr.cell? ⟨b, off + k, none⟩ = some (.slice sA sn sc) := hck
            have hps : PS wr sA sn sc sL := hps
            have hsn : sn ≤ 9223372036854775807 := hsn
            have HPS := Lib.hid hps
            have hsl : sL.length = sn := hps.len
            have HSL := Lib.hid hsl
            have HGN : Hid (((decide (4 < es.length) || decide (500 < on)) || (es.take (k + 1)).any lng) = (g || decide (4 < (sn : Int)))) := by
              show _ = _
              rw [hng, ← Bool.or_assoc, HGK.out]
              congr 1
              apply decide_eq_decide.mpr
              show 4 < sn ↔ _
              omega
            have HFN : Hid ((f && !(es.take (k + 1)).any fun s => s.L.any dbad) = (f' && !sL.any dbad)) := by
              show _ = _
              rw [hnf, Bool.not_or, ← Bool.and_assoc, HFK.out]
            clear hc hbl hps hsl hng hnf hsv
            cases g
            all_goals
              go_wp2
              obtain ⟨ws, hws⟩ : ∃ ws, ws = wr := ⟨_, rfl⟩
              subst hws
              go_loopw [10, 55] (fun fo iv wr => ∃ (j : Nat) (f2 : Bool), j ≤ sn ∧ iv = .int .i64 j ∧ fo = .bool f2 ∧ Hid ((f' && !(sL.take j).any dbad) = f2) ∧ Below ws.heap.size ws wr) (fun _ iv _ => sn - (intOf iv).toNat)
              case atStart => exact ⟨0, _, Nat.zero_le _, rfl, rfl, Lib.hid (by simp), Below.refl _ _⟩
              case round =>
                obtain ⟨j, f2, hj, rfl, rfl, HF2, hbq⟩ := hrel
                have HBQ := Lib.hid hbq
                by_cases hjl : j < sn
                · obtain ⟨sb, soff, rfl, hsb, hsc⟩ := HPS.out.at_ (by omega)
                  have hjs : j < sL.length := by rw [HSL.out]; exact hjl
                  have hq := hsc j hjl
                  have hnx := any_next (p := dbad) hjs
                  obtain ⟨⟨kd, K⟩, hkK⟩ : ∃ q, sL[j] = q := ⟨_, rfl⟩
                  rw [hkK] at hq hnx
                  have q1 : wr.cell? ⟨sb, soff + j * 2, none⟩ = some (I kd) := (hbq.cell (p := ⟨sb, _, none⟩) hsb).trans hq.1
                  have q2 : wr.cell? ⟨sb, soff + j * 2 + 1, none⟩ = some (I K) := (hbq.cell (p := ⟨sb, soff + j * 2 + 1, none⟩) hsb).trans hq.2
                  have q2' : wr.cell? ⟨sb, soff + (j * 2 + 1), none⟩ = some (I K) := q2
                  have HA : Hid (Below ws.heap.size ws (wr.alloc (.cells #[I kd, I K] 50))) := hbq.alloc hbq.size _
                  have HNX : Hid ((f' && !(sL.take (j + 1)).any dbad) = (f2 && !dbad (kd, K))) := by
                    show _ = _
                    rw [hnx, Bool.not_or, ← Bool.and_assoc, HF2.out]
                  clear hq hsc hbq hnx hkK
                  cases f2 with
                  | false =>
                    go_wp2
                    go_roundw
                    case rel => exact ⟨j + 1, false, by omega, by go_num, rfl, Lib.hid (by rw [HNX.out]; rfl), HA.out⟩
                    case measure => simp [intOf]; omega
                  | true =>
                    obtain ⟨b1, hb1⟩ : ∃ b1, (decide (1 ≤ kd) && decide (kd ≤ 3)) = b1 := ⟨_, rfl⟩
                    obtain ⟨b2, hb2⟩ : ∃ b2, (decide (0 ≤ K) && decide (K ≤ 9)) = b2 := ⟨_, rfl⟩
                    have HDB : Hid ((!dbad (kd, K)) = (b1 && b2)) := by
                      show _ = _
                      rw [← hb1, ← hb2]
                      unfold dbad
                      by_cases a1 : 1 ≤ kd <;> by_cases a2 : kd ≤ 3 <;> by_cases a3 : 0 ≤ K <;> by_cases a4 : K ≤ 9 <;> simp [a1, a2, a3, a4] <;> omega
                    have HC1 := Lib.hid (jbetween_any kd 1 3 (wr.alloc (.cells #[I kd, I K] 50)) hb1)
                    have HC2 := Lib.hid (jbetween_any K 0 9 (wr.alloc (.cells #[I kd, I K] 50)) hb2)
                    clear hb1 hb2
                    cases b1 with
                    | false =>
                      go_wp2_with fail
                      refine HC1.out.mono ?_
                      rintro e w1 ⟨rfl, rfl⟩
                      go_wp2
                      go_roundw
                      case rel => exact ⟨j + 1, false, by omega, by go_num, rfl, Lib.hid (by rw [HNX.out, HDB.out]; rfl), HA.out⟩
                      case measure => simp [intOf]; omega
                    | true =>
                      go_wp2_with fail
                      refine HC1.out.mono ?_
                      rintro e w1 ⟨rfl, rfl⟩
                      go_wp2_with fail
                      refine HC2.out.mono ?_
                      rintro e w2 ⟨rfl, rfl⟩
                      go_wp2
                      go_roundw
                      case rel => exact ⟨j + 1, b2, by omega, by go_num, rfl, Lib.hid (by rw [HNX.out, HDB.out]; simp), HA.out⟩
                      case measure => simp [intOf]; omega
                · obtain rfl : sn = j := by omega
                  have HBO := Lib.hid (HBL.out.trans (hbq.mono HBL.out.size))
                  have hfull : sL.take sn = sL := List.take_of_length_le (by rw [HSL.out]; exact Nat.le_refl _)
                  rw [hfull] at HF2
                  clear hbq hfull
                  go_wp2
                  go_roundw
                  case rel => exact ⟨k + 1, _, f2, by omega, by go_num, rfl, rfl, Lib.hid (by rw [HGN.out]; simp), Lib.hid (by rw [HFN.out]; exact HF2.out), HBO.out⟩
                  case measure => simp [intOf]; omega
          · obtain rfl : nh = k := by omega
            have hfull : es.take nh = es := List.take_of_length_le (by rw [HPL.out]; exact Nat.le_refl _)
            rw [hfull] at HGK HFK
            have HE := fun b hb => Lib.hid (errR_is (algo := algo) HGK.out HF0.out HFK.out (b := b) hb)
            obtain ⟨b, hb⟩ : ∃ b, (decide (1 ≤ algo) && decide (algo ≤ 4)) = b := ⟨_, rfl⟩
            have HE := HE b hb
            have HC := Lib.hid (jbetween_any algo 1 4 wr hb)
            clear hbl hb hfull HB
            cases b with
            | false =>
              go_wp2_with fail
              refine HC.out.mono ?_
              rintro e w1 ⟨rfl, hw1⟩
              have hw2 := hw1.symm
              subst hw2
              go_wp2
              go_ret
              exact ⟨ret_int (by rw [HE.out]; simp), HBL.out⟩
            | true =>
              go_wp2_with fail
              refine HC.out.mono ?_
              rintro e w1 ⟨rfl, hw1⟩
              have hw2 := hw1.symm
              subst hw2
              cases g with
              | true =>
                go_wp2
                go_ret
                exact ⟨ret_int (by rw [HE.out]; simp), HBL.out⟩
              | false =>
                cases f' with
                | false =>
                  go_wp2
                  go_ret
                  exact ⟨ret_int (by rw [HE.out]; simp), HBL.out⟩
                | true =>
                  go_wp2
                  go_ret
                  exact ⟨ret_int (by rw [HE.out]; simp), HBL.out⟩

end Go.Proofs.Ytfmdpmebllepeaa

/-
  What Run answers, whatever it is given, with the error's number.
-/
namespace Go.Proofs.Ytfmdpmebllepeaa
open Go.RowKit Go.Maps

def RunAll2 (algo : Int) (nh on : Nat) (es : List Sl) (l ord : List Int) (w : World) (e : Ending) (w' : World) : Prop :=
  ∃ (dA lA : Option Addr) (dn dc ln lc : Nat), e = .returned (.tuple #[.agg #[.slice dA dn dc, .slice lA ln lc], I (errR algo l es on)]) ∧ Below w.heap.size w w' ∧ (errR algo l es on ≠ 0 → dn = 0 ∧ ln = 0) ∧
    (errR algo l es on = 0 → ∃ al : Nat, algo = al ∧ (al = 1 ∨ al = 2 ∨ al = 3 ∨ al = 4) ∧ chkH l es on = 0 ∧ ∃ m, Pn (Wend al nh (prog0 es) l ord).s.nx (Wend al nh (prog0 es) l ord).s.tl ((Wend al nh (prog0 es) l ord).s.nx 0) m ∧
      DR w' dA dn (Tdl (Wend al nh (prog0 es) l ord) nh (fun v => (prog0 es v).length)) ∧ IS w' lA ln lc (lft (Wend al nh (prog0 es) l ord).s m ((Wend al nh (prog0 es) l ord).s.nx 0)))
theorem run_all2 (A PA OA : Option Addr) (n c nh pc on oc : Nat) (l ord : List Int) (es : List Sl) (w : World) (algo : Int) (hw : (Lit.int .i64 algo).wf = true) (h : IS w A n c l) (hP : RS w PA nh pc es) (hO : IS w OA on oc ord) (hn : n ≤ 9223372036854775807) (hnh : nh ≤ 9223372036854775807) (hon : on ≤ 9223372036854775807) (hes : ∀ s ∈ es, s.n ≤ 9223372036854775807) :
    Calls Try.prog 5 #[I algo, .slice A n c, .slice PA nh pc, .slice OA on oc] w (RunAll2 algo nh on es l ord w) := by
  by_cases ha : 1 ≤ algo ∧ algo ≤ 4
  · obtain ⟨al, rfl⟩ : ∃ al : Nat, algo = al := ⟨algo.toNat, by omega⟩
    have hal : al = 1 ∨ al = 2 ∨ al = 3 ∨ al = 4 := by omega
    have hr : errR (al : Int) l es on = chkH l es on := by unfold errR; rw [if_neg (fun h => h ha)]
    by_cases hE : chkH l es on = 0
    · refine (Run_ok A PA OA n c nh pc on oc l ord es w hal h hP hO hn hnh hon hes hE).mono fun e w' hx => ?_
      obtain ⟨dv, lv, m, rfl, hm, hD, hL, hb⟩ := hx
      obtain ⟨lA, lc, rfl, hL', -⟩ := hL.is_
      obtain ⟨dA, dc, rfl, hD'⟩ := hD.dr
      exact ⟨dA, lA, _, dc, _, lc, by rw [hr, hE], hb, fun h => absurd (hr.trans hE) h, fun _ => ⟨al, rfl, hal, hE, m, hm, hD', hL'⟩⟩
    · exact (Run_err A PA OA n c nh pc on oc l es w hal h hP hn hnh hon hes rfl hE).mono fun e w' ⟨he, hb⟩ => ⟨none, none, 0, 0, 0, 0, by rw [hr]; exact he, hb, fun _ => ⟨rfl, rfl⟩, fun h0 => absurd (hr.symm.trans h0) hE⟩
  · have hr : errR algo l es on = 1 := by unfold errR; rw [if_pos ha]
    exact (Run_arg A PA OA n c nh pc on oc w algo (keyOf_int_mk Try.underlying3 hw) ha).mono fun e w' ⟨he, hb⟩ => ⟨none, none, 0, 0, 0, 0, by rw [hr]; exact he, hb, fun _ => ⟨rfl, rfl⟩, fun h0 => absurd (hr.symm.trans h0) (by decide)⟩
end Go.Proofs.Ytfmdpmebllepeaa

/-
  slices.IndexFunc of deeds that are told, by the closure of hedgref's Bench's step.
-/
namespace Go.Proofs.Ytfmdpmebllepeaa
open Go.RowKit Go.Maps

set_option maxRecDepth 100000 in
set_option maxHeartbeats 4000000 in
theorem ustep1_any (y : Dn) (wb hb gH v j : Nat) (w : World) (h1 : w.cell? ⟨wb, 0, none⟩ = some (I v)) (h2 : w.cell? ⟨hb, 0, none⟩ = some (.pointer (some ⟨gH, v * 5, none⟩))) (h3 : w.cell? ⟨gH, v * 5, none⟩ = some (I j)) (l1 : wb < w.heap.size) (l2 : hb < w.heap.size) (l3 : gH < w.heap.size) :
    Calls Try.prog 39 #[dval y, .pointer (some ⟨wb, 0, none⟩), .pointer (some ⟨hb, 0, none⟩)] w fun e w' => e = .returned (.bool (isV v j y)) ∧ Below w.heap.size w w' := by
  obtain ⟨yw, yj, yb, ye, yi⟩ := y
  have HB : Hid (Below w.heap.size w (w.alloc (.cells #[I yw, I yj, I yb, I ye, .bool yi] 37))) := (Below.refl _ _).alloc (Nat.le_refl _) _
  have c1 : ∀ o, (w.alloc o).cell? ⟨wb, 0, none⟩ = some (I v) := fun o => (World.cell?_of_block (Below.heap_alloc _ _ _ l1)).trans h1
  have c2 : ∀ o, (w.alloc o).cell? ⟨hb, 0, none⟩ = some (.pointer (some ⟨gH, v * 5, none⟩)) := fun o => (World.cell?_of_block (Below.heap_alloc _ _ _ l2)).trans h2
  have c3 : ∀ o, (w.alloc o).cell? ⟨gH, v * 5, none⟩ = some (I j) := fun o => (World.cell?_of_block (Below.heap_alloc _ _ _ l3)).trans h3
  by_cases e1 : yw = v
  · have q1 : ((yw : Int) == (v : Int)) = true := by simp [e1]
    by_cases e2 : yj = j
    · have q2 : ((yj : Int) == (j : Int)) = true := by simp [e2]
      have hr : isV v j ⟨yw, yj, yb, ye, yi⟩ = true := by simp [isV, e1, e2]
      rw [hr]
      clear h1 h2 h3 e1 e2 hr
      go_enter Try.func39, Try.ntmps39
      go_wp2_with fail
      go_quiet (fail)
      go_wp2
      go_ret
      exact ⟨by first | rfl | simp [q1, q2], below_drewN HB.out _⟩
    · have q2 : ((yj : Int) == (j : Int)) = false := by simp; omega
      have hr : isV v j ⟨yw, yj, yb, ye, yi⟩ = false := by simp [isV, e2]
      rw [hr]
      clear h1 h2 h3 e1 e2 hr
      go_enter Try.func39, Try.ntmps39
      go_wp2_with fail
      go_quiet (fail)
      go_wp2
      go_ret
      exact ⟨by first | rfl | simp [q1, q2], below_drewN HB.out _⟩
  · have q1 : ((yw : Int) == (v : Int)) = false := by simp; omega
    have hr : isV v j ⟨yw, yj, yb, ye, yi⟩ = false := by simp [isV, e1]
    rw [hr]
    clear h1 h2 h3 e1 hr
    go_enter Try.func39, Try.ntmps39
    go_wp2_with fail
    go_quiet (fail)
    go_wp2
    go_ret
    exact ⟨by first | rfl | simp [q1], below_drewN HB.out _⟩
set_option maxRecDepth 100000 in
set_option maxHeartbeats 4000000 in
theorem ixV_any (A : Option Addr) (n c : Nat) (L : List Dn) (wb hb gH v jj : Nat) (w : World) (h : DR w A n L) (h1 : w.cell? ⟨wb, 0, none⟩ = some (I v)) (h2 : w.cell? ⟨hb, 0, none⟩ = some (.pointer (some ⟨gH, v * 5, none⟩))) (h3 : w.cell? ⟨gH, v * 5, none⟩ = some (I jj)) (l1 : wb < w.heap.size) (l2 : hb < w.heap.size) (l3 : gH < w.heap.size) (hn : n ≤ 9223372036854775807) :
    Calls Try.prog 38 #[.slice A n c, .func (.func 39) #[] #[.pointer (some ⟨wb, 0, none⟩), .pointer (some ⟨hb, 0, none⟩)]] w fun e w' => e = .returned (I (fix1 (isV v jj) L)) ∧ Below w.heap.size w w' := by
  have H := Lib.hid h
  have HL := Lib.hid h.len
  have HS : Hid (∀ wr, Below w.heap.size w wr → ∀ y, Calls Try.prog 39 #[dval y, .pointer (some ⟨wb, 0, none⟩), .pointer (some ⟨hb, 0, none⟩)] wr fun e w' => e = .returned (.bool (isV v jj y)) ∧ Below wr.heap.size wr w') := fun wr hb1 y =>
    ustep1_any y wb hb gH v jj wr ((hb1.cell (by exact l1)).trans h1) ((hb1.cell (by exact l2)).trans h2) ((hb1.cell (by exact l3)).trans h3) (Nat.lt_of_lt_of_le l1 hb1.size) (Nat.lt_of_lt_of_le l2 hb1.size) (Nat.lt_of_lt_of_le l3 hb1.size)
  clear h h1 h2 h3 l1 l2 l3
  go_enter Try.func38, Try.ntmps38
  go_wp2
  go_loopw [8] (fun i wr => ∃ k : Nat, k ≤ n ∧ i = .int .i64 k ∧ Hid (∀ j (hj : j < L.length), j < k → isV v jj L[j] = false) ∧ Below w.heap.size w wr) (fun i _ => n - (intOf i).toNat)
  case atStart => exact ⟨0, Nat.zero_le _, rfl, fun j _ hj => absurd hj (by omega), Below.refl _ _⟩
  case round =>
    obtain ⟨k, hk, rfl, HNO, hbl⟩ := hrel
    have HBL := Lib.hid hbl
    by_cases hlt : k < n
    · obtain ⟨g, rfl, hg, hc⟩ := H.out.at_ (by omega)
      have hkl : k < L.length := by rw [HL.out]; exact hlt
      have hDk := hc k hkl
      have hyes : isV v jj L[k] = true → fix1 (isV v jj) L = k := fun hd => fix1_hit hkl hd HNO.out
      have hno2 : isV v jj L[k] = false → ∀ j (hj : j < L.length), j < k + 1 → isV v jj L[j] = false := fun hd j hj hjk => by
        by_cases e : j = k
        · subst e; exact hd
        · exact HNO.out j hj (by omega)
      have HC := HS.out wr hbl L[k]
      obtain ⟨b, hb⟩ : ∃ b, isV v jj L[k] = b := ⟨_, rfl⟩
      rw [hb] at HC hyes hno2
      obtain ⟨⟨dw, dj, db, de, di⟩, hd⟩ : ∃ d, L[k] = d := ⟨_, rfl⟩
      rw [hd] at hDk HC
      have D0 : wr.cell? ⟨g, k * 5, none⟩ = some (I dw) := (hbl.cell (p := ⟨g, k * 5, none⟩) hg).trans (hDk 0 (by omega))
      have D1 : wr.cell? ⟨g, k * 5 + 1, none⟩ = some (I dj) := (hbl.cell (p := ⟨g, k * 5 + 1, none⟩) hg).trans (hDk 1 (by omega))
      have D2 : wr.cell? ⟨g, k * 5 + 2, none⟩ = some (I db) := (hbl.cell (p := ⟨g, k * 5 + 2, none⟩) hg).trans (hDk 2 (by omega))
      have D3 : wr.cell? ⟨g, k * 5 + 3, none⟩ = some (I de) := (hbl.cell (p := ⟨g, k * 5 + 3, none⟩) hg).trans (hDk 3 (by omega))
      have D4 : wr.cell? ⟨g, k * 5 + 4, none⟩ = some (.bool di) := (hbl.cell (p := ⟨g, k * 5 + 4, none⟩) hg).trans (hDk 4 (by omega))
      have HC := Lib.hid HC
      have HY := Lib.hid hyes
      have HN := Lib.hid hno2
      clear hc hbl hDk hd hyes hno2 hb
      cases b with
      | true =>
        have HF := Lib.hid (HY.out rfl)
        go_wp2_with fail
        refine HC.out.mono ?_
        rintro e w1 ⟨rfl, hb1⟩
        have HB1 := Lib.hid (HBL.out.trans (hb1.mono HBL.out.size))
        clear hb1
        go_wp2
        go_ret
        exact ⟨ret_int (by rw [HF.out]), HB1.out⟩
      | false =>
        have HN2 := Lib.hid (HN.out rfl)
        go_wp2_with fail
        refine HC.out.mono ?_
        rintro e w1 ⟨rfl, hb1⟩
        have HB1 := Lib.hid (HBL.out.trans (hb1.mono HBL.out.size))
        clear hb1
        go_wp2
        go_roundw
        case rel => exact ⟨k + 1, by omega, by go_num, HN2.out, HB1.out⟩
        case measure => simp [intOf]; omega
    · have HF : Hid (fix1 (isV v jj) L = -1) := fix1_none fun j hj => HNO.out j hj (by rw [HL.out] at hj; omega)
      clear hbl
      go_wp2
      go_ret
      exact ⟨ret_int (by rw [HF.out]), HBL.out⟩
end Go.Proofs.Ytfmdpmebllepeaa

/-
  hedgref's Handled: the bench laid, its beads one behind the other; rows beside rows.
-/
namespace Go.Proofs.Ytfmdpmebllepeaa
open Go.RowKit

theorem grown_keep {w w5 : World} {o : Obj} {v : Value} {B n s e : Nat} {xs : List Value} (hown : w.ownsRow B e s v n xs) (hg : (w.alloc o).grownBy w5 v.ownBlock) {g t : Nat} {C : Array Value} {f : Nat × Nat} (h : w.heap[g]? = some (.cells C t f)) (ht : t ≠ e) : w5.heap[g]? = some (.cells C t f) := by
  rw [hg.block g (by rw [World.size_alloc]; exact Nat.lt_succ_of_lt (jblk h)) (fun e2 => by
    obtain ⟨C', h1, _⟩ := urow_blk hown e2.symm
    rw [h] at h1
    injection h1 with h1
    injection h1 with _ h1
    exact ht h1), Below.heap_alloc _ _ _ (jblk h)]
  exact h
theorem row_keep {w w5 : World} {o : Obj} {v v' : Value} {B n s e B' n' s' e' : Nat} {xs xs' : List Value} (hown : w.ownsRow B e s v n xs) (hg : (w.alloc o).grownBy w5 v.ownBlock) (h : w.ownsRow B' e' s' v' n' xs') (ht : e' ≠ e) : w5.ownsRow B' e' s' v' n' xs' :=
  urow_keep h fun g hg' => by
    obtain ⟨C', h1, _⟩ := urow_blk h hg'
    exact (grown_keep hown hg h1 ht).trans h1.symm
section
variable {w w5 : World} {base bb gB cB gH cH al nh : Nat} {s : Bs} {lk : Nat → Bool} {ix : Nat → Nat} {hs : Nat → Hd} {pv dv : Value} {now : Nat} {D : List Dn}
theorem UB.beaded {l : List Int} {k g5 cap5 : Nat} {o : Obj} (h : UB w base bb gB cB gH cH al nh (stp l k) (fun _ => false) ix hs pv dv now D) (hk : k ≤ l.length) (hg : (w.alloc o).grownBy w5 (some gB))
    (hown : w5.ownsRow base 56 4 (.slice (some ⟨g5, 0, none⟩) (k + 1 + 1) cap5) (k + 1 + 1) (flatB (stp l k) (fun _ => false) ++ [I ((st0 l).key (k + 1)), I ((k : Int) + 2), .bool false, .bool false])) :
    w5.heap[bb]? = some (.cells #[I al, .slice (some ⟨gB, 0, none⟩) (k + 1) cB, .slice (some ⟨gH, 0, none⟩) nh cH, pv, I now, dv] 59 (0, 0)) ∧
    UB (w5.setCell ⟨bb, 1, none⟩ (.slice (some ⟨g5, 0, none⟩) (k + 1 + 1) cap5)) base bb g5 cap5 gH cH al nh (stp l (k + 1)) (fun _ => false) ix hs pv dv now D ∧ UF base w (w5.setCell ⟨bb, 1, none⟩ (.slice (some ⟨g5, 0, none⟩) (k + 1 + 1) cap5)) := by
  obtain ⟨C, hC, hge⟩ := h.bblk
  have hbz : base ≤ w.heap.size := Nat.le_of_lt (Nat.lt_of_le_of_lt h.bge (jblk h.box))
  have hg' : (w.alloc o).grownBy w5 (Value.slice (some ⟨gB, 0, none⟩) (stp l k).sz cB).ownBlock := hg
  have h1 := grown_keep h.beads hg' h.box (by decide)
  have h2 := row_keep h.beads hg' h.hands (by decide)
  have h3 : OwnD w5 base dv D := row_keep h.beads hg' h.done (by decide)
  rw [← flatB_stp l k hk] at hown
  have h4 : UF base w w5 := by
    refine ⟨fun g cs t f a b _ _ _ => grown_keep h.beads hg' a b, ((Below.refl base w).alloc hbz o).grown hg (by rw [World.size_alloc]; exact Nat.le_succ_of_le hbz) (fun k e => by rw [← Option.some.inj e]; exact hge)⟩
  exact ⟨h1, ⟨jset_at h1, h.bge, urow_far hown h1 (by decide) _, urow_far h2 h1 (by decide) _, urow_far h3 h1 (by decide) _⟩, h4.trans (UF.setCell h1 h.bge (.inr (.inr (.inl rfl))) _)⟩
theorem UB.closed {l : List Int} (h : UB w base bb gB cB gH cH al nh (stp l (l.length + 1)) (fun _ => false) ix hs pv dv now D) :
    UB (w.setCell ⟨gB, (l.length + 1) * 4 + 1, none⟩ (I (-1))) base bb gB cB gH cH al nh (st0 l) (fun _ => false) ix hs pv dv now D := by
  obtain ⟨C, hC, hge⟩ := h.bblk
  refine ⟨(Below.heap_setCell _ _ _ _ (ublk_ne h.box hC (by decide))).trans h.box, h.bge, ?_, urow_far h.hands hC (by decide) _, urow_far h.done hC (by decide) _⟩
  have := urow_set h.beads ((l.length + 1) * 4 + 1) (I (-1))
  have e : (flatB (stp l (l.length + 1)) (fun _ => false)).set ((l.length + 1) * 4 + 1) (I (-1)) = flatB (st0 l) (fun _ => false) := by
    rw [flatB_stp l l.length (Nat.le_refl _)]
    have h1 : (flatB (stp l l.length) (fun _ => false)).length = (l.length + 1) * 4 := flatB_len _ _
    rw [List.set_append_right _ _ (by omega), h1, Nat.add_sub_cancel_left]
    have h2 : flatB (st0 l) (fun _ => false) = flatB (stp l l.length) (fun _ => false) ++ bc4 (st0 l) (fun _ => false) (l.length + 1) := flatB_ins (s := stp l l.length) (s' := st0 l) rfl (fun j hj => by
      have hj' : j < l.length + 1 := hj
      show [_, I (if j = l.length + 1 then -1 else ((j + 1 : Nat) : Int)), _, _] = [_, I (if j = l.length + 5 then -1 else ((j + 1 : Nat) : Int)), _, _]
      rw [if_neg (by omega), if_neg (by omega)]
      rfl)
    rw [h2]
    congr 1
    show _ = [_, I (if l.length + 1 = l.length + 1 then -1 else ((l.length + 1 + 1 : Nat) : Int)), _, _]
    rw [if_pos rfl]
    rfl
  rw [e] at this
  exact this
end
theorem UB.laid (w : World) (al nh : Nat) (pv : Value) (hnh : nh ≤ 1000) (l : List Int) : UB ((((w.alloc (.cells #[.slice none 0 0, .slice none 0 0] 26)).alloc (.cells (madeCells #[I 0, I 0, I 0, I 0, .bool false] (nh * 5)) 81)).alloc (.cells #[I (-1), I 1, .bool false, .bool false] 56)).alloc (.cells #[I al, .slice (some ⟨w.heap.size + 1 + 1, 0, none⟩) 1 1, .slice (some ⟨w.heap.size + 1, 0, none⟩) nh nh, pv, I 0, .slice none 0 0] 59))
    w.heap.size (w.heap.size + 1 + 1 + 1) (w.heap.size + 1 + 1) 1 (w.heap.size + 1) nh al nh (stp l 0) (fun _ => false) (fun _ => 0) (fun _ => hd0) pv (.slice none 0 0) 0 [] := by
  have e1 : (w.alloc (.cells #[.slice none 0 0, .slice none 0 0] 26)).heap.size = w.heap.size + 1 := by simp
  have e2 : ((w.alloc (.cells #[.slice none 0 0, .slice none 0 0] 26)).alloc (.cells (madeCells #[I 0, I 0, I 0, I 0, .bool false] (nh * 5)) 81)).heap.size = w.heap.size + 1 + 1 := by simp
  have e3 : (((w.alloc (.cells #[.slice none 0 0, .slice none 0 0] 26)).alloc (.cells (madeCells #[I 0, I 0, I 0, I 0, .bool false] (nh * 5)) 81)).alloc (.cells #[I (-1), I 1, .bool false, .bool false] 56)).heap.size = w.heap.size + 1 + 1 + 1 := by simp
  refine ⟨?_, by omega, ?_, ?_, ⟨rfl, .inl ⟨rfl, rfl⟩⟩⟩
  · have := heap_alloc_new (((w.alloc (.cells #[.slice none 0 0, .slice none 0 0] 26)).alloc (.cells (madeCells #[I 0, I 0, I 0, I 0, .bool false] (nh * 5)) 81)).alloc (.cells #[I (-1), I 1, .bool false, .bool false] 56)) (.cells #[I al, .slice (some ⟨w.heap.size + 1 + 1, 0, none⟩) 1 1, .slice (some ⟨w.heap.size + 1, 0, none⟩) nh nh, pv, I 0, .slice none 0 0] 59)
    rw [e3] at this
    exact this
  · have h1 := heap_alloc_new ((w.alloc (.cells #[.slice none 0 0, .slice none 0 0] 26)).alloc (.cells (madeCells #[I 0, I 0, I 0, I 0, .bool false] (nh * 5)) 81)) (.cells #[I (-1), I 1, .bool false, .bool false] 56)
    rw [e2] at h1
    refine ⟨rfl, .inr ⟨w.heap.size + 1 + 1, 1, _, rfl, by omega, (Below.heap_alloc _ _ _ (by omega)).trans h1, Nat.le_refl _, by unfold maxLen; omega, rfl, ?_⟩⟩
    show [I (-1), I 1, .bool false, .bool false] = flatB (stp l 0) (fun _ => false)
    simp [flatB, stp, bc4, nxI, st0]
  · have h1 := heap_alloc_new (w.alloc (.cells #[.slice none 0 0, .slice none 0 0] 26)) (.cells (madeCells #[I 0, I 0, I 0, I 0, .bool false] (nh * 5)) 81)
    rw [e1] at h1
    refine ⟨flatH_len _ _ _, .inr ⟨w.heap.size + 1, nh, _, rfl, by omega, (Below.heap_alloc _ _ _ (by omega)).trans ((Below.heap_alloc _ _ _ (by omega)).trans h1), Nat.le_refl _, by unfold maxLen; omega, size_madeCells _ _, ?_⟩⟩
    rw [made_flatH, List.take_of_length_le (by rw [flatH_len]; exact Nat.le_refl _)]
theorem st0_cell {l : List Int} {k : Nat} (hk : k < (l ++ [10]).length) : (l ++ [10])[k] = (st0 l).key (k + 1) := by
  rw [List.length_append] at hk
  simp only [List.length_cons, List.length_nil] at hk
  by_cases h : k < l.length
  · rw [List.getElem_append_left h, st0_key l k h]
  · have e : k = l.length := by omega
    subst e
    rw [st0_top]
    simp
end Go.Proofs.Ytfmdpmebllepeaa
