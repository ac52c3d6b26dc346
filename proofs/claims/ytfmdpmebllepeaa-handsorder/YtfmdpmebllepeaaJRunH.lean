/-
  package hands: ways; Run, whole.
-/
import Derived.Test.YtfmdpmebllepeaaJCheck
import Derived.Test.YtfmdpmebllepeaaJSound
import Derived.Test.YtfmdpmebllepeaaJRunW
import Derived.Maps.OwnSet
import Derived.Test.YtfmdpmebllepeaaLiftBase
namespace Go.Proofs.Ytfmdpmebllepeaa
open Go.RowKit Go.Maps

/-- how a function reads in a map -/
def wd : Option Nat → DataW Unit
  | none => .nil
  | some g => .lit (.int .i64 g)
abbrev wp (o : Option Nat) : Value := match o with | none => .nilFunc | some g => .func (.func g) #[] #[]
def rw' (v : Value) : Option (DataW Unit × List MemPlace) :=
  match v with
  | .nilFunc => some (.nil, [])
  | .func (.func g) a b => if a.size = 0 ∧ b.size = 0 then some (.lit (.int .i64 g), []) else none
  | _ => none
theorem rw_mk (o : Option Nat) : rw' (wp o) = some (wd o, []) := by cases o <;> rfl
theorem rw_inv {v : Value} {o : Option Nat} {ps : List MemPlace} (h : rw' v = some (wd o, ps)) : v = wp o := by
  unfold rw' at h
  split at h
  · cases o with
    | none => rfl
    | some g => simp [wd] at h
  · split at h
    · rename_i hh
      cases o with
      | none => simp [wd] at h
      | some g =>
        simp [wd] at h
        have e := Int.ofNat.inj h.1
        subst e
        rw [Array.eq_empty_of_size_eq_zero hh.1, Array.eq_empty_of_size_eq_zero hh.2]
    · cases h
  · cases h
theorem jwf {x : Int} (h : -9223372036854775808 ≤ x ∧ x ≤ 9223372036854775807) : (Lit.int .i64 x).wf = true := by
  have h1 : IntKind.i64.min = -9223372036854775808 := by decide
  have h2 : IntKind.i64.max = 9223372036854775807 := by decide
  simp [Lit.wf, h1, h2]
  omega
theorem jkeyed : Keyed Try.prog 3 := int_keyed Try.underlying3
theorem zero_way (w : World) : (zeroValue 42).run Try.prog w = .ok (wp none) w := by kernel_rfl
/-- the ways that are there -/
def wQ (k : Int) : Option Nat := if k = 1 then some 24 else if k = 2 then some 25 else if k = 3 then some 26 else if k = 4 then some 27 else none
def WM (w : World) (b T : Nat) (Q : Int → Option Nat) : Prop := ∃ D, w.ownsMap Try.prog 3 rw' b T D ∧ (∀ h, D.atKey (.int .i64 h) .nil = wd (Q h)) ∧ ∀ h, Maps.has D (.int .i64 h) = (Q h).isSome
theorem WM.made (w : World) : WM (w.alloc (.map #[] 0)) w.heap.size 0 (fun _ => none) := ⟨.map [], World.ownsMap_made _ _ _ _, fun _ => rfl, fun _ => rfl⟩
theorem WM.store {w : World} {b T : Nat} {Q : Int → Option Nat} (h : WM w b T Q) (hT : T < 1000) {k : Int} (hk : 0 ≤ k ∧ k ≤ 1000000) (g : Nat) :
    ∃ w', (Instr.mapUpdate 44 (.map (some b)) (I k) (.func (.func g) #[] #[])).run Try.prog w = .ok () w' ∧ WM w' b (T + 1) (fun x => if x = k then some g else Q x) ∧ w.grownBy w' (some b) := by
  have hkey := keyOf_int_mk Try.underlying3 (jwf (x := k) (by omega))
  obtain ⟨D, h1, h2, h3⟩ := h
  obtain ⟨w', hrun, ho, hg⟩ := h1.update jkeyed Try.underlying44 (by unfold maxLen; omega) hkey (rw_mk (some g))
  refine ⟨w', hrun, ⟨_, ho, fun x => ?_, fun x => ?_⟩, hg⟩
  · show _ = wd (if x = k then some g else Q x)
    by_cases hx : x = k
    · subst hx
      rw [if_pos rfl]
      exact atKey_put_same h1.isMap (by first | trivial | simp [WideAt.IsKeyLit]) _ _
    · rw [if_neg hx, ← h2 x]
      exact atKey_put_other (by simp [hx]) _ _
  · show _ = (if x = k then some g else Q x).isSome
    by_cases hx : x = k
    · subst hx
      rw [if_pos rfl]
      exact has_put_same h1.isMap (by first | trivial | simp [WideAt.IsKeyLit]) _
    · rw [if_neg hx, ← h3 x]
      exact has_put_other (by simp [hx]) _
theorem WM.look {w : World} {b T : Nat} {Q : Int → Option Nat} (h : WM w b T Q) {k : Int} (hw : keyOf Try.prog 3 (I k) = some (.int .i64 k)) :
    (Instr.lookup 44 (.map (some b)) (I k) true).run Try.prog w = .ok (.tuple #[wp (Q k), .bool (Q k).isSome]) w := by
  obtain ⟨D, h1, h2, h3⟩ := h
  obtain ⟨v, ps, hrun, hv⟩ := h1.look_ok jkeyed Try.underlying44 (zero_way w) (rw_mk none) hw
  rw [show wd none = DataW.nil from rfl, h2 k] at hv
  rw [h3 k] at hrun
  rw [← rw_inv hv]
  exact hrun
set_option maxRecDepth 100000 in
set_option maxHeartbeats 4000000 in
theorem ways_any (w : World) : Calls Try.prog 12 #[] w fun e w' => e = .returned (.map (some w.heap.size)) ∧ WM w' w.heap.size 4 wQ ∧ Below w.heap.size w w' := by
  obtain ⟨w2, r2, m2, g2⟩ := (WM.made w).store (k := 1) (by omega) (by omega) 24
  obtain ⟨w3, r3, m3, g3⟩ := m2.store (k := 2) (by omega) (by omega) 25
  obtain ⟨w4, r4, m4, g4⟩ := m3.store (k := 3) (by omega) (by omega) 26
  obtain ⟨w5, r5, m5, g5⟩ := m4.store (k := 4) (by omega) (by omega) 27
  have hmm := @run_makeMap Try.prog
  have z2 := g2.size
  have z3 := g3.size
  have z4 := g4.size
  have HB : Hid (Below w.heap.size w w5) := by
    have b1 : Below w.heap.size w (w.alloc (.map #[] 0)) := (Below.refl _ _).alloc (Nat.le_refl _) _
    have hz1 : w.heap.size ≤ (w.alloc (.map #[] 0)).heap.size := by simp
    have b2 := b1.grown g2 hz1 (fun k e => by cases e; exact Nat.le_refl _)
    have b3 := b2.grown g3 (by omega) (fun k e => by cases e; exact Nat.le_refl _)
    have b4 := b3.grown g4 (by omega) (fun k e => by cases e; exact Nat.le_refl _)
    exact b4.grown g5 (by omega) (fun k e => by cases e; exact Nat.le_refl _)
  have HM5 := Lib.hid m5
  clear m2 m3 m4 m5 g2 g3 g4 g5 z2 z3 z4
  go_enter Try.func12, Try.ntmps12
  go_wp2
  go_ret
  refine ⟨rfl, ?_, HB.out⟩
  have := HM5.out
  have e : (fun x : Int => if x = 4 then some 27 else if x = 3 then some 26 else if x = 2 then some 25 else if x = 1 then some 24 else (none : Option Nat)) = wQ := by
    funext x
    unfold wQ
    by_cases h1 : x = 1
    · subst h1; rfl
    · by_cases h2 : x = 2
      · subst h2; rfl
      · by_cases h3 : x = 3
        · subst h3; rfl
        · by_cases h4 : x = 4
          · subst h4; rfl
          · simp [h1, h2, h3, h4]
  rw [← e]
  exact this

/-- what Run answers where it may not begin -/
def errH (algo : Int) (l : List Int) (es : List Sl) (on : Nat) : Int := if ¬ (1 ≤ algo ∧ algo ≤ 4) then 1 else chkH l es on
abbrev told0 : Value := .agg #[.slice none 0 0, .slice none 0 0]
/-- no error: what is told -/
def RetRun (al nh : Nat) (P : Nat → PL) (l ord : List Int) (w : World) (e : Ending) (w' : World) : Prop :=
  ∃ dv lv m, e = .returned (.tuple #[.agg #[dv, lv], I 0]) ∧ Pn (Wend al nh P l ord).s.nx (Wend al nh P l ord).s.tl ((Wend al nh P l ord).s.nx 0) m ∧ OwnD w' w.heap.size dv (Tdl (Wend al nh P l ord) nh (fun v => (P v).length)) ∧ OwnI w' w.heap.size lv (lft (Wend al nh P l ord).s m ((Wend al nh P l ord).s.nx 0)) ∧ Below w.heap.size w w'
theorem wQ_none {algo : Int} (h : ¬ (1 ≤ algo ∧ algo ≤ 4)) : wQ algo = none := by
  unfold wQ
  rw [if_neg (by omega), if_neg (by omega), if_neg (by omega), if_neg (by omega)]
theorem wQ_some {al : Nat} (h : al = 1 ∨ al = 2 ∨ al = 3 ∨ al = 4) : wp (wQ al) = fWay al ∧ (wQ al).isSome = true := by
  rcases h with rfl | rfl | rfl | rfl <;> exact ⟨rfl, rfl⟩
section
variable (A PA OA : Option Addr) (n c nh pc on oc : Nat) (l ord : List Int) (es : List Sl) (w : World)
set_option maxRecDepth 100000 in
set_option maxHeartbeats 8000000 in
theorem Run_arg (algo : Int) (hw : keyOf Try.prog 3 (I algo) = some (.int .i64 algo)) (ha : ¬ (1 ≤ algo ∧ algo ≤ 4)) :
    Calls Try.prog 5 #[I algo, .slice A n c, .slice PA nh pc, .slice OA on oc] w fun e w' => e = .returned (.tuple #[told0, I 1]) ∧ Below w.heap.size w w' := by
  have hwy := ways_any (w.alloc (.cells #[.slice none 0 0, .slice none 0 0] 26))
  rw [World.size_alloc] at hwy
  have HWY := Lib.hid hwy
  clear hwy
  have HKW := Lib.hid hw
  have HQ := Lib.hid (wQ_none ha)
  clear hw ha
  go_enter Try.func5, Try.ntmps5
  go_wp2_with fail
  refine HWY.out.mono ?_
  rintro e w1 ⟨rfl, hwm, hb1⟩
  have hlk := hwm.look HKW.out
  rw [HQ.out] at hlk
  have htb : TBk w1 w.heap.size := (hb1.block _ (by omega)).trans (heap_alloc_new w _)
  have t0 : w1.cell? ⟨w.heap.size, 0, none⟩ = some (.slice none 0 0) := by rw [jcell htb]; rfl
  have t1 : w1.cell? ⟨w.heap.size, 1, none⟩ = some (.slice none 0 0) := by rw [jcell htb]; rfl
  have f0 := jfroz (i := 0) htb
  have f1 := jfroz (i := 1) htb
  have HB1 := Lib.hid hb1
  have HTB := Lib.hid htb
  clear hwm hb1 htb
  go_wp2
  have hfin := jset_at (i := 1) (v := (.slice none 0 0)) (jset_at (i := 0) (v := (.slice none 0 0)) HTB.out)
  have r0 : ((w1.setCell ⟨w.heap.size, 0, none⟩ (.slice none 0 0)).setCell ⟨w.heap.size, 1, none⟩ (.slice none 0 0)).cell? ⟨w.heap.size, 0, none⟩ = some (.slice none 0 0) := by rw [jcell hfin]; rfl
  have r1 : ((w1.setCell ⟨w.heap.size, 0, none⟩ (.slice none 0 0)).setCell ⟨w.heap.size, 1, none⟩ (.slice none 0 0)).cell? ⟨w.heap.size, 1, none⟩ = some (.slice none 0 0) := by rw [jcell hfin]; rfl
  clear hfin
  refine bodyPost_ret (v := .tuple #[.agg #[(.slice none 0 0), (.slice none 0 0)], I 1]) (by simp [results, Try.results5, go_sem, r0, r1]) rfl ?_
  exact ⟨rfl, ((((Below.refl _ _).alloc (Nat.le_refl _) _).trans (HB1.out.mono (by omega))).setCell (p := ⟨w.heap.size, 0, none⟩) (Nat.le_refl _) _).setCell (p := ⟨w.heap.size, 1, none⟩) (Nat.le_refl _) _⟩
set_option maxRecDepth 100000 in
set_option maxHeartbeats 8000000 in
theorem Run_err {al : Nat} (hal : al = 1 ∨ al = 2 ∨ al = 3 ∨ al = 4) (h : IS w A n c l) (hP : RS w PA nh pc es) (hn : n ≤ 9223372036854775807) (hnh : nh ≤ 9223372036854775807) (hon : on ≤ 9223372036854775807) (hes : ∀ s ∈ es, s.n ≤ 9223372036854775807) {E : Int} (hE : chkH l es on = E) (hE0 : E ≠ 0) :
    Calls Try.prog 5 #[I al, .slice A n c, .slice PA nh pc, .slice OA on oc] w fun e w' => e = .returned (.tuple #[told0, I E]) ∧ Below w.heap.size w w' := by
  have hkw : keyOf Try.prog 3 (I al) = some (.int .i64 al) := keyOf_int_mk Try.underlying3 (jwf (x := (al : Int)) (by omega))
  have hwy := ways_any (w.alloc (.cells #[.slice none 0 0, .slice none 0 0] 26))
  rw [World.size_alloc] at hwy
  have HWY := Lib.hid hwy
  clear hwy
  have HKW := Lib.hid hkw
  obtain ⟨q1, q2⟩ := wQ_some hal
  obtain ⟨wf, hwf⟩ := fWay_is (al := al)
  rw [hwf] at q1
  have HQ1 := Lib.hid q1
  have HQ2 := Lib.hid q2
  have HCK : Hid (∀ w1, Below w.heap.size w w1 → Calls Try.prog 13 #[.slice A n c, .slice PA nh pc, .slice OA on oc] w1 fun e w' => e = .returned (I E) ∧ Below w1.heap.size w1 w') := fun w1 hb => by
    have := checkH_any A PA OA n c nh pc on oc l es w1 (h.below hb) (hP.below hb) hn hnh hon hes
    rw [hE] at this
    exact this
  have hne : (E != 0) = true := by simpa using hE0
  clear hkw q1 q2 hwf h hP hn hnh hon hes hE hE0
  go_enter Try.func5, Try.ntmps5
  go_wp2_with fail
  refine HWY.out.mono ?_
  rintro e w1 ⟨rfl, hwm, hb1⟩
  have hlk := hwm.look HKW.out
  rw [HQ1.out, HQ2.out] at hlk
  have HB01 : Hid (Below w.heap.size w w1) := ((Below.refl _ _).alloc (Nat.le_refl _) _).trans (hb1.mono (by omega))
  have htb1 : TBk w1 w.heap.size := (hb1.block _ (by omega)).trans (heap_alloc_new w _)
  have HTB1 := Lib.hid htb1
  have HC := Lib.hid (HCK.out w1 HB01.out)
  clear hwm hb1 htb1
  go_wp2_with fail
  refine HC.out.mono ?_
  rintro e w2 ⟨rfl, hb2⟩
  have htb : TBk w2 w.heap.size := (hb2.block _ (jblk HTB1.out)).trans HTB1.out
  have t0 : w2.cell? ⟨w.heap.size, 0, none⟩ = some (.slice none 0 0) := by rw [jcell htb]; rfl
  have t1 : w2.cell? ⟨w.heap.size, 1, none⟩ = some (.slice none 0 0) := by rw [jcell htb]; rfl
  have f0 := jfroz (i := 0) htb
  have f1 := jfroz (i := 1) htb
  have HB2 : Hid (Below w.heap.size w w2) := HB01.out.trans (hb2.mono HB01.out.size)
  have HTB := Lib.hid htb
  clear hb2 htb hlk
  go_wp2
  have hfin := jset_at (i := 1) (v := (.slice none 0 0)) (jset_at (i := 0) (v := (.slice none 0 0)) HTB.out)
  have r0 : ((w2.setCell ⟨w.heap.size, 0, none⟩ (.slice none 0 0)).setCell ⟨w.heap.size, 1, none⟩ (.slice none 0 0)).cell? ⟨w.heap.size, 0, none⟩ = some (.slice none 0 0) := by rw [jcell hfin]; rfl
  have r1 : ((w2.setCell ⟨w.heap.size, 0, none⟩ (.slice none 0 0)).setCell ⟨w.heap.size, 1, none⟩ (.slice none 0 0)).cell? ⟨w.heap.size, 1, none⟩ = some (.slice none 0 0) := by rw [jcell hfin]; rfl
  clear hfin
  refine bodyPost_ret (v := .tuple #[.agg #[(.slice none 0 0), (.slice none 0 0)], I E]) (by simp [results, Try.results5, go_sem, r0, r1]) rfl ?_
  exact ⟨rfl, (HB2.out.setCell (p := ⟨w.heap.size, 0, none⟩) (Nat.le_refl _) _).setCell (p := ⟨w.heap.size, 1, none⟩) (Nat.le_refl _) _⟩
/-- what is few, and valid -/
theorem dok_of (hP : RS w PA nh pc es) {on : Nat} (hE : chkH l es on = 0) : DOk nh (prog0 es) l ∧ on ≤ 500 ∧ (∀ s ∈ es, s.n ≤ 4) := by
  have hlen := hP.len
  unfold chkH at hE
  split at hE
  · cases hE
  · rename_i h1
    split at hE
    · cases hE
    · rename_i h2
      split at hE
      · cases hE
      · rename_i h3
        simp only [not_or] at h1
        obtain ⟨a1, a2, a3⟩ := h1
        have hes : ∀ s ∈ es, s.n ≤ 4 := fun s hs => by
          have : es.any lng = false := by simpa using a2
          have := List.any_eq_false.mp this s hs
          unfold lng at this
          simp at this
          omega
        have hl : ∀ s ∈ es, s.L.length = s.n := fun s hs => (show PS w s.A s.n s.c s.L from hP.each s hs).len
        have hpl : ∀ v, (prog0 es v).length ≤ 4 := fun v => by
          unfold prog0
          rcases Nat.lt_or_ge v es.length with hv | hv
          · rw [List.getElem?_eq_getElem hv, Option.getD_some, hl _ (List.getElem_mem hv)]
            exact hes _ (List.getElem_mem hv)
          · rw [List.getElem?_eq_none hv]; simp
        refine ⟨⟨Classical.not_not.mp h2, by omega, hpl, fun v hv => ?_, fun v j hj => ?_⟩, by omega, hes⟩
        · unfold prog0
          rw [List.getElem?_eq_none (by omega)]
          rfl
        · have hj' : j < (prog0 es v).length := hj
          rw [dds_at hj']
          have hv : v < es.length := by
            apply Classical.byContradiction
            intro hn
            have : (prog0 es v).length = 0 := by unfold prog0; rw [List.getElem?_eq_none (by omega)]; rfl
            omega
          have he : prog0 es v = es[v].L := by unfold prog0; rw [List.getElem?_eq_getElem hv]; rfl
          have hb : es.any (fun s => s.L.any dbad) = false := by simpa using h3
          have hb1 := List.any_eq_false.mp hb es[v] (List.getElem_mem hv)
          have hb2 : es[v].L.any dbad = false := by simpa using hb1
          have hmem : (prog0 es v)[j] ∈ es[v].L := by rw [← he]; exact List.getElem_mem hj'
          have hb3 := List.any_eq_false.mp hb2 _ hmem
          unfold dbad at hb3
          simp only [Bool.not_eq_true, Bool.not_eq_false', decide_eq_true_eq] at hb3
          exact ⟨hb3.2, hb3.1⟩
set_option maxRecDepth 100000 in
set_option maxHeartbeats 8000000 in
theorem Run_ok {al : Nat} (hal : al = 1 ∨ al = 2 ∨ al = 3 ∨ al = 4) (h : IS w A n c l) (hP : RS w PA nh pc es) (hO : IS w OA on oc ord) (hn : n ≤ 9223372036854775807) (hnh : nh ≤ 9223372036854775807) (hon : on ≤ 9223372036854775807) (hes : ∀ s ∈ es, s.n ≤ 9223372036854775807) (hE : chkH l es on = 0) :
    Calls Try.prog 5 #[I al, .slice A n c, .slice PA nh pc, .slice OA on oc] w (RetRun al nh (prog0 es) l ord w) := by
  have hkw : keyOf Try.prog 3 (I al) = some (.int .i64 al) := keyOf_int_mk Try.underlying3 (jwf (x := (al : Int)) (by omega))
  have hwy := ways_any (w.alloc (.cells #[.slice none 0 0, .slice none 0 0] 26))
  rw [World.size_alloc] at hwy
  have HWY := Lib.hid hwy
  clear hwy
  have HKW := Lib.hid hkw
  obtain ⟨q1, q2⟩ := wQ_some hal
  obtain ⟨wf, hwf⟩ := fWay_is (al := al)
  obtain ⟨hd, ho5, hes4⟩ := dok_of PA nh pc l es w hP hE
  obtain ⟨Inv, hS⟩ := sound_any (ord := ord) hal hd (by rw [hO.len]; exact ho5)
  have hinv : Inv (Wend al nh (prog0 es) l ord) := hS.rounds (hS.runs (ordN nh ord) hS.i0 ordN_lt) 875
  obtain ⟨m, hm1, hm2⟩ := (hS.lf hinv).pn
  have hDLs := wend_DLs hS hd
  have hDL5 : ∀ v, v < nh → (DL (Wend al nh (prog0 es) l ord) v).length ≤ 5 := fun v _ => by
    rw [(wend_DL hS hd).2 v]
    simp
    have := hd.l4 v
    omega
  have hn10 : n ≤ 1000 := by have := ris_len hd.ris; rw [h.len] at this; omega
  have HRN : Hid (∀ w1, Below w.heap.size w w1 → Calls Try.prog 14 #[fWay al, .slice A n c, .slice PA nh pc, .slice OA on oc, I 4000] w1 (RetTold w1.heap.size (DLs (Wend al nh (prog0 es) l ord) nh) (lft (Wend al nh (prog0 es) l ord).s m ((Wend al nh (prog0 es) l ord).s.nx 0)) w1)) := fun w1 hb =>
    run_any hS hal A PA OA n c pc on oc m w1 (h.below hb) hn10 (hP.below hb) hd.nh4 hes4 (hO.below hb) ho5 hm1 hm2 hDL5
  rw [hwf] at q1 HRN
  have HQ1 := Lib.hid q1
  have HQ2 := Lib.hid q2
  have HCK : Hid (∀ w1, Below w.heap.size w w1 → Calls Try.prog 13 #[.slice A n c, .slice PA nh pc, .slice OA on oc] w1 fun e w' => e = .returned (I 0) ∧ Below w1.heap.size w1 w') := fun w1 hb => by
    have := checkH_any A PA OA n c nh pc on oc l es w1 (h.below hb) (hP.below hb) hn hnh hon hes
    rw [hE] at this
    exact this
  rw [hDLs] at HRN
  have HPN := Lib.hid hm1
  obtain ⟨D, hD⟩ : ∃ D, Tdl (Wend al nh (prog0 es) l ord) nh (fun v => (prog0 es v).length) = D := ⟨_, rfl⟩
  obtain ⟨L, hL⟩ : ∃ L, lft (Wend al nh (prog0 es) l ord).s m ((Wend al nh (prog0 es) l ord).s.nx 0) = L := ⟨_, rfl⟩
  rw [hD, hL] at HRN
  have HD := Lib.hid hD
  have HL := Lib.hid hL
  clear hkw q1 q2 hwf h hP hO hn hnh hon hes hE hd ho5 hes4 hS hinv hm1 hm2 hDLs hDL5 hn10 hD hL
  go_enter Try.func5, Try.ntmps5
  go_wp2_with fail
  refine HWY.out.mono ?_
  rintro e w1 ⟨rfl, hwm, hb1⟩
  have hlk := hwm.look HKW.out
  rw [HQ1.out, HQ2.out] at hlk
  have HB01 : Hid (Below w.heap.size w w1) := ((Below.refl _ _).alloc (Nat.le_refl _) _).trans (hb1.mono (by omega))
  have htb1 : TBk w1 w.heap.size := (hb1.block _ (by omega)).trans (heap_alloc_new w _)
  have HTB1 := Lib.hid htb1
  have HC := Lib.hid (HCK.out w1 HB01.out)
  clear hwm hb1 htb1
  go_wp2_with fail
  refine HC.out.mono ?_
  rintro e w2 ⟨rfl, hb2⟩
  have HTB2 : Hid (TBk w2 w.heap.size) := (hb2.block _ (jblk HTB1.out)).trans HTB1.out
  have HB2 : Hid (Below w.heap.size w w2) := HB01.out.trans (hb2.mono HB01.out.size)
  have HR := Lib.hid (HRN.out w2 HB2.out)
  clear hb2 hlk
  go_wp2_with fail
  refine HR.out.mono ?_
  rintro e w3 ⟨dv, lv, rfl, hd3, hl3, hb3⟩
  have htb : TBk w3 w.heap.size := (hb3.block _ (jblk HTB2.out)).trans HTB2.out
  have t0 : w3.cell? ⟨w.heap.size, 0, none⟩ = some (.slice none 0 0) := by rw [jcell htb]; rfl
  have t1 : w3.cell? ⟨w.heap.size, 1, none⟩ = some (.slice none 0 0) := by rw [jcell htb]; rfl
  have f0 := jfroz (i := 0) htb
  have f1 := jfroz (i := 1) htb
  have hlt2 : w.heap.size < w2.heap.size := jblk HTB2.out
  have hz := HB2.out.size
  have HB3 : Hid (Below w.heap.size w w3) := HB2.out.trans (hb3.mono hz)
  have HTB := Lib.hid htb
  have HD3 := Lib.hid hd3
  have HL3 := Lib.hid hl3
  clear hb3 htb hd3 hl3
  obtain ⟨dA, dc, rfl, -⟩ := HD3.out.is_
  obtain ⟨lA, lc, rfl, -, -⟩ := HL3.out.is_
  obtain ⟨dn, hdn⟩ : ∃ dn, D.length = dn := ⟨_, rfl⟩
  obtain ⟨ln, hln⟩ : ∃ ln, L.length = ln := ⟨_, rfl⟩
  have HDN := Lib.hid hdn
  have HLN := Lib.hid hln
  rw [hdn, hln]
  clear hdn hln
  go_wp2
  have hfin := jset_at (i := 1) (v := (.slice lA ln lc)) (jset_at (i := 0) (v := (.slice dA dn dc)) HTB.out)
  have r0 : ((w3.setCell ⟨w.heap.size, 0, none⟩ (.slice dA dn dc)).setCell ⟨w.heap.size, 1, none⟩ (.slice lA ln lc)).cell? ⟨w.heap.size, 0, none⟩ = some (.slice dA dn dc) := by rw [jcell hfin]; rfl
  have r1 : ((w3.setCell ⟨w.heap.size, 0, none⟩ (.slice dA dn dc)).setCell ⟨w.heap.size, 1, none⟩ (.slice lA ln lc)).cell? ⟨w.heap.size, 1, none⟩ = some (.slice lA ln lc) := by rw [jcell hfin]; rfl
  clear hfin
  refine bodyPost_ret (v := .tuple #[.agg #[(.slice dA dn dc), (.slice lA ln lc)], I 0]) (by simp [results, Try.results5, go_sem, r0, r1]) rfl ?_
  unfold RetRun
  rw [HD.out]
  have hD2 : OwnD w3 w2.heap.size (.slice dA dn dc) D := by have := HD3.out; rw [HDN.out] at this; exact this
  have hL2 : OwnI w3 w2.heap.size (.slice lA ln lc) L := by have := HL3.out; rw [HLN.out] at this; exact this
  refine ⟨_, _, m, rfl, HPN.out, ?_, ?_, (HB3.out.setCell (p := ⟨w.heap.size, 0, none⟩) (Nat.le_refl _) _).setCell (p := ⟨w.heap.size, 1, none⟩) (Nat.le_refl _) _⟩
  · have hD4 : OwnD w3 w.heap.size (.slice dA dn dc) D := own_mono1 hD2 hz
    refine hD4.keep fun g hg => ?_
    have hge := own_ge1 hD2 g hg
    have hne : g ≠ w.heap.size := by omega
    rw [Below.heap_setCell _ _ _ _ hne, Below.heap_setCell _ _ _ _ hne]
  · rw [HL.out]
    refine ⟨hL2.1, ?_⟩
    rcases hL2.2 with h0 | ⟨g, cap, cur, h1, h2, h3, h4⟩
    · exact .inl h0
    · have hne : g ≠ w.heap.size := by omega
      exact .inr ⟨g, cap, cur, h1, by omega, by rw [Below.heap_setCell _ _ _ _ hne, Below.heap_setCell _ _ _ _ hne]; exact h3, h4⟩
end

end Go.Proofs.Ytfmdpmebllepeaa
