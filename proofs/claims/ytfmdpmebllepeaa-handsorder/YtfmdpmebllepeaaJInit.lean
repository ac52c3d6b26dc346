/-
  package hands: the hands as they are made, before the first step.
-/
import Derived.Test.YtfmdpmebllepeaaJTold
import Derived.Test.YtfmdpmebllepeaaJList
import Derived.Test.YtfmdpmebllepeaaSlR
namespace Go.Proofs.Ytfmdpmebllepeaa
open Go.RowKit

abbrev hzero : Value := .agg #[I 0, .slice none 0 0, .slice none 0 0, .nilFunc, .pointer none, .pointer none, .pointer none, .nilFunc, .bool false]
theorem hand_info : (Try.prog.info? 74).map (fun i => (i.zero, i.size, i.bytes)) = some (some hzero, 9, 104) := by kernel_rfl
/-- a hand that is not filled in -/
def hz0 (i : Nat) : Value := if i = 0 then I 0 else if i = 1 then .slice none 0 0 else if i = 2 then .slice none 0 0 else if i = 3 then .nilFunc else if i = 4 then .pointer none else if i = 5 then .pointer none else if i = 6 then .pointer none else if i = 7 then .nilFunc else .bool false
/-- a hand before its first step -/
def hand0 (al z v : Nat) (d : Value) (i : Nat) : Value := if i = 0 then I v else if i = 1 then d else if i = 2 then .slice none 0 0 else if i = 3 then fWay al else if i = 4 then jp z else if i = 5 then .pointer none else if i = 6 then .pointer none else if i = 7 then .nilFunc else .bool false
theorem hz0_at {i : Nat} (hi : i < 9) : #[I 0, .slice none 0 0, .slice none 0 0, .nilFunc, .pointer none, .pointer none, .pointer none, .nilFunc, .bool false][i]? = some (hz0 i) := by
  rcases (show i = 0 ∨ i = 1 ∨ i = 2 ∨ i = 3 ∨ i = 4 ∨ i = 5 ∨ i = 6 ∨ i = 7 ∨ i = 8 by omega) with rfl | rfl | rfl | rfl | rfl | rfl | rfl | rfl | rfl <;> rfl
theorem hz0_one {i : Nat} (hi : i < 9) : (hz0 i).oneCell' = true := by
  rcases (show i = 0 ∨ i = 1 ∨ i = 2 ∨ i = 3 ∨ i = 4 ∨ i = 5 ∨ i = 6 ∨ i = 7 ∨ i = 8 by omega) with rfl | rfl | rfl | rfl | rfl | rfl | rfl | rfl | rfl <;> rfl
theorem run_makeH (n : Nat) (hn : n ≤ 1000) (w : World) :
    (Instr.makeSlice 72 (.int .i64 (n : Int)) (.int .i64 (n : Int))).run Try.prog w = .ok (.slice (some ⟨w.heap.size, 0, none⟩) n n) (w.alloc (.cells (madeCells hzero.cells (n * 9)) 74)) := by
  obtain ⟨i, h1, hz, hs, hb⟩ := jinfo_parts hand_info
  have := run_make (P := Try.prog) w 72 74 i _ Try.underlying72 h1 hz .i64 .i64 n n (by omega) (by omega) (by rw [hb]; omega) (by omega)
  rw [this, hs]
  simp only [Int.toNat_natCast]
theorem made_jh (w : World) (n : Nat) : JH (w.alloc (.cells (madeCells hzero.cells (n * 9)) 74)) w.heap.size n (fun _ => hz0) := by
  refine ⟨_, heap_alloc_new w _, by rw [size_madeCells], fun v hv i hi => ?_, fun v _ i hi => hz0_one hi⟩
  have hlt : v * 9 + i < n * 9 := by omega
  have h1 : v * 9 + i < (madeCells hzero.cells (n * 9)).size := by rw [size_madeCells]; exact hlt
  rw [Array.getElem?_eq_getElem h1]
  have hm : (v * 9 + i) % 9 = i := by omega
  rw [← hz0_at hi]
  rcases (show i = 0 ∨ i = 1 ∨ i = 2 ∨ i = 3 ∨ i = 4 ∨ i = 5 ∨ i = 6 ∨ i = 7 ∨ i = 8 by omega) with rfl | rfl | rfl | rfl | rfl | rfl | rfl | rfl | rfl <;> simp [madeCells, hm, Value.cells]
/-- the deeds of a hand, out of a slice of slices -/
def prog0 (es : List Sl) (v : Nat) : PL := (es[v]?.getD sl0).L
def hands0 (al z : Nat) (es : List Sl) (k v : Nat) : Nat → Value := if v < k then hand0 al z v (es[v]?.getD sl0).val else hz0
theorem hands0_next (al z : Nat) (es : List Sl) (k : Nat) : upd (hands0 al z es k) k (hand0 al z k (es[k]?.getD sl0).val) = hands0 al z es (k + 1) := by
  funext v
  by_cases e : v = k
  · subst e
    rw [upd_same]
    unfold hands0
    rw [if_pos (by omega)]
  · rw [upd_other _ _ e]
    unfold hands0
    by_cases h : v < k
    · rw [if_pos h, if_pos (by omega)]
    · rw [if_neg h, if_neg (by omega)]
theorem JH.congr {w : World} {B nh : Nat} {hs hs' : Nat → Nat → Value} (h : JH w B nh hs) (he : ∀ v, v < nh → ∀ i, i < 9 → hs' v i = hs v i) : JH w B nh hs' := by
  obtain ⟨C, h1, h2, h3, h4⟩ := h
  exact ⟨C, h1, h2, fun v hv i hi => by rw [he v hv i hi]; exact h3 v hv i hi, fun v hv i hi => by rw [he v hv i hi]; exact h4 v hv i hi⟩
/-- one hand is filled in -/
theorem JH.fill {w : World} {B nh al z k : Nat} {es : List Sl} (h : JH w B nh (hands0 al z es k)) (_hk : k < nh) {d : Value} (hd : (es[k]?.getD sl0).val = d) (h1 : d.oneCell' = true) {wy : Value} (hw : fWay al = wy) (h2 : wy.oneCell' = true) :
    JH (((((((((w.setCell ⟨B, k * 9, none⟩ (I k)).setCell ⟨B, k * 9 + 1, none⟩ d).setCell ⟨B, k * 9 + 2, none⟩ (.slice none 0 0)).setCell ⟨B, k * 9 + 3, none⟩ wy).setCell ⟨B, k * 9 + 4, none⟩ (jp z)).setCell ⟨B, k * 9 + 5, none⟩ (.pointer none)).setCell ⟨B, k * 9 + 6, none⟩ (.pointer none)).setCell ⟨B, k * 9 + 7, none⟩ .nilFunc).setCell ⟨B, k * 9 + 8, none⟩ (.bool false)) B nh (hands0 al z es (k + 1)) := by
  have a0 := h.set (v := k) (i := 0) (by omega) (I k) rfl
  have a1 := a0.set (v := k) (i := 1) (by omega) d h1
  have a2 := a1.set (v := k) (i := 2) (by omega) (.slice none 0 0) rfl
  have a3 := a2.set (v := k) (i := 3) (by omega) wy h2
  have a4 := a3.set (v := k) (i := 4) (by omega) (jp z) rfl
  have a5 := a4.set (v := k) (i := 5) (by omega) (.pointer none) rfl
  have a6 := a5.set (v := k) (i := 6) (by omega) (.pointer none) rfl
  have a7 := a6.set (v := k) (i := 7) (by omega) .nilFunc rfl
  have a8 := a7.set (v := k) (i := 8) (by omega) (.bool false) rfl
  refine a8.congr fun v hv i hi => ?_
  by_cases e : v = k
  · subst e
    simp only [upd_same]
    unfold hands0
    rw [if_pos (by omega), hd]
    unfold hand0
    rw [hw]
    rcases (show i = 0 ∨ i = 1 ∨ i = 2 ∨ i = 3 ∨ i = 4 ∨ i = 5 ∨ i = 6 ∨ i = 7 ∨ i = 8 by omega) with rfl | rfl | rfl | rfl | rfl | rfl | rfl | rfl | rfl <;> simp [upd]
  · simp only [upd_other _ _ e]
    unfold hands0
    by_cases h : v < k
    · rw [if_pos h, if_pos (by omega)]
    · rw [if_neg h, if_neg (by omega)]
/-- before the first step -/
theorem gs_begin {al base B nh z : Nat} {es : List Sl} {l : List Int} {w : World} (hjs : JS base B nh (fun i => z + i) (st0 l) (fun _ => false) (hands0 al z es nh) w) (hlen : es.length = nh) (hok : ∀ s ∈ es, s.ok w ∧ s.n ≤ 4 ∧ (0 < s.n → ∀ ad, s.A = some ad → ad.block < base)) :
    GS al base B nh (prog0 es) (Wd.begin_ l) (fun i => z + i) (hands0 al z es nh) w := by
  refine ⟨hjs, fun v hv => ?_, fun v v' hv hv' hne g hg => ?_, fun v b hb => by cases hb⟩
  · have hvl : v < es.length := by omega
    have he : es[v]?.getD sl0 = es[v] := by rw [List.getElem?_eq_getElem hvl]; rfl
    obtain ⟨a1, a2, a3⟩ := hok es[v] (List.getElem_mem hvl)
    have hps : PS w es[v].A es[v].n es[v].c es[v].L := a1
    have hpl : (prog0 es v).length = es[v].n := by unfold prog0; rw [he]; exact hps.len
    have hh : hands0 al z es nh v = hand0 al z v es[v].val := by unfold hands0; rw [if_pos hv, he]
    rw [hh]
    refine ⟨⟨rfl, by rw [hpl]; exact a2, ⟨es[v].A, es[v].c, by rw [hpl]; rfl, ?_, by rw [hpl]; exact a3⟩, OwnD.nil _ _⟩, rfl, rfl, fun _ => rfl, fun b hb => by cases hb⟩
    rw [hpl]
    unfold prog0
    rw [he]
    exact hps
  · have hh : hands0 al z es nh v 2 = .slice none 0 0 := by unfold hands0; rw [if_pos hv]; rfl
    rw [hh] at hg
    cases hg

end Go.Proofs.Ytfmdpmebllepeaa
