/-
  slices.Insert, slices.Delete at spots, of one: a row of the call's own.
-/
import Derived.Test.YtolgncaaffmmnaaDoorORowAll
import Derived.Test.YtolgncaaffmmnaaDoorAppPAll
import Derived.Test.YtolgncaaffmmnaaDoorSLeaf
import Derived.Deep.RegionLaw
namespace Go.Proofs.YtolgncaaffmmnaaDoor
open Go.RowKit

theorem ospot_size : (Tryd.prog.info? 65).map (·.size) = some 2 := by kernel_rfl
theorem ospot_zero (w : World) : (Go.sizeOf 65).run Tryd.prog w = .ok 2 w := by
  obtain ⟨i, h1, hz, hs, hb⟩ := info_parts gspot_info
  simp [sizeOf, typeInfo, h1, hs]

/-- a key at place p -/
def insP (L : PL) (p : Nat) (x d : Int) : PL := L.take p ++ (x, d) :: L.drop p
theorem insP_length (L : PL) (p : Nat) (x d : Int) (h : p ≤ L.length) : (insP L p x d).length = L.length + 1 := by simp [insP]; omega
theorem insP_end (L : PL) (x d : Int) : insP L L.length x d = L ++ [(x, d)] := by simp [insP]

/-- first the rest is shifted, then the new one is laid -/
theorem put_shift (cur : Array Value) (L : PL) (p : Nat) (x d : Int) (hp : p ≤ L.length) (hc : (L.length + 1) * 2 ≤ cur.size) (ht : cur.toList.take (L.length * 2) = flat L) :
    (rput (rput cur (p + 1) (L.drop p)) p [(x, d)]).toList.take ((L.length + 1) * 2) = flat (insP L p x d) := by
  have hcl : cur.toList.length = cur.size := by simp
  have hX : (flat (L.take p)).length = p * 2 := by rw [flat_length, List.length_take]; congr 1; omega
  have hY : (flat (L.drop p)).length = (L.length - p) * 2 := by rw [flat_length, List.length_drop]
  have e0 : cur.toList = flat (L.take p) ++ (flat (L.drop p) ++ cur.toList.drop (L.length * 2)) := by
    conv => lhs; rw [← List.take_append_drop (L.length * 2) cur.toList]
    rw [ht, ← List.append_assoc, ← flat_append, List.take_append_drop]
  have e1 : (rput cur (p + 1) (L.drop p)).toList = flat (L.take p) ++ (cur.toList.drop (p * 2)).take 2 ++ flat (L.drop p) ++ cur.toList.drop ((p + 1) * 2 + (flat (L.drop p)).length) := by
    unfold rput
    congr 2
    have : cur.toList.take ((p + 1) * 2) = cur.toList.take (p * 2) ++ (cur.toList.drop (p * 2)).take 2 := by
      rw [show (p + 1) * 2 = p * 2 + 2 by omega, List.take_add]
    rw [this]
    congr 1
    rw [e0, List.take_left' hX]
  have hZ : ((cur.toList.drop (p * 2)).take 2).length = 2 := by simp; omega
  generalize (cur.toList.drop (p * 2)).take 2 = Z at *
  generalize cur.toList.drop ((p + 1) * 2 + (flat (L.drop p)).length) = R at *
  have e2 : (rput (rput cur (p + 1) (L.drop p)) p [(x, d)]).toList = flat (L.take p) ++ flat [(x, d)] ++ (flat (L.drop p) ++ R) := by
    have hq : (rput (rput cur (p + 1) (L.drop p)) p [(x, d)]).toList = (rput cur (p + 1) (L.drop p)).toList.take (p * 2) ++ flat [(x, d)] ++ (rput cur (p + 1) (L.drop p)).toList.drop (p * 2 + 2) := rfl
    rw [hq, e1]
    have t1 : (flat (L.take p) ++ Z ++ flat (L.drop p) ++ R).take (p * 2) = flat (L.take p) := by rw [List.append_assoc, List.append_assoc, List.take_left' hX]
    have t2 : (flat (L.take p) ++ Z ++ flat (L.drop p) ++ R).drop (p * 2 + 2) = flat (L.drop p) ++ R := by
      rw [List.append_assoc, List.drop_left' (by rw [List.length_append, hX, hZ])]
    rw [t1, t2]
  rw [e2]
  have e3 : flat (L.take p) ++ flat [(x, d)] ++ (flat (L.drop p) ++ R) = flat (insP L p x d) ++ R := by
    unfold insP
    rw [flat_append, show (x, d) :: L.drop p = [(x, d)] ++ L.drop p from rfl, flat_append]
    simp only [List.append_assoc]
  rw [e3, List.take_left' (by rw [flat_length, insP_length L p x d hp])]
/-- in a new row: first the new one, then the rest -/
theorem put_fresh (cur : Array Value) (L : PL) (p : Nat) (x d : Int) (hp : p ≤ L.length) (hc : (L.length + 1) * 2 ≤ cur.size) (ht : cur.toList.take (p * 2) = flat (L.take p)) :
    (rput (rput cur p [(x, d)]) (p + 1) (L.drop p)).toList.take ((L.length + 1) * 2) = flat (insP L p x d) := by
  have hX : (flat (L.take p)).length = p * 2 := by rw [flat_length, List.length_take]; congr 1; omega
  have e1 : (rput cur p [(x, d)]).toList = flat (L.take p ++ [(x, d)]) ++ cur.toList.drop (p * 2 + 2) := by
    have hq : (rput cur p [(x, d)]).toList = cur.toList.take (p * 2) ++ flat [(x, d)] ++ cur.toList.drop (p * 2 + 2) := rfl
    rw [hq, ht, flat_append]
  have hq : (rput (rput cur p [(x, d)]) (p + 1) (L.drop p)).toList = (rput cur p [(x, d)]).toList.take ((p + 1) * 2) ++ flat (L.drop p) ++ (rput cur p [(x, d)]).toList.drop ((p + 1) * 2 + (flat (L.drop p)).length) := rfl
  have h2 : (flat (L.take p ++ [(x, d)])).length = (p + 1) * 2 := by rw [flat_length]; simp; omega
  rw [hq, e1, List.take_left' h2]
  have e3 : flat (L.take p ++ [(x, d)]) ++ flat (L.drop p) = flat (insP L p x d) := by
    rw [← flat_append]
    congr 1
    simp [insP]
  rw [e3, List.take_left' (by rw [flat_length, insP_length L p x d hp])]

/-- a new block with one spot -/
def SPT (w : World) (h : Nat) (x d : Int) : Prop := w.heap[h]? = some (.cells #[I x, I d] 65 (0, 0))
theorem SPT.src {w : World} {h : Nat} {x d : Int} (hs : SPT w h x d) : ∀ j v, (flat [(x, d)])[j]? = some v → w.cell? ((⟨h, 0, none⟩ : Addr).add j) = some v := by
  intro j v hv
  have hs' : w.heap[h]? = some (.cells #[I x, I d] 65 (0, 0)) := hs
  rw [addn]
  match j with
  | 0 => simp [flat] at hv; simp [World.cell?, hs', ← hv]
  | 1 => simp [flat] at hv; simp [World.cell?, hs', ← hv]
  | j + 2 => simp [flat] at hv
theorem SPT.lt {w : World} {h : Nat} {x d : Int} (hs : SPT w h x d) : h < w.heap.size := (Array.getElem?_eq_some_iff.1 hs).1

def RetIns (L : PL) (base : Nat) (w : World) (e : Ending) (w' : World) : Prop := ∃ v, e = .returned v ∧ OwnR w' base 65 v L ∧ Below base w w'

set_option maxRecDepth 100000 in
set_option maxHeartbeats 2000000 in
/-- at the end -/
theorem oins_end (base n h : Nat) (A : Option Addr) (c : Nat) (L : PL) (x d : Int) (w : World) (ho : OwnR w base 65 (.slice A n c) L) (hl : L.length = n) (hn : n ≤ 1000) (hs : SPT w h x d) (hb : base ≤ w.heap.size) :
    Calls Tryd.prog 49 #[.slice A n c, I n, .slice (some ⟨h, 0, none⟩) 1 1] w (RetIns (L ++ [(x, d)]) base w) := by
  have HO := Lib.hid ho
  have HS : Hid (Src w (some ⟨h, 0, none⟩) 1 [(x, d)]) := ⟨rfl, fun _ => ⟨_, rfl, hs.src⟩⟩
  obtain ⟨A', c', e', hps, _⟩ := OwnR.ps ho
  rw [hl] at e' hps
  cases e'
  have hcap : n ≤ c := hps.rd.1
  have hll : L.length + 1 ≤ 1000000 := by omega
  clear ho hs hps
  go_enter Tryd.func49, Tryd.ntmps49
  go_wp2_with (first
    | (at_builtin
       refine wpList_app2 rfl (.tmp 23) (.tmp 24) 24 rfl 65 Tryd.underlying24 gspot_info base _ L [(x, d)] (some ⟨h, 0, none⟩) 1 1 rfl rfl HO.out HS.out hll hb ?_
       intro v2 w9 hown2 hgrow2 _)
    | fail)
  all_goals go_ret
  all_goals exact ⟨v2, rfl, hown2, Below.grown (Below.refl _ _) hgrow2 hb (OwnR.ge HO.out)⟩

set_option maxRecDepth 100000 in
set_option maxHeartbeats 4000000 in
/-- there is room -/
theorem oins_room (base n h g cap p : Nat) (L : PL) (x d : Int) (w : World) (hr : RB w g 65 cap L) (hm : cap ≤ maxLen) (hl : L.length = n) (hn : n ≤ 1000) (hp : p < n) (hroom : n + 1 ≤ cap) (hs : SPT w h x d) (hne : h ≠ g) (hb : base ≤ g) :
    Calls Tryd.prog 49 #[.slice (some ⟨g, 0, none⟩) n cap, I p, .slice (some ⟨h, 0, none⟩) 1 1] w (RetIns (insP L p x d) base w) := by
  have HR := Lib.hid hr
  obtain ⟨cur, h1, h2, h3, h4⟩ := hr
  rw [hl] at h4
  have hcm : cap ≤ 9223372036854775807 := by unfold maxLen at hm; omega
  have hd1 : (L.drop p).length = n - p := by simp [hl]
  have HFIN := Lib.hid (put_shift cur L p x d (by omega) (by omega) (by rw [hl]; exact h4))
  have hsrc : ∀ j v, (flat (L.drop p))[j]? = some v → w.drew.cell? ((⟨g, p * 2, none⟩ : Addr).add j) = some v := fun j v hv => by
    rw [addn]
    have := cell_of_row w g (p * 2 + j) _ _ _ h1
    rw [show w.drew.cell? ⟨g, p * 2 + j, none⟩ = w.cell? ⟨g, p * 2 + j, none⟩ from rfl, this]
    rw [← flat_drop, ← h4, List.getElem?_drop, List.getElem?_take] at hv
    split at hv
    · simpa using hv
    · cases hv
  have hov : ∀ lb cb, (callFunc 70 #[.slice (some ⟨h, 0, none⟩) 1 1, .slice (some ⟨g, (p + 1) * 2, none⟩) lb cb]).run Tryd.prog w = .ok (.value (.bool false)) w := fun lb cb => by
    rw [run_callFunc_extern Tryd.func70 (by kernel_rfl) (by kernel_rfl) (by kernel_rfl) (e := Extern.SlicesOverlaps.overlaps #[24, 24] #[4]) (by kernel_rfl),
      Lib.run_overlaps_apart w 24 4 65 Tryd.underlying24 2 ospot_zero ⟨h, 0, none⟩ ⟨g, (p + 1) * 2, none⟩ 1 1 lb cb hne 65 65 2 cur.size (by have : w.heap[h]? = _ := hs; simp [World.shape?, this]) (by simp [World.shape?, h1]) (by omega) (by have : w.heap[h]? = _ := hs; simp [World.frozen?, this]) (by have : w.heap[h]? = _ := hs; simp [World.frozen?, this])]
    rfl
  have hcp1 : ∀ ty dc sc, (Builtin.copy_ #[24, 24] ty #[.slice (some ⟨g, (p + 1) * 2, none⟩) (n - p) dc, .slice (some ⟨g, p * 2, none⟩) (n + 1 - p) sc]).run Tryd.prog w.drew = .ok (goInt (L.drop p).length) (w.drew.setRow g (rput cur (p + 1) (L.drop p))) := fun ty dc sc =>
    run_copyR w.drew _ ty 65 Tryd.underlying24 ospot_size g (p + 1) 65 _ dc _ sc ⟨g, p * 2, none⟩ cur (L.drop p) h1 (by rw [hd1]; simp only [Nat.min_def]; split <;> omega) (by omega) hsrc (by rw [hd1, h2]; omega)
  obtain ⟨W1, hW1⟩ : ∃ W1, W1 = w.drew.setRow g (rput cur (p + 1) (L.drop p)) := ⟨_, rfl⟩
  have hB1 : Below g w W1 := by rw [hW1]; exact below_setRow (Below.refl _ _).drew (Nat.le_refl _) _
  have hg1 : W1.heap[g]? = some (.cells (rput cur (p + 1) (L.drop p)) 65 (0, 0)) := by rw [hW1]; exact row_lay w.drew g _ cur _ h1
  have hs1 : SPT W1 h x d := by
    show W1.heap[h]? = _
    rw [hW1, setRow_other w.drew g h _ hne]
    exact hs
  have hz1 : (rput cur (p + 1) (L.drop p)).size = cap * 2 := by rw [rput_size _ _ _ (by rw [hd1, h2]; omega), h2]
  have hcp2 : ∀ ty dc, (Builtin.copy_ #[24, 24] ty #[.slice (some ⟨g, p * 2, none⟩) (n + 1 - p) dc, .slice (some ⟨h, 0, none⟩) 1 1]).run Tryd.prog W1 = .ok (goInt [(x, d)].length) (W1.setRow g (rput (rput cur (p + 1) (L.drop p)) p [(x, d)])) := fun ty dc =>
    run_copyR W1 _ ty 65 Tryd.underlying24 ospot_size g p 65 _ dc 1 1 ⟨h, 0, none⟩ _ [(x, d)] hg1 (by simp only [Nat.min_def, List.length_singleton]; split <;> omega) (by simp) hs1.src (by rw [hz1]; simp only [List.length_singleton]; omega)
  have HEND : Hid (RetIns (insP L p x d) base w (.returned (.slice (some ⟨g, 0, none⟩) (n + 1) cap)) (W1.setRow g (rput (rput cur (p + 1) (L.drop p)) p [(x, d)]))) := by
    have hil : (insP L p x d).length = n + 1 := by rw [insP_length L p x d (by omega), hl]
    refine ⟨_, rfl, ?_, ?_⟩
    · have : RB (W1.setRow g (rput (rput cur (p + 1) (L.drop p)) p [(x, d)])) g 65 cap (insP L p x d) := by
        refine ⟨_, row_lay W1 g _ _ _ hg1, ?_, by rw [hil]; exact hroom, ?_⟩
        · rw [rput_size _ _ _ (by rw [hz1]; simp only [List.length_singleton]; omega), hz1]
        · rw [hil, ← hl]
          exact HFIN.out
      have := this.own hb hm
      rw [hil] at this
      exact this
    · exact (below_setRow hB1 (Nat.le_refl _) _).mono hb
  rw [← hW1] at hcp1
  have hw1 : IntKind.i64.wrap ((p : Int) + 1) = (p : Int) + 1 := by rw [IntKind.wrap_i64]; omega
  have hb1 : (0 : Int) ≤ (p : Int) + 1 := by omega
  have hin : p ≤ n := by omega
  have htn : ((p : Int) + 1).toNat = p + 1 := by omega
  have hb2 : ¬ (cap = p + 1) := by omega
  have hb3 : (p : Int) ≤ (n : Int) + 1 := by omega
  have hb4 : ¬ (cap = p) := by omega
  have hz2 : ¬ ((p : Int) = (n : Int)) := by omega
  have hz3 : ¬ ((cap : Int) < (n : Int) + 1) := by omega
  clear h1 h2 h3 h4 HFIN hsrc hs hs1 hg1 hz1 hd1 hl hW1
  go_enter Tryd.func49, Tryd.ntmps49
  go_wp2_with (simp only [hov])
  go_region_law (refine step_runC rfl (.tmp 73) (.tmp 76) 24 24 rfl _ _ (by simp [Act.eval, Act.put]) (by simp [Act.eval, Act.put]) _ _ (hcp1 _ _ _) ?_)
  go_wp2_with (at_builtin; refine wpList_runC rfl .copy (.tmp 80) (.tmp 81) 24 24 rfl _ _ rfl rfl _ _ rfl (hcp2 _ _) ?_)
  go_ret
  exact HEND.out

end Go.Proofs.YtolgncaaffmmnaaDoor
