/-
  hedgkeep.skipLives.
-/
import Derived.Test.YtoebnfogkmkomaaDoorKPathF
import Derived.Test.YtoebnfogkmkomaaDoorKRun
namespace Go.Proofs.YtoebnfogkmkomaaDoor
open Go.RowKit

theorem kon {w w1 w2 : World} (h : Below w.heap.size w w1) (hb : Below w1.heap.size w1 w2) : Below w.heap.size w w2 := h.trans (hb.mono h.size)
theorem kbox {w w' : World} {o : Obj} (hb : Below (w.alloc o).heap.size (w.alloc o) w') : Below w.heap.size w w' := kon ((Below.refl _ _).alloc (Nat.le_refl _) _) hb
theorem rise123 : Rise [1, 2, 3] := ⟨by decide, by decide, by decide⟩
theorem RI.zero {w : World} {A : Option Addr} {m c : Nat} {l : List Int} (h : RI w A m c (rowsL l)) (hl : l ≠ []) :
    0 < m ∧ m ≤ 12 ∧ ∃ b off A' c', A = some ⟨b, off, none⟩ ∧ b < w.heap.size ∧ w.cell? ⟨b, off, none⟩ = some (.slice A' l.length c') ∧ IS w A' l.length c' l := by
  have hm : m = hiR l := by rw [← h.len, rowsL_len]
  have hp : 0 < hiR l := (hiR_pos l).2 hl
  obtain ⟨b, off, e, hb, hc⟩ := h.at_ (by omega)
  obtain ⟨A', n', c', h1, h2⟩ := hc 0 (by omega)
  rw [rowsL_at l 0 hp, Option.getD_some, rowL_zero] at h2
  obtain rfl : n' = l.length := h2.len.symm
  exact ⟨by omega, by rw [hm]; exact hiR_le l, b, off, A', c', e, hb, by simpa using h1, h2⟩
theorem RI.le {w : World} {A : Option Addr} {m c : Nat} {l : List Int} (h : RI w A m c (rowsL l)) : m ≤ 12 := by rw [← h.len, rowsL_len]; exact hiR_le l
theorem stops123 : ∃ q r, stops [1, 2, 3] 3 = q ++ [(r, 2)] := by
  have hp := stops_pin rise123 3
  have hb : blwK [1, 2, 3] 3 = 2 := by decide
  rw [← blwK_is rise123 3, hb] at hp
  rcases hp.last with ⟨_, h⟩ | h
  · cases h
  · exact h
theorem stops_len {l : List Int} (hR : Rise l) (key : Int) : (stops l key).length ≤ 2400 := by
  have h1 := stTo_len l key 12
  have h2 := hR.len
  unfold stops
  omega
/-- the last stop -/
theorem PS.last {w : World} {A : Option Addr} {c : Nat} {p q : PL} {r k : Int} (h : PS w A p.length c p) (hp : p = q ++ [(r, k)]) :
    0 < p.length ∧ ∃ b off, A = some ⟨b, off, none⟩ ∧ b < w.heap.size ∧ w.cell? ⟨b, off + (p.length - 1) * 2 + 1, none⟩ = some (I k) := by
  have h0 : 0 < p.length := by rw [hp]; simp
  obtain ⟨b, off, e, hb, hc⟩ := h.at_ h0
  refine ⟨h0, b, off, e, hb, ?_⟩
  have := (hc (p.length - 1) (by omega)).2
  have hk : (p[p.length - 1]'(by omega)).2 = k := by
    subst hp
    simp
  rw [hk] at this
  rw [show off + (p.length - 1) * 2 + 1 = off + ((p.length - 1) * 2 + 1) by omega]
  exact this
abbrev sOps : List OP := [(1, 2, 0), (1, 1, 0), (6, 2, 0)]
theorem s_run : runR sOps = ([(1, 0), (2, 0)], [an0, an0, ⟨0, 0, 1, true⟩]) := by decide +kernel
abbrev sOpsO : Obj := .cells #[I 1, I 2, I 0, I 1, I 1, I 0, I 6, I 2, I 0] 58
theorem s_os (w : World) : OS (w.alloc sOpsO) (some ⟨w.heap.size, 0, none⟩) 3 3 sOps := by
  refine ⟨rfl, Nat.le_refl _, fun _ => ⟨w.heap.size, 0, rfl, by simp, fun i hi j hj => ?_⟩⟩
  have hh : (w.alloc sOpsO).heap[w.heap.size]? = some sOpsO := heap_alloc_new w _
  have h4 : i = 0 ∨ i = 1 ∨ i = 2 := by omega
  have h3 : j = 0 ∨ j = 1 ∨ j = 2 := by omega
  rcases h4 with rfl | rfl | rfl <;> rcases h3 with rfl | rfl | rfl <;> (rw [cell_of_row _ _ _ _ _ _ hh]; rfl)

set_option maxRecDepth 100000 in
set_option maxHeartbeats 2000000 in
theorem skipLives_any (w : World) (hT : Tb w) : Calls Tryd.prog 24 #[] w fun e w' => e = .returned (.bool true) ∧ Below w.heap.size w w' ∧ Tb w' := by
  have HT := Lib.hid hT
  clear hT
  go_enter Tryd.func24, Tryd.ntmps24
  go_wp2_with fail
  refine (Rows_ok _ 3 3 [1, 2, 3] _ (is_new w 3 [1, 2, 3]) rise123 (HT.out.next ((Below.refl _ _).alloc (Nat.le_refl _) _))).mono ?_
  rintro e w1 ⟨A1, m1, c1, rfl, hri1, hb1⟩
  have HB1 := Lib.hid (kbox hb1)
  have HR1 := Lib.hid hri1
  have HT1 := Lib.hid (HT.out.next HB1.out)
  clear hb1 hri1
  go_wp2_with fail
  refine (Path_ok _ 3 3 [1, 2, 3] 3 _ (is_new w1 3 [1, 2, 3]) rise123 (by decide) (HT1.out.next ((Below.refl _ _).alloc (Nat.le_refl _) _))).mono ?_
  rintro e w2 ⟨A2, c2, rfl, hps2, hb2⟩
  obtain ⟨n2, hn2⟩ : ∃ n2, (stops [1, 2, 3] 3).length = n2 := ⟨_, rfl⟩
  have hn2l : n2 ≤ 2400 := by rw [← hn2]; exact stops_len rise123 3
  have HB2 := Lib.hid (kon HB1.out (kbox hb2))
  have HR2 := Lib.hid (HR1.out.below (kbox hb2))
  have HP2 := Lib.hid hps2
  have HT2 := Lib.hid (HT.out.next HB2.out)
  have HN2 := Lib.hid hn2
  rw [hn2]
  clear hb2 hps2 hn2 HR1
  go_wp2_with fail
  refine (RunS_any _ 3 3 sOps _ (s_os w2) (by omega) (by rw [s_run]; decide) (HT2.out.next ((Below.refl _ _).alloc (Nat.le_refl _) _))).mono ?_
  rw [s_run]
  rintro e w3 ⟨A3, m3, c3, A4, n4, c4, rfl, hri3, has3, hb3⟩
  obtain rfl : n4 = 3 := has3.len.symm
  have HB3 := Lib.hid (kon HB2.out (kbox hb3))
  have HT3 := Lib.hid (HT.out.next HB3.out)
  obtain ⟨hm1, hm1', b1, off1, A1', c1', rfl, hbl1, hcell1, his1⟩ := (HR2.out.below (kbox hb3)).zero (by decide)
  obtain ⟨q, r, hq⟩ := stops123
  obtain ⟨hp2, b2, off2, rfl, hbl2, hcell2⟩ := (HP2.out.below (kbox hb3)).last hq
  rw [HN2.out] at hp2 hcell2
  obtain ⟨hm3, hm3', b3, off3, A3', c3', rfl, hbl3, hcell3, his3⟩ := hri3.zero (by decide)
  obtain ⟨b4, off4, rfl, hbl4, hc4⟩ := has3.at_ (by omega)
  have hcell4 := (hc4 2 (by omega)).2.2.1
  simp only [List.getElem_cons_succ, List.getElem_cons_zero] at hcell4
  clear hb3 hri3 has3 hc4 hq HR2 HP2
  have HI1 := Lib.hid his1
  have HI3 := Lib.hid his3
  have HC1 := Lib.hid hcell1
  have HC2 := Lib.hid hcell2
  have HC3 := Lib.hid hcell3
  have HC4 := Lib.hid hcell4
  clear his1 his3 hcell1 hcell2 hcell3 hcell4
  go_wp2_with fail
  refine (ok_any _ 3 3 [0, 0, 0] _ (is_new w3 24 [0, 0, 0]) (by omega) (by simp)).mono ?_
  rintro e w4 ⟨rfl, rfl⟩
  have g1 : (w3.alloc (.cells #[I 0, I 0, I 0] 24)).cell? ⟨b1, off1, none⟩ = some (.slice A1' 3 c1') := (Below.cell ((Below.refl _ _).alloc (Nat.le_refl _) _) (by exact hbl1)).trans HC1.out
  go_wp2_with fail
  have hba : Below w3.heap.size w3 ((w3.alloc (.cells #[I 0, I 0, I 0] 24)).alloc (.cells #[I 1, I 2, I 3] 3)) := ((Below.refl _ _).alloc (Nat.le_refl _) _).alloc (by simp) _
  have hnew : IS ((w3.alloc (.cells #[I 0, I 0, I 0] 24)).alloc (.cells #[I 1, I 2, I 3] 3)) (some ⟨w3.heap.size + 1, 0, none⟩) 3 3 [1, 2, 3] := by
    rw [show w3.heap.size + 1 = (w3.alloc (.cells #[I 0, I 0, I 0] 24)).heap.size by simp]
    exact is_new _ 3 [1, 2, 3]
  refine (eqInt_any A1' _ 3 3 c1' 3 [1, 2, 3] [1, 2, 3] _ (HI1.out.below hba) hnew (by omega) (by omega)).mono ?_
  rintro e w5 ⟨rfl, hb5⟩
  have hbx5 : Below w3.heap.size w3 w5 := kon hba hb5
  have hcell2 : w5.cell? ⟨b2, off2 + (n2 - 1) * 2 + 1, none⟩ = some (I 2) := (hbx5.cell (by exact hbl2)).trans HC2.out
  have hcell3 : w5.cell? ⟨b3, off3, none⟩ = some (.slice A3' 2 c3') := (hbx5.cell (by exact hbl3)).trans HC3.out
  have HI5 := Lib.hid (HI3.out.below hbx5)
  have HB5 := Lib.hid (kon HB3.out hbx5)
  have hc4 : w5.cell? ⟨b4, off4 + 8 + 2, none⟩ = some (I 1) := (hbx5.cell (by exact hbl4)).trans HC4.out
  have hbl4' : b4 < w5.heap.size := Nat.lt_of_lt_of_le hbl4 hbx5.size
  have HC5 := Lib.hid hc4
  clear hb5 hbx5 hba hnew g1 hc4
  go_wp2_with fail
  refine (eqInt_any A3' _ 2 2 c3' 2 [1, 2] [1, 2] _ (HI5.out.alloc _) (is_new w5 3 [1, 2]) (by omega) (by omega)).mono ?_
  rintro e w6 ⟨rfl, hb6⟩
  have hcell6 : w6.cell? ⟨b4, off4 + 8 + 2, none⟩ = some (I 1) := ((kbox hb6).cell (by exact hbl4')).trans HC5.out
  have HB6 := Lib.hid (kon HB5.out (kbox hb6))
  clear hb6 hcell2 hcell3
  go_wp2
  go_ret
  exact ⟨rfl, HB6.out, HT.out.next HB6.out⟩
end Go.Proofs.YtoebnfogkmkomaaDoor
