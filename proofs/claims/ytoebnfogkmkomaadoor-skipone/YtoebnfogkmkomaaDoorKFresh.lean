/-
  THE SAME CONTRACTS, AND THE ROWS LIE IN NEW MEMORY; what an append onto a row of the call's own leaves alone.
-/
import Derived.Test.YtoebnfogkmkomaaDoorKRun
namespace Go.Proofs.YtoebnfogkmkomaaDoor
open Go.RowKit

/-- the slices that it holds lie from B on -/
def Fr (w : World) (B : Nat) (A : Option Addr) (m : Nat) : Prop := ∀ b off i A' n' c', A = some ⟨b, off, none⟩ → i < m → w.cell? ⟨b, off + i, none⟩ = some (.slice A' n' c') → ∀ ad, A' = some ad → B ≤ ad.block
theorem Fr.mono {w : World} {B B' : Nat} {A : Option Addr} {m : Nat} (h : Fr w B A m) (hb : B' ≤ B) : Fr w B' A m := fun b off i A' n' c' e hi hc ad ha => Nat.le_trans hb (h b off i A' n' c' e hi hc ad ha)
def RetRowsF (L : List (List Int)) (w : World) (e : Ending) (w' : World) : Prop := ∃ A m c, e = .returned (.slice A m c) ∧ RI w' A m c L ∧ Fr w' w.heap.size A m ∧ Below w.heap.size w w'
def RetRun4 (L : List (List Int)) (a : List An) (er : Int) (w : World) (e : Ending) (w' : World) : Prop :=
  ∃ A m c A' n' c', e = .returned (.tuple #[.slice A m c, .slice A' n' c', I er]) ∧ RI w' A m c L ∧ Fr w' w.heap.size A m ∧ AS w' A' n' c' a ∧ Below w.heap.size w w'
theorem tw_fr {w w0 : World} {g t : Nat} {ts : List T3} {rows : Nat → List Int} (h : Tw w (w0.heap.size + 2) g t (ts.map slV) rows) : ∀ i, i < 12 → ∀ ad, (tAt ts i).1 = some ad → w0.heap.size ≤ ad.block := by
  intro i hi ad ha
  have hl : ts.length = 12 := by simpa using h.len
  have e2 : rowAt (ts.map slV) i = slV (tAt ts i) := by simp [rowAt, tAt, List.getElem?_eq_getElem (show i < ts.length by omega)]
  have := own_ge1 (h.own i hi) ad.block (by rw [e2]; simp [Value.ownBlock, slV, ha])
  omega
theorem own_rif {w w' : World} {g h base B : Nat} {ts : List T3} {l : List Int} {v : Value} (hv : Tv w g ts (rowL l)) (hb : Below w.heap.size w w') (hh : hiR l = h) (hf : ∀ i, i < 12 → ∀ ad, (tAt ts i).1 = some ad → B ≤ ad.block) (ho : w'.ownsRow base 22 1 v h ((ts.take h).map slV)) : ∃ A m c, v = .slice A m c ∧ RI w' A m c (rowsL l) ∧ Fr w' B A m := by
  obtain ⟨A, m, c, rfl, hri⟩ := own_ri hv hb hh ho
  refine ⟨A, m, c, rfl, hri, ?_⟩
  intro b off i A' n' c' e hi hc ad ha
  have h12 : h ≤ 12 := by rw [← hh]; exact hiR_le l
  have hl := hv.len
  have hm : m = h := by rw [← hri.len, rowsL_len]; exact hh
  rcases ho.2 with ⟨e0, h0⟩ | ⟨g2, cap, cur, e0, _, hg, hnc, _, hsz, htk⟩
  · omega
  · injection e0 with e1 _ _
    rw [e] at e1
    injection e1 with e1
    injection e1 with e1 e2 _
    subst e1 e2
    rw [Nat.zero_add, cell_of_row _ _ _ _ _ _ hg] at hc
    have : ((ts.take h).map slV)[i]? = some (slV (tAt ts i)) := by
      simp [List.getElem?_take, show i < h by omega, tAt, List.getElem?_eq_getElem (show i < ts.length by omega)]
    rw [← htk, List.getElem?_take, if_pos (by omega)] at this
    have hc2 : cur.toList[i]? = some (.slice A' n' c') := by simpa using hc
    rw [this] at hc2
    injection hc2 with hc2
    injection hc2 with hc3 _ _
    exact hf i (by omega) ad (by rw [hc3]; exact ha)

set_option maxRecDepth 100000 in
set_option maxHeartbeats 2000000 in
theorem rowsOf_fr (A : Option Addr) (n c : Nat) (l : List Int) (w : World) (h : IS w A n c l) (hn : n ≤ 1000) (hT : Tb w) :
    Calls Tryd.prog 30 #[.slice A n c] w (RetRowsF (rowsL l) w) := by
  have HC := Lib.hid (towerOf_any A n c l w h hn hT)
  have hll : l.length ≤ 1000 := by rw [h.len]; exact hn
  clear h hT
  go_enter Tryd.func30, Tryd.ntmps30
  go_wp2_with fail
  refine HC.out.mono ?_
  rintro e w1 ⟨vs, rfl, htw, hb1⟩
  obtain ⟨ts, hts, rfl⟩ := htw.slices
  obtain ⟨a0, a1, a2, a3, a4, a5, a6, a7, a8, a9, a10, a11, rfl⟩ := set12 ts hts
  have HTW := Lib.hid htw
  have HB1 := Lib.hid hb1
  clear htw hb1 HC
  simp only [List.map_cons, List.map_nil]
  go_wp2_with fail
  have htv : Tv (w1.alloc (.cells #[slV a0, slV a1, slV a2, slV a3, slV a4, slV a5, slV a6, slV a7, slV a8, slV a9, slV a10, slV a11] 64)) w1.heap.size [a0, a1, a2, a3, a4, a5, a6, a7, a8, a9, a10, a11] (rowL l) := tw_tv HTW.out ((Below.refl _ _).alloc (Nat.le_refl _) _) (heap_alloc_new _ _)
  have HFT : Hid (∀ i, i < 12 → ∀ ad, (tAt [a0, a1, a2, a3, a4, a5, a6, a7, a8, a9, a10, a11] i).1 = some ad → w.heap.size ≤ ad.block) := tw_fr HTW.out
  have hb2 : Below w.heap.size w (w1.alloc (.cells #[slV a0, slV a1, slV a2, slV a3, slV a4, slV a5, slV a6, slV a7, slV a8, slV a9, slV a10, slV a11] 64)) := HB1.out.alloc HB1.out.size _
  generalize hg2 : w1.heap.size = g2 at htv ⊢
  generalize hw2 : w1.alloc _ = w2 at htv hb2 ⊢
  have HTV := Lib.hid htv
  have HB2 := Lib.hid hb2
  have HHI := Lib.hid (high_any g2 _ l w2 htv hll)
  clear htv hb2 HTW hg2 hw2
  refine HHI.out.mono ?_
  rintro e w3 ⟨rfl, hb3⟩
  obtain ⟨h, hh⟩ : ∃ h, hiR l = h := ⟨_, rfl⟩
  have h12 : h ≤ 12 := by rw [← hh]; exact hiR_le l
  rw [hh]
  have HH := Lib.hid hh
  have HTV3 := Lib.hid (HTV.out.below hb3)
  have HB3 := Lib.hid (HB2.out.trans (hb3.mono HB2.out.size))
  clear hb3 hh HHI
  have hsl := run_head g2 h h12
  go_wp2_with fail
  refine (cloneR_any g2 h _ _ w3 HTV3.out h12).mono ?_
  rintro e w4 ⟨v, rfl, hown, hb4⟩
  have HRI := Lib.hid (own_rif HTV3.out hb4 HH.out HFT.out hown)
  have HB4 := Lib.hid (HB3.out.trans (hb4.mono HB3.out.size))
  clear hown hb4
  go_wp2
  go_ret
  obtain ⟨A', m, c', rfl, hri, hfr⟩ := HRI.out
  exact ⟨A', m, c', rfl, hri, hfr, HB4.out⟩

set_option maxRecDepth 100000 in
set_option maxHeartbeats 2000000 in
theorem RunS_fr (A : Option Addr) (n c : Nat) (ops : List OP) (w : World) (h : OS w A n c ops) (hn : n ≤ 300) (hl : (runR ops).1.length ≤ 200) (hT : Tb w) :
    Calls Tryd.prog 19 #[.slice A n c] w (RetRun4 (rowsL (kys (runR ops).1)) (runR ops).2 0 w) := by
  have HC := Lib.hid (Run_any A n c ops w h hn)
  have HT := Lib.hid hT
  obtain ⟨l, hll⟩ : ∃ l, (runR ops).1 = l := ⟨_, rfl⟩
  obtain ⟨an, han⟩ : ∃ an, (runR ops).2 = an := ⟨_, rfl⟩
  rw [hll] at HC hl ⊢
  rw [han] at HC ⊢
  clear h hT hll han
  go_enter Tryd.func19, Tryd.ntmps19
  go_wp2_with fail
  refine HC.out.mono ?_
  rintro e w1 ⟨A1, n1, c1, A2, n2, c2, rfl, hps, has, hb1⟩
  have hn1 : n1 ≤ 200 := by rw [← hps.len]; exact hl
  have HPS := Lib.hid hps
  have HL := Lib.hid hps.len
  have HAS := Lib.hid has
  have HB1 := Lib.hid hb1
  have hz1 := hb1.size
  have hmk := fun w => run_makeI (P := Tryd.prog) 22 3 Tryd.underlying22 int_info n1 n1 (Nat.le_refl _) (by omega) w
  clear hps has hb1 HC
  go_wp2
  go_loopw [25] (fun i wr => ∃ k : Nat, k ≤ n1 ∧ i = .int .i64 k ∧ IB wr w1.heap.size 3 (kysTo l k) ∧ Below w1.heap.size w1 wr) (fun i _ => n1 - (intOf i).toNat)
  case atStart => exact ⟨0, Nat.zero_le _, rfl, by have := IB.new w1 3 (List.replicate n1 0); simpa [kysTo, HL.out] using this, (Below.refl _ _).alloc (Nat.le_refl _) _⟩
  case round =>
    obtain ⟨k, hk, rfl, hib, hnx⟩ := hrel
    by_cases hlt : k < n1
    · have hkl : k < l.length := by rw [HL.out]; exact hlt
      obtain ⟨b, off, rfl, hbw, hcs⟩ := HPS.out.at_ (by omega)
      obtain ⟨x, hx⟩ : ∃ x, l[k].1 = x := ⟨_, rfl⟩
      obtain ⟨y, hy⟩ : ∃ y, l[k].2 = y := ⟨_, rfl⟩
      have hc0 : wr.cell? ⟨b, off + k * 2, none⟩ = some (I x) := by rw [← hx]; exact (hnx.cell (by exact hbw)).trans (hcs k hlt).1
      have hc1 : wr.cell? ⟨b, off + k * 2 + 1, none⟩ = some (I y) := by rw [← hy]; exact (hnx.cell (by exact hbw)).trans (hcs k hlt).2
      have hl2 := kysTo_len l k (by omega)
      obtain ⟨old, hcell⟩ : ∃ old, wr.cell? ⟨w1.heap.size, k, none⟩ = some (I old) := ⟨_, by rw [hib.cell, List.getElem?_eq_getElem (by omega)]; rfl⟩
      have hfz : wr.frozen? ⟨w1.heap.size, k, none⟩ = false := hib.frozen k
      have hlt1 : w1.heap.size < wr.heap.size := hib.lt
      have hbl : b < wr.heap.size := Nat.lt_of_lt_of_le hbw hnx.size
      have HIB := Lib.hid hib
      have HNX := Lib.hid hnx
      have HSET : Hid (∀ w2, IB w2 w1.heap.size 3 (kysTo l k) → IB (w2.setCell ⟨w1.heap.size, k, none⟩ (I x)) w1.heap.size 3 (kysTo l (k + 1))) := fun w2 h2 => by
        rw [← kysTo_set l k hkl, hx]
        exact h2.set k _
      clear hib hnx hcs hl2 hx hy
      go_wp2
      go_roundw
      case rel => exact ⟨k + 1, by omega, by go_num, (HSET.out wr HIB.out).below ((Below.refl _ _).alloc (Nat.le_refl _) _) (HSET.out wr HIB.out).lt, (HNX.out.setCell (Nat.le_refl _) _).alloc (by simpa [World.setCell] using HNX.out.size) _⟩
      case measure => simp [intOf]; omega
    · have HIS : Hid (IS wr (some ⟨w1.heap.size, 0, none⟩) n1 n1 (kys l)) := by
        rw [show k = l.length by rw [HL.out]; omega, kysTo_all] at hib
        have hl := kys_len l
        rw [HL.out] at hl
        have := hib.is_ (c := n1) (by omega)
        rw [hl] at this
        exact this
      have HRO := Lib.hid (rowsOf_fr _ n1 n1 (kys l) wr HIS.out (by omega) ((HT.out.next HB1.out).next hnx))
      have HNX := Lib.hid hnx
      clear hib hnx
      go_wp2_with fail
      refine HRO.out.mono ?_
      rintro e w3 ⟨A3, m3, c3, rfl, hri, hfr, hb3⟩
      have HRI := Lib.hid hri
      have HFR := Lib.hid (hfr.mono (Nat.le_trans hz1 HNX.out.size))
      have HB13 := Lib.hid (HNX.out.trans (hb3.mono HNX.out.size))
      have HB3 := Lib.hid (HB1.out.trans (HB13.out.mono hz1))
      clear hri hb3 hfr HRO
      go_wp2
      go_ret3
      exact ⟨A3, m3, c3, A2, n2, c2, rfl, HRI.out, HFR.out, HAS.out.below HB13.out, HB3.out⟩

/-- while rows of the call's own grow: from lo on, all that was there is as it was; the row v lies elsewhere -/
def Keep (lo : Nat) (w8 wr : World) (v : Value) : Prop := w8.heap.size ≤ wr.heap.size ∧ (∀ b, lo ≤ b → b < w8.heap.size → wr.heap[b]? = w8.heap[b]?) ∧ ∀ g, v.ownBlock = some g → g < lo ∨ w8.heap.size ≤ g
theorem Keep.start {lo : Nat} {w8 : World} {v : Value} (h : ∀ g, v.ownBlock = some g → g < lo) : Keep lo w8 w8 v := ⟨Nat.le_refl _, fun _ _ _ => rfl, fun g hg => .inl (h g hg)⟩
theorem Keep.append {lo : Nat} {w8 wr w2 : World} {v v' : Value} {o : Obj} (h : Keep lo w8 wr v) (hg : (wr.alloc o).grownBy w2 v.ownBlock) (hat : v'.ownBlock = v.ownBlock ∨ v'.ownBlock = some (wr.alloc o).heap.size) : Keep lo w8 w2 v' := by
  obtain ⟨h1, h2, h3⟩ := h
  have hsz := hg.size
  simp only [World.size_alloc] at hsz
  refine ⟨by omega, fun b hb1 hb2 => ?_, fun g hgv => ?_⟩
  · rw [hg.block b (by simp; omega) ?_, Below.heap_alloc _ _ _ (by omega)]
    · exact h2 b hb1 hb2
    · intro e
      rcases h3 b e.symm with h4 | h4 <;> omega
  · rcases hat with e | e
    · rw [e] at hgv
      exact h3 g hgv
    · rw [e] at hgv
      injection hgv with hgv
      right
      simp at hgv
      omega
theorem Keep.is_ {lo : Nat} {w8 wr : World} {v : Value} {A : Option Addr} {n c : Nat} {l : List Int} (h : Keep lo w8 wr v) (hi : IS w8 A n c l) (hA : ∀ ad, A = some ad → lo ≤ ad.block) : IS wr A n c l := by
  refine ⟨hi.len, hi.rd.1, fun h0 => ?_⟩
  obtain ⟨b, off, e, hb, hc⟩ := hi.rd.2 h0
  refine ⟨b, off, e, Nat.lt_of_lt_of_le hb h.1, fun i hi2 j hj => ?_⟩
  have := h.2.1 b (hA _ e) hb
  rw [World.cell?_of_block (w := w8) (by exact this)]
  exact hc i hi2 j hj
end Go.Proofs.YtoebnfogkmkomaaDoor
