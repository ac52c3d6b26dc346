/-
  Joined texts: YtpnjnedfcdppaaaGreatDoorBMem, YtpnjnedfcdppaaaGreatDoorBCosts.
-/
import Derived.Test.YtpnjnedfcdppaaaGreatDoorTEvenAll
import Derived.Test.YtpnjnedfcdppaaaGreatDoorInts
import Derived.BigQuiet
import Derived.Deep.QuietTactic
import Derived.Deep.WholeRow
import Derived.Test.YtpnjnedfcdppaaaGreatDoorBChk
import Derived.Deep.RegionWith
/-
  The table in memory; (*costTable).below, topOf.
-/
namespace Go.Proofs.YtpnjnedfcdppaaaGreatDoor
open Go.RowKit

def tabV (c : Nat → Nat → Int) : List Value := (List.range 441).map fun q => I (c (q / 21) (q % 21))
theorem tabV_length (c : Nat → Nat → Int) : (tabV c).length = 441 := by simp [tabV]
theorem tabV_at (c : Nat → Nat → Int) {i j : Nat} (hi : i < 21) (hj : j < 21) : (tabV c)[i * 21 + j]? = some (I (c i j)) := by
  unfold tabV
  rw [List.getElem?_map, List.getElem?_range (by omega)]
  simp only [Option.map_some]
  rw [show (i * 21 + j) / 21 = i by omega, show (i * 21 + j) % 21 = j by omega]
theorem tabV_set (c : Nat → Nat → Int) {i j : Nat} (hi : i < 21) (hj : j < 21) (x : Int) : (tabV c).set (i * 21 + j) (I x) = tabV (bupd c i j x) := by
  apply List.ext_getElem
  · simp [tabV]
  · intro q h1 h2
    have hq : q < 441 := by simpa [tabV] using h2
    rw [List.getElem_set]
    simp only [tabV, List.getElem_map, List.getElem_range, bupd]
    by_cases he : i * 21 + j = q
    · rw [if_pos he, if_pos (by omega)]
    · rw [if_neg he, if_neg (by omega)]
theorem tabV_one (c : Nat → Nat → Int) : (tabV c).toArray.all (·.oneCell') = true := by
  simp only [tabV, List.all_toArray, List.all_eq_true, List.mem_map]
  rintro v ⟨q, _, rfl⟩
  rfl
/-- block g is the table c -/
def TQ (w : World) (g : Nat) (c : Nat → Nat → Int) : Prop := w.heap[g]? = some (.cells (tabV c).toArray 129 (0, 0))
theorem TQ.lt {w : World} {g : Nat} {c : Nat → Nat → Int} (h : TQ w g c) : g < w.heap.size := (Array.getElem?_eq_some_iff.1 h).1
theorem TQ.below {w w' : World} {g B : Nat} {c : Nat → Nat → Int} (h : TQ w g c) (hb : Below B w w') (hg : g < B) : TQ w' g c := (hb.block g hg).trans h
theorem TQ.cell {w : World} {g : Nat} {c : Nat → Nat → Int} (h : TQ w g c) {i j : Nat} (hi : i < 21) (hj : j < 21) : w.cell? ⟨g, i * 21 + j, none⟩ = some (I (c i j)) := by
  unfold TQ at h
  rw [cell_of_row _ _ _ _ _ _ h]
  simpa using tabV_at c hi hj
theorem TQ.frozen {w : World} {g : Nat} {c : Nat → Nat → Int} (h : TQ w g c) (q : Nat) : w.frozen? ⟨g, q, none⟩ = false := by
  unfold TQ at h
  simp [World.frozen?, h]
theorem TQ.set {w : World} {g : Nat} {c : Nat → Nat → Int} (h : TQ w g c) {i j : Nat} (hi : i < 21) (hj : j < 21) (x : Int) : TQ (w.setCell ⟨g, i * 21 + j, none⟩ (I x)) g (bupd c i j x) := by
  unfold TQ at *
  rw [setCell_eq_setRow w g _ _ _ (0, 0) (I x) h, setRow_heap w g _ _ _ (0, 0) h]
  simp [tabV_set c hi hj]
theorem TQ.far {w : World} {g : Nat} {c : Nat → Nat → Int} (h : TQ w g c) {p : Addr} (hg : g ≠ p.block) (u : Value) : TQ (w.setCell p u) g c := (Below.heap_setCell w p u g hg).trans h
theorem TQ.drewN {w : World} {g : Nat} {c : Nat → Nat → Int} (h : TQ w g c) (k : Nat) : TQ (w.drewN k) g c := h
theorem TQ.drew {w : World} {g : Nat} {c : Nat → Nat → Int} (h : TQ w g c) : TQ w.drew g c := h

set_option maxRecDepth 100000 in
set_option maxHeartbeats 1000000 in
theorem below_any (g : Nat) (c : Nat → Nat → Int) (i j k : Nat) (w : World) (h : TQ w g c) (hik : i ≤ k) (hkj : k < j) (hj : j ≤ 20) (hb : ∀ i j, 0 ≤ c i j ∧ c i j ≤ 1000000) :
    Calls Tryz.prog 143 #[.pointer (some ⟨g, 0, none⟩), I i, I j, I k] w fun e w' => e = .returned (I (bblw c i j k)) ∧ ∃ m, w' = w.drewN m := by
  have c1 := h.cell (i := i) (j := k) (by omega) (by omega)
  have c2 := h.cell (i := k + 1) (j := j) (by omega) (by omega)
  have b1 := hb i k
  have b2 := hb (k + 1) j
  have HE : Hid (c i k + c (k + 1) j = bblw c i j k) := rfl
  clear h hb
  generalize c i k = x at *
  generalize c (k + 1) j = y at *
  go_enter Tryz.func143, Tryz.ntmps143
  go_wp2
  go_quiet (fail)
  go_wp2
  go_ret
  exact ⟨ret_int HE.out, _, rfl⟩

theorem tpd_go (c : Nat → Nat → Int) {i j o : Nat} (h : i < o) : tpd c i j (o + 1 - (i + 1)) = if bblw c i j o < bblw c i j (tpd c i j (o - (i + 1))) then o else tpd c i j (o - (i + 1)) := by
  obtain ⟨d, rfl⟩ : ∃ d, o = i + 1 + d := ⟨o - (i + 1), by omega⟩
  rw [show i + 1 + d + 1 - (i + 1) = d + 1 by omega, show i + 1 + d - (i + 1) = d by omega]
  rfl
set_option maxRecDepth 100000 in
set_option maxHeartbeats 1000000 in
theorem topOfB_any (g : Nat) (c : Nat → Nat → Int) (i j : Nat) (w : World) (h : TQ w g c) (hij : i < j) (hj : j ≤ 20) (hb : ∀ i j, 0 ≤ c i j ∧ c i j ≤ 1000000) :
    Calls Tryz.prog 144 #[.pointer (some ⟨g, 0, none⟩), I i, I j] w fun e w' => e = .returned (I (tp c i j)) ∧ ∃ m, w' = w.drewN m := by
  have H := Lib.hid h
  have HB := Lib.hid hb
  clear h hb
  have e1 : IntKind.i64.wrap ((i : Int) + 1) = (i : Int) + 1 := IntWalk.i64_in _ (by omega)
  go_enter Tryz.func144, Tryz.ntmps144
  go_wp2
  go_loopw [7, 8] (fun t o wr => ∃ a b q : Nat, i < b ∧ b ≤ j ∧ i ≤ a ∧ a < b ∧ t = .int .i64 a ∧ o = .int .i64 b ∧ Hid (tpd c i j (b - (i + 1)) = a) ∧ wr = w.drewN q) (fun _ o _ => j - (intOf o).toNat)
  case atStart => exact ⟨i, i + 1, 0, by omega, by omega, by omega, by omega, rfl, by go_num, (by rw [Nat.sub_self]; rfl : tpd c i j (i + 1 - (i + 1)) = i), rfl⟩
  case round =>
    obtain ⟨a, b, q, h1, h2, h3, h4, rfl, rfl, HT, rfl⟩ := hrel
    by_cases hlt : b < j
    · have HG := Lib.hid (tpd_go c (j := j) h1)
      have HC1 := Lib.hid (below_any g c i j b (w.drewN q) (H.out.drewN q) (by omega) hlt hj HB.out)
      go_wp2_with fail
      refine HC1.out.mono ?_
      rintro e w1 ⟨rfl, m1, rfl⟩
      have HC2 := Lib.hid (below_any g c i j a (w.drewN (q + m1)) (H.out.drewN (q + m1)) (by omega) (by omega) hj HB.out)
      go_wp2_with fail
      refine HC2.out.mono ?_
      rintro e w2 ⟨rfl, m2, rfl⟩
      rw [HT.out] at HG
      generalize bblw c i j b = x at *
      generalize bblw c i j a = y at *
      by_cases hxy : x < y
      · have HE : Hid (tpd c i j (b + 1 - (i + 1)) = b) := by show _ = _; rw [HG.out, if_pos hxy]
        go_wp2
        go_roundw
        case rel => exact ⟨b, b + 1, q + m1 + m2, by omega, by omega, by omega, by omega, rfl, by go_num, HE, by simp only [World.drewN_drewN, Nat.add_assoc]⟩
        case measure => simp [intOf]; omega
      · have HE : Hid (tpd c i j (b + 1 - (i + 1)) = a) := by show _ = _; rw [HG.out, if_neg hxy]
        go_wp2
        go_roundw
        case rel => exact ⟨a, b + 1, q + m1 + m2, by omega, by omega, by omega, by omega, rfl, by go_num, HE, by simp only [World.drewN_drewN, Nat.add_assoc]⟩
        case measure => simp [intOf]; omega
    · have HE : Hid ((a : Int) = (tp c i j : Int)) := by
        show (a : Int) = _
        have := HT.out
        rw [show b = j by omega] at this
        unfold tp
        omega
      go_wp2
      go_ret
      exact ⟨ret_int HE.out, q, rfl⟩

end Go.Proofs.YtpnjnedfcdppaaaGreatDoor

/-
  best.costsOf: the table is filled.
-/
namespace Go.Proofs.YtpnjnedfcdppaaaGreatDoor
open Go.RowKit

theorem tab_zero : (Tryz.prog.info? 129).map (fun i => (i.zero, i.size)) = some (some (.agg (tabV fun _ _ => 0).toArray), 441) := by kernel_rfl
theorem tab_size (c : Nat → Nat → Int) : (Tryz.prog.info? 129).map (·.size) = some (tabV c).toArray.size := by
  rw [(zero_of_info tab_zero).2]
  simp [tabV_length]
theorem tab_array : ∃ e, Tryz.prog.underlying 129 = some (.array 21 e) := ⟨_, Tryz.underlying129⟩
theorem TQ.new (w : World) (c : Nat → Nat → Int) : TQ (w.alloc (.cells (tabV c).toArray 129)) w.heap.size c := heap_alloc_new w _
theorem TQ.row {w : World} {g : Nat} {c : Nat → Nat → Int} (h : TQ w g c) (c' : Nat → Nat → Int) : TQ (w.setRow g (tabV c').toArray) g c' := by
  unfold TQ at *
  rw [setRow_heap w g _ _ _ (0, 0) h]
theorem below_row {B g : Nat} {a w : World} (h : Below B a w) (hg : B ≤ g) (cs : Array Value) : Below B a (w.setRow g cs) := by
  refine ⟨h.os, h.tape, h.output, ?_, fun k hk => ?_⟩
  · have := h.size
    simp only [World.setRow, Array.size_modify]
    exact this
  · have := h.block k hk
    rw [← this]
    simp only [World.setRow]
    rw [Array.getElem?_modify, if_neg (by omega)]

/-- the table comes back by value -/
def RetTb (c : Nat → Nat → Int) (w : World) (e : Ending) (w' : World) : Prop := e = .returned (.agg (tabV c).toArray) ∧ Below w.heap.size w w'

set_option maxRecDepth 100000 in
set_option maxHeartbeats 4000000 in
theorem costsOf_any (A A' : Option Addr) (n c c' : Nat) (hits gaps : List Int) (w : World) (h : IS w A n c hits) (h' : IS w A' (n + 1) c' gaps) (hI : InB hits gaps n) :
    Calls Tryz.prog 72 #[.slice A n c, .slice A' (n + 1) c'] w (RetTb (tbz (wij hits gaps) n) w) := by
  have H := Lib.hid h
  have H' := Lib.hid h'
  have HL := Lib.hid hI.h
  have HL' := Lib.hid hI.g
  have hn := hI.n20
  have HW : Hid (∀ i j, i ≤ j → j ≤ n → 0 ≤ wij hits gaps i j ∧ wij hits gaps i j ≤ 41000) := fun i j _ h2 => wij_bd hI.hh hI.hg i j (by omega)
  have HB1 : Hid (∀ q (hq : q < hits.length), 0 ≤ hits[q] ∧ hits[q] ≤ 1000) := fun q hq => hI.hh _ (List.getElem_mem hq)
  have HB2 : Hid (∀ q (hq : q < gaps.length), 0 ≤ gaps[q] ∧ gaps[q] ≤ 1000) := fun q hq => hI.hg _ (List.getElem_mem hq)
  have HS : Hid (∀ i, wij hits gaps i i = gaps[i]?.getD 0) := fun i => wij_same hits gaps i
  have HS2 : Hid (∀ i j, i ≤ j → wij hits gaps i (j + 1) = wij hits gaps i j + hits[j]?.getD 0 + gaps[j + 1]?.getD 0) := fun i j hij => wij_succ hits gaps hij
  clear h h' hI
  generalize wij hits gaps = W at *
  have hz := (zero_of_info tab_zero).1
  obtain ⟨Z, hZ⟩ : ∃ Z, (tabV fun _ _ => 0).toArray = Z := ⟨_, rfl⟩
  rw [hZ] at hz
  have hw2 : Below w.heap.size w ((w.alloc (.cells Z 129)).alloc (.cells Z 129)) := ((Below.refl _ _).alloc (Nat.le_refl _) _).alloc (by simp) _
  have ht1 : TQ ((w.alloc (.cells Z 129)).alloc (.cells Z 129)) (w.heap.size + 1) (fun _ _ => 0) := by
    rw [← hZ]
    have := TQ.new (w.alloc (.cells (tabV fun _ _ => 0).toArray 129)) (fun _ _ => 0)
    simpa using this
  have ht0 : TQ ((w.alloc (.cells Z 129)).alloc (.cells Z 129)) w.heap.size (fun _ _ => 0) := by
    rw [← hZ]
    exact (TQ.new w (fun _ _ => 0)).below ((Below.refl _ _).alloc (Nat.le_refl _) _) (by simp)
  have HW2 := Lib.hid hw2
  have HT1 := Lib.hid ht1
  have HT0 := Lib.hid ht0
  clear hw2 ht1 ht0
  have HZ := Lib.hid hZ
  clear hZ
  go_enter Tryz.func72, Tryz.ntmps72
  go_wp2
  go_loopw [6] (fun i wr => ∃ k : Nat, k ≤ n ∧ i = .int .i64 ((k : Int) - 1) ∧ TQ wr (w.heap.size + 1) (tbf W n k (n + 1)) ∧ TQ wr w.heap.size (fun _ _ => 0) ∧ Below w.heap.size w wr) (fun i _ => (intOf i + 1).toNat)
  case atStart => exact ⟨n, Nat.le_refl _, by go_num, by rw [tbf_start]; exact HT1.out, HT0.out, HW2.out⟩
  case round =>
    obtain ⟨k, hk, rfl, hq1, hq0, hb⟩ := hrel
    have HQ1 := Lib.hid hq1
    have HQ0 := Lib.hid hq0
    have HBL := Lib.hid hb
    clear hq1 hq0 hb
    by_cases hk0 : 0 < k
    · obtain ⟨a, rfl⟩ : ∃ a, k = a + 1 := ⟨k - 1, by omega⟩
      rw [show (((a + 1 : Nat) : Int) - 1) = (a : Int) by omega]
      have hal : a < gaps.length := by rw [HL'.out]; omega
      obtain ⟨b, off, rfl, hbb, hcs⟩ := (H'.out.below HBL.out).at_ (by omega)
      have hc0 := hcs a (by omega)
      obtain ⟨ga, hga⟩ : ∃ ga, gaps[a] = ga := ⟨_, rfl⟩
      rw [hga] at hc0
      have HGA : Hid (W a a = ga) := by show _ = _; rw [HS.out, List.getElem?_eq_getElem hal, Option.getD_some, hga]
      rw [tbf_row] at HQ1
      clear hcs hga
      have e1 : IntKind.i64.wrap ((a : Int) + 1) = (a : Int) + 1 := IntWalk.i64_in _ (by omega)
      go_wp2
      go_loopw [7, 8] (fun s i wr => ∃ (t : Nat) (x : Int), a < t ∧ t ≤ n + 1 ∧ i = .int .i64 t ∧ s = .int .i64 x ∧ Hid (W a (t - 1) = x) ∧ TQ wr (w.heap.size + 1) (tbf W n a t) ∧ TQ wr w.heap.size (fun _ _ => 0) ∧ Below w.heap.size w wr) (fun _ i _ => n + 1 - (intOf i).toNat)
      case atStart => exact ⟨a + 1, ga, by omega, by omega, by go_num, rfl, HGA.out, HQ1.out, HQ0.out, HBL.out⟩
      case round =>
        obtain ⟨t, x, h1, h2, rfl, rfl, HX, hq1, hq0, hb⟩ := hrel
        have HQ1 := Lib.hid hq1
        have HQ0 := Lib.hid hq0
        have HBL := Lib.hid hb
        clear hq1 hq0 hb
        by_cases ht : t ≤ n
        · have hgl : t < gaps.length := by rw [HL'.out]; omega
          have hhl : t - 1 < hits.length := by rw [HL.out]; omega
          obtain ⟨b1, off1, hA1, hb1, hcs1⟩ := (H'.out.below HBL.out).at_ (by omega)
          injection hA1 with hA1
          injection hA1 with ha1 ha2
          subst ha1 ha2
          obtain ⟨b2, off2, rfl, hb2, hcs2⟩ := (H.out.below HBL.out).at_ (by omega)
          have hcg := hcs1 t (by omega)
          have hch := hcs2 (t - 1) (by omega)
          obtain ⟨gt, hgt⟩ : ∃ gt, gaps[t] = gt := ⟨_, rfl⟩
          obtain ⟨ht1, hht⟩ : ∃ ht1, hits[t - 1] = ht1 := ⟨_, rfl⟩
          rw [hgt] at hcg
          rw [hht] at hch
          have bg := HB2.out t hgl
          have bh := HB1.out (t - 1) hhl
          rw [hgt] at bg
          rw [hht] at bh
          have hs := HS2.out a (t - 1) (by omega)
          rw [show t - 1 + 1 = t by omega, HX.out, List.getElem?_eq_getElem hgl, List.getElem?_eq_getElem hhl, Option.getD_some, Option.getD_some, hgt, hht] at hs
          have hx0 := HW.out a (t - 1) (by omega) (by omega)
          rw [HX.out] at hx0
          have hx1 := HW.out a t (by omega) ht
          obtain ⟨y, hy⟩ : ∃ y, W a t = y := ⟨_, rfl⟩
          rw [hy] at hs hx1
          have HY := Lib.hid hy
          have HSY : Hid (x + (ht1 + gt) = y) := by show _ = _; omega
          have e2 : IntKind.i64.wrap ((t : Int) - 1) = (t : Int) - 1 := IntWalk.i64_in _ (by omega)
          have e3 : 0 ≤ (t : Int) - 1 := by omega
          have e4 : ((t : Int) - 1).toNat = t - 1 := by omega
          have e5 : IntKind.i64.wrap (ht1 + gt) = ht1 + gt := IntWalk.i64_in _ (by omega)
          have e6 : IntKind.i64.wrap (x + (ht1 + gt)) = y := by rw [HSY.out]; exact IntWalk.i64_in _ (by omega)
          have e7 : (t : Int) - 1 < (n : Int) := by omega
          have e8 : (t : Int) < (n : Int) + 1 := by omega
          have HTP : Hid (∀ W1, TQ W1 (w.heap.size + 1) (tbf W n a t) → Calls Tryz.prog 144 #[.pointer (some ⟨w.heap.size + 1, 0, none⟩), .int .i64 a, .int .i64 t] W1 fun e w' => e = .returned (I (tp (lc W) a t)) ∧ ∃ m, w' = W1.drewN m) := fun W1 hq => by
            rw [← tbf_tp W h1 ht]
            exact topOfB_any _ _ a t W1 hq h1 (by omega) (fun i j => tbf_bd W n a t hn HW.out i j)
          have htb := tp_bd (lc W) h1
          have HBW : Hid (∀ W1, TQ W1 (w.heap.size + 1) (tbf W n a t) → Calls Tryz.prog 143 #[.pointer (some ⟨w.heap.size + 1, 0, none⟩), .int .i64 a, .int .i64 t, I (tp (lc W) a t)] W1 fun e w' => e = .returned (I (bblw (lc W) a t (tp (lc W) a t))) ∧ ∃ m, w' = W1.drewN m) := fun W1 hq => by
            rw [← tbf_blw W htb.1 htb.2 ht]
            exact below_any _ _ a t _ W1 hq htb.1 htb.2 (by omega) (fun i j => tbf_bd W n a t hn HW.out i j)
          have hlc := lc_node W h1
          rw [hy] at hlc
          have hlb := lc_bd W n HW.out 20 a t (by omega) ht
          have hbb0 : bblw (lc W) a t (tp (lc W) a t) = lc W a t - y := by omega
          rw [hbb0] at HBW
          have HST : Hid (bupd (tbf W n a t) a t (lc W a t) = tbf W n a (t + 1)) := tbf_step W h1 ht
          generalize tp (lc W) a t = top at *
          generalize lc W a t = z at *
          have HZY : Hid (y + (z - y) = z) := by show _ = _; omega
          have e9 : IntKind.i64.wrap (y + (z - y)) = z := by rw [HZY.out]; exact IntWalk.i64_in _ (by omega)
          clear hcs1 hcs2 hgt hht hs hy hlc hbb0 htb
          go_wp2
          go_quiet (fail)
          go_wp2
          obtain ⟨wq, hwq⟩ : ∃ wq, wr.drewN nq = wq := ⟨_, rfl⟩
          have hqa : TQ wq (w.heap.size + 1) (tbf W n a t) := by rw [← hwq]; exact HQ1.out.drewN _
          have hqb : TQ wq w.heap.size (fun _ _ => 0) := by rw [← hwq]; exact HQ0.out.drewN _
          have hqc : Below w.heap.size w wq := by rw [← hwq]; exact below_drewN HBL.out _
          have HQA := Lib.hid hqa
          have HQB := Lib.hid hqb
          have HQC := Lib.hid hqc
          rw [hwq]
          clear hwq hqa hqb hqc HQ1 HQ0 HBL hcg hch hc0
          have f1 : ∀ q, wq.cell? ⟨w.heap.size + 1, q, none⟩ = (tabV (tbf W n a t))[q]? := fun q => by
            have := HQA.out
            unfold TQ at this
            simp [World.cell?, this]
          have f2 : ∀ q, wq.frozen? ⟨w.heap.size + 1, q, none⟩ = false := fun q => HQA.out.frozen q
          have hat : (tabV (tbf W n a t))[a * 21 + t]? = some (I (tbf W n a t a t)) := tabV_at _ (by omega) (by omega)
          go_region_with
            (first
              | (go_at_call 144
                 refine (HTP.out _ (by exact HQA.out)).mono ?_
                 rintro e w4 ⟨rfl, m4, rfl⟩)
              | (go_at_call 143
                 refine (HBW.out _ (by exact HQA.out)).mono ?_
                 rintro e w5 ⟨rfl, m5, rfl⟩))
          all_goals
            (go_wp2
             go_roundw
             case rel => exact ⟨t + 1, y, by omega, by omega, by go_num, rfl, HY.out, by rw [← HST.out]; exact (HQA.out.drewN _).set (by omega) (by omega) z, (HQB.out.drewN _).far (by simp) _, (below_drewN HQC.out _).setCell (by simp) _⟩
             case measure => simp [intOf]; omega)
        · obtain rfl : t = n + 1 := by omega
          have hz9 : ¬ ((n : Int) + 1 ≤ (n : Int)) := by omega
          go_wp2
          go_roundw
          case rel => exact ⟨a, by omega, by go_num, HQ1.out, HQ0.out, HBL.out⟩
          case measure => first | (simp [intOf]; done) | (simp [intOf]; omega)
    · obtain rfl : k = 0 := by omega
      rw [tbf_end] at HQ1
      have h0 : (((0 : Nat) : Int) - 1) = -1 := rfl
      rw [h0]
      clear h0 HT1 HT0 HW2 hz
      go_wp2_with (first
        | (refine wpList_load_row rfl 129 (.tmp 5) rfl (w.heap.size + 1) rfl _ _ _ _ HQ1.out Tryz.underlying129 rfl (tab_size _) ?_)
        | (refine wpList_store_row rfl 129 (.tmp 4) (.tmp 52) rfl w.heap.size _ rfl rfl _ _ HQ0.out (tab_size _) (by simp [tabV_length]) (tabV_one _) ?_)
        | fail)
      have hr : TQ (wr.setRow w.heap.size (tabV (tbz W n)).toArray) w.heap.size (tbz W n) := HQ0.out.row _
      have hbr := below_row HBL.out (Nat.le_refl _) (tabV (tbz W n)).toArray
      generalize wr.setRow w.heap.size (tabV (tbz W n)).toArray = wf at *
      refine bodyPost_ret (v := .agg (tabV (tbz W n)).toArray) ?_ rfl ⟨rfl, hbr⟩
      obtain ⟨ea, hea⟩ := tab_array
      have := run_loadVar_row (P := Tryz.prog) wf w.heap.size 129 129 (tabV (tbz W n)).toArray (0, 0) _ hr hea rfl (tab_size _)
      simp [results, Tryz.results72, asAddr]
      exact this
end Go.Proofs.YtpnjnedfcdppaaaGreatDoor
