/-
  hedgref.Stops.
-/
import Derived.Test.YtoebnfogkmkomaaDoorKRef3
import Derived.Test.YtoebnfogkmkomaaDoorKPath1
import Derived.Test.YtoebnfogkmkomaaDoorKPathF
import Derived.Test.YtoebnfogkmkomaaDoorChk
namespace Go.Proofs.YtoebnfogkmkomaaDoor
open Go.RowKit

theorem stTo_high (l : List Int) (key : Int) : ∀ m, m ≤ 12 - hiR l → stTo l key m = ([], -1)
  | 0, _ => rfl
  | m + 1, h => by
    have ih := stTo_high l key m (by omega)
    have h0 : rowL l (11 - m) = [] := hiR_none l _ (by omega)
    show ((stTo l key m).1 ++ _, _) = _
    rw [ih, h0]
    rfl
theorem btw_iff (k a key : Int) : btwB k (a + 1) (key - 1) = decide (a < k ∧ k < key) := by
  unfold btwB
  congr 1
  exact propext ⟨fun h => by omega, fun h => by omega⟩
/-- stops in new memory -/
def RetSt (p : PL) (w : World) (e : Ending) (w' : World) : Prop := ∃ A c, e = .returned (.slice A p.length c) ∧ PS w' A p.length c p ∧ Below w.heap.size w w'
theorem own_ps2 {w : World} {base t : Nat} {v : Value} {p : PL} (h : w.ownsRow base t 2 v p.length (flat p)) : ∃ A c, v = .slice A p.length c ∧ PS w A p.length c p := by
  rcases h.2 with ⟨rfl, h0⟩ | ⟨g, cap, cur, rfl, _⟩
  · have hp : p = [] := List.eq_nil_of_length_eq_zero h0
    subst hp
    exact ⟨none, 0, rfl, ⟨rfl, Rd.none_⟩⟩
  · exact ⟨_, _, rfl, own_ps h⟩

set_option maxRecDepth 100000 in
set_option maxHeartbeats 2000000 in
theorem Stops_any (A : Option Addr) (n c : Nat) (l : List Int) (key : Int) (w : World) (h : IS w A n c l) (hR : Rise l) (hk : kyB key = true) :
    Calls Tryd.prog 18 #[.slice A n c, I key] w (RetSt (stops l key) w) := by
  have hn : n ≤ 200 := by rw [← h.len]; exact hR.len
  have HC := Lib.hid (RowsOf_any A n c l w h (by omega))
  have HR := Lib.hid hR
  have hkb : 0 ≤ key ∧ key ≤ 1000000 := by simpa [kyB] using hk
  obtain ⟨hk0, hk1⟩ := hkb
  clear h hk
  obtain ⟨i0, hi, hz0, hz1, hz2⟩ := info_parts stop_info
  have HI := Lib.hid hi
  have HZ0 := Lib.hid hz0
  have HZ1 := Lib.hid hz1
  have HZ2 := Lib.hid hz2
  clear hi hz0 hz1 hz2
  go_enter Tryd.func18, Tryd.ntmps18
  go_wp2_with fail
  refine HC.out.mono ?_
  rintro e w1 ⟨A1, m1, c1, rfl, hri, hb1⟩
  have hm12 := (show m1 ≤ 12 by rw [← hri.len, rowsL_len]; exact hiR_le l)
  have HM : Hid (m1 = hiR l) := by show m1 = hiR l; rw [← hri.len, rowsL_len]
  have HRI := Lib.hid hri
  have HB1 := Lib.hid hb1
  clear hri hb1 HC
  go_wp2
  go_loopw [5, 6, 8] (fun v a r wr => ∃ m : Nat, 12 - m1 ≤ m ∧ m ≤ 12 ∧ r = .int .i64 (11 - (m : Int)) ∧ a = .int .i64 (stTo l key m).2 ∧ wr.ownsRow w1.heap.size 37 2 v (stTo l key m).1.length (flat (stTo l key m).1) ∧ Below w1.heap.size w1 wr) (fun _ _ r _ => (intOf r + 1).toNat)
  case atStart =>
    refine ⟨12 - m1, Nat.le_refl _, by omega, by congr 1; omega, ?_, ?_, Below.refl _ _⟩
    · rw [stTo_high l key (12 - m1) (by rw [HM.out]; exact Nat.le_refl _)]
    · rw [stTo_high l key (12 - m1) (by rw [HM.out]; exact Nat.le_refl _)]
      exact World.ownsRow_nil _ _ _ _
  case round =>
    obtain ⟨m, hml, hm, rfl, rfl, hown, hnx⟩ := hrel
    by_cases hlt : m < 12
    · obtain ⟨r, hr⟩ : ∃ r : Nat, 11 - m = r := ⟨_, rfl⟩
      have hri : (11 : Int) - (m : Int) = (r : Int) := by omega
      have hrm : r < m1 := by omega
      obtain ⟨b, off, rfl, hbl, hcs⟩ := HRI.out.at_ (by omega)
      obtain ⟨A', n', c', hcell0, his0⟩ := hcs r hrm
      have hcell : wr.cell? ⟨b, off + r, none⟩ = some (.slice A' n' c') := (hnx.cell (by exact hbl)).trans hcell0
      rw [rowsL_at l r (by have := HM.out; omega), Option.getD_some] at his0
      obtain ⟨L, hL⟩ : ∃ L, rowL l r = L := ⟨_, rfl⟩
      rw [hL] at his0
      have hpw : L.Pairwise (· < ·) := by rw [← hL]; exact rowL_pw HR.out.pw r
      have hn' : n' ≤ 200 := by rw [← his0.len, ← hL]; have := rowL_len l r; have := HR.out.len; omega
      have hpin := stTo_pin HR.out key m hm
      have HBK : Hid (∀ k ∈ L, 0 ≤ k ∧ k ≤ 1000000) := fun k hk => by
        rw [← hL] at hk
        unfold rowL at hk
        exact HR.out.bd k (List.mem_filter.1 hk).1
      obtain ⟨a, ha⟩ : ∃ a, (stTo l key m).2 = a := ⟨_, rfl⟩
      obtain ⟨p, hp⟩ : ∃ p, (stTo l key m).1 = p := ⟨_, rfl⟩
      have hpl : p.length ≤ 2400 := by
        rw [← hp]
        have h1 := stTo_len l key m
        have h2 := HR.out.len
        have h3 : m * l.length ≤ 12 * 200 := Nat.mul_le_mul hm h2
        omega
      have hal : -1 ≤ a := by rw [← ha]; exact hpin.low
      have hah : a ≤ 1000000 := by
        rw [← ha]
        rcases hpin.last with ⟨_, h1⟩ | ⟨q, r', h1⟩
        · omega
        · have := hpin.each (r', (stTo l key m).2) (by rw [h1]; simp)
          exact (HR.out.bd _ this.2.1).2
      have hst : stTo l key (m + 1) = (p ++ (pas L a key).map (fun k => ((r : Int), k)), lastD (pas L a key) a) := by
        show (_, _) = _
        rw [hr, ha, hp, hL, hri]
      have HST := Lib.hid hst
      have HIS := Lib.hid his0
      have HPW := Lib.hid hpw
      rw [ha]
      rw [hp] at hown
      rw [hri]
      have HOWN := Lib.hid hown
      have HNX := Lib.hid hnx
      have HRI2 := Lib.hid hri
      have HLL := Lib.hid his0.len
      clear hst his0 hpw hown hnx ha hp hL hr hri hcs hcell0 hpin
      go_wp2
      go_loopw [5, 6, 25] (fun v z j wi => ∃ k : Nat, k ≤ n' ∧ j = .int .i64 k ∧ z = .int .i64 (lastD (pas (L.take k) a key) a) ∧ wi.ownsRow w1.heap.size 37 2 v (p ++ (pas (L.take k) a key).map (fun x => ((r : Int), x))).length (flat (p ++ (pas (L.take k) a key).map (fun x => ((r : Int), x)))) ∧ Below w1.heap.size w1 wi) (fun _ _ j _ => n' - (intOf j).toNat)
      case atStart => exact ⟨0, Nat.zero_le _, rfl, rfl, by simpa [pas] using HOWN.out, HNX.out⟩
      case round =>
        obtain ⟨k, hk, rfl, rfl, hown, hni⟩ := hrel
        obtain ⟨z, hz⟩ : ∃ z, lastD (pas (L.take k) a key) a = z := ⟨_, rfl⟩
        rw [hz]
        obtain ⟨ps, hps⟩ : ∃ ps, p ++ (pas (L.take k) a key).map (fun x => ((r : Int), x)) = ps := ⟨_, rfl⟩
        rw [hps] at hown
        by_cases hkn : k < n'
        · have hkl : k < L.length := by rw [HLL.out]; exact hkn
          obtain ⟨b2, off2, rfl, hbw, hc⟩ := HIS.out.cell_at hkn
          obtain ⟨x, hx⟩ : ∃ x, L[k] = x := ⟨_, rfl⟩
          rw [hx] at hc
          have hc0 : wr.cell? ⟨b2, off2 + k, none⟩ = some (I x) := (hni.cell (by exact hbw)).trans hc
          have hgt := pas_gt HPW.out hkl a key
          rw [hx, hz] at hgt
          have hsn := pas_snoc L k hkl a key
          rw [hx] at hsn
          have hxb := HBK.out x (by rw [← hx]; exact List.getElem_mem hkl)
          have hzl : -1 ≤ z := by have := lastD_ge (L.take k) a key; rw [hz] at this; omega
          have hzh : z ≤ 1000000 := by
            rcases lastD_mem (pas (L.take k) a key) a with h1 | h1
            · rw [hz] at h1; omega
            · rw [hz] at h1
              exact (HBK.out z (List.mem_of_mem_take (pas_mem.1 h1).1)).2
          have hpsl : ps.length ≤ 10000 := by
            rw [← hps, List.length_append, List.length_map]
            have := pas_len (L.take k) a key
            rw [List.length_take] at this
            omega
          obtain ⟨hx0, hx1⟩ := hxb
          have HOWN2 := Lib.hid hown
          have HNI := Lib.hid hni
          have hzi := hni.size
          have HPS := Lib.hid hps
          have HZ := Lib.hid hz
          have HBT := Lib.hid (btw_iff x z key)
          by_cases hcond : a < x ∧ x < key
          · rw [if_pos hcond] at hsn
            have hzx : z < x ∧ x < key := ⟨hgt.2 hcond.1, hcond.2⟩
            have HBt : Hid (btwB x (z + 1) (key - 1) = true) := by show _ = _; rw [HBT.out]; simpa using hzx
            have HSN := Lib.hid hsn
            clear hc hx hgt hsn hown hni hps hz hcond
            go_wp2_with (first
              | (go_at_call 16; refine (Between_t _ _ _ _ HBt.out).mono ?_; rintro e w' ⟨rfl, rfl⟩)
              | (at_builtin
                 refine wpList_append_own_at _ rfl (.tmp 35) (.tmp 39) 27 rfl w1.heap.size 37 i0 _ 2 16 Tryd.underlying27 HI.out HZ0.out HZ1.out HZ2.out rfl (by omega) _ ps.length (flat ps) rfl (own_below HOWN2.out ((Below.refl _ _).alloc (Nat.le_refl _) _)) ⟨_, 0, none⟩ 1 1 [I r, I x] rfl rfl (two_new _ r x _) (two_one r x) (by unfold maxLen; omega) (by omega) (by simp; omega) ?_
                 intro v2 w2 hown2 hgrow2 _ hat2)
              | fail)
            go_roundw
            case rel =>
              have hps2 : p ++ (pas (L.take (k + 1)) a key).map (fun x => ((r : Int), x)) = ps ++ [((r : Int), x)] := by
                rw [HSN.out, List.map_append, ← List.append_assoc, HPS.out]
                rfl
              refine ⟨k + 1, by omega, by go_num, by rw [HSN.out, lastD_snoc], ?_, ?_⟩
              · rw [hps2, flat_append]
                simpa [flat] using hown2
              · exact Below.grown (HNI.out.alloc hzi _) hgrow2 (by simp; omega) (own_ge1 HOWN2.out)
            case measure => simp [intOf]; omega
          · rw [if_neg hcond] at hsn
            have HBt : Hid (btwB x (z + 1) (key - 1) = false) := by
              show _ = _
              rw [HBT.out]
              simp only [decide_eq_false_iff_not]
              rintro ⟨h1, h2⟩
              exact hcond ⟨hgt.1 h1, h2⟩
            have HSN := Lib.hid hsn
            clear hc hx hgt hsn hown hni hps hz hcond
            go_wp2_with (first
              | (go_at_call 16; refine (Between_f _ _ _ _ HBt.out).mono ?_; rintro e w' ⟨rfl, rfl⟩)
              | fail)
            go_roundw
            case rel => exact ⟨k + 1, by omega, by go_num, by rw [HSN.out, HZ.out], by rw [HSN.out, HPS.out]; exact HOWN2.out, HNI.out⟩
            case measure => simp [intOf]; omega
        · have hfin : stTo l key (m + 1) = (ps, z) := by
            rw [← hz, ← hps, List.take_of_length_le (by rw [HLL.out]; omega)]
            exact HST.out
          have HF := Lib.hid hfin
          have HOWN2 := Lib.hid hown
          have HNI := Lib.hid hni
          clear hfin hz hown hni hps
          go_wp2
          go_roundw
          case rel => exact ⟨m + 1, by omega, by omega, by have := HRI2.out; congr 1; omega, by rw [HF.out], by rw [HF.out]; exact HOWN2.out, HNI.out⟩
          case measure => first | (simp [intOf]; done) | (simp [intOf]; omega)
    · obtain rfl : m = 12 := by omega
      obtain ⟨A', c', rfl, hps⟩ := own_ps2 hown
      have HPS := Lib.hid hps
      have HBL := Lib.hid (kon3 HB1.out hnx)
      clear hps hown hnx
      go_wp2
      go_ret
      exact ⟨A', c', rfl, HPS.out, HBL.out⟩
end Go.Proofs.YtoebnfogkmkomaaDoor
