/-
  (*tower).walk, told to skip.Path$1; skip.Path.
-/
import Derived.Test.YtjnkfpagaajfeaaDoorKPath1All
namespace Go.Proofs.YtjnkfpagaajfeaaDoor
open Go.RowKit

set_option maxRecDepth 100000 in
set_option maxHeartbeats 2000000 in
theorem walk_any (g : Nat) (ts : List T3) (l : List Int) (key : Int) (w0 w : World) (hv : Tv w0 g ts (rowL l)) (hR : Rise l) (hb : Below w0.heap.size w0 w) (hs : Sv w w0.heap.size []) :
    Calls Tryd.prog 44 #[.pointer (some ⟨g, 0, none⟩), I key, .func (.func 45) #[] #[.pointer (some ⟨w0.heap.size, 0, none⟩)]] w
      fun e w' => e = .returned (.tuple #[]) ∧ Below w0.heap.size w0 w' ∧ Sv w' w0.heap.size (stops l key) := by
  have H := Lib.hid hv
  have HR := Lib.hid hR
  have HB := Lib.hid hb
  have HS := Lib.hid hs
  clear hv hR hb hs
  go_enter Tryd.func44, Tryd.ntmps44
  go_wp2
  go_loopw [6, 7] (fun a r wr => ∃ m : Nat, m ≤ 12 ∧ r = .int .i64 (11 - (m : Int)) ∧ a = .int .i64 (stTo l key m).2 ∧ Below w0.heap.size w0 wr ∧ Sv wr w0.heap.size (stTo l key m).1) (fun _ r _ => (intOf r + 1).toNat)
  case atStart => exact ⟨0, by omega, rfl, rfl, HB.out, HS.out⟩
  case round =>
    obtain ⟨m, hm, rfl, rfl, hbl, hsv⟩ := hrel
    by_cases hlt : m < 12
    · obtain ⟨r, hr⟩ : ∃ r : Nat, 11 - m = r := ⟨_, rfl⟩
      have hri : (11 : Int) - (m : Int) = (r : Int) := by omega
      have hr12 : r < 12 := by omega
      have hcell : wr.cell? ⟨g, r, none⟩ = some (slV (tAt ts r)) := (hbl.cell (by exact H.out.lt)).trans (H.out.cell r hr12)
      have his := H.out.is_ r hr12
      obtain ⟨⟨A', n', c'⟩, hx⟩ : ∃ x, tAt ts r = x := ⟨_, rfl⟩
      rw [hx] at hcell his
      simp only at his
      have hcell' : wr.cell? ⟨g, r, none⟩ = some (.slice A' n' c') := hcell
      clear hcell
      obtain ⟨L, hL⟩ : ∃ L, rowL l r = L := ⟨_, rfl⟩
      rw [hL] at his
      have hpw : L.Pairwise (· < ·) := by rw [← hL]; exact rowL_pw HR.out.pw r
      have hn' : n' ≤ 200 := by rw [← his.len, ← hL]; have := rowL_len l r; have := HR.out.len; omega
      obtain ⟨a, ha⟩ : ∃ a, (stTo l key m).2 = a := ⟨_, rfl⟩
      obtain ⟨p, hp⟩ : ∃ p, (stTo l key m).1 = p := ⟨_, rfl⟩
      have hpl : p.length ≤ 2400 := by
        rw [← hp]
        have h1 := stTo_len l key m
        have h2 := HR.out.len
        have h3 : m * l.length ≤ 12 * 200 := Nat.mul_le_mul hm h2
        omega
      have hst : stTo l key (m + 1) = (p ++ (pas L a key).map (fun k => ((r : Int), k)), lastD (pas L a key) a) := by
        show (_, _) = _
        rw [hr, ha, hp, hL, hri]
      have HST := Lib.hid hst
      have HIS := Lib.hid his
      have HPW := Lib.hid hpw
      have HSV := Lib.hid hsv
      have HBL := Lib.hid hbl
      rw [ha]
      rw [hp] at HSV
      rw [hri]
      have HRI := Lib.hid hri
      have HL := Lib.hid his.len
      clear hst his hpw hsv hbl ha hp hL hx hr hri
      go_wp2
      go_loopw [6, 20] (fun z j wr => ∃ k : Nat, k ≤ n' ∧ j = .int .i64 k ∧ z = .int .i64 (lastD (pas (L.take k) a key) a) ∧ Below w0.heap.size w0 wr ∧ Sv wr w0.heap.size (p ++ (pas (L.take k) a key).map (fun x => ((r : Int), x)))) (fun _ j _ => n' - (intOf j).toNat)
      case atStart => exact ⟨0, Nat.zero_le _, rfl, rfl, HBL.out, by simpa [pas] using HSV.out⟩
      case round =>
        obtain ⟨k, hk, rfl, rfl, hbl2, hsv2⟩ := hrel
        have HB2 := Lib.hid hbl2
        have HS2 := Lib.hid hsv2
        clear hsv2
        obtain ⟨z, hz⟩ : ∃ z, lastD (pas (L.take k) a key) a = z := ⟨_, rfl⟩
        rw [hz]
        by_cases hkn : k < n'
        · have hkl : k < L.length := by rw [HL.out]; exact hkn
          obtain ⟨b, off, rfl, hbw, hcs⟩ := HIS.out.at_ (by omega)
          obtain ⟨x, hx⟩ : ∃ x, L[k] = x := ⟨_, rfl⟩
          have hc0 : wr.cell? ⟨b, off + k, none⟩ = some (I x) := by rw [← hx]; exact (hbl2.cell (by exact hbw)).trans (hcs k hkn)
          have hgt := pas_gt HPW.out hkl a key
          rw [hx, hz] at hgt
          have hsn := pas_snoc L k hkl a key
          rw [hx] at hsn
          clear hcs hbl2
          by_cases hge : key ≤ x
          · have hfin : stTo l key (m + 1) = (p ++ (pas (L.take k) a key).map (fun x => ((r : Int), x)), z) := by
              have h1 := pas_stop HPW.out hkl (a := a) (key := key) (by rw [hx]; exact hge)
              rw [HST.out, ← h1, hz]
            have HF := Lib.hid hfin
            clear hx hgt hsn hfin hz
            go_wp2
            go_roundw
            case rel => exact ⟨m + 1, by omega, by have := HRI.out; congr 1; omega, by rw [HF.out], HB2.out, by rw [HF.out]; exact HS2.out⟩
            case measure => first | (simp [intOf]; done) | (simp [intOf]; omega)
          · by_cases hat : z < x
            · have hcond : a < x ∧ x < key := ⟨hgt.1 hat, by omega⟩
              rw [if_pos hcond] at hsn
              have hlen : (p ++ (pas (L.take k) a key).map (fun x => ((r : Int), x))).length ≤ 10000 := by
                rw [List.length_append, List.length_map]
                have := pas_len (L.take k) a key
                rw [List.length_take] at this
                omega
              have HCALL := Lib.hid (path1_any r x w0.heap.size _ wr HS2.out hlen)
              have HSN := Lib.hid hsn
              clear hx hgt hsn hz hlen hcond
              go_wp2_with fail
              refine HCALL.out.mono ?_
              rintro e w1 ⟨rfl, hb1, hs1⟩
              have HB3 := Lib.hid (HB2.out.trans hb1)
              have HS3 : Hid (Sv w1 w0.heap.size (p ++ (pas (L.take (k + 1)) a key).map (fun x => ((r : Int), x)))) := by
                show Sv w1 w0.heap.size (p ++ (pas (L.take (k + 1)) a key).map (fun x => ((r : Int), x)))
                rw [HSN.out, List.map_append, ← List.append_assoc]
                exact hs1
              clear hb1 hs1
              go_wp2
              go_roundw
              case rel => exact ⟨k + 1, by omega, by go_num, by rw [HSN.out, lastD_snoc], HB3.out, HS3.out⟩
              case measure => first | (simp [intOf]; done) | (simp [intOf]; omega)
            · have hcond : ¬ (a < x ∧ x < key) := fun h => hat (hgt.2 h.1)
              rw [if_neg hcond] at hsn
              have HSN := Lib.hid hsn
              have HZ := Lib.hid hz
              clear hx hgt hsn hz hcond
              go_wp2
              go_roundw
              case rel => exact ⟨k + 1, by omega, by go_num, by rw [HSN.out, HZ.out], HB2.out, by rw [HSN.out]; exact HS2.out⟩
              case measure => first | (simp [intOf]; done) | (simp [intOf]; omega)
        · have hfin : stTo l key (m + 1) = (p ++ (pas (L.take k) a key).map (fun x => ((r : Int), x)), z) := by
            rw [← hz, List.take_of_length_le (by rw [HL.out]; omega)]
            exact HST.out
          have HF := Lib.hid hfin
          clear hfin hz hbl2
          go_wp2
          go_roundw
          case rel => exact ⟨m + 1, by omega, by have := HRI.out; congr 1; omega, by rw [HF.out], HB2.out, by rw [HF.out]; exact HS2.out⟩
          case measure => first | (simp [intOf]; done) | (simp [intOf]; omega)
    · obtain rfl : m = 12 := by omega
      have HSV := Lib.hid hsv
      have HBL := Lib.hid hbl
      clear hsv hbl
      go_wp2
      go_end0
      exact ⟨rfl, HBL.out, HSV.out⟩
end Go.Proofs.YtjnkfpagaajfeaaDoor
