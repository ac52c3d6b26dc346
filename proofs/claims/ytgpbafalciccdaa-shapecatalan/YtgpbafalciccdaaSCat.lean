/-
  The walk of the law ShapeCatalan.
-/
import Derived.Test.YtgpbafalciccdaaSSort
import Derived.Test.YtgpbafalciccdaaSLives
import Derived.IntWalk
namespace Go.Proofs.Ytgpbafalciccdaa
open Go.RowKit

def YesC (w : World) (e : Ending) (w' : World) : Prop := e = .returned (.bool true) ∧ Below w.heap.size w w'

set_option maxRecDepth 100000 in
set_option maxHeartbeats 1000000 in
theorem Catalan_bad (n : Int) (w : World) (h : n < 0 ∨ 7 < n) : Calls Try.prog 4 #[I n] w (YesC w) := by
  have H := Lib.hid h
  clear h
  go_enter Try.func4, Try.ntmps4
  go_wp2_with fail
  refine (All_bad n _ H.out).mono ?_
  rintro e w1 ⟨rfl, rfl⟩
  go_wp2_with fail
  refine (shapeLives_any _).mono ?_
  rintro e w3 ⟨rfl, hb⟩
  have HB3 := Lib.hid hb
  clear hb
  go_wp2_with fail
  refine (shapeLives_any _).mono ?_
  rintro e w4 ⟨rfl, hb⟩
  have HB4 := Lib.hid (below_on HB3.out hb)
  clear hb
  go_wp2
  go_ret
  exact ⟨rfl, HB4.out⟩

def ovN (n : Nat) : Nat → Nat
  | 0 => 1
  | k + 1 => ovN n k * (2 * n - k) / (k + 1)
theorem ov_le : ∀ n, n < 8 → ∀ k, k < 8 → ovN n k ≤ 100000 := by decide
theorem ov_cat : ∀ n, n < 8 → ovN n n / (n + 1) = cat n := by decide
theorem ov_int (n k : Nat) (h : k < n) : ((ovN n (k + 1) : Nat) : Int) = (ovN n k : Int) * (2 * (n : Int) - (k : Int)) / ((k : Int) + 1) := by
  rw [ovN, Int.natCast_ediv, Int.natCast_mul, Int.ofNat_sub (by omega)]
  simp
theorem mul_bd (x n k : Nat) (hx : x ≤ 100000) (hn : n ≤ 7) (hk : k < n) : 0 ≤ (x : Int) * (2 * (n : Int) - (k : Int)) ∧ (x : Int) * (2 * (n : Int) - (k : Int)) ≤ 1400000 := by
  have h1 : (2 * (n : Int) - (k : Int)) = ((2 * n - k : Nat) : Int) := by omega
  rw [h1, ← Int.natCast_mul]
  have h2 : x * (2 * n - k) ≤ 100000 * 14 := Nat.mul_le_mul hx (by omega)
  omega

theorem nodup_next {Ls : List PL} (h : Ls.Nodup) {i j : Nat} (hi : i < Ls.length) (hj : j < Ls.length) (hne : i < j) : Ls[i] ≠ Ls[j] := List.pairwise_iff_getElem.1 h i j hi hj hne

set_option maxRecDepth 100000 in
set_option maxHeartbeats 4000000 in
theorem Catalan_ok (n : Nat) (w : World) (hn : n ≤ 7) : Calls Try.prog 4 #[I n] w (YesC w) := by
  go_enter Try.func4, Try.ntmps4
  go_wp2_with fail
  refine (All_ok n w hn).mono ?_
  rintro e w1 ⟨A, m, c, es, rfl, hrs, hp, hb⟩
  have hm : m = cat n := by rw [← hrs.len, ← trees_cat n (by omega), ← hp.length_eq, List.length_map]
  have hm429 : m ≤ 429 := by
    rw [hm]
    have : ∀ n, n < 8 → cat n ≤ 429 := by decide
    exact this n (by omega)
  have hnd : (es.map Sl.L).Nodup := hp.nodup_iff.2 (trees_nodup n (by omega))
  have hlen7 : ∀ s ∈ es, s.n ≤ 7 := fun s hs => by
    have h1 := (hrs.each s hs).len
    have h2 := trees_len 8 0 n 0 (Nat.zero_le _) (by omega) s.L (hp.mem_iff.1 (List.mem_map_of_mem hs))
    omega
  have HRS := Lib.hid hrs
  have HM := Lib.hid hm
  have HND := Lib.hid hnd
  have HB1 := Lib.hid hb
  have H7 := Lib.hid hlen7
  clear hrs hp hb hm hnd hlen7
  go_wp2_with fail
  refine (shapeLives_any _).mono ?_
  rintro e w3 ⟨rfl, hb⟩
  have HB3 := Lib.hid (below_on HB1.out hb)
  have HRS3 := Lib.hid (HRS.out.below hb)
  clear hb HRS
  go_wp2
  go_loop [5, 27] (fun ov kv => ∃ k : Nat, k ≤ n ∧ kv = .int .i64 k ∧ ov = .int .i64 (ovN n k)) (fun _ kv => n - (intOf kv).toNat)
  case atStart => exact ⟨0, Nat.zero_le _, rfl, rfl⟩
  case round =>
    obtain ⟨k, hk, rfl, rfl⟩ := hrel
    by_cases hlt : k < n
    · have hx := ov_le n (by omega) k (by omega)
      obtain ⟨hp0, hp1⟩ := mul_bd (ovN n k) n k hx hn hlt
      have HOV := Lib.hid (ov_int n k hlt)
      generalize ovN n k = x at *
      go_wp2
      go_round
      case rel => exact ⟨k + 1, by omega, by go_num, by rw [HOV.out]⟩
      case measure => simp [intOf]; omega
    · obtain rfl : k = n := by omega
      have HOC := Lib.hid (ov_cat k (by omega))
      have hx := ov_le k (by omega) k (by omega)
      generalize ovN k k = x at *
      clear hlt
      go_wp2
      go_loopw [42] (fun iv wr => ∃ i : Nat, i ≤ m ∧ iv = .int .i64 i ∧ Below w3.heap.size w3 wr) (fun iv _ => m - (intOf iv).toNat)
      case atStart => exact ⟨0, Nat.zero_le _, rfl, Below.refl _ _⟩
      case round =>
        obtain ⟨i, hi, rfl, hnx⟩ := hrel
        by_cases hlt : i < m
        · obtain ⟨b, off, rfl, hbl, hcs⟩ := (HRS3.out.below hnx).at_ (by omega)
          have hil : i < es.length := by rw [HRS3.out.len]; exact hlt
          have hci : wr.cell? ⟨b, off + i, none⟩ = some es[i].val := hcs i hlt
          rcases Nat.eq_zero_or_pos i with h0 | h0
          · have hnp : ¬ 0 < i := by omega
            have hd : decide (0 < i) = false := by simpa using hnp
            generalize es[i] = si at *
            clear h0 hcs
            go_wp2
            go_roundw
            case rel => exact ⟨i + 1, by omega, by go_num, hnx⟩
            case measure => simp [intOf]; omega
          · have hil1 : i - 1 < es.length := by omega
            have hcp : wr.cell? ⟨b, off + (i - 1), none⟩ = some es[i - 1].val := hcs (i - 1) (by omega)
            have hne : es[i - 1].L ≠ es[i].L := by
              have := nodup_next HND.out (i := i - 1) (j := i) (by simpa using hil1) (by simpa using hil) (by omega)
              simpa using this
            have hok1 := (HRS3.out.below hnx).each es[i - 1] (List.getElem_mem hil1)
            have hok2 := (HRS3.out.below hnx).each es[i] (List.getElem_mem hil)
            have hn1 := H7.out es[i - 1] (List.getElem_mem hil1)
            have hn2 := H7.out es[i] (List.getElem_mem hil)
            generalize es[i - 1] = sp at *
            generalize es[i] = si at *
            have heq := eqSpot_any sp.A si.A sp.n si.n sp.c si.c sp.L si.L wr hok1 hok2 (by omega) (by omega)
            rw [decide_eq_false hne] at heq
            have HEQ := Lib.hid heq
            have HNX := Lib.hid hnx
            clear hcs hne hok1 hok2 heq hnx
            go_wp2_with fail
            refine HEQ.out.mono ?_
            rintro e w5 ⟨rfl, hb5⟩
            have HB5 := Lib.hid (below_on HNX.out hb5)
            clear hb5
            go_wp2
            go_roundw
            case rel => exact ⟨i + 1, by omega, by go_num, HB5.out⟩
            case measure => simp [intOf]; omega
        · have HFIN : Hid (((m : Int) == wrap64 ((x : Int) / ((k : Int) + 1))) = true) := by
            show _ = _
            have h1 : ((x / (k + 1) : Nat) : Int) = (x : Int) / ((k : Int) + 1) := by rw [Int.natCast_ediv]; simp
            have h2 : wrap64 (m : Int) = m := by unfold wrap64; omega
            rw [← h1, HOC.out, ← HM.out, h2]
            simp
          have HBE := Lib.hid (below_on HB3.out hnx)
          clear hnx
          go_wp2
          go_ret
          exact ⟨congrArg (fun b => Ending.returned (Value.bool b)) HFIN.out, HBE.out⟩

theorem Catalan_any (n : Int) (w : World) : Calls Try.prog 4 #[I n] w (YesC w) := by
  by_cases h : n < 0 ∨ 7 < n
  · exact Catalan_bad n w h
  · obtain ⟨m, rfl⟩ : ∃ m : Nat, n = m := ⟨n.toNat, by omega⟩
    exact Catalan_ok m w (by omega)

end Go.Proofs.Ytgpbafalciccdaa
