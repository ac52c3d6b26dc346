/-
  The table in memory; (*costTable).below, topOf.
-/
import Derived.Test.YtpnjnedfcdppaaaGreatDoorBTab
import Derived.Test.YtpnjnedfcdppaaaGreatDoorIntsAll
import Derived.BigQuiet
import Derived.Deep.QuietTactic
import Derived.Deep.WholeRow
namespace Go.Proofs.YtpnjnedfcdppaaaGreatDoor
open Go.RowKit

def tabV (c : Nat → Nat → Int) : List Value := (List.range 441).map fun q => I (c (q / 21) (q % 21))
theorem tabV_length (c : Nat → Nat → Int) : (tabV c).length = 441 := by simp [tabV]
theorem tabV_at (c : Nat → Nat → Int) {i j : Nat} (hi : i < 21) (hj : j < 21) : (tabV c)[i * 21 + j]? = some (I (c i j)) := by
  unfold tabV
  rw [List.getElem?_map, List.getElem?_range (by omega)]
  simp only [Option.map_some]
  rw [show (i * 21 + j) / 21 = i by omega, show (i * 21 + j) % 21 = j by omega]
theorem tabV_set (c : Nat → Nat → Int) {i j : Nat} (hi : i < 21) (hj : j < 21) (x : Int) : (tabV c).set (i * 21 + j) (I x) = tabV (bupd c i j x) := by
  apply List.ext_getElem
  · simp [tabV]
  · intro q h1 h2
    have hq : q < 441 := by simpa [tabV] using h2
    rw [List.getElem_set]
    simp only [tabV, List.getElem_map, List.getElem_range, bupd]
    by_cases he : i * 21 + j = q
    · rw [if_pos he, if_pos (by omega)]
    · rw [if_neg he, if_neg (by omega)]
theorem tabV_one (c : Nat → Nat → Int) : (tabV c).toArray.all (·.oneCell') = true := by
  simp only [tabV, List.all_toArray, List.all_eq_true, List.mem_map]
  rintro v ⟨q, _, rfl⟩
  rfl
/-- block g is the table c -/
def TQ (w : World) (g : Nat) (c : Nat → Nat → Int) : Prop := w.heap[g]? = some (.cells (tabV c).toArray 129 (0, 0))
theorem TQ.lt {w : World} {g : Nat} {c : Nat → Nat → Int} (h : TQ w g c) : g < w.heap.size := (Array.getElem?_eq_some_iff.1 h).1
theorem TQ.below {w w' : World} {g B : Nat} {c : Nat → Nat → Int} (h : TQ w g c) (hb : Below B w w') (hg : g < B) : TQ w' g c := (hb.block g hg).trans h
theorem TQ.cell {w : World} {g : Nat} {c : Nat → Nat → Int} (h : TQ w g c) {i j : Nat} (hi : i < 21) (hj : j < 21) : w.cell? ⟨g, i * 21 + j, none⟩ = some (I (c i j)) := by
  unfold TQ at h
  rw [cell_of_row _ _ _ _ _ _ h]
  simpa using tabV_at c hi hj
theorem TQ.frozen {w : World} {g : Nat} {c : Nat → Nat → Int} (h : TQ w g c) (q : Nat) : w.frozen? ⟨g, q, none⟩ = false := by
  unfold TQ at h
  simp [World.frozen?, h]
theorem TQ.set {w : World} {g : Nat} {c : Nat → Nat → Int} (h : TQ w g c) {i j : Nat} (hi : i < 21) (hj : j < 21) (x : Int) : TQ (w.setCell ⟨g, i * 21 + j, none⟩ (I x)) g (bupd c i j x) := by
  unfold TQ at *
  rw [setCell_eq_setRow w g _ _ _ (0, 0) (I x) h, setRow_heap w g _ _ _ (0, 0) h]
  simp [tabV_set c hi hj]
theorem TQ.far {w : World} {g : Nat} {c : Nat → Nat → Int} (h : TQ w g c) {p : Addr} (hg : g ≠ p.block) (u : Value) : TQ (w.setCell p u) g c := (Below.heap_setCell w p u g hg).trans h
theorem TQ.drewN {w : World} {g : Nat} {c : Nat → Nat → Int} (h : TQ w g c) (k : Nat) : TQ (w.drewN k) g c := h
theorem TQ.drew {w : World} {g : Nat} {c : Nat → Nat → Int} (h : TQ w g c) : TQ w.drew g c := h

set_option maxRecDepth 100000 in
set_option maxHeartbeats 1000000 in
theorem below_any (g : Nat) (c : Nat → Nat → Int) (i j k : Nat) (w : World) (h : TQ w g c) (hik : i ≤ k) (hkj : k < j) (hj : j ≤ 20) (hb : ∀ i j, 0 ≤ c i j ∧ c i j ≤ 1000000) :
    Calls Tryz.prog 143 #[.pointer (some ⟨g, 0, none⟩), I i, I j, I k] w fun e w' => e = .returned (I (bblw c i j k)) ∧ ∃ m, w' = w.drewN m := by
  have c1 := h.cell (i := i) (j := k) (by omega) (by omega)
  have c2 := h.cell (i := k + 1) (j := j) (by omega) (by omega)
  have b1 := hb i k
  have b2 := hb (k + 1) j
  have HE : Hid (c i k + c (k + 1) j = bblw c i j k) := rfl
  clear h hb
  generalize c i k = x at *
  generalize c (k + 1) j = y at *
  go_enter Tryz.func143, Tryz.ntmps143
  go_wp2
  go_quiet (fail)
  go_wp2
  go_ret
  exact ⟨ret_int HE.out, _, rfl⟩

theorem tpd_go (c : Nat → Nat → Int) {i j o : Nat} (h : i < o) : tpd c i j (o + 1 - (i + 1)) = if bblw c i j o < bblw c i j (tpd c i j (o - (i + 1))) then o else tpd c i j (o - (i + 1)) := by
  obtain ⟨d, rfl⟩ : ∃ d, o = i + 1 + d := ⟨o - (i + 1), by omega⟩
  rw [show i + 1 + d + 1 - (i + 1) = d + 1 by omega, show i + 1 + d - (i + 1) = d by omega]
  rfl
set_option maxRecDepth 100000 in
set_option maxHeartbeats 1000000 in
theorem topOfB_any (g : Nat) (c : Nat → Nat → Int) (i j : Nat) (w : World) (h : TQ w g c) (hij : i < j) (hj : j ≤ 20) (hb : ∀ i j, 0 ≤ c i j ∧ c i j ≤ 1000000) :
    Calls Tryz.prog 144 #[.pointer (some ⟨g, 0, none⟩), I i, I j] w fun e w' => e = .returned (I (tp c i j)) ∧ ∃ m, w' = w.drewN m := by
  have H := Lib.hid h
  have HB := Lib.hid hb
  clear h hb
  have e1 : IntKind.i64.wrap ((i : Int) + 1) = (i : Int) + 1 := IntWalk.i64_in _ (by omega)
  go_enter Tryz.func144, Tryz.ntmps144
  go_wp2
  go_loopw [7, 8] (fun t o wr => ∃ a b q : Nat, i < b ∧ b ≤ j ∧ i ≤ a ∧ a < b ∧ t = .int .i64 a ∧ o = .int .i64 b ∧ Hid (tpd c i j (b - (i + 1)) = a) ∧ wr = w.drewN q) (fun _ o _ => j - (intOf o).toNat)
  case atStart => exact ⟨i, i + 1, 0, by omega, by omega, by omega, by omega, rfl, by go_num, (by rw [Nat.sub_self]; rfl : tpd c i j (i + 1 - (i + 1)) = i), rfl⟩
  case round =>
    obtain ⟨a, b, q, h1, h2, h3, h4, rfl, rfl, HT, rfl⟩ := hrel
    by_cases hlt : b < j
    · have HG := Lib.hid (tpd_go c (j := j) h1)
      have HC1 := Lib.hid (below_any g c i j b (w.drewN q) (H.out.drewN q) (by omega) hlt hj HB.out)
      go_wp2_with fail
      refine HC1.out.mono ?_
      rintro e w1 ⟨rfl, m1, rfl⟩
      have HC2 := Lib.hid (below_any g c i j a (w.drewN (q + m1)) (H.out.drewN (q + m1)) (by omega) (by omega) hj HB.out)
      go_wp2_with fail
      refine HC2.out.mono ?_
      rintro e w2 ⟨rfl, m2, rfl⟩
      rw [HT.out] at HG
      generalize bblw c i j b = x at *
      generalize bblw c i j a = y at *
      by_cases hxy : x < y
      · have HE : Hid (tpd c i j (b + 1 - (i + 1)) = b) := by show _ = _; rw [HG.out, if_pos hxy]
        go_wp2
        go_roundw
        case rel => exact ⟨b, b + 1, q + m1 + m2, by omega, by omega, by omega, by omega, rfl, by go_num, HE, by simp only [World.drewN_drewN, Nat.add_assoc]⟩
        case measure => simp [intOf]; omega
      · have HE : Hid (tpd c i j (b + 1 - (i + 1)) = a) := by show _ = _; rw [HG.out, if_neg hxy]
        go_wp2
        go_roundw
        case rel => exact ⟨a, b + 1, q + m1 + m2, by omega, by omega, by omega, by omega, rfl, by go_num, HE, by simp only [World.drewN_drewN, Nat.add_assoc]⟩
        case measure => simp [intOf]; omega
    · have HE : Hid ((a : Int) = (tp c i j : Int)) := by
        show (a : Int) = _
        have := HT.out
        rw [show b = j by omega] at this
        unfold tp
        omega
      go_wp2
      go_ret
      exact ⟨ret_int HE.out, q, rfl⟩

end Go.Proofs.YtpnjnedfcdppaaaGreatDoor
