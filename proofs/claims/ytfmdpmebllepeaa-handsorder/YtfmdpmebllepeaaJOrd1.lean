/-
  slices.ContainsFunc of deeds that are told, by hedgref.Orders's closure.
-/
import Derived.Test.YtfmdpmebllepeaaJRunAll
import Derived.Test.YtfmdpmebllepeaaJCheck
namespace Go.Proofs.Ytfmdpmebllepeaa
open Go.RowKit Go.Maps

abbrev dval (d : Dn) : Value := .agg #[I d.w, I d.j, I d.b, I d.e, .bool d.is_]
set_option maxRecDepth 100000 in
theorem ord1_any (y : Dn) (xb : Nat) (b : Int) (w : World) (hx : w.cell? ⟨xb, 2, none⟩ = some (I b)) (hxb : xb < w.heap.size) :
    Calls Try.prog 21 #[dval y, .pointer (some ⟨xb, 0, none⟩)] w fun e w' => e = .returned (.bool (decide (y.e < b))) ∧ Below w.heap.size w w' := by
  have hx' : ∀ o, (w.alloc o).cell? ⟨xb, 2, none⟩ = some (I b) := fun o => (World.cell?_of_block (Below.heap_alloc _ _ _ hxb)).trans hx
  obtain ⟨yw, yj, yb, ye, yi⟩ := y
  go_enter Try.func21, Try.ntmps21
  go_wp2
  go_ret
  exact ⟨by first | rfl | simp, (Below.refl _ _).alloc (Nat.le_refl _) _⟩
set_option maxRecDepth 100000 in
set_option maxHeartbeats 4000000 in
theorem ixD_any (A : Option Addr) (n c : Nat) (L : List Dn) (xb : Nat) (b : Int) (w : World) (h : DR w A n L) (hx : w.cell? ⟨xb, 2, none⟩ = some (I b)) (hxb : xb < w.heap.size) (hn : n ≤ 9223372036854775807) :
    Calls Try.prog 38 #[.slice A n c, .func (.func 21) #[] #[.pointer (some ⟨xb, 0, none⟩)]] w fun e w' => e = .returned (I (fix1 (fun y : Dn => decide (y.e < b)) L)) ∧ Below w.heap.size w w' := by
  have H := Lib.hid h
  have HL := Lib.hid h.len
  have HX := Lib.hid hx
  clear h hx
  go_enter Try.func38, Try.ntmps38
  go_wp2
  go_loopw [8] (fun i wr => ∃ k : Nat, k ≤ n ∧ i = .int .i64 k ∧ Hid (∀ j (hj : j < L.length), j < k → (decide (L[j].e < b)) = false) ∧ Below w.heap.size w wr) (fun i _ => n - (intOf i).toNat)
  case atStart => exact ⟨0, Nat.zero_le _, rfl, fun j _ hj => absurd hj (by omega), Below.refl _ _⟩
  case round =>
    obtain ⟨k, hk, rfl, HNO, hbl⟩ := hrel
    have HBL := Lib.hid hbl
    by_cases hlt : k < n
    · obtain ⟨g, rfl, hg, hc⟩ := H.out.at_ (by omega)
      have hkl : k < L.length := by rw [HL.out]; exact hlt
      have hDk := hc k hkl
      have hyes : decide (L[k].e < b) = true → fix1 (fun y : Dn => decide (y.e < b)) L = k := fun hd => fix1_hit hkl hd HNO.out
      have hno2 : decide (L[k].e < b) = false → ∀ j (hj : j < L.length), j < k + 1 → (decide (L[j].e < b)) = false := fun hd j hj hjk => by
        by_cases e : j = k
        · subst e; exact hd
        · exact HNO.out j hj (by omega)
      have HC := ord1_any L[k] xb b wr ((hbl.cell (p := ⟨xb, 2, none⟩) hxb).trans HX.out) (Nat.lt_of_lt_of_le hxb hbl.size)
      obtain ⟨⟨dw, dj, db, de, di⟩, hd⟩ : ∃ d, L[k] = d := ⟨_, rfl⟩
      rw [hd] at hDk HC hyes hno2
      have D0 : wr.cell? ⟨g, k * 5, none⟩ = some (I dw) := (hbl.cell (p := ⟨g, k * 5, none⟩) hg).trans (hDk 0 (by omega))
      have D1 : wr.cell? ⟨g, k * 5 + 1, none⟩ = some (I dj) := (hbl.cell (p := ⟨g, k * 5 + 1, none⟩) hg).trans (hDk 1 (by omega))
      have D2 : wr.cell? ⟨g, k * 5 + 2, none⟩ = some (I db) := (hbl.cell (p := ⟨g, k * 5 + 2, none⟩) hg).trans (hDk 2 (by omega))
      have D3 : wr.cell? ⟨g, k * 5 + 3, none⟩ = some (I de) := (hbl.cell (p := ⟨g, k * 5 + 3, none⟩) hg).trans (hDk 3 (by omega))
      have D4 : wr.cell? ⟨g, k * 5 + 4, none⟩ = some (.bool di) := (hbl.cell (p := ⟨g, k * 5 + 4, none⟩) hg).trans (hDk 4 (by omega))
      have HC := Lib.hid HC
      have HY := Lib.hid hyes
      have HN := Lib.hid hno2
      clear hc hbl hDk hd hyes hno2
      by_cases hlt2 : de < b
      · have hdt : decide (de < b) = true := decide_eq_true hlt2
        have HF := Lib.hid (HY.out hdt)
        go_wp2_with fail
        refine HC.out.mono ?_
        rintro e w1 ⟨rfl, hb1⟩
        have HB1 := Lib.hid (HBL.out.trans (hb1.mono HBL.out.size))
        clear hb1
        have hdt : decide (de < b) = true := decide_eq_true (by omega)
        go_wp2
        go_ret
        exact ⟨ret_int (by rw [HF.out]), HB1.out⟩
      · have hdt : decide (de < b) = false := decide_eq_false hlt2
        have HN2 := Lib.hid (HN.out hdt)
        go_wp2_with fail
        refine HC.out.mono ?_
        rintro e w1 ⟨rfl, hb1⟩
        have HB1 := Lib.hid (HBL.out.trans (hb1.mono HBL.out.size))
        clear hb1
        have hdt : decide (de < b) = false := decide_eq_false (by omega)
        go_wp2
        go_roundw
        case rel => exact ⟨k + 1, by omega, by go_num, HN2.out, HB1.out⟩
        case measure => simp [intOf]; omega
    · have HF : Hid (fix1 (fun y : Dn => decide (y.e < b)) L = -1) := fix1_none fun j hj => HNO.out j hj (by rw [HL.out] at hj; omega)
      clear hbl
      go_wp2
      go_ret
      exact ⟨ret_int (by rw [HF.out]), HBL.out⟩
set_option maxRecDepth 100000 in
set_option maxHeartbeats 4000000 in
theorem conD_any (A : Option Addr) (n c : Nat) (L : List Dn) (xb : Nat) (b : Int) (w : World) (h : DR w A n L) (hx : w.cell? ⟨xb, 2, none⟩ = some (I b)) (hxb : xb < w.heap.size) (hn : n ≤ 9223372036854775807) :
    Calls Try.prog 20 #[.slice A n c, .func (.func 21) #[] #[.pointer (some ⟨xb, 0, none⟩)]] w fun e w' => e = .returned (.bool (L.any fun y => decide (y.e < b))) ∧ Below w.heap.size w w' := by
  have HC := Lib.hid (ixD_any A n c L xb b w h hx hxb hn)
  have HF := Lib.hid (fix1_any (fun y : Dn => decide (y.e < b)) L)
  clear h hx hxb
  obtain ⟨x, hx⟩ : ∃ x, fix1 (fun y : Dn => decide (y.e < b)) L = x := ⟨_, rfl⟩
  rw [hx] at HC HF
  clear hx
  go_enter Try.func20, Try.ntmps20
  go_wp2_with fail
  refine HC.out.mono ?_
  rintro e w1 ⟨rfl, hb1⟩
  have HB1 := Lib.hid hb1
  clear hb1
  go_wp2
  go_ret
  exact ⟨by rw [← HF.out]; first | rfl | simp, HB1.out⟩

end Go.Proofs.Ytfmdpmebllepeaa
