/-
  skip.Run.
-/
import Derived.Test.YtpnjnedfcdppaaaGreatDoorGHeapAll
import Derived.Test.YtpnjnedfcdppaaaGreatDoorDOpAll
namespace Go.Proofs.YtpnjnedfcdppaaaGreatDoor
open Go.RowKit

/-- rows, answers, and what went wrong -/
def RetRun3 (L : List (List Int)) (a : List An) (er : Int) (w : World) (e : Ending) (w' : World) : Prop :=
  ∃ A m c A' n' c', e = .returned (.tuple #[.slice A m c, .slice A' n' c', I er]) ∧ RI w' A m c L ∧ AS w' A' n' c' a ∧ Below w.heap.size w w'

set_option maxRecDepth 100000 in
set_option maxHeartbeats 1000000 in
theorem RunS_large (A : Option Addr) (n c : Nat) (w : World) (hn : 300 < n) (hm : n ≤ 9223372036854775807) :
    Calls Tryz.prog 20 #[.slice A n c] w (RetRun3 [] [] 2 w) := by
  have HC := Lib.hid (Run_large A n c w hn hm)
  go_enter Tryz.func20, Tryz.ntmps20
  go_wp2_with fail
  refine HC.out.mono ?_
  rintro e w1 ⟨A1, n1, c1, A2, n2, c2, rfl, hps, has, hb1⟩
  have HB1 := Lib.hid hb1
  clear hps has hb1
  go_wp2
  go_ret3
  exact ⟨none, 0, 0, none, 0, 0, rfl, RI.none_, ⟨rfl, Rd.none_⟩, HB1.out⟩

set_option maxRecDepth 100000 in
set_option maxHeartbeats 2000000 in
theorem RunS_any (A : Option Addr) (n c : Nat) (ops : List OP) (w : World) (h : OS w A n c ops) (hn : n ≤ 300) (hl : (runR ops).1.length ≤ 200) (hT : Tb w) :
    Calls Tryz.prog 20 #[.slice A n c] w (RetRun3 (rowsL (kys (runR ops).1)) (runR ops).2 0 w) := by
  have HC := Lib.hid (Run_any A n c ops w h hn)
  have HT := Lib.hid hT
  obtain ⟨l, hll⟩ : ∃ l, (runR ops).1 = l := ⟨_, rfl⟩
  obtain ⟨an, han⟩ : ∃ an, (runR ops).2 = an := ⟨_, rfl⟩
  rw [hll] at HC hl ⊢
  rw [han] at HC ⊢
  clear h hT hll han
  go_enter Tryz.func20, Tryz.ntmps20
  go_wp2_with fail
  refine HC.out.mono ?_
  rintro e w1 ⟨A1, n1, c1, A2, n2, c2, rfl, hps, has, hb1⟩
  have hn1 : n1 ≤ 200 := by rw [← hps.len]; exact hl
  have HPS := Lib.hid hps
  have HL := Lib.hid hps.len
  have HAS := Lib.hid has
  have HB1 := Lib.hid hb1
  have hz1 := hb1.size
  have hmk := fun w => run_makeI (P := Tryz.prog) 46 3 Tryz.underlying46 int_info n1 n1 (Nat.le_refl _) (by omega) w
  clear hps has hb1 HC
  go_wp2
  go_loopw [25] (fun i wr => ∃ k : Nat, k ≤ n1 ∧ i = .int .i64 k ∧ IB wr w1.heap.size 3 (kysTo l k) ∧ Below w1.heap.size w1 wr) (fun i _ => n1 - (intOf i).toNat)
  case atStart => exact ⟨0, Nat.zero_le _, rfl, by have := IB.new w1 3 (List.replicate n1 0); simpa [kysTo, HL.out] using this, (Below.refl _ _).alloc (Nat.le_refl _) _⟩
  case round =>
    obtain ⟨k, hk, rfl, hib, hnx⟩ := hrel
    by_cases hlt : k < n1
    · have hkl : k < l.length := by rw [HL.out]; exact hlt
      obtain ⟨b, off, rfl, hbw, hcs⟩ := HPS.out.at_ (by omega)
      obtain ⟨x, hx⟩ : ∃ x, l[k].1 = x := ⟨_, rfl⟩
      obtain ⟨y, hy⟩ : ∃ y, l[k].2 = y := ⟨_, rfl⟩
      have hc0 : wr.cell? ⟨b, off + k * 2, none⟩ = some (I x) := by rw [← hx]; exact (hnx.cell (by exact hbw)).trans (hcs k hlt).1
      have hc1 : wr.cell? ⟨b, off + k * 2 + 1, none⟩ = some (I y) := by rw [← hy]; exact (hnx.cell (by exact hbw)).trans (hcs k hlt).2
      have hl2 := kysTo_len l k (by omega)
      obtain ⟨old, hcell⟩ : ∃ old, wr.cell? ⟨w1.heap.size, k, none⟩ = some (I old) := ⟨_, by rw [hib.cell, List.getElem?_eq_getElem (by omega)]; rfl⟩
      have hfz : wr.frozen? ⟨w1.heap.size, k, none⟩ = false := hib.frozen k
      have hlt1 : w1.heap.size < wr.heap.size := hib.lt
      have hbl : b < wr.heap.size := Nat.lt_of_lt_of_le hbw hnx.size
      have HIB := Lib.hid hib
      have HNX := Lib.hid hnx
      have HSET : Hid (∀ w2, IB w2 w1.heap.size 3 (kysTo l k) → IB (w2.setCell ⟨w1.heap.size, k, none⟩ (I x)) w1.heap.size 3 (kysTo l (k + 1))) := fun w2 h2 => by
        rw [← kysTo_set l k hkl, hx]
        exact h2.set k _
      clear hib hnx hcs hl2 hx hy
      go_wp2
      go_roundw
      case rel => exact ⟨k + 1, by omega, by go_num, (HSET.out wr HIB.out).below ((Below.refl _ _).alloc (Nat.le_refl _) _) (HSET.out wr HIB.out).lt, (HNX.out.setCell (Nat.le_refl _) _).alloc (by simpa [World.setCell] using HNX.out.size) _⟩
      case measure => simp [intOf]; omega
    · have HIS : Hid (IS wr (some ⟨w1.heap.size, 0, none⟩) n1 n1 (kys l)) := by
        rw [show k = l.length by rw [HL.out]; omega, kysTo_all] at hib
        have hl := kys_len l
        rw [HL.out] at hl
        have := hib.is_ (c := n1) (by omega)
        rw [hl] at this
        exact this
      have HRO := Lib.hid (rowsOf_any _ n1 n1 (kys l) wr HIS.out (by omega) ((HT.out.next HB1.out).next hnx))
      have HNX := Lib.hid hnx
      clear hib hnx
      go_wp2_with fail
      refine HRO.out.mono ?_
      rintro e w3 ⟨A3, m3, c3, rfl, hri, hb3⟩
      have HRI := Lib.hid hri
      have HB13 := Lib.hid (HNX.out.trans (hb3.mono HNX.out.size))
      have HB3 := Lib.hid (HB1.out.trans (HB13.out.mono hz1))
      clear hri hb3 HRO
      go_wp2
      go_ret3
      exact ⟨A3, m3, c3, A2, n2, c2, rfl, HRI.out, HAS.out.below HB13.out, HB3.out⟩
end Go.Proofs.YtpnjnedfcdppaaaGreatDoor
