/-
  Joined texts: YtpnjnedfcdppaaaGreatDoorTBig, YtpnjnedfcdppaaaGreatDoorTKeys, YtpnjnedfcdppaaaGreatDoorKRun.
-/
import Derived.Test.YtpnjnedfcdppaaaGreatDoorIntsAll
import Derived.Deep.LoopGhost
import Derived.Test.YtpnjnedfcdppaaaGreatDoorDOpAll
import Derived.Test.YtpnjnedfcdppaaaGreatDoorGHeapAll
/-
  hedgtop: is a key too big for halves; slices.ContainsFunc with it.
-/
namespace Go.Proofs.YtpnjnedfcdppaaaGreatDoor
open Go.RowKit

def isBig (x : Int) : Bool := decide (65535 < x)
theorem isBig_any (x : Int) (w : World) : Calls Tryz.prog 35 #[I x] w fun e w' => e = .returned (.bool (isBig x)) ∧ w = w' := by
  go_enter Tryz.func35, Tryz.ntmps35
  go_wp2
  go_ret
  exact ⟨rfl, rfl⟩
set_option maxRecDepth 100000 in
set_option maxHeartbeats 1000000 in
theorem ixBig_any (A : Option Addr) (n c : Nat) (l : List Int) (w : World) (h : IS w A n c l) (hn : n ≤ 1000) :
    Calls Tryz.prog 76 #[.slice A n c, .func (.func 35) #[] #[]] w fun e w' => (∃ k : Int, e = .returned (I k) ∧ decide (0 ≤ k) = l.any isBig ∧ -1 ≤ k ∧ k ≤ 1000) ∧ w = w' := by
  have H := Lib.hid h
  have Hlen := Lib.hid h.len
  clear h
  go_enter Tryz.func76, Tryz.ntmps76
  go_wp2
  go_loop [8] (fun i => ∃ j : Nat, j ≤ n ∧ i = .int .i64 j ∧ ∀ q (hq : q < l.length), q < j → isBig l[q] = false) (fun i => n - (intOf i).toNat)
  case atStart => exact ⟨0, Nat.zero_le _, rfl, fun q _ hq => absurd hq (by omega)⟩
  case round =>
    obtain ⟨j, hj, rfl, hall⟩ := hrel
    by_cases hlt : j < n
    · obtain ⟨b, off, rfl, hb, hcs⟩ := H.out.at_ (by omega)
      have hjl : j < l.length := by rw [Hlen.out]; exact hlt
      have hc0 : w.cell? ⟨b, off + j, none⟩ = some (I l[j]) := hcs j hlt
      have HCALL := Lib.hid (isBig_any l[j] w)
      cases ho : isBig l[j] with
      | true =>
        rw [ho] at HCALL
        have HE : Hid (l.any isBig = true) := by show _ = _; rw [List.any_eq_true]; exact ⟨_, List.getElem_mem hjl, ho⟩
        clear hcs hall ho
        go_wp2_with fail
        refine HCALL.out.mono ?_
        rintro e w1 ⟨rfl, rfl⟩
        go_wp2
        go_ret
        exact ⟨⟨j, rfl, by rw [HE.out]; simp, by omega, by omega⟩, rfl⟩
      | false =>
        rw [ho] at HCALL
        have HE : Hid (∀ q (hq : q < l.length), q < j + 1 → isBig l[q] = false) := fun q hq h1 => by
          rcases Nat.lt_or_ge q j with h2 | h2
          · exact hall q hq h2
          · obtain rfl : q = j := by omega
            exact ho
        clear hcs hall ho
        go_wp2_with fail
        refine HCALL.out.mono ?_
        rintro e w1 ⟨rfl, rfl⟩
        go_wp2
        go_round
        case rel => exact ⟨j + 1, by omega, by go_num, HE.out⟩
        case measure => simp [intOf]; omega
    · have HE : Hid (l.any isBig = false) := by
        show _ = _
        rw [List.any_eq_false]
        intro x hx
        obtain ⟨q, hq, rfl⟩ := List.getElem_of_mem hx
        rw [hall q hq (by rw [Hlen.out] at hq; omega)]
        simp
      clear hall
      go_wp2
      go_ret
      exact ⟨⟨-1, rfl, by rw [HE.out]; decide, by omega, by omega⟩, rfl⟩
set_option maxRecDepth 100000 in
theorem contBig_any (A : Option Addr) (n c : Nat) (l : List Int) (w : World) (h : IS w A n c l) (hn : n ≤ 1000) :
    Calls Tryz.prog 34 #[.slice A n c, .func (.func 35) #[] #[]] w fun e w' => e = .returned (.bool (l.any isBig)) ∧ w = w' := by
  have HX := Lib.hid (ixBig_any A n c l w h hn)
  clear h
  go_enter Tryz.func34, Tryz.ntmps34
  go_wp2_with fail
  refine HX.out.mono ?_
  rintro e w1 ⟨⟨k, rfl, hk, hk1, hk2⟩, rfl⟩
  have HK := Lib.hid hk
  clear hk
  go_wp2
  go_ret
  exact ⟨by rw [← HK.out]; rfl, rfl⟩

end Go.Proofs.YtpnjnedfcdppaaaGreatDoor

/-
  hedgtop.keysOf.
-/
namespace Go.Proofs.YtpnjnedfcdppaaaGreatDoor
open Go.RowKit

set_option maxRecDepth 100000 in
set_option maxHeartbeats 1000000 in
theorem tkeys_any (A : Option Addr) (n c : Nat) (l : PL) (w : World) (h : PS w A n c l) (hn : n ≤ 1000) :
    Calls Tryz.prog 27 #[.slice A n c] w (RetI (kys l) w) := by
  have H := Lib.hid h
  have HL := Lib.hid h.len
  clear h
  obtain ⟨i0, hi, hz0, hz1, hz2⟩ := info_parts int_info
  have HI := Lib.hid hi
  have HZ0 := Lib.hid hz0
  have HZ1 := Lib.hid hz1
  have HZ2 := Lib.hid hz2
  clear hi hz0 hz1 hz2
  go_enter Tryz.func27, Tryz.ntmps27
  go_wp2
  go_loopw [3, 8] (fun v i wr => ∃ k : Nat, k ≤ n ∧ i = .int .i64 k ∧ OwnI wr w.heap.size v (kys (l.take k)) ∧ Below w.heap.size w wr) (fun _ i _ => n - (intOf i).toNat)
  case atStart => exact ⟨0, Nat.zero_le _, rfl, World.ownsRow_nil _ _ _ _, Below.refl _ _⟩
  case round =>
    obtain ⟨k, hk, rfl, hown, hnx⟩ := hrel
    by_cases hlt : k < n
    · have hkl : k < l.length := by rw [HL.out]; exact hlt
      obtain ⟨b, off, rfl, hbw, hcs⟩ := H.out.at_ (by omega)
      obtain ⟨x, hx⟩ : ∃ x, l[k].1 = x := ⟨_, rfl⟩
      obtain ⟨y, hy⟩ : ∃ y, l[k].2 = y := ⟨_, rfl⟩
      have hc0 : wr.cell? ⟨b, off + k * 2, none⟩ = some (I x) := by rw [← hx]; exact (hnx.cell (by exact hbw)).trans (hcs k hlt).1
      have hc1 : wr.cell? ⟨b, off + k * 2 + 1, none⟩ = some (I y) := by rw [← hy]; exact (hnx.cell (by exact hbw)).trans (hcs k hlt).2
      have HK := Lib.hid (kys_take l k hkl)
      rw [hx] at HK
      obtain ⟨xs, hxs⟩ : ∃ xs, kys (l.take k) = xs := ⟨_, rfl⟩
      have hxl : xs.length ≤ 1000 := by rw [← hxs]; simp [kys]; omega
      rw [hxs] at hown HK
      have HOWN := Lib.hid hown
      have HNX := Lib.hid hnx
      have hz := hnx.size
      clear hcs hx hy hown hnx hxs
      go_wp2_with (first
        | (at_builtin
           refine wpList_append_own_at _ rfl (.tmp 12) (.tmp 15) 46 rfl w.heap.size 3 i0 _ 1 8 Tryz.underlying46 HI.out HZ0.out HZ1.out HZ2.out rfl (by omega) _ xs.length (xs.map I) rfl (own_below HOWN.out (((Below.refl _ _).alloc (Nat.le_refl _) _).alloc (by simp) _)) ⟨wr.heap.size + 1, 0, none⟩ 1 1 [I x] rfl rfl (by have := cell_one_new (wr.alloc (.cells #[I x, I y] 82)) (I x) 3; simpa using this) (one_I x) (by unfold maxLen; omega) (by omega) (by simp; omega) ?_
           intro v2 w2 hown2 hgrow2 _ hat2)
        | fail)
      go_roundw
      case rel =>
        refine ⟨k + 1, by omega, by go_num, ?_, ?_⟩
        · rw [HK.out]
          unfold OwnI
          simpa using hown2
        · exact Below.grown ((HNX.out.alloc hz _).alloc (by simp; omega) _) hgrow2 (by simp; omega) (own_ge1 HOWN.out)
      case measure => simp [intOf]; omega
    · rw [List.take_of_length_le (by rw [HL.out]; omega)] at hown
      obtain ⟨A', c', rfl, his, _⟩ := hown.is_
      have HIS := Lib.hid his
      have HNX := Lib.hid hnx
      clear his hnx hown
      go_wp2
      go_ret
      exact ⟨A', c', rfl, HIS.out, HNX.out⟩

end Go.Proofs.YtpnjnedfcdppaaaGreatDoor

/-
  skip.Run.
-/
namespace Go.Proofs.YtpnjnedfcdppaaaGreatDoor
open Go.RowKit

/-- rows, answers, and what went wrong -/
def RetRun3 (L : List (List Int)) (a : List An) (er : Int) (w : World) (e : Ending) (w' : World) : Prop :=
  ∃ A m c A' n' c', e = .returned (.tuple #[.slice A m c, .slice A' n' c', I er]) ∧ RI w' A m c L ∧ AS w' A' n' c' a ∧ Below w.heap.size w w'

set_option maxRecDepth 100000 in
set_option maxHeartbeats 1000000 in
theorem RunS_large (A : Option Addr) (n c : Nat) (w : World) (hn : 300 < n) (hm : n ≤ 9223372036854775807) :
    Calls Tryz.prog 20 #[.slice A n c] w (RetRun3 [] [] 2 w) := by
  have HC := Lib.hid (Run_large A n c w hn hm)
  go_enter Tryz.func20, Tryz.ntmps20
  go_wp2_with fail
  refine HC.out.mono ?_
  rintro e w1 ⟨A1, n1, c1, A2, n2, c2, rfl, hps, has, hb1⟩
  have HB1 := Lib.hid hb1
  clear hps has hb1
  go_wp2
  go_ret3
  exact ⟨none, 0, 0, none, 0, 0, rfl, RI.none_, ⟨rfl, Rd.none_⟩, HB1.out⟩

set_option maxRecDepth 100000 in
set_option maxHeartbeats 2000000 in
theorem RunS_any (A : Option Addr) (n c : Nat) (ops : List OP) (w : World) (h : OS w A n c ops) (hn : n ≤ 300) (hl : (runR ops).1.length ≤ 200) (hT : Tb w) :
    Calls Tryz.prog 20 #[.slice A n c] w (RetRun3 (rowsL (kys (runR ops).1)) (runR ops).2 0 w) := by
  have HC := Lib.hid (Run_any A n c ops w h hn)
  have HT := Lib.hid hT
  obtain ⟨l, hll⟩ : ∃ l, (runR ops).1 = l := ⟨_, rfl⟩
  obtain ⟨an, han⟩ : ∃ an, (runR ops).2 = an := ⟨_, rfl⟩
  rw [hll] at HC hl ⊢
  rw [han] at HC ⊢
  clear h hT hll han
  go_enter Tryz.func20, Tryz.ntmps20
  go_wp2_with fail
  refine HC.out.mono ?_
  rintro e w1 ⟨A1, n1, c1, A2, n2, c2, rfl, hps, has, hb1⟩
  have hn1 : n1 ≤ 200 := by rw [← hps.len]; exact hl
  have HPS := Lib.hid hps
  have HL := Lib.hid hps.len
  have HAS := Lib.hid has
  have HB1 := Lib.hid hb1
  have hz1 := hb1.size
  have hmk := fun w => run_makeI (P := Tryz.prog) 46 3 Tryz.underlying46 int_info n1 n1 (Nat.le_refl _) (by omega) w
  clear hps has hb1 HC
  go_wp2
  go_loopw [25] (fun i wr => ∃ k : Nat, k ≤ n1 ∧ i = .int .i64 k ∧ IB wr w1.heap.size 3 (kysTo l k) ∧ Below w1.heap.size w1 wr) (fun i _ => n1 - (intOf i).toNat)
  case atStart => exact ⟨0, Nat.zero_le _, rfl, by have := IB.new w1 3 (List.replicate n1 0); simpa [kysTo, HL.out] using this, (Below.refl _ _).alloc (Nat.le_refl _) _⟩
  case round =>
    obtain ⟨k, hk, rfl, hib, hnx⟩ := hrel
    by_cases hlt : k < n1
    · have hkl : k < l.length := by rw [HL.out]; exact hlt
      obtain ⟨b, off, rfl, hbw, hcs⟩ := HPS.out.at_ (by omega)
      obtain ⟨x, hx⟩ : ∃ x, l[k].1 = x := ⟨_, rfl⟩
      obtain ⟨y, hy⟩ : ∃ y, l[k].2 = y := ⟨_, rfl⟩
      have hc0 : wr.cell? ⟨b, off + k * 2, none⟩ = some (I x) := by rw [← hx]; exact (hnx.cell (by exact hbw)).trans (hcs k hlt).1
      have hc1 : wr.cell? ⟨b, off + k * 2 + 1, none⟩ = some (I y) := by rw [← hy]; exact (hnx.cell (by exact hbw)).trans (hcs k hlt).2
      have hl2 := kysTo_len l k (by omega)
      obtain ⟨old, hcell⟩ : ∃ old, wr.cell? ⟨w1.heap.size, k, none⟩ = some (I old) := ⟨_, by rw [hib.cell, List.getElem?_eq_getElem (by omega)]; rfl⟩
      have hfz : wr.frozen? ⟨w1.heap.size, k, none⟩ = false := hib.frozen k
      have hlt1 : w1.heap.size < wr.heap.size := hib.lt
      have hbl : b < wr.heap.size := Nat.lt_of_lt_of_le hbw hnx.size
      have HIB := Lib.hid hib
      have HNX := Lib.hid hnx
      have HSET : Hid (∀ w2, IB w2 w1.heap.size 3 (kysTo l k) → IB (w2.setCell ⟨w1.heap.size, k, none⟩ (I x)) w1.heap.size 3 (kysTo l (k + 1))) := fun w2 h2 => by
        rw [← kysTo_set l k hkl, hx]
        exact h2.set k _
      clear hib hnx hcs hl2 hx hy
      go_wp2
      go_roundw
      case rel => exact ⟨k + 1, by omega, by go_num, (HSET.out wr HIB.out).below ((Below.refl _ _).alloc (Nat.le_refl _) _) (HSET.out wr HIB.out).lt, (HNX.out.setCell (Nat.le_refl _) _).alloc (by simpa [World.setCell] using HNX.out.size) _⟩
      case measure => simp [intOf]; omega
    · have HIS : Hid (IS wr (some ⟨w1.heap.size, 0, none⟩) n1 n1 (kys l)) := by
        rw [show k = l.length by rw [HL.out]; omega, kysTo_all] at hib
        have hl := kys_len l
        rw [HL.out] at hl
        have := hib.is_ (c := n1) (by omega)
        rw [hl] at this
        exact this
      have HRO := Lib.hid (rowsOf_any _ n1 n1 (kys l) wr HIS.out (by omega) ((HT.out.next HB1.out).next hnx))
      have HNX := Lib.hid hnx
      clear hib hnx
      go_wp2_with fail
      refine HRO.out.mono ?_
      rintro e w3 ⟨A3, m3, c3, rfl, hri, hb3⟩
      have HRI := Lib.hid hri
      have HB13 := Lib.hid (HNX.out.trans (hb3.mono HNX.out.size))
      have HB3 := Lib.hid (HB1.out.trans (HB13.out.mono hz1))
      clear hri hb3 HRO
      go_wp2
      go_ret3
      exact ⟨A3, m3, c3, A2, n2, c2, rfl, HRI.out, HAS.out.below HB13.out, HB3.out⟩
end Go.Proofs.YtpnjnedfcdppaaaGreatDoor
