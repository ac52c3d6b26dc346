/-
  package heap: Least.
-/
import Derived.Test.YtcjhglejmmphbaaHPure
import Derived.Test.YtcjhglejmmphbaaInts
import Derived.Deep.LoopGhost
import Derived.BigQuiet
import Derived.Deep.QuietTactic
namespace Go.Proofs.Ytcjhglejmmphbaa
open Go.RowKit

/-- the cells of place i -/
theorem IS.dat {w : World} {n c : Nat} {A : Option Addr} {l : List Int} (h : IS w A n c l) (hn : 0 < n) :
    ∃ b off, A = some ⟨b, off, none⟩ ∧ b < w.heap.size ∧ ∀ i, i < n → w.cell? ⟨b, off + i, none⟩ = some (I (l[i]?.getD 0)) := by
  obtain ⟨b, off, e, hb, hc⟩ := h.at_ hn
  refine ⟨b, off, e, hb, fun i hi => ?_⟩
  have hl : i < l.length := by rw [h.len]; exact hi
  rw [List.getElem?_eq_getElem hl]
  exact hc i hi

theorem Least_large (A : Option Addr) (n c : Nat) (w : World) (h : 200 < n) :
    Calls Try.prog 10 #[.slice A n c] w fun e w' => e = .returned (.tuple #[.slice none 0 0, I 2]) ∧ w = w' := by
  have hn : 200 < (n : Int) := by omega
  go_enter Try.func10, Try.ntmps10
  go_wp2
  go_ret2
  exact ⟨rfl, rfl⟩

set_option maxRecDepth 100000 in
set_option maxHeartbeats 2000000 in
theorem Least_ok (A : Option Addr) (n c : Nat) (l : List Int) (w : World) (h : IS w A n c l) (hn : n ≤ 200) :
    Calls Try.prog 10 #[.slice A n c] w fun e w' => ∃ A', e = .returned (.tuple #[.slice A' n n, I 0]) ∧ IS w' A' n n (nearL l) ∧ Below w.heap.size w w' := by
  have H := Lib.hid h
  have Hlen := Lib.hid h.len
  clear h
  have hmk := fun w => run_makeI (P := Try.prog) 23 3 Try.underlying23 int_info n n (Nat.le_refl _) (by omega) w
  go_enter Try.func10, Try.ntmps10
  go_wp2
  go_loopg [16] n (fun m i wr => ∃ k : Nat, k ≤ n ∧ n - k ≤ m ∧ i = .int .i64 k ∧ IB wr w.heap.size 3 (nearTo l n k) ∧ Below w.heap.size w wr)
  case atStart => exact ⟨0, Nat.zero_le _, by omega, rfl, by have := IB.new w 3 (List.replicate n 0); simpa [nearTo] using this, (Below.refl _ _).alloc (Nat.le_refl _) _⟩
  case round =>
    obtain ⟨k, hk, hkm, rfl, hib, hnx⟩ := hrel
    have HIB := Lib.hid hib
    have HNX := Lib.hid hnx
    clear hib hnx
    by_cases hlt : k < n
    · obtain ⟨b, off, rfl, hb, hc⟩ := H.out.dat (by omega)
      have HC : Hid (∀ i, i < n → wr.cell? ⟨b, off + i, none⟩ = some (I (l[i]?.getD 0))) := fun i hi => (HNX.out.cell (by exact hb)).trans (hc i hi)
      have hck := HC.out k hlt
      obtain ⟨x, hx⟩ : ∃ x, l[k]?.getD 0 = x := ⟨_, rfl⟩
      have HNR : Hid (near l k = lst l x k) := by show _ = _; unfold near; rw [hx]
      rw [hx] at hck
      clear hc hx
      have hw : IntKind.i64.wrap ((k : Int) - 1) = (k : Int) - 1 := IntWalk.i64_in _ (by omega)
      go_wp2
      go_loop [7] (fun t => ∃ p : Int, -1 ≤ p ∧ p < k ∧ t = .int .i64 p ∧ lst l x (p + 1).toNat = near l k) (fun t => (intOf t + 1).toNat)
      case atStart => exact ⟨(k : Int) - 1, by omega, by omega, rfl, by rw [HNR.out]; congr 1; omega⟩
      case round =>
        obtain ⟨p, hp1, hp2, rfl, hl⟩ := hrel
        have HL := Lib.hid hl
        clear hl
        by_cases hp0 : p = -1
        · have HP : Hid (near l k = p) := by show _ = _; rw [← HL.out, hp0]; rfl
          have hneg : ¬ (0 : Int) ≤ p := by omega
          have hl2 := nearTo_length l n k (by omega)
          obtain ⟨old, hcell⟩ : ∃ old, wr.cell? ⟨w.heap.size, k, none⟩ = some (I old) := ⟨_, by rw [HIB.out.cell, List.getElem?_eq_getElem (by omega)]; rfl⟩
          have hfz : wr.frozen? ⟨w.heap.size, k, none⟩ = false := HIB.out.frozen k
          have HI3 : Hid (IB (wr.setCell ⟨w.heap.size, k, none⟩ (I p)) w.heap.size 3 (nearTo l n (k + 1))) := by
            show IB _ _ _ _
            rw [← nearTo_set l n k hlt, HP.out]
            exact HIB.out.set k _
          clear hl2 hp0
          go_wp2
          go_roundg (gk - 1)
          case measure => omega
          case rel => exact ⟨k + 1, by omega, by omega, by go_num, HI3.out, HNX.out.setCell (Nat.le_refl _) _⟩
        · obtain ⟨q, rfl⟩ : ∃ q : Nat, p = q := ⟨p.toNat, by omega⟩
          have hcq := HC.out q (by omega)
          have hq0 : (0 : Int) ≤ (q : Int) := by omega
          have hqn : q < n := by omega
          have e1 : ((q : Int) + 1).toNat = q + 1 := by omega
          rw [e1] at HL
          by_cases hge : x ≤ l[q]?.getD 0
          · have HS : Hid (lst l x ((near l q + 1).toNat) = near l k) := by show _ = _; rw [← HL.out, near_step hge]
            have hbd := lst_bd l (l[q]?.getD 0) q
            have hnq : wr.cell? ⟨w.heap.size, q, none⟩ = some (I (near l q)) := by rw [HIB.out.cell, nearTo_at l n k q (by omega)]; rfl
            have hnb : -1 ≤ near l q ∧ near l q < q := hbd
            obtain ⟨hnb1, hnb2⟩ := hnb
            clear hbd hp0
            generalize near l q = nq at *
            generalize l[q]?.getD 0 = y at *
            go_wp2
            go_round
            case rel => exact ⟨nq, hnb1, by omega, rfl, HS.out⟩
            case measure => simp [intOf]; omega
          · have HP : Hid (near l k = q) := by show _ = _; rw [← HL.out, lst, if_pos (by omega)]
            have hl2 := nearTo_length l n k (by omega)
            obtain ⟨old, hcell⟩ : ∃ old, wr.cell? ⟨w.heap.size, k, none⟩ = some (I old) := ⟨_, by rw [HIB.out.cell, List.getElem?_eq_getElem (by omega)]; rfl⟩
            have hfz : wr.frozen? ⟨w.heap.size, k, none⟩ = false := HIB.out.frozen k
            have HI3 : Hid (IB (wr.setCell ⟨w.heap.size, k, none⟩ (I q)) w.heap.size 3 (nearTo l n (k + 1))) := by
              show IB _ _ _ _
              rw [← nearTo_set l n k hlt, HP.out]
              exact HIB.out.set k _
            clear hl2 hp0
            generalize l[q]?.getD 0 = y at *
            go_wp2
            go_roundg (gk - 1)
            case measure => omega
            case rel => exact ⟨k + 1, by omega, by omega, by go_num, HI3.out, HNX.out.setCell (Nat.le_refl _) _⟩
    · have HIS : Hid (IS wr (some ⟨w.heap.size, 0, none⟩) n n (nearL l)) := by
        have e1 : nearTo l n k = nearL l := by
          unfold nearTo nearL
          rw [Hlen.out, show k = n by omega]
          simp
        have hib := HIB.out
        rw [e1] at hib
        have hl := nearL_length l
        rw [Hlen.out] at hl
        have := hib.is_ (c := n) (by omega)
        rw [hl] at this
        exact this
      go_wp2
      go_ret2
      exact ⟨_, rfl, HIS.out, HNX.out⟩

end Go.Proofs.Ytcjhglejmmphbaa
