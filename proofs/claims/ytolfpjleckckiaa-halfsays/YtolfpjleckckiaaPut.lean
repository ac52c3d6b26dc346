/-
  put where the key is new.
-/
import Derived.Test.YtolfpjleckckiaaDo
namespace Go.Proofs.Ytolfpjleckckiaa
open Go.RowKit

set_option maxRecDepth 100000 in
set_option maxHeartbeats 1000000 in
theorem put_new (A : Option Addr) (n c : Nat) (l : PL) (key v : Int) (w : World) (h : PS w A n c l) (hn : n < 200) (hh : hasB l (cnt l key) key = false) :
    Calls Try.prog 39 #[.slice A n c, I key, I v] w (RetPA (putL l key v) (putA l key) w) := by
  have hmk := fun W => run_makeP (P := Try.prog) 40 68 Try.underlying40 pair_info (n + 1) (by omega) W
  rw [show ((n + 1 : Nat) : Int) = (n : Int) + 1 by omega] at hmk
  have H := Lib.hid h
  have Hlen := Lib.hid h.len
  have hnc : n ≤ c := h.rd.1
  clear h
  have hcn : cnt l key ≤ n := by have := cnt_le l key; rw [Hlen.out] at this; exact this
  have hcc : cnt l key ≤ c := by omega
  have HF : Hid (putL l key v = l.take (cnt l key) ++ (key, v) :: l.drop (cnt l key) ∧ putA l key = ⟨0, 0, 0, false⟩) := by
    show _ ∧ _
    have := Hlen.out
    simp [putL, putA, hh, this]
    omega
  have HH := Lib.hid hh
  clear hh
  generalize hp : cnt l key = p at *
  have HPE := Lib.hid hp
  clear hp
  have hbw : Below w.heap.size w (w.alloc ansO) := (Below.refl _ _).alloc (Nat.le_refl _) _
  have hbw2 : Below w.heap.size w ((w.alloc ansO).alloc (.cells (flat (List.replicate (n + 1) (0, 0))).toArray 68)) := hbw.alloc (by simp) _
  go_enter Try.func39, Try.ntmps39
  go_wp2_with fail
  refine (countBelow_any _ n c l key _ (H.out.alloc _) (by omega)).mono ?_
  rintro e w' ⟨rfl, rfl⟩
  rw [HPE.out]
  go_wp2_with fail
  refine (hasAt_f _ n c p l key _ (H.out.alloc _) (by omega) (by omega) HH.out).mono ?_
  rintro e w' ⟨rfl, rfl⟩
  go_wp2_with (with_reducible refine wpList_copyP rfl (.tmp 37) (.tmp 40) 40 rfl 68 Try.underlying40 pair_size (some ⟨w.heap.size + 1, 0, none⟩) A (n + 1) (n + 1) p c rfl rfl (w.heap.size + 1) 0 68 (List.replicate (n + 1) (0, 0)) (l.take p) (by simpa using PB.new (w.alloc ansO) 68 (List.replicate (n + 1) (0, 0))) ((H.out.below hbw2).srcTake p hcn) (by simp) (fun _ => rfl) ?_)
  intro w1 hp1 hb1
  rw [show p.min (n + 1) = p from Nat.min_eq_left (by omega)] at hp1 ⊢
  have hab : AB w1 w.heap.size := ((AB.new w).below (B := w.heap.size + 1) ((Below.refl _ _).alloc (by simp) _) (by simp)).below (hb1 _ (Nat.le_refl _)) (by simp)
  obtain ⟨⟨a0, a1, a2, a3⟩, f0, f1, f2, f3⟩ := hab.facts
  have hbx : Below w.heap.size w w1 := hbw2.trans (hb1 _ (by simp))
  have hcl : p < (cop (List.replicate (n + 1) ((0 : Int), (0 : Int))) 0 (l.take p) p).length := by have := Hlen.out; simp [cop]; omega
  have hc0 : ∃ x, w1.cell? ⟨w.heap.size + 1, p * 2, none⟩ = some x := ⟨_, (hp1.cell _).trans (flat_at _ p hcl).1⟩
  have hc1 : ∃ x, w1.cell? ⟨w.heap.size + 1, p * 2 + 1, none⟩ = some x := ⟨_, (hp1.cell _).trans (flat_at _ p hcl).2⟩
  obtain ⟨x0, hx0⟩ := hc0
  obtain ⟨x1, hx1⟩ := hc1
  have hf0 := hp1.frozen (p * 2)
  have hf1 := hp1.frozen (p * 2 + 1)
  have HP2 := Lib.hid (hp1.set2 p key v hcl)
  have HBX := Lib.hid hbx
  have HAB := Lib.hid hab
  clear hp1 hb1 hab hbx hbw hbw2 hmk
  go_wp2
  obtain ⟨w3, hw3⟩ : ∃ w3, w3 = (w1.setCell ⟨w.heap.size + 1, p * 2, none⟩ (I key)).setCell ⟨w.heap.size + 1, p * 2 + 1, none⟩ (I v) := ⟨_, rfl⟩
  have hp3 := HP2.out
  have hb3 : Below w.heap.size w ((w1.setCell ⟨w.heap.size + 1, p * 2, none⟩ (I key)).setCell ⟨w.heap.size + 1, p * 2 + 1, none⟩ (I v)) := (HBX.out.setCell (by simp) _).setCell (by simp) _
  have hab3 : AB ((w1.setCell ⟨w.heap.size + 1, p * 2, none⟩ (I key)).setCell ⟨w.heap.size + 1, p * 2 + 1, none⟩ (I v)) w.heap.size := (HAB.out.far (p := ⟨w.heap.size + 1, p * 2, none⟩) (by simp) _).far (p := ⟨w.heap.size + 1, p * 2 + 1, none⟩) (by simp) _
  rw [← hw3] at hp3 hb3 hab3 ⊢
  clear hw3 HP2 HBX HAB a0 a1 a2 a3 f0 f1 f2 f3 hx0 hx1 hf0 hf1
  have HP3 := Lib.hid hp3
  have HB3 := Lib.hid hb3
  have HAB3 := Lib.hid hab3
  clear hp3 hb3 hab3
  have e1 : IntKind.i64.wrap ((p : Int) + 1) = (p : Int) + 1 := IntWalk.i64_in _ (by omega)
  have e2 : (0 : Int) ≤ (p : Int) + 1 := by omega
  have e3 : ((p : Int) + 1).toNat = p + 1 := by omega
  have e4 : (p : Int) + 1 ≤ (n : Int) + 1 := by omega
  go_still_tail 7, (by kernel_rfl)
  change wpList _ _ _ _ _ w3.drew
  generalize hsp : (if c = p then A else Option.map (fun x => Addr.add x (p * 2)) A) = sp
  generalize hdq : (if n = p then some (⟨w.heap.size + 1, 0, none⟩ : Addr) else some ⟨w.heap.size + 1, (p + 1) * 2, none⟩) = dq
  have HSP := Lib.hid hsp
  have HDQ := Lib.hid hdq
  clear hsp hdq
  have hp3 : PB w3.drew (w.heap.size + 1) 68 ((cop (List.replicate (n + 1) (0, 0)) 0 (l.take p) p).set p (key, v)) := HP3.out
  have hb3 : Below w.heap.size w w3.drew := HB3.out.drew
  refine wpList_copyP rfl (.tmp 51) (.tmp 54) 40 rfl 68 Try.underlying40 pair_size _ _ _ _ _ _ rfl rfl (w.heap.size + 1) (p + 1) 68 _ (l.drop p) hp3 ?src ?fit ?dp ?_
  case src => exact (H.out.below hb3).srcDrop p hcn _ (fun hlt b off hA => by rw [← HSP.out, if_neg (by omega), hA]; simp [addn])
  case fit => have := Hlen.out; simp [cop]; omega
  case dp => intro h; rw [← HDQ.out, if_neg (by omega)]
  intro w4 hp4 hb4
  rw [show (n - p).min (n - p) = n - p from Nat.min_self _] at hp4 ⊢
  rw [put_rows n p l key v Hlen.out hcn, ← HF.out.1] at hp4
  have hab4 : AB w4 w.heap.size := AB.below (w := w3.drew) HAB3.out (hb4 _ (Nat.le_refl _)) (by simp)
  obtain ⟨⟨a0, a1, a2, a3⟩, f0, f1, f2, f3⟩ := hab4.facts
  have hlen4 : (putL l key v).length = n + 1 := by rw [HF.out.1]; have := Hlen.out; simp; omega
  have HP4 := Lib.hid hp4
  have HB4 := Lib.hid (hb3.trans (hb4 _ (by simp)))
  have HL4 := Lib.hid hlen4
  clear hp4 hb4 hab4 hlen4 hp3 hb3 HP3 HB3 HAB3 e1 e2 e3 e4
  go_wp2
  refine bodyPost_ret (v := .tuple #[.slice (some ⟨w.heap.size + 1, 0, none⟩) (n + 1) (n + 1), anV ⟨0, 0, 0, false⟩]) (by simp [results, Try.results39, go_sem, a0, a1, a2, a3]) rfl ?_
  have hp := (HP4.out.st4 (g' := w.heap.size) (by omega) 0 0 0 false).ps (c := n + 1) (by rw [HL4.out]; exact Nat.le_refl _)
  rw [HL4.out] at hp
  exact retPA_mk hp (below_st4 HB4.out (Nat.le_refl _) _ _ _ _) HF.out.2 (fun ad h => by cases h; simp)

theorem put_any (A : Option Addr) (n c : Nat) (l : PL) (key v : Int) (w : World) (h : PS w A n c l) (hn : n ≤ 200) :
    Calls Try.prog 39 #[.slice A n c, I key, I v] w (RetPA (putL l key v) (putA l key) w) := by
  cases hh : hasB l (cnt l key) key with
  | true => exact put_has A n c l key v w h hn hh
  | false =>
    rcases Nat.lt_or_ge n 200 with h1 | h1
    · exact put_new A n c l key v w h h1 hh
    · exact put_full A n c l key v w h hn hh h1

end Go.Proofs.Ytolfpjleckckiaa
