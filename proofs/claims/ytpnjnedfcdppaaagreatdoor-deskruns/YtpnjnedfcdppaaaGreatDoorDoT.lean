/-
  plain.Do once more: what it answers lies in a block of pairs. (Written by a program out of Do, Put, Cut, DoAll, DoLook.)
-/
import Derived.Test.YtpnjnedfcdppaaaGreatDoorRanksAll
import Derived.BigRegion
namespace Go.Proofs.YtpnjnedfcdppaaaGreatDoor.T
open Go.RowKit

def TyP (w : World) (A : Option Addr) : Prop := ∀ ad, A = some ad → ∃ cs fz, w.heap[ad.block]? = some (.cells cs 48 fz)
structure PT (w : World) (A : Option Addr) (n c : Nat) (l : PL) : Prop where
  ps : PS w A n c l
  ty : TyP w A
theorem _root_.Go.Proofs.YtpnjnedfcdppaaaGreatDoor.PB.pt {w : World} {g c : Nat} {L : PL} (h : PB w g 48 L) (hc : L.length ≤ c) : PT w (some ⟨g, 0, none⟩) L.length c L := ⟨h.ps hc, fun ad e => by cases e; exact ⟨_, _, h⟩⟩
theorem PT.drew {w : World} {n c : Nat} {A : Option Addr} {l : PL} (h : PT w A n c l) : PT w.drew A n c l := ⟨h.ps.drew, h.ty⟩
theorem PT.far {w : World} {n c : Nat} {A : Option Addr} {l : PL} (h : PT w A n c l) {p : Addr} (hA : ∀ ad, A = some ad → ad.block ≠ p.block) (u : Value) : PT (w.setCell p u) A n c l :=
  ⟨h.ps.far hA u, fun ad e => by
    obtain ⟨cs, fz, hc⟩ := h.ty ad e
    exact ⟨cs, fz, (Below.heap_setCell w p u ad.block (hA ad e)).trans hc⟩⟩
theorem PT.st4 {w : World} {n c g : Nat} {A : Option Addr} {l : PL} (h : PT w A n c l) (hA : ∀ ad, A = some ad → ad.block ≠ g) (e k v : Int) (b : Bool) : PT (st4 w g e k v b) A n c l :=
  (((h.far (p := ⟨g, 0, none⟩) hA _).far (p := ⟨g, 1, none⟩) hA _).far (p := ⟨g, 2, none⟩) hA _).far (p := ⟨g, 3, none⟩) hA _
def RetPA (l : PL) (a : An) (w : World) (e : Ending) (w' : World) : Prop := ∃ A n c, e = .returned (.tuple #[.slice A n c, anV a]) ∧ PT w' A n c l ∧ Below w.heap.size w w' ∧ ∀ ad, A = some ad → w.heap.size ≤ ad.block
theorem retPA_mk {l : PL} {a : An} {w W : World} {A : Option Addr} {n c : Nat} {e k v : Int} {b : Bool} (h : PT W A n c l) (hb : Below w.heap.size w W) (ha : a = ⟨e, k, v, b⟩) (hA : ∀ ad, A = some ad → w.heap.size ≤ ad.block) : RetPA l a w (.returned (.tuple #[.slice A n c, .agg #[I e, I k, I v, .bool b]])) W := by
  subst ha
  exact ⟨A, n, c, rfl, h, hb, hA⟩

set_option maxRecDepth 100000 in
set_option maxHeartbeats 1000000 in
theorem put_has (A : Option Addr) (n c : Nat) (l : PL) (key v : Int) (w : World) (h : PS w A n c l) (hn : n ≤ 200) (hh : hasB l (cnt l key) key = true) :
    Calls Tryz.prog 124 #[.slice A n c, I key, I v] w (RetPA (putL l key v) (putA l key) w) := by
  have H := Lib.hid h
  have Hlen := Lib.hid h.len
  clear h
  have hkl := hasB_lt hh
  have hlt : cnt l key < n := by have := Hlen.out; omega
  have HF : Hid (putL l key v = l.set (cnt l key) (key, v) ∧ putA l key = ⟨0, 0, 0, true⟩) := by show _ ∧ _; simp [putL, putA, hh]
  have HK : Hid (l[cnt l key].1 = key) := hasB_key hh
  have HH := Lib.hid hh
  clear hh
  go_enter Tryz.func124, Tryz.ntmps124
  go_wp2_with fail
  refine (countBelow_any _ n c l key _ (H.out.alloc _) (by omega)).mono ?_
  rintro e w' ⟨rfl, rfl⟩
  go_wp2_with fail
  refine (hasAt_t _ n c (cnt l key) l key _ (H.out.alloc _) (by omega) (by omega) HH.out).mono ?_
  rintro e w' ⟨rfl, rfl⟩
  go_wp2_with fail
  refine (copyOf_any _ n c l _ (H.out.alloc _) (by omega)).mono ?_
  rintro e w2 ⟨rfl, hpb, hb⟩
  have hab : AB w2 w.heap.size := (AB.new w).below hb (by simp)
  obtain ⟨⟨a0, a1, a2, a3⟩, f0, f1, f2, f3⟩ := hab.facts
  have hbw : Below w.heap.size w w2 := ((Below.refl _ _).alloc (Nat.le_refl _) _).trans (hb.mono (by simp))
  have hps := hpb.set1 (cnt l key) v hkl
  have hpc : w2.cell? ⟨w.heap.size + 1, cnt l key * 2 + 1, none⟩ = some (I l[cnt l key].2) := by
    have := hpb.cell (cnt l key * 2 + 1)
    rw [(flat_at l _ hkl).2] at this
    simpa using this
  have hpf : w2.frozen? ⟨w.heap.size + 1, cnt l key * 2 + 1, none⟩ = false := by simpa using hpb.frozen (cnt l key * 2 + 1)
  have HP : Hid (PB (w2.setCell ⟨w.heap.size + 1, cnt l key * 2 + 1, none⟩ (I v)) (w.heap.size + 1) 48 (l.set (cnt l key) (l[cnt l key].1, v))) := by
    show PB _ _ _ _
    simpa using hps
  have HB := Lib.hid hbw
  clear hps hbw hpb hb hab
  go_wp2
  refine bodyPost_ret (v := .tuple #[.slice (some ⟨w.heap.size + 1, 0, none⟩) n n, anV ⟨0, 0, 0, true⟩]) (by simp [results, Tryz.results124, go_sem, a0, a1, a2, a3]) rfl ?_
  have hp := (HP.out.st4 (g' := w.heap.size) (by omega) 0 0 0 true).pt (c := n) (by rw [List.length_set, Hlen.out]; exact Nat.le_refl _)
  rw [List.length_set, Hlen.out, HK.out, ← HF.out.1] at hp
  exact retPA_mk hp (below_st4 (HB.out.setCell (by simp) _) (Nat.le_refl _) _ _ _ _) HF.out.2 (fun ad h => by cases h; simp)

set_option maxRecDepth 100000 in
set_option maxHeartbeats 1000000 in
theorem put_full (A : Option Addr) (n c : Nat) (l : PL) (key v : Int) (w : World) (h : PS w A n c l) (hn : n ≤ 200) (hh : hasB l (cnt l key) key = false) (hfull : 200 ≤ n) :
    Calls Tryz.prog 124 #[.slice A n c, I key, I v] w (RetPA (putL l key v) (putA l key) w) := by
  have H := Lib.hid h
  have Hlen := Lib.hid h.len
  clear h
  have hcn : cnt l key ≤ n := by have := cnt_le l key; rw [Hlen.out] at this; exact this
  have HF : Hid (putL l key v = l ∧ putA l key = ⟨2, 0, 0, false⟩) := by show _ ∧ _; have := Hlen.out; simp [putL, putA, hh, this, hfull]
  have HH := Lib.hid hh
  clear hh
  go_enter Tryz.func124, Tryz.ntmps124
  go_wp2_with fail
  refine (countBelow_any _ n c l key _ (H.out.alloc _) (by omega)).mono ?_
  rintro e w' ⟨rfl, rfl⟩
  go_wp2_with fail
  refine (hasAt_f _ n c (cnt l key) l key _ (H.out.alloc _) (by omega) (by omega) HH.out).mono ?_
  rintro e w' ⟨rfl, rfl⟩
  go_wp2_with fail
  refine (copyOf_any _ n c l _ (H.out.alloc _) (by omega)).mono ?_
  rintro e w2 ⟨rfl, hpb, hb⟩
  have hab : AB w2 w.heap.size := (AB.new w).below hb (by simp)
  obtain ⟨⟨a0, a1, a2, a3⟩, f0, f1, f2, f3⟩ := hab.facts
  have hbw : Below w.heap.size w w2 := ((Below.refl _ _).alloc (Nat.le_refl _) _).trans (hb.mono (by simp))
  have HP : Hid (PB w2 (w.heap.size + 1) 48 l) := by
    show PB _ _ _ _
    simpa using hpb
  have HB := Lib.hid hbw
  clear hbw hpb hb hab
  go_wp2
  refine bodyPost_ret (v := .tuple #[.slice (some ⟨w.heap.size + 1, 0, none⟩) n n, anV ⟨2, 0, 0, false⟩]) (by simp [results, Tryz.results124, go_sem, a0, a1, a2, a3]) rfl ?_
  have hp := (HP.out.st4 (g' := w.heap.size) (by omega) 2 0 0 false).pt (c := n) (by rw [Hlen.out]; exact Nat.le_refl _)
  rw [Hlen.out, ← HF.out.1] at hp
  exact retPA_mk hp (below_st4 HB.out (Nat.le_refl _) _ _ _ _) HF.out.2 (fun ad h => by cases h; simp)

set_option maxRecDepth 100000 in
set_option maxHeartbeats 1000000 in
theorem put_new (A : Option Addr) (n c : Nat) (l : PL) (key v : Int) (w : World) (h : PS w A n c l) (hn : n < 200) (hh : hasB l (cnt l key) key = false) :
    Calls Tryz.prog 124 #[.slice A n c, I key, I v] w (RetPA (putL l key v) (putA l key) w) := by
  have hmk := fun W => run_makeP (P := Tryz.prog) 33 48 Tryz.underlying33 pair_info (n + 1) (by omega) W
  rw [show ((n + 1 : Nat) : Int) = (n : Int) + 1 by omega] at hmk
  have H := Lib.hid h
  have Hlen := Lib.hid h.len
  have hnc : n ≤ c := h.rd.1
  clear h
  have hcn : cnt l key ≤ n := by have := cnt_le l key; rw [Hlen.out] at this; exact this
  have hcc : cnt l key ≤ c := by omega
  have HF : Hid (putL l key v = l.take (cnt l key) ++ (key, v) :: l.drop (cnt l key) ∧ putA l key = ⟨0, 0, 0, false⟩) := by
    show _ ∧ _
    have := Hlen.out
    simp [putL, putA, hh, this]
    omega
  have HH := Lib.hid hh
  clear hh
  generalize hp : cnt l key = p at *
  have HPE := Lib.hid hp
  clear hp
  have hbw : Below w.heap.size w (w.alloc ansO) := (Below.refl _ _).alloc (Nat.le_refl _) _
  have hbw2 : Below w.heap.size w ((w.alloc ansO).alloc (.cells (flat (List.replicate (n + 1) (0, 0))).toArray 48)) := hbw.alloc (by simp) _
  go_enter Tryz.func124, Tryz.ntmps124
  go_wp2_with fail
  refine (countBelow_any _ n c l key _ (H.out.alloc _) (by omega)).mono ?_
  rintro e w' ⟨rfl, rfl⟩
  rw [HPE.out]
  go_wp2_with fail
  refine (hasAt_f _ n c p l key _ (H.out.alloc _) (by omega) (by omega) HH.out).mono ?_
  rintro e w' ⟨rfl, rfl⟩
  go_wp2_with (with_reducible refine wpList_copyP rfl (.tmp 37) (.tmp 40) 33 rfl 48 Tryz.underlying33 pair_size (some ⟨w.heap.size + 1, 0, none⟩) A (n + 1) (n + 1) p c rfl rfl (w.heap.size + 1) 0 48 (List.replicate (n + 1) (0, 0)) (l.take p) (by simpa using PB.new (w.alloc ansO) 48 (List.replicate (n + 1) (0, 0))) ((H.out.below hbw2).srcTake p hcn) (by simp) (fun _ => rfl) ?_)
  intro w1 hp1 hb1
  rw [show p.min (n + 1) = p from Nat.min_eq_left (by omega)] at hp1 ⊢
  have hab : AB w1 w.heap.size := ((AB.new w).below (B := w.heap.size + 1) ((Below.refl _ _).alloc (by simp) _) (by simp)).below (hb1 _ (Nat.le_refl _)) (by simp)
  obtain ⟨⟨a0, a1, a2, a3⟩, f0, f1, f2, f3⟩ := hab.facts
  have hbx : Below w.heap.size w w1 := hbw2.trans (hb1 _ (by simp))
  have hcl : p < (cop (List.replicate (n + 1) ((0 : Int), (0 : Int))) 0 (l.take p) p).length := by have := Hlen.out; simp [cop]; omega
  have hc0 : ∃ x, w1.cell? ⟨w.heap.size + 1, p * 2, none⟩ = some x := ⟨_, (hp1.cell _).trans (flat_at _ p hcl).1⟩
  have hc1 : ∃ x, w1.cell? ⟨w.heap.size + 1, p * 2 + 1, none⟩ = some x := ⟨_, (hp1.cell _).trans (flat_at _ p hcl).2⟩
  obtain ⟨x0, hx0⟩ := hc0
  obtain ⟨x1, hx1⟩ := hc1
  have hf0 := hp1.frozen (p * 2)
  have hf1 := hp1.frozen (p * 2 + 1)
  have HP2 := Lib.hid (hp1.set2 p key v hcl)
  have HBX := Lib.hid hbx
  have HAB := Lib.hid hab
  clear hp1 hb1 hab hbx hbw hbw2 hmk
  go_wp2
  obtain ⟨w3, hw3⟩ : ∃ w3, w3 = (w1.setCell ⟨w.heap.size + 1, p * 2, none⟩ (I key)).setCell ⟨w.heap.size + 1, p * 2 + 1, none⟩ (I v) := ⟨_, rfl⟩
  have hp3 := HP2.out
  have hb3 : Below w.heap.size w ((w1.setCell ⟨w.heap.size + 1, p * 2, none⟩ (I key)).setCell ⟨w.heap.size + 1, p * 2 + 1, none⟩ (I v)) := (HBX.out.setCell (by simp) _).setCell (by simp) _
  have hab3 : AB ((w1.setCell ⟨w.heap.size + 1, p * 2, none⟩ (I key)).setCell ⟨w.heap.size + 1, p * 2 + 1, none⟩ (I v)) w.heap.size := (HAB.out.far (p := ⟨w.heap.size + 1, p * 2, none⟩) (by simp) _).far (p := ⟨w.heap.size + 1, p * 2 + 1, none⟩) (by simp) _
  rw [← hw3] at hp3 hb3 hab3 ⊢
  clear hw3 HP2 HBX HAB a0 a1 a2 a3 f0 f1 f2 f3 hx0 hx1 hf0 hf1
  have HP3 := Lib.hid hp3
  have HB3 := Lib.hid hb3
  have HAB3 := Lib.hid hab3
  clear hp3 hb3 hab3
  have e1 : IntKind.i64.wrap ((p : Int) + 1) = (p : Int) + 1 := IntWalk.i64_in _ (by omega)
  have e2 : (0 : Int) ≤ (p : Int) + 1 := by omega
  have e3 : ((p : Int) + 1).toNat = p + 1 := by omega
  have e4 : (p : Int) + 1 ≤ (n : Int) + 1 := by omega
  go_still_tail 7, (by kernel_rfl)
  change wpList _ _ _ _ _ w3.drew
  generalize hsp : (if c = p then A else Option.map (fun x => Addr.add x (p * 2)) A) = sp
  generalize hdq : (if n = p then some (⟨w.heap.size + 1, 0, none⟩ : Addr) else some ⟨w.heap.size + 1, (p + 1) * 2, none⟩) = dq
  have HSP := Lib.hid hsp
  have HDQ := Lib.hid hdq
  clear hsp hdq
  have hp3 : PB w3.drew (w.heap.size + 1) 48 ((cop (List.replicate (n + 1) (0, 0)) 0 (l.take p) p).set p (key, v)) := HP3.out
  have hb3 : Below w.heap.size w w3.drew := HB3.out.drew
  refine wpList_copyP rfl (.tmp 51) (.tmp 54) 33 rfl 48 Tryz.underlying33 pair_size _ _ _ _ _ _ rfl rfl (w.heap.size + 1) (p + 1) 48 _ (l.drop p) hp3 ?src ?fit ?dp ?_
  case src => exact (H.out.below hb3).srcDrop p hcn _ (fun hlt b off hA => by rw [← HSP.out, if_neg (by omega), hA]; simp [addn])
  case fit => have := Hlen.out; simp [cop]; omega
  case dp => intro h; rw [← HDQ.out, if_neg (by omega)]
  intro w4 hp4 hb4
  rw [show (n - p).min (n - p) = n - p from Nat.min_self _] at hp4 ⊢
  rw [put_rows n p l key v Hlen.out hcn, ← HF.out.1] at hp4
  have hab4 : AB w4 w.heap.size := AB.below (w := w3.drew) HAB3.out (hb4 _ (Nat.le_refl _)) (by simp)
  obtain ⟨⟨a0, a1, a2, a3⟩, f0, f1, f2, f3⟩ := hab4.facts
  have hlen4 : (putL l key v).length = n + 1 := by rw [HF.out.1]; have := Hlen.out; simp; omega
  have HP4 := Lib.hid hp4
  have HB4 := Lib.hid (hb3.trans (hb4 _ (by simp)))
  have HL4 := Lib.hid hlen4
  clear hp4 hb4 hab4 hlen4 hp3 hb3 HP3 HB3 HAB3 e1 e2 e3 e4
  go_wp2
  refine bodyPost_ret (v := .tuple #[.slice (some ⟨w.heap.size + 1, 0, none⟩) (n + 1) (n + 1), anV ⟨0, 0, 0, false⟩]) (by simp [results, Tryz.results124, go_sem, a0, a1, a2, a3]) rfl ?_
  have hp := (HP4.out.st4 (g' := w.heap.size) (by omega) 0 0 0 false).pt (c := n + 1) (by rw [HL4.out]; exact Nat.le_refl _)
  rw [HL4.out] at hp
  exact retPA_mk hp (below_st4 HB4.out (Nat.le_refl _) _ _ _ _) HF.out.2 (fun ad h => by cases h; simp)

set_option maxRecDepth 100000 in
set_option maxHeartbeats 1000000 in
theorem put_any (A : Option Addr) (n c : Nat) (l : PL) (key v : Int) (w : World) (h : PS w A n c l) (hn : n ≤ 200) :
    Calls Tryz.prog 124 #[.slice A n c, I key, I v] w (RetPA (putL l key v) (putA l key) w) := by
  cases hh : hasB l (cnt l key) key with
  | true => exact put_has A n c l key v w h hn hh
  | false =>
    rcases Nat.lt_or_ge n 200 with h1 | h1
    · exact put_new A n c l key v w h h1 hh
    · exact put_full A n c l key v w h hn hh h1

set_option maxRecDepth 100000 in
set_option maxHeartbeats 1000000 in
theorem cut_not (A : Option Addr) (n c : Nat) (l : PL) (key : Int) (w : World) (h : PS w A n c l) (hn : n ≤ 200) (hh : hasB l (cnt l key) key = false) :
    Calls Tryz.prog 125 #[.slice A n c, I key] w (RetPA (cutL l key) (getA l key) w) := by
  have H := Lib.hid h
  have Hlen := Lib.hid h.len
  clear h
  have hcn : cnt l key ≤ n := by have := cnt_le l key; rw [Hlen.out] at this; exact this
  have HF : Hid (cutL l key = l ∧ getA l key = ⟨0, 0, 0, false⟩) := by show _ ∧ _; simp [cutL, getA, hh]
  have HH := Lib.hid hh
  clear hh
  go_enter Tryz.func125, Tryz.ntmps125
  go_wp2_with fail
  refine (countBelow_any _ n c l key _ (H.out.alloc _) (by omega)).mono ?_
  rintro e w' ⟨rfl, rfl⟩
  go_wp2_with fail
  refine (hasAt_f _ n c (cnt l key) l key _ (H.out.alloc _) (by omega) (by omega) HH.out).mono ?_
  rintro e w' ⟨rfl, rfl⟩
  go_wp2_with fail
  refine (copyOf_any _ n c l _ (H.out.alloc _) (by omega)).mono ?_
  rintro e w2 ⟨rfl, hpb, hb⟩
  have hab : AB w2 w.heap.size := (AB.new w).below hb (by simp)
  obtain ⟨⟨a0, a1, a2, a3⟩, f0, f1, f2, f3⟩ := hab.facts
  have hbw : Below w.heap.size w w2 := ((Below.refl _ _).alloc (Nat.le_refl _) _).trans (hb.mono (by simp))
  have HP : Hid (PB w2 (w.heap.size + 1) 48 l) := by
    show PB _ _ _ _
    simpa using hpb
  have HB := Lib.hid hbw
  clear hbw hpb hb hab
  go_wp2
  refine bodyPost_ret (v := .tuple #[.slice (some ⟨w.heap.size + 1, 0, none⟩) n n, anV ⟨0, 0, 0, false⟩]) (by simp [results, Tryz.results125, go_sem, a0, a1, a2, a3]) rfl ?_
  have hp := (HP.out.st4 (g' := w.heap.size) (by omega) 0 0 0 false).pt (c := n) (by rw [Hlen.out]; exact Nat.le_refl _)
  rw [Hlen.out, ← HF.out.1] at hp
  exact retPA_mk hp (below_st4 HB.out (Nat.le_refl _) _ _ _ _) HF.out.2 (fun ad h => by cases h; simp)

set_option maxRecDepth 100000 in
set_option maxHeartbeats 1000000 in
theorem cut_has (A : Option Addr) (n c : Nat) (l : PL) (key : Int) (w : World) (h : PS w A n c l) (hn : n ≤ 200) (hh : hasB l (cnt l key) key = true) :
    Calls Tryz.prog 125 #[.slice A n c, I key] w (RetPA (cutL l key) (getA l key) w) := by
  have hkl := hasB_lt hh
  have hpn : cnt l key < n := by have := h.len; omega
  have hmk := fun W => run_makeP (P := Tryz.prog) 33 48 Tryz.underlying33 pair_info (n - 1) (by omega) W
  rw [show ((n - 1 : Nat) : Int) = (n : Int) - 1 by omega] at hmk
  have H := Lib.hid h
  have Hlen := Lib.hid h.len
  have hnc : n ≤ c := h.rd.1
  obtain ⟨b, off, rfl, hbl, hcell⟩ := h.at_ (by omega)
  obtain ⟨x, hx⟩ : ∃ x, (l[cnt l key]'hkl).2 = x := ⟨_, rfl⟩
  have HC : Hid (w.cell? ⟨b, off + (cnt l key * 2 + 1), none⟩ = some (I x)) := by rw [← hx]; exact (hcell (cnt l key) hpn).2
  clear h hcell
  have HF : Hid (cutL l key = l.take (cnt l key) ++ l.drop (cnt l key + 1) ∧ getA l key = ⟨0, 0, x, true⟩) := by
    show _ ∧ _
    simp [cutL, getA, hh, List.getElem?_eq_getElem hkl, hx]
  clear hx
  have HH := Lib.hid hh
  clear hh
  generalize hp : cnt l key = p at *
  have HPE := Lib.hid hp
  clear hp
  have hbw : Below w.heap.size w (w.alloc ansO) := (Below.refl _ _).alloc (Nat.le_refl _) _
  have hbw2 : Below w.heap.size w ((w.alloc ansO).alloc (.cells (flat (List.replicate (n - 1) (0, 0))).toArray 48)) := hbw.alloc (by simp) _
  go_enter Tryz.func125, Tryz.ntmps125
  go_wp2_with fail
  refine (countBelow_any _ n c l key _ (H.out.alloc _) (by omega)).mono ?_
  rintro e w' ⟨rfl, rfl⟩
  rw [HPE.out]
  go_wp2_with fail
  refine (hasAt_t _ n c p l key _ (H.out.alloc _) (by omega) (by omega) HH.out).mono ?_
  rintro e w' ⟨rfl, rfl⟩
  go_wp2_with (with_reducible refine wpList_copyP rfl (.tmp 23) (.tmp 26) 33 rfl 48 Tryz.underlying33 pair_size (some ⟨w.heap.size + 1, 0, none⟩) (some ⟨b, off, none⟩) (n - 1) (n - 1) p c rfl rfl (w.heap.size + 1) 0 48 (List.replicate (n - 1) (0, 0)) (l.take p) (by simpa using PB.new (w.alloc ansO) 48 (List.replicate (n - 1) (0, 0))) ((H.out.below hbw2).srcTake p (by omega)) (by simp) (fun _ => rfl) ?_)
  intro w1 hp1 hb1
  rw [show p.min (n - 1) = p from Nat.min_eq_left (by omega)] at hp1 ⊢
  have hab : AB w1 w.heap.size := ((AB.new w).below (B := w.heap.size + 1) ((Below.refl _ _).alloc (by simp) _) (by simp)).below (hb1 _ (Nat.le_refl _)) (by simp)
  have hbx : Below w.heap.size w w1 := hbw2.trans (hb1 _ (by simp))
  have HP1 := Lib.hid hp1
  have HBX := Lib.hid hbx
  have HAB := Lib.hid hab
  clear hp1 hb1 hab hbx hbw hbw2 hmk
  go_wp2
  have e1 : IntKind.i64.wrap ((p : Int) + 1) = (p : Int) + 1 := IntWalk.i64_in _ (by omega)
  have e2 : (0 : Int) ≤ (p : Int) + 1 := by omega
  have e3 : ((p : Int) + 1).toNat = p + 1 := by omega
  have e4 : (p : Int) + 1 ≤ (n : Int) := by omega
  have e5 : p ≤ n - 1 := by omega
  have e6 : (p : Int) ≤ ((n - 1 : Nat) : Int) := by omega
  go_still_tail 7, (by kernel_rfl)
  change wpList _ _ _ _ _ w1.drew
  generalize hsp : (if c = p + 1 then some (⟨b, off, none⟩ : Addr) else some ⟨b, off + (p + 1) * 2, none⟩) = sp
  generalize hdq : (if n - 1 = p then some (⟨w.heap.size + 1, 0, none⟩ : Addr) else some ⟨w.heap.size + 1, p * 2, none⟩) = dq
  have HSP := Lib.hid hsp
  have HDQ := Lib.hid hdq
  clear hsp hdq
  have hp3 : PB w1.drew (w.heap.size + 1) 48 (cop (List.replicate (n - 1) (0, 0)) 0 (l.take p) p) := HP1.out
  have hb3 : Below w.heap.size w w1.drew := HBX.out.drew
  refine wpList_copyP rfl (.tmp 30) (.tmp 34) 33 rfl 48 Tryz.underlying33 pair_size _ _ _ _ _ _ rfl rfl (w.heap.size + 1) p 48 _ (l.drop (p + 1)) hp3 ?src ?fit ?dp ?_
  case src => exact (H.out.below hb3).srcDrop (p + 1) (by omega) _ (fun hlt b' off' hA => by rw [← HSP.out, if_neg (by omega)]; simp at hA; simp [hA])
  case fit => have := Hlen.out; simp [cop]; omega
  case dp => intro h; rw [← HDQ.out, if_neg (by omega)]
  intro w4 hp4 hb4
  rw [show (n - (p + 1)).min (n - 1 - p) = n - 1 - p from Nat.min_eq_right (by omega)] at hp4 ⊢
  rw [cut_rows n p l Hlen.out hpn, ← HF.out.1] at hp4
  have hab4 : AB w4 w.heap.size := AB.below (w := w1.drew) HAB.out (hb4 _ (Nat.le_refl _)) (by simp)
  obtain ⟨⟨a0, a1, a2, a3⟩, f0, f1, f2, f3⟩ := hab4.facts
  have hlen4 : (cutL l key).length = n - 1 := by rw [HF.out.1]; have := Hlen.out; simp; omega
  have hb5 : Below w.heap.size w w4 := hb3.trans (hb4 _ (by simp))
  have hcx : w4.cell? ⟨b, off + p * 2 + 1, none⟩ = some (I x) := (hb5.cell (by exact hbl)).trans HC.out
  have HP4 := Lib.hid hp4
  have HB4 := Lib.hid hb5
  have HL4 := Lib.hid hlen4
  clear hp4 hb4 hab4 hlen4 hp3 hb3 HP1 HBX HAB e1 e2 e3 e4 e5 e6 hb5
  go_wp2
  go_region
  all_goals go_wp2
  refine bodyPost_ret (v := .tuple #[.slice (some ⟨w.heap.size + 1, 0, none⟩) (n - 1) (n - 1), anV ⟨0, 0, x, true⟩]) (by simp [results, Tryz.results125, go_sem, a0, a1, a2, a3]) rfl ?_
  have hp := (HP4.out.st4 (g' := w.heap.size) (by omega) 0 0 x true).pt (c := n - 1) (by rw [HL4.out]; exact Nat.le_refl _)
  rw [HL4.out] at hp
  exact retPA_mk hp.drew (below_st4 HB4.out (Nat.le_refl _) _ _ _ _).drew HF.out.2 (fun ad h => by cases h; simp)

set_option maxRecDepth 100000 in
set_option maxHeartbeats 1000000 in
theorem cut_any (A : Option Addr) (n c : Nat) (l : PL) (key : Int) (w : World) (h : PS w A n c l) (hn : n ≤ 200) :
    Calls Tryz.prog 125 #[.slice A n c, I key] w (RetPA (cutL l key) (getA l key) w) := by
  cases hh : hasB l (cnt l key) key with
  | true => exact cut_has A n c l key w h hn hh
  | false => exact cut_not A n c l key w h hn hh

set_option maxRecDepth 100000 in
set_option maxHeartbeats 1000000 in
theorem Do_bad (A : Option Addr) (n c : Nat) (l : PL) (kind key val : Int) (w : World) (h : PS w A n c l) (hn : n ≤ 9223372036854775807) (hc : chk l ≠ 0) :
    Calls Tryz.prog 58 #[.slice A n c, .agg #[I kind, I key, I val]] w (RetPA (doL l kind key val) (doA l kind key) w) := by
  have H := Lib.hid h
  clear h
  have HF : Hid (doL l kind key val = [] ∧ doA l kind key = ⟨chk l, 0, 0, false⟩) := by show _ ∧ _; simp [doL, doA, hc]
  have hne : (chk l != 0) = true := by simpa using hc
  clear hc
  generalize hE : chk l = E at *
  have HE := Lib.hid hE
  clear hE
  go_enter Tryz.func58, Tryz.ntmps58
  go_wp2_with fail
  refine (Check_is A n c l _ (H.out.below (w0_below w kind key val)) hn E HE.out).mono ?_
  rintro e w2 ⟨rfl, hb⟩
  have hsz := w0_size w kind key val
  have hab : AB w2 (w.heap.size + 1) := (w0_ab w kind key val).below hb (by omega)
  obtain ⟨⟨a0, a1, a2, a3⟩, f0, f1, f2, f3⟩ := hab.facts
  have HB2 := Lib.hid ((w0_below w kind key val).trans (hb.mono (by omega)))
  clear hb hab hsz
  go_wp2
  refine bodyPost_ret (v := .tuple #[.slice none 0 0, anV ⟨E, 0, 0, false⟩]) (by simp [results, Tryz.results58, go_sem, a0, a1, a2, a3]) rfl ?_
  rw [HF.out.1]
  exact retPA_mk ⟨⟨rfl, Rd.none_⟩, fun ad h => by cases h⟩ (below_st4 HB2.out (by simp) _ _ _ _) HF.out.2 (fun ad h => by cases h)

set_option maxRecDepth 100000 in
set_option maxHeartbeats 1000000 in
theorem Do_noop (A : Option Addr) (n c : Nat) (l : PL) (kind key val : Int) (w : World) (h : PS w A n c l) (hc : chk l = 0) (ho : opB kind key = false) :
    Calls Tryz.prog 58 #[.slice A n c, .agg #[I kind, I key, I val]] w (RetPA (doL l kind key val) (doA l kind key) w) := by
  have hn : n ≤ 200 := by have := chk_len hc; rw [h.len] at this; exact this
  have H := Lib.hid h
  clear h
  have HF : Hid (doL l kind key val = l ∧ doA l kind key = ⟨1, 0, 0, false⟩) := by show _ ∧ _; simp [doL, doA, hc, ho]
  have HE := Lib.hid hc
  have HO := Lib.hid ho
  clear hc ho
  go_enter Tryz.func58, Tryz.ntmps58
  go_wp2_with fail
  refine (Check_is A n c l _ (H.out.below (w0_below w kind key val)) (by omega) 0 HE.out).mono ?_
  rintro e w2 ⟨rfl, hb⟩
  have hsz := w0_size w kind key val
  have hab : AB w2 (w.heap.size + 1) := (w0_ab w kind key val).below hb (by omega)
  have hob : OB w2 w.heap.size kind key val := (w0_ob w kind key val).below hb (by omega)
  have hbw : Below w.heap.size w w2 := (w0_below w kind key val).trans (hb.mono (by omega))
  obtain ⟨o0, o1, o2⟩ := hob.facts
  have HSZ : Hid (w.heap.size + 2 ≤ w2.heap.size) := by have := hb.size; show _ ≤ _; omega
  have HAB := Lib.hid hab
  have HB2 := Lib.hid hbw
  clear hb hab hsz hob hbw
  go_wp2_with fail
  refine (isOp_f kind key val _ HO.out).mono ?_
  rintro e w3 ⟨rfl, hb⟩
  have hab : AB w3 (w.heap.size + 1) := HAB.out.below hb (by have := HSZ.out; omega)
  have hbw : Below w.heap.size w w3 := HB2.out.trans (hb.mono (by have := HSZ.out; omega))
  have HSZ3 : Hid (w.heap.size + 2 ≤ w3.heap.size) := by have := hb.size; have := HSZ.out; show _ ≤ _; omega
  have HAB3 := Lib.hid hab
  have HB3 := Lib.hid hbw
  clear hb hab hbw o0 o1 o2
  go_wp2_with fail
  refine (copyOf_any _ n c l _ (H.out.below HB3.out) (by omega)).mono ?_
  rintro e w4 ⟨rfl, hpb, hb⟩
  have hab : AB w4 (w.heap.size + 1) := HAB3.out.below hb (by have := HSZ3.out; omega)
  obtain ⟨⟨a0, a1, a2, a3⟩, f0, f1, f2, f3⟩ := hab.facts
  have HB4 := Lib.hid (HB3.out.trans (hb.mono (by have := HSZ3.out; omega)))
  have HP := Lib.hid hpb
  clear hb hab hpb
  go_wp2
  refine bodyPost_ret (v := .tuple #[.slice (some ⟨w3.heap.size, 0, none⟩) n n, anV ⟨1, 0, 0, false⟩]) (by simp [results, Tryz.results58, go_sem, a0, a1, a2, a3]) rfl ?_
  have hp := (HP.out.st4 (g' := w.heap.size + 1) (by have := HSZ3.out; omega) 1 0 0 false).pt (c := n) (by rw [H.out.len]; exact Nat.le_refl _)
  rw [H.out.len] at hp
  rw [HF.out.1]
  exact retPA_mk hp (below_st4 HB4.out (by simp) _ _ _ _) HF.out.2 (fun ad h => by cases h; have := HSZ3.out; show w.heap.size ≤ w3.heap.size; omega)

set_option maxRecDepth 100000 in
set_option maxHeartbeats 1000000 in
theorem Do_put (A : Option Addr) (n c : Nat) (l : PL) (key val : Int) (w : World) (h : PS w A n c l) (hc : chk l = 0) (ho : opB 1 key = true) :
    Calls Tryz.prog 58 #[.slice A n c, .agg #[I 1, I key, I val]] w (RetPA (doL l 1 key val) (doA l 1 key) w) := by
  have hn : n ≤ 200 := by have := chk_len hc; rw [h.len] at this; exact this
  have H := Lib.hid h
  clear h
  have HF : Hid (doL l 1 key val = putL l key val ∧ doA l 1 key = putA l key) := by show _ ∧ _; simp [doL, doA, hc, ho]
  have HE := Lib.hid hc
  have HO := Lib.hid ho
  clear hc ho
  go_enter Tryz.func58, Tryz.ntmps58
  go_wp2_with fail
  refine (Check_is A n c l _ (H.out.below (w0_below w 1 key val)) (by omega) 0 HE.out).mono ?_
  rintro e w2 ⟨rfl, hb⟩
  have hsz := w0_size w 1 key val
  have hab : AB w2 (w.heap.size + 1) := (w0_ab w 1 key val).below hb (by omega)
  have hob : OB w2 w.heap.size 1 key val := (w0_ob w 1 key val).below hb (by omega)
  have hbw : Below w.heap.size w w2 := (w0_below w 1 key val).trans (hb.mono (by omega))
  obtain ⟨o0, o1, o2⟩ := hob.facts
  have HSZ : Hid (w.heap.size + 2 ≤ w2.heap.size) := by have := hb.size; show _ ≤ _; omega
  have HAB := Lib.hid hab
  have HOB := Lib.hid hob
  have HB2 := Lib.hid hbw
  clear hb hab hsz hob hbw
  go_wp2_with fail
  refine (isOp_t 1 key val _ HO.out).mono ?_
  rintro e w3 ⟨rfl, hb⟩
  have hab : AB w3 (w.heap.size + 1) := HAB.out.below hb (by have := HSZ.out; omega)
  have hob : OB w3 w.heap.size 1 key val := HOB.out.below hb (by have := HSZ.out; omega)
  have hbw : Below w.heap.size w w3 := HB2.out.trans (hb.mono (by have := HSZ.out; omega))
  have HSZ3 : Hid (w.heap.size + 2 ≤ w3.heap.size) := by have := hb.size; have := HSZ.out; show _ ≤ _; omega
  have HAB3 := Lib.hid hab
  have HOB3 := Lib.hid hob
  have HB3 := Lib.hid hbw
  clear o0 o1 o2
  obtain ⟨o0, o1, o2⟩ := hob.facts
  clear hb hab hob hbw
  go_wp2_with fail
  refine (put_any _ n c l key val _ (H.out.below HB3.out) hn).mono ?_
  rintro e w4 ⟨A', n', c', rfl, hps, hb, hA⟩
  have hab : AB w4 (w.heap.size + 1) := HAB3.out.below hb (by have := HSZ3.out; omega)
  obtain ⟨⟨a0, a1, a2, a3⟩, f0, f1, f2, f3⟩ := hab.facts
  have HB4 := Lib.hid (HB3.out.trans (hb.mono (by have := HSZ3.out; omega)))
  have HP := Lib.hid hps
  have HA := Lib.hid hA
  clear hb hab hps hA
  go_wp2
  refine bodyPost_ret (v := .tuple #[.slice A' n' c', anV (putA l key)]) (by simp [results, Tryz.results58, go_sem, a0, a1, a2, a3]) rfl ?_
  rw [HF.out.1]
  refine retPA_mk (e := (putA l key).e) (HP.out.st4 (fun ad h => ?_) _ _ _ _) (below_st4 HB4.out (by simp) _ _ _ _) HF.out.2 (fun ad h => ?_)
  · have := HA.out ad h; have := HSZ3.out; omega
  · have := HA.out ad h; have := HSZ3.out; omega

set_option maxRecDepth 100000 in
set_option maxHeartbeats 1000000 in
theorem Do_cut (A : Option Addr) (n c : Nat) (l : PL) (key val : Int) (w : World) (h : PS w A n c l) (hc : chk l = 0) (ho : opB 3 key = true) :
    Calls Tryz.prog 58 #[.slice A n c, .agg #[I 3, I key, I val]] w (RetPA (doL l 3 key val) (doA l 3 key) w) := by
  have hn : n ≤ 200 := by have := chk_len hc; rw [h.len] at this; exact this
  have H := Lib.hid h
  clear h
  have HF : Hid (doL l 3 key val = cutL l key ∧ doA l 3 key = getA l key) := by show _ ∧ _; simp [doL, doA, hc, ho]
  have HE := Lib.hid hc
  have HO := Lib.hid ho
  clear hc ho
  go_enter Tryz.func58, Tryz.ntmps58
  go_wp2_with fail
  refine (Check_is A n c l _ (H.out.below (w0_below w 3 key val)) (by omega) 0 HE.out).mono ?_
  rintro e w2 ⟨rfl, hb⟩
  have hsz := w0_size w 3 key val
  have hab : AB w2 (w.heap.size + 1) := (w0_ab w 3 key val).below hb (by omega)
  have hob : OB w2 w.heap.size 3 key val := (w0_ob w 3 key val).below hb (by omega)
  have hbw : Below w.heap.size w w2 := (w0_below w 3 key val).trans (hb.mono (by omega))
  obtain ⟨o0, o1, o2⟩ := hob.facts
  have HSZ : Hid (w.heap.size + 2 ≤ w2.heap.size) := by have := hb.size; show _ ≤ _; omega
  have HAB := Lib.hid hab
  have HOB := Lib.hid hob
  have HB2 := Lib.hid hbw
  clear hb hab hsz hob hbw
  go_wp2_with fail
  refine (isOp_t 3 key val _ HO.out).mono ?_
  rintro e w3 ⟨rfl, hb⟩
  have hab : AB w3 (w.heap.size + 1) := HAB.out.below hb (by have := HSZ.out; omega)
  have hob : OB w3 w.heap.size 3 key val := HOB.out.below hb (by have := HSZ.out; omega)
  have hbw : Below w.heap.size w w3 := HB2.out.trans (hb.mono (by have := HSZ.out; omega))
  have HSZ3 : Hid (w.heap.size + 2 ≤ w3.heap.size) := by have := hb.size; have := HSZ.out; show _ ≤ _; omega
  have HAB3 := Lib.hid hab
  have HOB3 := Lib.hid hob
  have HB3 := Lib.hid hbw
  clear o0 o1 o2
  obtain ⟨o0, o1, o2⟩ := hob.facts
  clear hb hab hob hbw
  go_wp2_with fail
  refine (cut_any _ n c l key _ (H.out.below HB3.out) hn).mono ?_
  rintro e w4 ⟨A', n', c', rfl, hps, hb, hA⟩
  have hab : AB w4 (w.heap.size + 1) := HAB3.out.below hb (by have := HSZ3.out; omega)
  obtain ⟨⟨a0, a1, a2, a3⟩, f0, f1, f2, f3⟩ := hab.facts
  have HB4 := Lib.hid (HB3.out.trans (hb.mono (by have := HSZ3.out; omega)))
  have HP := Lib.hid hps
  have HA := Lib.hid hA
  clear hb hab hps hA
  go_wp2
  refine bodyPost_ret (v := .tuple #[.slice A' n' c', anV (getA l key)]) (by simp [results, Tryz.results58, go_sem, a0, a1, a2, a3]) rfl ?_
  rw [HF.out.1]
  refine retPA_mk (e := (getA l key).e) (HP.out.st4 (fun ad h => ?_) _ _ _ _) (below_st4 HB4.out (by simp) _ _ _ _) HF.out.2 (fun ad h => ?_)
  · have := HA.out ad h; have := HSZ3.out; omega
  · have := HA.out ad h; have := HSZ3.out; omega

set_option maxRecDepth 100000 in
set_option maxHeartbeats 1000000 in
theorem Do_look (A : Option Addr) (n c : Nat) (l : PL) (kind key val : Int) (w : World) (h : PS w A n c l) (hc : chk l = 0) (ho : opB kind key = true) (h1 : kind ≠ 1) (h3 : kind ≠ 3) :
    Calls Tryz.prog 58 #[.slice A n c, .agg #[I kind, I key, I val]] w (RetPA (doL l kind key val) (doA l kind key) w) := by
  have hn : n ≤ 200 := by have := chk_len hc; rw [h.len] at this; exact this
  have H := Lib.hid h
  clear h
  have HF : Hid (doL l kind key val = l ∧ doA l kind key = lookA l kind key) := by show _ ∧ _; simp [doL, doA, hc, ho, h1, h3]
  have HE := Lib.hid hc
  have HO := Lib.hid ho
  clear hc ho
  go_enter Tryz.func58, Tryz.ntmps58
  go_wp2_with fail
  refine (Check_is A n c l _ (H.out.below (w0_below w kind key val)) (by omega) 0 HE.out).mono ?_
  rintro e w2 ⟨rfl, hb⟩
  have hsz := w0_size w kind key val
  have hab : AB w2 (w.heap.size + 1) := (w0_ab w kind key val).below hb (by omega)
  have hob : OB w2 w.heap.size kind key val := (w0_ob w kind key val).below hb (by omega)
  have hbw : Below w.heap.size w w2 := (w0_below w kind key val).trans (hb.mono (by omega))
  obtain ⟨o0, o1, o2⟩ := hob.facts
  have HSZ : Hid (w.heap.size + 2 ≤ w2.heap.size) := by have := hb.size; show _ ≤ _; omega
  have HAB := Lib.hid hab
  have HOB := Lib.hid hob
  have HB2 := Lib.hid hbw
  clear hb hab hsz hob hbw
  go_wp2_with fail
  refine (isOp_t kind key val _ HO.out).mono ?_
  rintro e w3 ⟨rfl, hb⟩
  have hab : AB w3 (w.heap.size + 1) := HAB.out.below hb (by have := HSZ.out; omega)
  have hob : OB w3 w.heap.size kind key val := HOB.out.below hb (by have := HSZ.out; omega)
  have hbw : Below w.heap.size w w3 := HB2.out.trans (hb.mono (by have := HSZ.out; omega))
  have HSZ3 : Hid (w.heap.size + 2 ≤ w3.heap.size) := by have := hb.size; have := HSZ.out; show _ ≤ _; omega
  have HAB3 := Lib.hid hab
  have HOB3 := Lib.hid hob
  have HB3 := Lib.hid hbw
  clear o0 o1 o2
  obtain ⟨o0, o1, o2⟩ := hob.facts
  clear hb hab hob hbw
  have g1 : (kind == 1) = false := beq_eq_false_iff_ne.2 h1
  have g3 : (kind == 3) = false := beq_eq_false_iff_ne.2 h3
  have hk : (0 ≤ key ∧ key ≤ 1000000) ∨ (kind = 6 ∨ kind = 7) := by
    have := HO.out
    unfold opB at this
    split at this
    · left; simpa [keyB] using this
    · right; simpa using this
  have HK := Lib.hid hk
  clear h1 h3 hk
  go_wp2
  have hs0 : PS w3.drew A n c l := (H.out.below HB3.out).drew
  have HS0 := Lib.hid hs0
  clear hs0
  go_region_with
    (first
      | (go_at_call 123
         refine (copyOf_any _ n c l _ HS0.out (by omega)).mono ?_
         rintro e w4 ⟨rfl, hpb, hb⟩
         have hab4 : AB w4 (w.heap.size + 1) := AB.below (w := w3.drew) HAB3.out hb (by have := HSZ3.out; show w.heap.size + 1 < w3.heap.size; omega)
         have hob4 : OB w4 w.heap.size kind key val := OB.below (w := w3.drew) HOB3.out hb (by have := HSZ3.out; show w.heap.size < w3.heap.size; omega)
         have hbw4 : Below w.heap.size w w4 := HB3.out.drew.trans (hb.mono (by have := HSZ3.out; show w.heap.size ≤ w3.heap.size; omega))
         obtain ⟨q0, q1, q2⟩ := hob4.facts
         have HP4 := Lib.hid hpb
         have HAB4 := Lib.hid hab4
         have HB4 := Lib.hid hbw4
         have HSZ4 : Hid (w3.heap.size < w4.heap.size) := hpb.lt
         have HOB4 := Lib.hid hob4
         clear hab4 hob4 hbw4 hpb hb)
      | (go_at_call 126
         refine (look_any _ n c l kind key val _ (H.out.below HB4.out) hn HK.out).mono ?_
         rintro e w5 ⟨rfl, hb⟩
         have hab5 : AB w5 (w.heap.size + 1) := HAB4.out.below hb (by have := HSZ3.out; have := HSZ4.out; omega)
         have hp5 : PB w5 w3.heap.size 48 l := HP4.out.below hb HSZ4.out
         have hbw5 : Below w.heap.size w w5 := HB4.out.trans (hb.mono (by have := HSZ3.out; have := HSZ4.out; omega))
         obtain ⟨⟨a0, a1, a2, a3⟩, f0, f1, f2, f3⟩ := hab5.facts
         have HOB5 := Lib.hid (HOB4.out.below hb (by have := HSZ3.out; have := HSZ4.out; omega))
         obtain ⟨r0, r1, r2⟩ := HOB5.out.facts
         have HP5 := Lib.hid hp5
         have HB5 := Lib.hid hbw5
         clear hab5 hbw5 hp5 hb))
  all_goals
    go_wp2
    refine bodyPost_ret (v := .tuple #[.slice (some ⟨w3.heap.size, 0, none⟩) n n, anV (lookA l kind key)]) (by simp [results, Tryz.results58, go_sem, a0, a1, a2, a3]) rfl ?_
    have hp := (HP5.out.st4 (g' := w.heap.size + 1) (by have := HSZ3.out; omega) (lookA l kind key).e (lookA l kind key).k (lookA l kind key).v (lookA l kind key).b).pt (c := n) (by rw [H.out.len]; exact Nat.le_refl _)
    rw [H.out.len] at hp
    rw [HF.out.1]
    exact retPA_mk hp (below_st4 HB5.out (by simp) _ _ _ _) HF.out.2 (fun ad h => by cases h; have := HSZ3.out; show w.heap.size ≤ w3.heap.size; omega)

set_option maxRecDepth 100000 in
set_option maxHeartbeats 1000000 in
theorem Do_any (A : Option Addr) (n c : Nat) (l : PL) (kind key val : Int) (w : World) (h : PS w A n c l) (hn : n ≤ 9223372036854775807) :
    Calls Tryz.prog 58 #[.slice A n c, .agg #[I kind, I key, I val]] w (RetPA (doL l kind key val) (doA l kind key) w) := by
  by_cases hc : chk l = 0
  · cases ho : opB kind key with
    | false => exact Do_noop A n c l kind key val w h hc ho
    | true =>
      by_cases h1 : kind = 1
      · subst h1; exact Do_put A n c l key val w h hc ho
      · by_cases h3 : kind = 3
        · subst h3; exact Do_cut A n c l key val w h hc ho
        · exact Do_look A n c l kind key val w h hc ho h1 h3
  · exact Do_bad A n c l kind key val w h hn hc

end Go.Proofs.YtpnjnedfcdppaaaGreatDoor.T
