/-
  cut.
-/
import Derived.Test.YtolfpjleckckiaaPut
namespace Go.Proofs.Ytolfpjleckckiaa
open Go.RowKit


def cutL (l : PL) (key : Int) : PL := if hasB l (cnt l key) key then l.take (cnt l key) ++ l.drop (cnt l key + 1) else l

theorem cut_rows (n p : Nat) (l : PL) (h : l.length = n) (hp : p < n) :
    cop (cop (List.replicate (n - 1) (0, 0)) 0 (l.take p) p) p (l.drop (p + 1)) (n - 1 - p) = l.take p ++ l.drop (p + 1) := by
  subst h
  have h1 : cop (List.replicate (l.length - 1) ((0 : Int), (0 : Int))) 0 (l.take p) p = l.take p ++ List.replicate (l.length - 1 - p) (0, 0) := by
    simp only [cop, List.take_zero, List.nil_append, Nat.zero_add, List.drop_replicate, List.take_take, Nat.min_self]
  have hl : (l.take p).length = p := by simp; omega
  rw [h1]
  unfold cop
  have h2 : (l.take p ++ List.replicate (l.length - 1 - p) ((0 : Int), (0 : Int))).take p = l.take p := by
    rw [List.take_append, hl]
    simp [List.take_take]
  have h3 : (l.take p ++ List.replicate (l.length - 1 - p) ((0 : Int), (0 : Int))).drop (p + (l.length - 1 - p)) = [] := by
    apply List.drop_eq_nil_of_le
    simp
    omega
  rw [h2, h3, List.take_of_length_le (l := l.drop (p + 1)) (by simp; omega)]
  simp

set_option maxRecDepth 100000 in
set_option maxHeartbeats 1000000 in
theorem cut_not (A : Option Addr) (n c : Nat) (l : PL) (key : Int) (w : World) (h : PS w A n c l) (hn : n ≤ 200) (hh : hasB l (cnt l key) key = false) :
    Calls Try.prog 40 #[.slice A n c, I key] w (RetPA (cutL l key) (getA l key) w) := by
  have H := Lib.hid h
  have Hlen := Lib.hid h.len
  clear h
  have hcn : cnt l key ≤ n := by have := cnt_le l key; rw [Hlen.out] at this; exact this
  have HF : Hid (cutL l key = l ∧ getA l key = ⟨0, 0, 0, false⟩) := by show _ ∧ _; simp [cutL, getA, hh]
  have HH := Lib.hid hh
  clear hh
  go_enter Try.func40, Try.ntmps40
  go_wp2_with fail
  refine (countBelow_any _ n c l key _ (H.out.alloc _) (by omega)).mono ?_
  rintro e w' ⟨rfl, rfl⟩
  go_wp2_with fail
  refine (hasAt_f _ n c (cnt l key) l key _ (H.out.alloc _) (by omega) (by omega) HH.out).mono ?_
  rintro e w' ⟨rfl, rfl⟩
  go_wp2_with fail
  refine (copyOf_any _ n c l _ (H.out.alloc _) (by omega)).mono ?_
  rintro e w2 ⟨rfl, hpb, hb⟩
  have hab : AB w2 w.heap.size := (AB.new w).below hb (by simp)
  obtain ⟨⟨a0, a1, a2, a3⟩, f0, f1, f2, f3⟩ := hab.facts
  have hbw : Below w.heap.size w w2 := ((Below.refl _ _).alloc (Nat.le_refl _) _).trans (hb.mono (by simp))
  have HP : Hid (PB w2 (w.heap.size + 1) 68 l) := by
    show PB _ _ _ _
    simpa using hpb
  have HB := Lib.hid hbw
  clear hbw hpb hb hab
  go_wp2
  refine bodyPost_ret (v := .tuple #[.slice (some ⟨w.heap.size + 1, 0, none⟩) n n, anV ⟨0, 0, 0, false⟩]) (by simp [results, Try.results40, go_sem, a0, a1, a2, a3]) rfl ?_
  have hp := (HP.out.st4 (g' := w.heap.size) (by omega) 0 0 0 false).ps (c := n) (by rw [Hlen.out]; exact Nat.le_refl _)
  rw [Hlen.out, ← HF.out.1] at hp
  exact retPA_mk hp (below_st4 HB.out (Nat.le_refl _) _ _ _ _) HF.out.2 (fun ad h => by cases h; simp)

set_option maxRecDepth 100000 in
set_option maxHeartbeats 1000000 in
theorem cut_has (A : Option Addr) (n c : Nat) (l : PL) (key : Int) (w : World) (h : PS w A n c l) (hn : n ≤ 200) (hh : hasB l (cnt l key) key = true) :
    Calls Try.prog 40 #[.slice A n c, I key] w (RetPA (cutL l key) (getA l key) w) := by
  have hkl := hasB_lt hh
  have hpn : cnt l key < n := by have := h.len; omega
  have hmk := fun W => run_makeP (P := Try.prog) 40 68 Try.underlying40 pair_info (n - 1) (by omega) W
  rw [show ((n - 1 : Nat) : Int) = (n : Int) - 1 by omega] at hmk
  have H := Lib.hid h
  have Hlen := Lib.hid h.len
  have hnc : n ≤ c := h.rd.1
  obtain ⟨b, off, rfl, hbl, hcell⟩ := h.at_ (by omega)
  obtain ⟨x, hx⟩ : ∃ x, (l[cnt l key]'hkl).2 = x := ⟨_, rfl⟩
  have HC : Hid (w.cell? ⟨b, off + (cnt l key * 2 + 1), none⟩ = some (I x)) := by rw [← hx]; exact (hcell (cnt l key) hpn).2
  clear h hcell
  have HF : Hid (cutL l key = l.take (cnt l key) ++ l.drop (cnt l key + 1) ∧ getA l key = ⟨0, 0, x, true⟩) := by
    show _ ∧ _
    simp [cutL, getA, hh, List.getElem?_eq_getElem hkl, hx]
  clear hx
  have HH := Lib.hid hh
  clear hh
  generalize hp : cnt l key = p at *
  have HPE := Lib.hid hp
  clear hp
  have hbw : Below w.heap.size w (w.alloc ansO) := (Below.refl _ _).alloc (Nat.le_refl _) _
  have hbw2 : Below w.heap.size w ((w.alloc ansO).alloc (.cells (flat (List.replicate (n - 1) (0, 0))).toArray 68)) := hbw.alloc (by simp) _
  go_enter Try.func40, Try.ntmps40
  go_wp2_with fail
  refine (countBelow_any _ n c l key _ (H.out.alloc _) (by omega)).mono ?_
  rintro e w' ⟨rfl, rfl⟩
  rw [HPE.out]
  go_wp2_with fail
  refine (hasAt_t _ n c p l key _ (H.out.alloc _) (by omega) (by omega) HH.out).mono ?_
  rintro e w' ⟨rfl, rfl⟩
  go_wp2_with (with_reducible refine wpList_copyP rfl (.tmp 23) (.tmp 26) 40 rfl 68 Try.underlying40 pair_size (some ⟨w.heap.size + 1, 0, none⟩) (some ⟨b, off, none⟩) (n - 1) (n - 1) p c rfl rfl (w.heap.size + 1) 0 68 (List.replicate (n - 1) (0, 0)) (l.take p) (by simpa using PB.new (w.alloc ansO) 68 (List.replicate (n - 1) (0, 0))) ((H.out.below hbw2).srcTake p (by omega)) (by simp) (fun _ => rfl) ?_)
  intro w1 hp1 hb1
  rw [show p.min (n - 1) = p from Nat.min_eq_left (by omega)] at hp1 ⊢
  have hab : AB w1 w.heap.size := ((AB.new w).below (B := w.heap.size + 1) ((Below.refl _ _).alloc (by simp) _) (by simp)).below (hb1 _ (Nat.le_refl _)) (by simp)
  have hbx : Below w.heap.size w w1 := hbw2.trans (hb1 _ (by simp))
  have HP1 := Lib.hid hp1
  have HBX := Lib.hid hbx
  have HAB := Lib.hid hab
  clear hp1 hb1 hab hbx hbw hbw2 hmk
  go_wp2
  have e1 : IntKind.i64.wrap ((p : Int) + 1) = (p : Int) + 1 := IntWalk.i64_in _ (by omega)
  have e2 : (0 : Int) ≤ (p : Int) + 1 := by omega
  have e3 : ((p : Int) + 1).toNat = p + 1 := by omega
  have e4 : (p : Int) + 1 ≤ (n : Int) := by omega
  have e5 : p ≤ n - 1 := by omega
  have e6 : (p : Int) ≤ ((n - 1 : Nat) : Int) := by omega
  go_still_tail 7, (by kernel_rfl)
  change wpList _ _ _ _ _ w1.drew
  generalize hsp : (if c = p + 1 then some (⟨b, off, none⟩ : Addr) else some ⟨b, off + (p + 1) * 2, none⟩) = sp
  generalize hdq : (if n - 1 = p then some (⟨w.heap.size + 1, 0, none⟩ : Addr) else some ⟨w.heap.size + 1, p * 2, none⟩) = dq
  have HSP := Lib.hid hsp
  have HDQ := Lib.hid hdq
  clear hsp hdq
  have hp3 : PB w1.drew (w.heap.size + 1) 68 (cop (List.replicate (n - 1) (0, 0)) 0 (l.take p) p) := HP1.out
  have hb3 : Below w.heap.size w w1.drew := HBX.out.drew
  refine wpList_copyP rfl (.tmp 30) (.tmp 34) 40 rfl 68 Try.underlying40 pair_size _ _ _ _ _ _ rfl rfl (w.heap.size + 1) p 68 _ (l.drop (p + 1)) hp3 ?src ?fit ?dp ?_
  case src => exact (H.out.below hb3).srcDrop (p + 1) (by omega) _ (fun hlt b' off' hA => by rw [← HSP.out, if_neg (by omega)]; simp at hA; simp [hA])
  case fit => have := Hlen.out; simp [cop]; omega
  case dp => intro h; rw [← HDQ.out, if_neg (by omega)]
  intro w4 hp4 hb4
  rw [show (n - (p + 1)).min (n - 1 - p) = n - 1 - p from Nat.min_eq_right (by omega)] at hp4 ⊢
  rw [cut_rows n p l Hlen.out hpn, ← HF.out.1] at hp4
  have hab4 : AB w4 w.heap.size := AB.below (w := w1.drew) HAB.out (hb4 _ (Nat.le_refl _)) (by simp)
  obtain ⟨⟨a0, a1, a2, a3⟩, f0, f1, f2, f3⟩ := hab4.facts
  have hlen4 : (cutL l key).length = n - 1 := by rw [HF.out.1]; have := Hlen.out; simp; omega
  have hb5 : Below w.heap.size w w4 := hb3.trans (hb4 _ (by simp))
  have hcx : w4.cell? ⟨b, off + p * 2 + 1, none⟩ = some (I x) := (hb5.cell (by exact hbl)).trans HC.out
  have HP4 := Lib.hid hp4
  have HB4 := Lib.hid hb5
  have HL4 := Lib.hid hlen4
  clear hp4 hb4 hab4 hlen4 hp3 hb3 HP1 HBX HAB e1 e2 e3 e4 e5 e6 hb5
  go_wp2
  go_region
  all_goals go_wp2
  refine bodyPost_ret (v := .tuple #[.slice (some ⟨w.heap.size + 1, 0, none⟩) (n - 1) (n - 1), anV ⟨0, 0, x, true⟩]) (by simp [results, Try.results40, go_sem, a0, a1, a2, a3]) rfl ?_
  have hp := (HP4.out.st4 (g' := w.heap.size) (by omega) 0 0 x true).ps (c := n - 1) (by rw [HL4.out]; exact Nat.le_refl _)
  rw [HL4.out] at hp
  exact retPA_mk hp.drew (below_st4 HB4.out (Nat.le_refl _) _ _ _ _).drew HF.out.2 (fun ad h => by cases h; simp)

theorem cut_any (A : Option Addr) (n c : Nat) (l : PL) (key : Int) (w : World) (h : PS w A n c l) (hn : n ≤ 200) :
    Calls Try.prog 40 #[.slice A n c, I key] w (RetPA (cutL l key) (getA l key) w) := by
  cases hh : hasB l (cnt l key) key with
  | true => exact cut_has A n c l key w h hn hh
  | false => exact cut_not A n c l key w h hn hh

end Go.Proofs.Ytolfpjleckckiaa
