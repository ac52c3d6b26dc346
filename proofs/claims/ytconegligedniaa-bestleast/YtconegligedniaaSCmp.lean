/-
  cmp.Compare, compareDepths, slices.CompareFunc at Spot, the function by which All sorts: they read, and lay new blocks.
-/
import Derived.Test.YtconegligedniaaSLeaf
import Derived.Test.YtconegligedniaaSAll
import Derived.Sort.Grow
namespace Go.Proofs.Ytconegligedniaa
open Go.RowKit Go.Sort

/-- nothing has turned; draws, new blocks -/
def Lays (w w' : World) : Prop := ∃ q os, w' = grow (w.drewN q) os
theorem Lays.refl (w : World) : Lays w w := ⟨0, #[], by simp [grow, World.drewN]⟩
theorem Lays.alloc {w w' : World} (h : Lays w w') (o : Obj) : Lays w (w'.alloc o) := by
  obtain ⟨q, os, rfl⟩ := h
  exact ⟨q, os ++ #[o], by rw [alloc_eq_grow, grow_grow]⟩
theorem Lays.trans {w w1 w2 : World} (h : Lays w w1) (h' : Lays w1 w2) : Lays w w2 := by
  obtain ⟨q, os, rfl⟩ := h
  obtain ⟨q', os', rfl⟩ := h'
  exact ⟨q + q', os ++ os', by simp [grow, World.drewN, Array.append_assoc, Nat.add_assoc]⟩
theorem Lays.below {w w' : World} (h : Lays w w') : Below w.heap.size w w' := by
  obtain ⟨q, os, rfl⟩ := h
  exact ⟨rfl, rfl, rfl, by simp, fun k hk => by rw [heap_grow_old _ _ (by simpa using hk)]; rfl⟩

def cmpI (x y : Int) : Int := if x < y then -1 else if y < x then 1 else 0

theorem isNaN_any (x : Int) (w : World) : Calls Try.prog 59 #[I x] w fun e w' => e = .returned (.bool false) ∧ w = w' := by
  have h : (x != x) = false := by simp
  go_enter Try.func59, Try.ntmps59
  go_wp2
  go_ret
  exact ⟨rfl, rfl⟩
set_option maxHeartbeats 1000000 in
theorem compare_any (x y : Int) (w : World) : Calls Try.prog 45 #[I x, I y] w fun e w' => e = .returned (I (cmpI x y)) ∧ w = w' := by
  by_cases h1 : x < y
  · have HF : Hid (cmpI x y = -1) := by show _ = _; simp [cmpI, h1]
    go_enter Try.func45, Try.ntmps45
    go_wp2_with fail
    refine (isNaN_any _ _).mono ?_
    rintro e w' ⟨rfl, rfl⟩
    go_wp2_with fail
    refine (isNaN_any _ _).mono ?_
    rintro e w' ⟨rfl, rfl⟩
    go_wp2
    go_ret
    exact ⟨ret_int (by rw [HF.out]), rfl⟩
  · by_cases h2 : y < x
    · have HF : Hid (cmpI x y = 1) := by show _ = _; simp [cmpI, h1, h2]
      go_enter Try.func45, Try.ntmps45
      go_wp2_with fail
      refine (isNaN_any _ _).mono ?_
      rintro e w' ⟨rfl, rfl⟩
      go_wp2_with fail
      refine (isNaN_any _ _).mono ?_
      rintro e w' ⟨rfl, rfl⟩
      go_wp2
      go_ret
      exact ⟨ret_int (by rw [HF.out]), rfl⟩
    · have HF : Hid (cmpI x y = 0) := by show _ = _; simp [cmpI, h1, h2]
      go_enter Try.func45, Try.ntmps45
      go_wp2_with fail
      refine (isNaN_any _ _).mono ?_
      rintro e w' ⟨rfl, rfl⟩
      go_wp2_with fail
      refine (isNaN_any _ _).mono ?_
      rintro e w' ⟨rfl, rfl⟩
      go_wp2
      go_ret
      exact ⟨ret_int (by rw [HF.out]), rfl⟩

theorem compareDepths_any (k d k' d' : Int) (w : World) : Calls Try.prog 37 #[.agg #[I k, I d], .agg #[I k', I d']] w fun e w' => e = .returned (I (cmpI d d')) ∧ Lays w w' := by
  go_enter Try.func37, Try.ntmps37
  go_wp2_with fail
  refine (compare_any d d' _).mono ?_
  rintro e w' ⟨rfl, rfl⟩
  go_wp2
  go_ret
  exact ⟨rfl, ((Lays.refl w).alloc _).alloc _⟩

theorem cmpD_step (x y : PL) (k : Nat) (hx : k < x.length) (hy : k < y.length) : cmpD (x.drop k) (y.drop k) = if cmpI (dp x k) (dp y k) = 0 then cmpD (x.drop (k + 1)) (y.drop (k + 1)) else cmpI (dp x k) (dp y k) := by
  rw [List.drop_eq_getElem_cons hx, List.drop_eq_getElem_cons hy, cmpD, dp_in hx, dp_in hy]
  unfold cmpI
  by_cases h1 : x[k].2 < y[k].2
  · simp [h1]
  · by_cases h2 : y[k].2 < x[k].2
    · simp [h1, h2]
    · simp [h1, h2]
theorem cmpD_left (x y : PL) (k : Nat) (hx : k < x.length) (hy : y.length ≤ k) : cmpD (x.drop k) (y.drop k) = 1 := by
  rw [List.drop_eq_getElem_cons hx, List.drop_eq_nil_of_le hy]; rfl
theorem cmpD_right (x y : PL) (k : Nat) (hx : x.length ≤ k) (hy : k < y.length) : cmpD (x.drop k) (y.drop k) = -1 := by
  rw [List.drop_eq_nil_of_le hx, List.drop_eq_getElem_cons hy]; rfl
theorem cmpD_none (x y : PL) (k : Nat) (hx : x.length ≤ k) (hy : y.length ≤ k) : cmpD (x.drop k) (y.drop k) = 0 := by
  rw [List.drop_eq_nil_of_le hx, List.drop_eq_nil_of_le hy]; rfl

set_option maxRecDepth 100000 in
set_option maxHeartbeats 1000000 in
theorem compareFunc_any (A B : Option Addr) (n m c c' : Nat) (x y : PL) (w : World) (h : PS w A n c x) (h' : PS w B m c' y) (hn : n ≤ 1000) (hm : m ≤ 1000) :
    Calls Try.prog 36 #[.slice A n c, .slice B m c', .func (.func 37) #[] #[]] w fun e w' => e = .returned (I (cmpD x y)) ∧ Lays w w' := by
  have H := Lib.hid h
  have H' := Lib.hid h'
  have Hx := Lib.hid h.len
  have Hy := Lib.hid h'.len
  clear h h'
  go_enter Try.func36, Try.ntmps36
  go_wp2
  go_loopw [13] (fun i wr => ∃ k : Nat, k ≤ n ∧ k ≤ m ∧ i = .int .i64 k ∧ cmpD (x.drop k) (y.drop k) = cmpD x y ∧ Lays w wr) (fun i _ => n - (intOf i).toNat)
  case atStart => exact ⟨0, Nat.zero_le _, Nat.zero_le _, rfl, rfl, Lays.refl _⟩
  case round =>
    obtain ⟨k, hk, hkm, rfl, hcd, hnx⟩ := hrel
    have hbx := hnx.below
    by_cases hlt : k < n
    · obtain ⟨b, off, rfl, hb, hcs⟩ := (H.out.below hbx).dat (by omega)
      have hc0 : wr.cell? ⟨b, off + k * 2, none⟩ = some (I (ky x k)) := (hcs k hlt).1
      have hc1 : wr.cell? ⟨b, off + k * 2 + 1, none⟩ = some (I (dp x k)) := (hcs k hlt).2
      clear hcs
      by_cases hlm : k < m
      · obtain ⟨b', off', rfl, hb', hcs'⟩ := (H'.out.below hbx).dat (by omega)
        have hd0 : wr.cell? ⟨b', off' + k * 2, none⟩ = some (I (ky y k)) := (hcs' k hlm).1
        have hd1 : wr.cell? ⟨b', off' + k * 2 + 1, none⟩ = some (I (dp y k)) := (hcs' k hlm).2
        have hst := cmpD_step x y k (by rw [Hx.out]; exact hlt) (by rw [Hy.out]; exact hlm)
        rw [hcd] at hst
        have HNX := Lib.hid hnx
        clear hcs' hnx hbx hcd
        by_cases hz : cmpI (dp x k) (dp y k) = 0
        · rw [if_pos hz] at hst
          have HST := Lib.hid hst
          have HZ := Lib.hid hz
          clear hst hz
          go_wp2_with fail
          refine (compareDepths_any (ky x k) (dp x k) (ky y k) (dp y k) _).mono ?_
          rintro e w1 ⟨rfl, hl1⟩
          rw [HZ.out]
          have HL1 := Lib.hid (((HNX.out.alloc _).alloc _).trans hl1)
          clear hl1
          go_wp2
          go_roundw
          case rel => exact ⟨k + 1, by omega, by omega, by go_num, HST.out.symm, HL1.out⟩
          case measure => simp [intOf]; omega
        · rw [if_neg hz] at hst
          have HST := Lib.hid hst
          have hz' : (cmpI (dp x k) (dp y k) != 0) = true := by simpa using hz
          clear hst hz
          go_wp2_with fail
          refine (compareDepths_any (ky x k) (dp x k) (ky y k) (dp y k) _).mono ?_
          rintro e w1 ⟨rfl, hl1⟩
          have HL1 := Lib.hid (((HNX.out.alloc _).alloc _).trans hl1)
          clear hl1
          generalize cmpI (dp x k) (dp y k) = z at *
          go_wp2
          go_ret
          exact ⟨ret_int (by rw [HST.out]), HL1.out⟩
      · have HF : Hid (cmpD x y = 1) := by show _ = _; rw [← hcd]; exact cmpD_left x y k (by rw [Hx.out]; exact hlt) (by rw [Hy.out]; omega)
        have HNX := Lib.hid hnx
        clear hcd hnx hbx
        go_wp2
        go_ret
        exact ⟨ret_int (by rw [HF.out]), HNX.out.alloc _⟩
    · by_cases hnm : n < m
      · have HF : Hid (cmpD x y = -1) := by show _ = _; rw [← hcd]; exact cmpD_right x y k (by rw [Hx.out]; omega) (by rw [Hy.out]; omega)
        have HNX := Lib.hid hnx
        clear hcd hnx hbx
        go_wp2
        go_ret
        exact ⟨ret_int (by rw [HF.out]), HNX.out⟩
      · have HF : Hid (cmpD x y = 0) := by show _ = _; rw [← hcd]; exact cmpD_none x y k (by rw [Hx.out]; omega) (by rw [Hy.out]; omega)
        have HNX := Lib.hid hnx
        clear hcd hnx hbx
        go_wp2
        go_ret
        exact ⟨ret_int (by rw [HF.out]), HNX.out⟩

theorem all1_any (A B : Option Addr) (n m c c' : Nat) (x y : PL) (w : World) (h : PS w A n c x) (h' : PS w B m c' y) (hn : n ≤ 1000) (hm : m ≤ 1000) :
    Calls Try.prog 35 #[.slice A n c, .slice B m c'] w fun e w' => e = .returned (I (cmpD x y)) ∧ Lays w w' := by
  have HC := Lib.hid (compareFunc_any A B n m c c' x y w h h' hn hm)
  clear h h'
  go_enter Try.func35, Try.ntmps35
  go_wp2_with fail
  refine HC.out.mono ?_
  rintro e w1 ⟨rfl, hl⟩
  have HL := Lib.hid hl
  clear hl
  go_wp2
  go_ret
  exact ⟨rfl, HL.out⟩

end Go.Proofs.Ytconegligedniaa
