/-
  Joined texts: YtpnjnedfcdppaaaGreatDoorDLine2, YtpnjnedfcdppaaaGreatDoorDLineA, YtpnjnedfcdppaaaGreatDoorDLineC, YtpnjnedfcdppaaaGreatDoorDLineE.
-/
import Derived.Test.YtpnjnedfcdppaaaGreatDoorDLine1
import Derived.Test.YtpnjnedfcdppaaaGreatDoorDoneAll
import Derived.Test.YtpnjnedfcdppaaaGreatDoorKOpsAll
import Derived.Test.YtpnjnedfcdppaaaGreatDoorDLivesAll
/-
  hedgref.deskLine: the ways that ask for an op. Written by tools/gen_dline.py.
-/
namespace Go.Proofs.YtpnjnedfcdppaaaGreatDoor
open Go.RowKit

abbrev namO : Obj := .cells #[.string ⟨#[112, 117, 116]⟩, .string ⟨#[103, 101, 116]⟩, .string ⟨#[99, 117, 116]⟩, .string ⟨#[110, 101, 120, 116]⟩, .string ⟨#[112, 114, 101, 118]⟩, .string ⟨#[99, 111, 117, 110, 116]⟩, .string ⟨#[110, 116, 104]⟩] 9
theorem ws_names (w : World) : WS (w.alloc namO) (some ⟨w.heap.size, 0, none⟩) 7 7 nmL :=
  WS.block (xs := nmL) (more := []) (fz := (0, 0)) (heap_alloc_new w namO) (Nat.le_refl 7)
theorem e1_bsv : bsv e1T = ⟨#[101, 114, 114, 111, 114, 32, 49]⟩ := by kernel_rfl
theorem ix_at {f : List UInt8} {j : Nat} (h : kindB f = j + 1) : ixA f 0 nmL = (j : Int) := by rw [ix_kind, h]; omega
theorem ix_no {f : List UInt8} (h : kindB f = 0) : ixA f 0 nmL = -1 := by rw [ix_kind, h]; rfl
theorem ws_rest {w wz : World} {b off m1 mc : Nat} {f : List UInt8} {r : List (List UInt8)} (h : WS w (some ⟨b, off, none⟩) (m1 + 1) mc (f :: r)) (hz : Below w.heap.size w wz) :
    WS wz (some ⟨b, off + 1, none⟩) m1 (mc - 1) r ∧ (mc = 1 → ∀ A9, WS wz A9 m1 0 r) := by
  have ht : WS w (some ⟨b, off + 1, none⟩) m1 (mc - 1) r := WS.tail h fun b' off' e h0 => by cases e; rfl
  refine ⟨ht.below hz, fun h1 A9 => ?_⟩
  have hcap := h.cap
  have h0 : m1 = 0 := by omega
  exact ⟨ht.len, by omega, fun hn => absurd hn (by omega)⟩
structure LnA (w : World) (A : Option Addr) (n c : Nat) (A' : Option Addr) (n' c' : Nat) (W : Option Addr) (m mc : Nat) (ops : List OP) (ws : List (List UInt8)) : Prop where
  ps : PS w A n c (runR ops).1
  os : OS w A' n' c' ops
  wd : WS w W m mc ws
  n3 : n' ≤ 200
  m1 : m ≤ 10000
  wl : ∀ x ∈ ws, x ≠ [] ∧ x.length ≤ 10000
  ob : OB2 ops
def RetLine (ops : List OP) (ws : List (List UInt8)) (w : World) (e : Ending) (w' : World) : Prop :=
  ∃ A n c A' n' c', e = .returned (.tuple #[.slice A n c, .slice A' n' c', .string (bsv (dAns ops ws).1)]) ∧ PS w' A n c (runR (dAns ops ws).2).1 ∧ OS w' A' n' c' (dAns ops ws).2 ∧ Below w.heap.size w w'
theorem ln_same {A A' W : Option Addr} {n c n' c' m mc : Nat} {ops : List OP} {ws : List (List UInt8)} {w w' : World} (h : LnA w A n c A' n' c' W m mc ops ws) {t : List UInt8} (ha : dAns ops ws = (t, ops)) (hb : Below w.heap.size w w') {s : ByteArray} (hs : s = bsv t) :
    RetLine ops ws w (.returned (.tuple #[.slice A n c, .slice A' n' c', .string s])) w' := by
  refine ⟨A, n, c, A', n', c', by rw [ha, hs], ?_, ?_, hb⟩
  · rw [ha]; exact h.ps.below hb
  · rw [ha]; exact h.os.below hb
theorem ln_done {ops : List OP} {ws : List (List UInt8)} {w w' : World} {t : List UInt8} {k a b : Int} {A3 A6 : Option Addr} {n3 c3 c6 : Nat} {v6 : Value} (hp : PS w' A3 n3 c3 (doL (runR ops).1 k a b)) (ho : OS w' A6 (ops ++ [(k, a, b)]).length c6 (ops ++ [(k, a, b)])) (hv : v6 = .slice A6 (ops ++ [(k, a, b)]).length c6) (hb : Below w.heap.size w w') (ha : dAns ops ws = (t, ops ++ [(k, a, b)])) {s : ByteArray} (hs : s = bsv t) :
    RetLine ops ws w (.returned (.tuple #[.slice A3 n3 c3, v6, .string s])) w' := by
  refine ⟨A3, n3, c3, A6, (ops ++ [(k, a, b)]).length, c6, by rw [ha, hs, hv], ?_, ?_, hb⟩
  · rw [ha, runR_snoc]; exact hp
  · rw [ha]; exact ho
abbrev lnO (k a b : Int) : Obj := .cells #[I k, I a, I b] 69
theorem lk_lt {w : World} {a : Addr} {v : Value} (h : w.cell? a = some v) : a.block < w.heap.size := by
  rcases Nat.lt_or_ge a.block w.heap.size with h1 | h1
  · exact h1
  · simp [World.cell?, Array.getElem?_eq_none h1] at h
theorem lk_keep {w w' : World} {sp : Addr} {news : List Value} (hc : ∀ j u, news[j]? = some u → w.cell? (sp.add j) = some u) (hb : Below w.heap.size w w') : ∀ j u, news[j]? = some u → w'.cell? (sp.add j) = some u := fun j u hu => (hb.cell (lk_lt (hc j u hu))).trans (hc j u hu)
theorem dig_same (n : Nat) (h : n < 10 ^ 18) (w : World) : Calls Tryz.prog 104 #[I n] w fun e w' => e = .returned (.string (bsv (dg n))) ∧ w' = w := (Digits_any n n (Nat.le_refl _) h w).mono fun _ _ h => ⟨h.1, h.2.symm⟩
theorem jnd_two (x y : Nat) : jnd [(x : Int), (y : Int)] = dg x ++ [32] ++ dg y := by
  show Lib.join [dg x, dg y] [32] = _
  simp [Lib.join]
theorem err_bsv (e : Nat) : (⟨#[101, 114, 114, 111, 114, 32]⟩ : ByteArray) ++ bsv (dg e) = bsv (errT e) := bsv_app [101, 114, 114, 111, 114, 32] (dg e)

end Go.Proofs.YtpnjnedfcdppaaaGreatDoor

/-
  hedgref.deskLine: an op's line with other words than numbers, or too few, or too many. Written by tools/gen_dline.py.
-/
namespace Go.Proofs.YtpnjnedfcdppaaaGreatDoor
open Go.RowKit

set_option maxRecDepth 100000 in
set_option maxHeartbeats 8000000 in
theorem ln_bad {A A' W : Option Addr} {n c n' c' m mc : Nat} {ops : List OP} {f : List UInt8} {r : List (List UInt8)} {w : World} (h : LnA w A n c A' n' c' W m mc ops (f :: r)) {j : Nat} (hk : kindB f = j + 1) (hr : nmsL r = none) :
    Calls Tryz.prog 49 #[.slice A n c, .slice A' n' c', .slice W m mc] w (RetLine ops (f :: r) w) := by
  obtain ⟨m1, rfl⟩ : ∃ k, m = k + 1 := ⟨r.length, by have := h.wd.len; simp at this; omega⟩
  have hrl : r.length = m1 := by have := h.wd.len; simp at this; omega
  obtain ⟨b, off, rfl, hb, hcs⟩ := h.wd.at_ (by omega)
  have HX := Lib.hid h
  have HC0 : Hid (∀ wz, Below w.heap.size w wz → wz.cell? ⟨b, off, none⟩ = some (.string (bsv f))) := fun wz hz => (hz.cell (p := ⟨b, off, none⟩) hb).trans (hcs 0 (by omega))
  have hc0 := HC0.out w (Below.refl _ _)
  have c0n : (w.alloc namO).cell? ⟨b, off, none⟩ = some (.string (bsv f)) := HC0.out _ ((Below.refl _ _).alloc (Nat.le_refl _) _)
  have HWR : Hid (∀ wz, Below w.heap.size w wz → WS wz (some ⟨b, off + 1, none⟩) m1 (mc - 1) r ∧ (mc = 1 → ∀ A9, WS wz A9 m1 0 r)) := fun wz hz => ws_rest h.wd hz
  have hm10 := h.m1
  have hcap := h.wd.cap
  have hn1 : (1 : Int) ≤ (m1 : Int) + 1 := by omega
  have hcq1 : (m1 : Int) + 1 ≤ (mc : Int) := by omega
  have hcq2 : (1 : Int) ≤ (mc : Int) := by omega
  have hn0 : (0 : Int) < (m1 : Int) + 1 := by omega
  have HIX := Lib.hid (ix_at hk)
  have hj7 : (0 : Int) ≤ (j : Int) := by omega
  have hj6 : j ≤ 6 := by have := kind_le f; omega
  have HNUM : Hid (∀ A9 c9 wz, WS wz A9 m1 c9 r → Calls Tryz.prog 102 #[.slice A9 m1 c9] wz (RetNum (none) wz)) := fun A9 c9 wz hz => by
    have := refNums_any A9 m1 c9 r wz hz (by omega) (fun x hx => h.wl x (List.mem_cons_of_mem _ hx))
    rwa [hr] at this
  have HA : Hid (dAns ops (f :: r) = (e1T, ops)) := by show _ = _; rw [dAns_op (by omega), dOp_none hr]; rfl
  clear hk hr
  clear h hcs hrl
  go_enter Tryz.func49, Tryz.ntmps49
  go_wp2_with fail
  refine (index_any (some ⟨w.heap.size, 0, none⟩) 7 7 nmL f _ (ws_names w) (by omega)).mono ?_
  rintro e w1 ⟨rfl, hw1⟩
  have HB1 : Hid (Below w.heap.size w w1) := by show Below _ _ _; rw [hw1]; exact (Below.refl _ _).alloc (Nat.le_refl _) _
  have c01 := HC0.out w1 HB1.out
  rw [HIX.out]
  clear hw1
  rcases Nat.eq_zero_or_pos j with hj0 | hj0
  · subst hj0
    go_wp2_with fail
    all_goals
      refine (HNUM.out _ _ w1 ?hw).mono ?_
      case hw => first | with_reducible exact (HWR.out w1 HB1.out).1 | exact (HWR.out w1 HB1.out).2 (by omega) _
      rintro e w2 ⟨rfl, hb2⟩
      have HB2 := Lib.hid (tr2 HB1.out hb2)
      clear hb2
      go_wp2
      go_ret3
      exact ln_same HX.out HA.out HB2.out e1_bsv.symm
  · have hjb : ((j : Int) == 0) = false := by simp; omega
    go_wp2_with fail
    all_goals
      refine (HNUM.out _ _ w1 ?hw).mono ?_
      case hw => first | with_reducible exact (HWR.out w1 HB1.out).1 | exact (HWR.out w1 HB1.out).2 (by omega) _
      rintro e w2 ⟨rfl, hb2⟩
      have HB2 := Lib.hid (tr2 HB1.out hb2)
      clear hb2
      go_wp2
      go_ret3
      exact ln_same HX.out HA.out HB2.out e1_bsv.symm
set_option maxRecDepth 100000 in
set_option maxHeartbeats 8000000 in
theorem ln_len0 {A A' W : Option Addr} {n c n' c' m mc : Nat} {ops : List OP} {f : List UInt8} {r : List (List UInt8)} {w : World} (h : LnA w A n c A' n' c' W m mc ops (f :: r)) {ks : List Nat} (hk : kindB f = 0 + 1) (hr : nmsL r = some ks) (hl : ks.length ≠ 2) :
    Calls Tryz.prog 49 #[.slice A n c, .slice A' n' c', .slice W m mc] w (RetLine ops (f :: r) w) := by
  obtain ⟨m1, rfl⟩ : ∃ k, m = k + 1 := ⟨r.length, by have := h.wd.len; simp at this; omega⟩
  have hrl : r.length = m1 := by have := h.wd.len; simp at this; omega
  obtain ⟨b, off, rfl, hb, hcs⟩ := h.wd.at_ (by omega)
  have HX := Lib.hid h
  have HC0 : Hid (∀ wz, Below w.heap.size w wz → wz.cell? ⟨b, off, none⟩ = some (.string (bsv f))) := fun wz hz => (hz.cell (p := ⟨b, off, none⟩) hb).trans (hcs 0 (by omega))
  have hc0 := HC0.out w (Below.refl _ _)
  have c0n : (w.alloc namO).cell? ⟨b, off, none⟩ = some (.string (bsv f)) := HC0.out _ ((Below.refl _ _).alloc (Nat.le_refl _) _)
  have HWR : Hid (∀ wz, Below w.heap.size w wz → WS wz (some ⟨b, off + 1, none⟩) m1 (mc - 1) r ∧ (mc = 1 → ∀ A9, WS wz A9 m1 0 r)) := fun wz hz => ws_rest h.wd hz
  have hm10 := h.m1
  have hcap := h.wd.cap
  have hn1 : (1 : Int) ≤ (m1 : Int) + 1 := by omega
  have hcq1 : (m1 : Int) + 1 ≤ (mc : Int) := by omega
  have hcq2 : (1 : Int) ≤ (mc : Int) := by omega
  have hn0 : (0 : Int) < (m1 : Int) + 1 := by omega
  have HIX := Lib.hid (ix_at hk)
  have HNUM : Hid (∀ A9 c9 wz, WS wz A9 m1 c9 r → Calls Tryz.prog 102 #[.slice A9 m1 c9] wz (RetNum (some ks) wz)) := fun A9 c9 wz hz => by
    have := refNums_any A9 m1 c9 r wz hz (by omega) (fun x hx => h.wl x (List.mem_cons_of_mem _ hx))
    rwa [hr] at this
  have HA : Hid (dAns ops (f :: r) = (e1T, ops)) := by show _ = _; rw [dAns_op (by omega), dOp_len hr (by rw [hk]; exact hl)]; rfl
  obtain ⟨kl, hkl⟩ : ∃ k, ks.length = k := ⟨_, rfl⟩
  have HKL := Lib.hid hkl
  rw [hkl] at hl
  have hneq : ((kl : Int) != 2) = true := by simp; omega
  clear hk hr hkl hl
  clear h hcs hrl
  go_enter Tryz.func49, Tryz.ntmps49
  go_wp2_with fail
  refine (index_any (some ⟨w.heap.size, 0, none⟩) 7 7 nmL f _ (ws_names w) (by omega)).mono ?_
  rintro e w1 ⟨rfl, hw1⟩
  have HB1 : Hid (Below w.heap.size w w1) := by show Below _ _ _; rw [hw1]; exact (Below.refl _ _).alloc (Nat.le_refl _) _
  have c01 := HC0.out w1 HB1.out
  rw [HIX.out]
  clear hw1
  go_wp2_with fail
  all_goals
    refine (HNUM.out _ _ w1 ?hw).mono ?_
    case hw => first | with_reducible exact (HWR.out w1 HB1.out).1 | exact (HWR.out w1 HB1.out).2 (by omega) _
    rintro e w2 ⟨v9, rfl, ho9, hb2⟩
    obtain ⟨A9, c9, rfl, _, -⟩ := ownI_told (n := kl) ho9 (by rw [List.length_map]; exact HKL.out)
    have HB2 := Lib.hid (tr2 HB1.out hb2)
    clear hb2 ho9
    go_wp2
    go_ret3
    exact ln_same HX.out HA.out HB2.out e1_bsv.symm
set_option maxRecDepth 100000 in
set_option maxHeartbeats 8000000 in
theorem ln_len1 {A A' W : Option Addr} {n c n' c' m mc : Nat} {ops : List OP} {f : List UInt8} {r : List (List UInt8)} {w : World} (h : LnA w A n c A' n' c' W m mc ops (f :: r)) {j : Nat} {ks : List Nat} (hk : kindB f = j + 1) (hj0 : 0 < j) (hr : nmsL r = some ks) (hl : ks.length ≠ 1) :
    Calls Tryz.prog 49 #[.slice A n c, .slice A' n' c', .slice W m mc] w (RetLine ops (f :: r) w) := by
  obtain ⟨m1, rfl⟩ : ∃ k, m = k + 1 := ⟨r.length, by have := h.wd.len; simp at this; omega⟩
  have hrl : r.length = m1 := by have := h.wd.len; simp at this; omega
  obtain ⟨b, off, rfl, hb, hcs⟩ := h.wd.at_ (by omega)
  have HX := Lib.hid h
  have HC0 : Hid (∀ wz, Below w.heap.size w wz → wz.cell? ⟨b, off, none⟩ = some (.string (bsv f))) := fun wz hz => (hz.cell (p := ⟨b, off, none⟩) hb).trans (hcs 0 (by omega))
  have hc0 := HC0.out w (Below.refl _ _)
  have c0n : (w.alloc namO).cell? ⟨b, off, none⟩ = some (.string (bsv f)) := HC0.out _ ((Below.refl _ _).alloc (Nat.le_refl _) _)
  have HWR : Hid (∀ wz, Below w.heap.size w wz → WS wz (some ⟨b, off + 1, none⟩) m1 (mc - 1) r ∧ (mc = 1 → ∀ A9, WS wz A9 m1 0 r)) := fun wz hz => ws_rest h.wd hz
  have hm10 := h.m1
  have hcap := h.wd.cap
  have hn1 : (1 : Int) ≤ (m1 : Int) + 1 := by omega
  have hcq1 : (m1 : Int) + 1 ≤ (mc : Int) := by omega
  have hcq2 : (1 : Int) ≤ (mc : Int) := by omega
  have hn0 : (0 : Int) < (m1 : Int) + 1 := by omega
  have HIX := Lib.hid (ix_at hk)
  have hj7 : (0 : Int) ≤ (j : Int) := by omega
  have hj6 : j ≤ 6 := by have := kind_le f; omega
  have HNUM : Hid (∀ A9 c9 wz, WS wz A9 m1 c9 r → Calls Tryz.prog 102 #[.slice A9 m1 c9] wz (RetNum (some ks) wz)) := fun A9 c9 wz hz => by
    have := refNums_any A9 m1 c9 r wz hz (by omega) (fun x hx => h.wl x (List.mem_cons_of_mem _ hx))
    rwa [hr] at this
  have HA : Hid (dAns ops (f :: r) = (e1T, ops)) := by show _ = _; rw [dAns_op (by omega), dOp_len hr (by unfold wantN; rw [if_neg (by omega)]; exact hl)]; rfl
  obtain ⟨kl, hkl⟩ : ∃ k, ks.length = k := ⟨_, rfl⟩
  have HKL := Lib.hid hkl
  rw [hkl] at hl
  have hneq : ((kl : Int) != 1) = true := by simp; omega
  have hjb : ((j : Int) == 0) = false := by simp; omega
  clear hk hr hkl hl
  clear h hcs hrl
  go_enter Tryz.func49, Tryz.ntmps49
  go_wp2_with fail
  refine (index_any (some ⟨w.heap.size, 0, none⟩) 7 7 nmL f _ (ws_names w) (by omega)).mono ?_
  rintro e w1 ⟨rfl, hw1⟩
  have HB1 : Hid (Below w.heap.size w w1) := by show Below _ _ _; rw [hw1]; exact (Below.refl _ _).alloc (Nat.le_refl _) _
  have c01 := HC0.out w1 HB1.out
  rw [HIX.out]
  clear hw1
  go_wp2_with fail
  all_goals
    refine (HNUM.out _ _ w1 ?hw).mono ?_
    case hw => first | with_reducible exact (HWR.out w1 HB1.out).1 | exact (HWR.out w1 HB1.out).2 (by omega) _
    rintro e w2 ⟨v9, rfl, ho9, hb2⟩
    obtain ⟨A9, c9, rfl, _, -⟩ := ownI_told (n := kl) ho9 (by rw [List.length_map]; exact HKL.out)
    have HB2 := Lib.hid (tr2 HB1.out hb2)
    clear hb2 ho9
    go_wp2
    go_ret3
    exact ln_same HX.out HA.out HB2.out e1_bsv.symm
end Go.Proofs.YtpnjnedfcdppaaaGreatDoor

/-
  hedgref.deskLine: ops that are in error. Written by tools/gen_dline.py.
-/
namespace Go.Proofs.YtpnjnedfcdppaaaGreatDoor
open Go.RowKit

set_option maxRecDepth 100000 in
set_option maxHeartbeats 8000000 in
theorem ln_put_err {A A' W : Option Addr} {n c n' c' m mc : Nat} {ops : List OP} {f : List UInt8} {r : List (List UInt8)} {w : World} (h : LnA w A n c A' n' c' W m mc ops (f :: r)) {a b2 : Nat} (hk : kindB f = 0 + 1) (hr : nmsL r = some [a, b2]) (he : (doA (runR ops).1 1 a).e ≠ 0) :
    Calls Tryz.prog 49 #[.slice A n c, .slice A' n' c', .slice W m mc] w (RetLine ops (f :: r) w) := by
  obtain ⟨m1, rfl⟩ : ∃ k, m = k + 1 := ⟨r.length, by have := h.wd.len; simp at this; omega⟩
  have hrl : r.length = m1 := by have := h.wd.len; simp at this; omega
  obtain ⟨b, off, rfl, hb, hcs⟩ := h.wd.at_ (by omega)
  have HX := Lib.hid h
  have HC0 : Hid (∀ wz, Below w.heap.size w wz → wz.cell? ⟨b, off, none⟩ = some (.string (bsv f))) := fun wz hz => (hz.cell (p := ⟨b, off, none⟩) hb).trans (hcs 0 (by omega))
  have hc0 := HC0.out w (Below.refl _ _)
  have c0n : (w.alloc namO).cell? ⟨b, off, none⟩ = some (.string (bsv f)) := HC0.out _ ((Below.refl _ _).alloc (Nat.le_refl _) _)
  have HWR : Hid (∀ wz, Below w.heap.size w wz → WS wz (some ⟨b, off + 1, none⟩) m1 (mc - 1) r ∧ (mc = 1 → ∀ A9, WS wz A9 m1 0 r)) := fun wz hz => ws_rest h.wd hz
  have hm10 := h.m1
  have hcap := h.wd.cap
  have hn1 : (1 : Int) ≤ (m1 : Int) + 1 := by omega
  have hcq1 : (m1 : Int) + 1 ≤ (mc : Int) := by omega
  have hcq2 : (1 : Int) ≤ (mc : Int) := by omega
  have hn0 : (0 : Int) < (m1 : Int) + 1 := by omega
  have HIX := Lib.hid (ix_at hk)
  have HNUM : Hid (∀ A9 c9 wz, WS wz A9 m1 c9 r → Calls Tryz.prog 102 #[.slice A9 m1 c9] wz (RetNum (some [a, b2]) wz)) := fun A9 c9 wz hz => by
    have := refNums_any A9 m1 c9 r wz hz (by omega) (fun x hx => h.wl x (List.mem_cons_of_mem _ hx))
    rwa [hr] at this
  have HDN : Hid (∀ wz, Below w.heap.size w wz → Calls Tryz.prog 103 #[.slice A n c, .agg #[I 1, I a, I b2]] wz (RetD A n (doL (runR ops).1 1 a b2) (doA (runR ops).1 1 a) wz)) := fun wz hz => Done_any A n c (runR ops).1 1 a b2 wz (h.ps.below hz) (chk_runR ops)
  have hbd := doA_bd (kind := 1) (key := (a : Int)) (chk_runR ops) (runR_vals _ ops rfl h.ob)
  have hn3 := h.n3
  obtain ⟨er, her, hel⟩ := doA_er (l := (runR ops).1) (kind := 1) (key := (a : Int)) (chk_runR ops)
  have hne0 : er ≠ 0 := fun e => he (by rw [her, e]; rfl)
  have HA : Hid (dAns ops (f :: r) = (errT er, ops)) := by show _ = _; rw [dAns_op (by omega), show dOp (kindB f) r = some (1, (a : Int), (b2 : Int)) by rw [hk]; exact dOp_put hr]; unfold opR; simp only []; rw [if_pos (by rw [her]; omega), her]; rfl
  obtain ⟨⟨ae, ak, av, ab⟩, hann⟩ : ∃ x, doA (runR ops).1 1 a = x := ⟨_, rfl⟩
  rw [hann] at HDN her
  have her2 : ae = (er : Int) := her
  subst her2
  have hner : ((er : Int) != 0) = true := by simp; omega
  have hsz : ¬ (9223372036854775807 < 6 + (dg er).length) := by have := dg_len er; omega
  clear hk hr he hann her hbd hne0
  clear h hcs hrl
  go_enter Tryz.func49, Tryz.ntmps49
  go_wp2_with fail
  refine (index_any (some ⟨w.heap.size, 0, none⟩) 7 7 nmL f _ (ws_names w) (by omega)).mono ?_
  rintro e w1 ⟨rfl, hw1⟩
  have HB1 : Hid (Below w.heap.size w w1) := by show Below _ _ _; rw [hw1]; exact (Below.refl _ _).alloc (Nat.le_refl _) _
  have c01 := HC0.out w1 HB1.out
  rw [HIX.out]
  clear hw1
  go_wp2_with fail
  all_goals
    refine (HNUM.out _ _ w1 ?hw).mono ?_
    case hw => first | with_reducible exact (HWR.out w1 HB1.out).1 | exact (HWR.out w1 HB1.out).2 (by omega) _
    rintro e w2 ⟨v9, rfl, ho9, hb2⟩
    obtain ⟨A9, c9, rfl, _, his9⟩ := ownI_told (n := 2) ho9 rfl
    obtain ⟨b9, off9, rfl, hb9, hcs9⟩ := his9.at_ (by omega)
    have e0 : w2.cell? ⟨b9, off9, none⟩ = some (I a) := hcs9 0 (by omega)
    have e1 : ∀ o, (w2.alloc o).cell? ⟨b9, off9 + 1, none⟩ = some (I b2) := fun o => ck (hcs9 1 (by omega)) o
    have HB2 := Lib.hid (tr2 HB1.out hb2)
    clear hb2 ho9 his9 hcs9
    go_wp2_with fail
    refine (HDN.out _ (HB2.out.alloc HB2.out.size _)).mono ?_
    rintro e w3 ⟨A3, n3, c3, rfl, hps3, hb3, -⟩
    have HPS3 := Lib.hid hps3
    have HB23 : Hid (Below w2.heap.size w2 w3) := ((Below.refl _ _).alloc (Nat.le_refl _) _).trans (hb3.mono (by simp))
    have HOP3 : Hid (w3.heap[w2.heap.size]? = some (.cells #[I 1, I a, I b2] 69 (0, 0))) := (hb3.block _ (by simp)).trans (heap_alloc_new _ _)
    have hz3 : w2.heap.size + 1 ≤ w3.heap.size := by have h9 := hb3.size; rw [World.size_alloc] at h9; exact h9
    have HB3 := Lib.hid (tr2 HB2.out HB23.out)
    clear hps3 hb3
    go_wp2_with fail
    refine (Digits_any er er (Nat.le_refl _) (by omega) _).mono ?_
    rintro e w4 ⟨rfl, rfl⟩
    go_wp2
    go_ret3
    exact ln_same HX.out HA.out (HB3.out.alloc HB3.out.size _) (err_bsv er)
set_option maxRecDepth 100000 in
set_option maxHeartbeats 8000000 in
theorem ln_one_err {A A' W : Option Addr} {n c n' c' m mc : Nat} {ops : List OP} {f : List UInt8} {r : List (List UInt8)} {w : World} (h : LnA w A n c A' n' c' W m mc ops (f :: r)) {j a : Nat} (hk : kindB f = j + 1) (hj0 : 0 < j) (hr : nmsL r = some [a]) (he : (doA (runR ops).1 ((j : Int) + 1) a).e ≠ 0) :
    Calls Tryz.prog 49 #[.slice A n c, .slice A' n' c', .slice W m mc] w (RetLine ops (f :: r) w) := by
  obtain ⟨m1, rfl⟩ : ∃ k, m = k + 1 := ⟨r.length, by have := h.wd.len; simp at this; omega⟩
  have hrl : r.length = m1 := by have := h.wd.len; simp at this; omega
  obtain ⟨b, off, rfl, hb, hcs⟩ := h.wd.at_ (by omega)
  have HX := Lib.hid h
  have HC0 : Hid (∀ wz, Below w.heap.size w wz → wz.cell? ⟨b, off, none⟩ = some (.string (bsv f))) := fun wz hz => (hz.cell (p := ⟨b, off, none⟩) hb).trans (hcs 0 (by omega))
  have hc0 := HC0.out w (Below.refl _ _)
  have c0n : (w.alloc namO).cell? ⟨b, off, none⟩ = some (.string (bsv f)) := HC0.out _ ((Below.refl _ _).alloc (Nat.le_refl _) _)
  have HWR : Hid (∀ wz, Below w.heap.size w wz → WS wz (some ⟨b, off + 1, none⟩) m1 (mc - 1) r ∧ (mc = 1 → ∀ A9, WS wz A9 m1 0 r)) := fun wz hz => ws_rest h.wd hz
  have hm10 := h.m1
  have hcap := h.wd.cap
  have hn1 : (1 : Int) ≤ (m1 : Int) + 1 := by omega
  have hcq1 : (m1 : Int) + 1 ≤ (mc : Int) := by omega
  have hcq2 : (1 : Int) ≤ (mc : Int) := by omega
  have hn0 : (0 : Int) < (m1 : Int) + 1 := by omega
  have HIX := Lib.hid (ix_at hk)
  have hj7 : (0 : Int) ≤ (j : Int) := by omega
  have hj6 : j ≤ 6 := by have := kind_le f; omega
  have HNUM : Hid (∀ A9 c9 wz, WS wz A9 m1 c9 r → Calls Tryz.prog 102 #[.slice A9 m1 c9] wz (RetNum (some [a]) wz)) := fun A9 c9 wz hz => by
    have := refNums_any A9 m1 c9 r wz hz (by omega) (fun x hx => h.wl x (List.mem_cons_of_mem _ hx))
    rwa [hr] at this
  have HDN : Hid (∀ wz, Below w.heap.size w wz → Calls Tryz.prog 103 #[.slice A n c, .agg #[I ((j : Int) + 1), I a, I 0]] wz (RetD A n (doL (runR ops).1 ((j : Int) + 1) a 0) (doA (runR ops).1 ((j : Int) + 1) a) wz)) := fun wz hz => Done_any A n c (runR ops).1 ((j : Int) + 1) a 0 wz (h.ps.below hz) (chk_runR ops)
  have hbd := doA_bd (kind := ((j : Int) + 1)) (key := (a : Int)) (chk_runR ops) (runR_vals _ ops rfl h.ob)
  have hn3 := h.n3
  obtain ⟨er, her, hel⟩ := doA_er (l := (runR ops).1) (kind := ((j : Int) + 1)) (key := (a : Int)) (chk_runR ops)
  have hne0 : er ≠ 0 := fun e => he (by rw [her, e]; rfl)
  have HA : Hid (dAns ops (f :: r) = (errT er, ops)) := by show _ = _; rw [dAns_op (by omega), show dOp (kindB f) r = some (((j : Int) + 1), (a : Int), 0) by rw [dOp_one (by omega) hr, hk]; rfl]; unfold opR; simp only []; rw [if_pos (by rw [her]; omega), her]; rfl
  obtain ⟨⟨ae, ak, av, ab⟩, hann⟩ : ∃ x, doA (runR ops).1 ((j : Int) + 1) a = x := ⟨_, rfl⟩
  rw [hann] at HDN her
  have her2 : ae = (er : Int) := her
  subst her2
  have hner : ((er : Int) != 0) = true := by simp; omega
  have hsz : ¬ (9223372036854775807 < 6 + (dg er).length) := by have := dg_len er; omega
  clear hk hr he hann her hbd hne0
  have hjb : ((j : Int) == 0) = false := by simp; omega
  clear h hcs hrl
  go_enter Tryz.func49, Tryz.ntmps49
  go_wp2_with fail
  refine (index_any (some ⟨w.heap.size, 0, none⟩) 7 7 nmL f _ (ws_names w) (by omega)).mono ?_
  rintro e w1 ⟨rfl, hw1⟩
  have HB1 : Hid (Below w.heap.size w w1) := by show Below _ _ _; rw [hw1]; exact (Below.refl _ _).alloc (Nat.le_refl _) _
  have c01 := HC0.out w1 HB1.out
  rw [HIX.out]
  clear hw1
  go_wp2_with fail
  all_goals
    refine (HNUM.out _ _ w1 ?hw).mono ?_
    case hw => first | with_reducible exact (HWR.out w1 HB1.out).1 | exact (HWR.out w1 HB1.out).2 (by omega) _
    rintro e w2 ⟨v9, rfl, ho9, hb2⟩
    obtain ⟨A9, c9, rfl, _, his9⟩ := ownI_told (n := 1) ho9 rfl
    obtain ⟨b9, off9, rfl, hb9, hcs9⟩ := his9.at_ (by omega)
    have e0 : w2.cell? ⟨b9, off9, none⟩ = some (I a) := hcs9 0 (by omega)
    have HB2 := Lib.hid (tr2 HB1.out hb2)
    clear hb2 ho9 his9 hcs9
    go_wp2_with fail
    refine (HDN.out _ (HB2.out.alloc HB2.out.size _)).mono ?_
    rintro e w3 ⟨A3, n3, c3, rfl, hps3, hb3, -⟩
    have HPS3 := Lib.hid hps3
    have HB23 : Hid (Below w2.heap.size w2 w3) := ((Below.refl _ _).alloc (Nat.le_refl _) _).trans (hb3.mono (by simp))
    have HOP3 : Hid (w3.heap[w2.heap.size]? = some (.cells #[I ((j : Int) + 1), I a, I 0] 69 (0, 0))) := (hb3.block _ (by simp)).trans (heap_alloc_new _ _)
    have hz3 : w2.heap.size + 1 ≤ w3.heap.size := by have h9 := hb3.size; rw [World.size_alloc] at h9; exact h9
    have HB3 := Lib.hid (tr2 HB2.out HB23.out)
    clear hps3 hb3
    go_wp2_with fail
    refine (Digits_any er er (Nat.le_refl _) (by omega) _).mono ?_
    rintro e w4 ⟨rfl, rfl⟩
    go_wp2
    go_ret3
    exact ln_same HX.out HA.out (HB3.out.alloc HB3.out.size _) (err_bsv er)
end Go.Proofs.YtpnjnedfcdppaaaGreatDoor

/-
  hedgref.deskLine: next, prev, nth, told. Written by tools/gen_dline.py.
-/
namespace Go.Proofs.YtpnjnedfcdppaaaGreatDoor
open Go.RowKit

set_option maxRecDepth 100000 in
set_option maxHeartbeats 8000000 in
theorem ln_one_kv {A A' W : Option Addr} {n c n' c' m mc : Nat} {ops : List OP} {f : List UInt8} {r : List (List UInt8)} {w : World} (h : LnA w A n c A' n' c' W m mc ops (f :: r)) {j a : Nat} (hk : kindB f = j + 1) (hj0 : 0 < j) (hj5 : j ≠ 5) (hj3 : ¬ j < 3) (hr : nmsL r = some [a]) (he : (doA (runR ops).1 ((j : Int) + 1) a).e = 0) (hab : (doA (runR ops).1 ((j : Int) + 1) a).b = true) :
    Calls Tryz.prog 49 #[.slice A n c, .slice A' n' c', .slice W m mc] w (RetLine ops (f :: r) w) := by
  obtain ⟨m1, rfl⟩ : ∃ k, m = k + 1 := ⟨r.length, by have := h.wd.len; simp at this; omega⟩
  have hrl : r.length = m1 := by have := h.wd.len; simp at this; omega
  obtain ⟨b, off, rfl, hb, hcs⟩ := h.wd.at_ (by omega)
  have HX := Lib.hid h
  have HC0 : Hid (∀ wz, Below w.heap.size w wz → wz.cell? ⟨b, off, none⟩ = some (.string (bsv f))) := fun wz hz => (hz.cell (p := ⟨b, off, none⟩) hb).trans (hcs 0 (by omega))
  have hc0 := HC0.out w (Below.refl _ _)
  have c0n : (w.alloc namO).cell? ⟨b, off, none⟩ = some (.string (bsv f)) := HC0.out _ ((Below.refl _ _).alloc (Nat.le_refl _) _)
  have HWR : Hid (∀ wz, Below w.heap.size w wz → WS wz (some ⟨b, off + 1, none⟩) m1 (mc - 1) r ∧ (mc = 1 → ∀ A9, WS wz A9 m1 0 r)) := fun wz hz => ws_rest h.wd hz
  have hm10 := h.m1
  have hcap := h.wd.cap
  have hn1 : (1 : Int) ≤ (m1 : Int) + 1 := by omega
  have hcq1 : (m1 : Int) + 1 ≤ (mc : Int) := by omega
  have hcq2 : (1 : Int) ≤ (mc : Int) := by omega
  have hn0 : (0 : Int) < (m1 : Int) + 1 := by omega
  have HIX := Lib.hid (ix_at hk)
  have hj7 : (0 : Int) ≤ (j : Int) := by omega
  have hj6 : j ≤ 6 := by have := kind_le f; omega
  have HNUM : Hid (∀ A9 c9 wz, WS wz A9 m1 c9 r → Calls Tryz.prog 102 #[.slice A9 m1 c9] wz (RetNum (some [a]) wz)) := fun A9 c9 wz hz => by
    have := refNums_any A9 m1 c9 r wz hz (by omega) (fun x hx => h.wl x (List.mem_cons_of_mem _ hx))
    rwa [hr] at this
  have HDN : Hid (∀ wz, Below w.heap.size w wz → Calls Tryz.prog 103 #[.slice A n c, .agg #[I ((j : Int) + 1), I a, I 0]] wz (RetD A n (doL (runR ops).1 ((j : Int) + 1) a 0) (doA (runR ops).1 ((j : Int) + 1) a) wz)) := fun wz hz => Done_any A n c (runR ops).1 ((j : Int) + 1) a 0 wz (h.ps.below hz) (chk_runR ops)
  have hbd := doA_bd (kind := ((j : Int) + 1)) (key := (a : Int)) (chk_runR ops) (runR_vals _ ops rfl h.ob)
  have hn3 := h.n3
  have HA : Hid (dAns ops (f :: r) = ((jnd [(doA (runR ops).1 ((j : Int) + 1) a).k, (doA (runR ops).1 ((j : Int) + 1) a).v]), ops ++ [((((j : Int) + 1) : Int), (a : Int), (0 : Int))])) := by show _ = _; rw [dAns_op (by omega), show dOp (kindB f) r = some (((j : Int) + 1), (a : Int), 0) by rw [dOp_one (by omega) hr, hk]; rfl]; unfold opR; simp only []; rw [if_neg (by rw [he]; decide)]; exact congrArg (fun z => (z, _)) (by unfold dTold; rw [if_neg (by omega), if_neg (by rw [hab]; decide), if_pos (by have := kind_le f; omega)])
  obtain ⟨hb1, hb2', hb3', hb4'⟩ := hbd
  have hbd0 := True.intro
  obtain ⟨⟨ae, ak, av, ab⟩, hann⟩ : ∃ x, doA (runR ops).1 ((j : Int) + 1) a = x := ⟨_, rfl⟩
  rw [hann] at HDN he hb1 hb2' hb3' hb4' hab HA
  have he2 : ae = 0 := he
  have hab2 : ab = true := hab
  subst he2 hab2
  obtain ⟨xk, rfl⟩ : ∃ x : Nat, ak = x := ⟨ak.toNat, by have : 0 ≤ ak := hb1; omega⟩
  obtain ⟨xv, rfl⟩ : ∃ x : Nat, av = x := ⟨av.toNat, by have : 0 ≤ av := hb3'; omega⟩
  have hxk : xk < 100000000 := by have : (xk : Int) < 100000000 := hb2'; omega
  have hxv : xv < 100000000 := by have : (xv : Int) < 100000000 := hb4'; omega
  have hlo : ops.length ≤ 200 := by rw [h.os.len]; exact hn3
  have hjb : ((j : Int) == 0) = false := by simp; omega
  have hj5b : ((j : Int) == 5) = false := by simp; omega
  have hj3i : ¬ (j : Int) < 3 := by omega
  have hj3b : decide ((j : Int) < 3) = false := decide_eq_false hj3i
  have hlk : ¬ (9223372036854775807 < (dg xk).length + 1) := by have := dg_len xk; omega
  have hlkv : ¬ (9223372036854775807 < (dg xk).length + 1 + (dg xv).length) := by have := dg_len xk; have := dg_len xv; omega
  try clear hk
  try clear hr
  try clear he
  try clear hann
  try clear hab
  try clear hbd0
  try clear hb1
  try clear hb2'
  try clear hb3'
  try clear hb4'
  try clear hn3
  try clear hj5
  clear h hcs hrl
  go_enter Tryz.func49, Tryz.ntmps49
  go_wp2_with fail
  refine (index_any (some ⟨w.heap.size, 0, none⟩) 7 7 nmL f _ (ws_names w) (by omega)).mono ?_
  rintro e w1 ⟨rfl, hw1⟩
  have HB1 : Hid (Below w.heap.size w w1) := by show Below _ _ _; rw [hw1]; exact (Below.refl _ _).alloc (Nat.le_refl _) _
  have c01 := HC0.out w1 HB1.out
  rw [HIX.out]
  clear hw1
  go_wp2_with fail
  all_goals
    refine (HNUM.out _ _ w1 ?hw).mono ?_
    case hw => first | with_reducible exact (HWR.out w1 HB1.out).1 | exact (HWR.out w1 HB1.out).2 (by omega) _
    rintro e w2 ⟨v9, rfl, ho9, hb2⟩
    obtain ⟨A9, c9, rfl, _, his9⟩ := ownI_told (n := 1) ho9 rfl
    obtain ⟨b9, off9, rfl, hb9, hcs9⟩ := his9.at_ (by omega)
    have e0 : w2.cell? ⟨b9, off9, none⟩ = some (I a) := hcs9 0 (by omega)
    have HB2 := Lib.hid (tr2 HB1.out hb2)
    clear hb2 ho9 his9 hcs9
    go_wp2_with fail
    refine (HDN.out _ (HB2.out.alloc HB2.out.size _)).mono ?_
    rintro e w3 ⟨A3, n3, c3, rfl, hps3, hb3, -⟩
    have HPS3 := Lib.hid hps3
    have HB23 : Hid (Below w2.heap.size w2 w3) := ((Below.refl _ _).alloc (Nat.le_refl _) _).trans (hb3.mono (by simp))
    have HOP3 : Hid (w3.heap[w2.heap.size]? = some (.cells #[I ((j : Int) + 1), I a, I 0] 69 (0, 0))) := (hb3.block _ (by simp)).trans (heap_alloc_new _ _)
    have hz3 : w2.heap.size + 1 ≤ w3.heap.size := by have h9 := hb3.size; rw [World.size_alloc] at h9; exact h9
    have HB3 := Lib.hid (tr2 HB2.out HB23.out)
    clear hps3 hb3
    go_upto_region 25 with fail
    have hop4 : (w3.alloc (.cells #[I 0, I xk, I xv, .bool true] 51)).heap[w2.heap.size]? = some (.cells #[I ((j : Int) + 1), I a, I 0] 69 (0, 0)) := (Below.heap_alloc _ _ _ (by omega)).trans HOP3.out
    have HB4 := Lib.hid (HB3.out.alloc HB3.out.size (.cells #[I 0, I xk, I xv, .bool true] 51))
    have HPS4 := Lib.hid (HPS3.out.alloc (.cells #[I 0, I xk, I xv, .bool true] 51))
    have hgo : w2.heap.size < (w3.alloc (.cells #[I 0, I xk, I xv, .bool true] 51)).heap.size := by simp; omega
    have hca := heap_alloc_new w3 (.cells #[I 0, I xk, I xv, .bool true] 51)
    have x1 : (w3.alloc (.cells #[I 0, I xk, I xv, .bool true] 51)).cell? ⟨w3.heap.size, 1, none⟩ = some (I xk) := by rw [cell_of_row _ _ _ _ _ _ hca]; rfl
    have x2 : (w3.alloc (.cells #[I 0, I xk, I xv, .bool true] 51)).cell? ⟨w3.heap.size, 2, none⟩ = some (I xv) := by rw [cell_of_row _ _ _ _ _ _ hca]; rfl
    clear hca
    generalize (w3.alloc (.cells #[I 0, I xk, I xv, .bool true] 51)) = w4 at *
    have HQ1 := Lib.hid fun wz => dig_same xk (by omega) wz
    have HQ2 := Lib.hid fun wz => dig_same xv (by omega) wz
    go_quiet ((first | (go_at_call 104; with_reducible exact Calls.quiet_of_same (HQ1.out _)) | (go_at_call 104; with_reducible exact Calls.quiet_of_same (HQ2.out _))))
    clear x1 x2 HQ1 HQ2
    go_upto_region 26 with fail
    have hop5 : (w4.drewN nq).heap[w2.heap.size]? = some (.cells #[I ((j : Int) + 1), I a, I 0] 69 (0, 0)) := hop4
    have hgo5 : w2.heap.size < (w4.drewN nq).heap.size := hgo
    have HB5 : Hid (Below w.heap.size w (w4.drewN nq)) := below_drewN HB4.out nq
    have HPS5 : Hid (PS (w4.drewN nq) A3 n3 c3 (doL (runR ops).1 ((j : Int) + 1) a 0)) := HPS4.out.below (below_drewN (Below.refl _ _) nq)
    clear hop4 hgo HB4 HPS4
    obtain ⟨HB4, HPS4, hop4, hgo⟩ := And.intro HB5 (And.intro HPS5 (And.intro hop5 hgo5))
    clear hop5 hgo5 HB5 HPS5
    generalize w4.drewN nq = w4 at *
    generalize w2.heap.size = go at *
    generalize (j : Int) + 1 = kk at *
    have p0 : w4.cell? ⟨go, 0, none⟩ = some (I kk) := by simp [World.cell?, hop4]
    have p1 : w4.cell? ⟨go, 1, none⟩ = some (I a) := by simp [World.cell?, hop4]
    have p2 : w4.cell? ⟨go, 2, none⟩ = some (I 0) := by simp [World.cell?, hop4]
    clear hop4
    have HCL : Hid (∀ x, Below w4.heap.size w4 x → Calls Tryz.prog 105 #[.slice A' n' c'] x fun e w' => ∃ v, e = .returned v ∧ OwnO w' x.heap.size v ops ∧ Below x.heap.size x w') := fun x hx => cloneO_any A' n' c' ops x (HX.out.os.below (HB4.out.trans (hx.mono HB4.out.size))) (by have := HX.out.n3; omega)
    go_region_held3 (fun V => V.cell? ⟨go, 0, none⟩ = some (I kk) ∧ V.cell? ⟨go, 1, none⟩ = some (I a) ∧ V.cell? ⟨go, 2, none⟩ = some (I 0))
      (first
        | exact ⟨q0, q1, q2⟩
        | exact ⟨ck q0 _, ck q1 _, ck q2 _⟩
        | exact ⟨p0, p1, p2⟩
        | exact ⟨ck p0 _, ck p1 _, ck p2 _⟩)
      (first
        | (go_at_call 105
           with_reducible refine (HCL.out _ (by first | exact (Below.refl _ _).drew | exact ((Below.refl _ _).alloc (Nat.le_refl _) _).drew)).mono ?_
           rintro e w5 ⟨v5, rfl, ho5, hb5⟩
           have hB5 : Below w4.heap.size w4 w5 := by
             first
               | exact (Below.refl w4.heap.size w4).drew.trans hb5
               | exact ((Below.refl w4.heap.size w4).alloc (Nat.le_refl _) _).drew.trans (hb5.mono (by simp))
           have q0 : w5.cell? ⟨go, 0, none⟩ = some (I kk) := (hB5.cell (p := ⟨go, 0, none⟩) hgo).trans p0
           have q1 : w5.cell? ⟨go, 1, none⟩ = some (I a) := (hB5.cell (p := ⟨go, 1, none⟩) hgo).trans p1
           have q2 : w5.cell? ⟨go, 2, none⟩ = some (I 0) := (hB5.cell (p := ⟨go, 2, none⟩) hgo).trans p2
           have HO5 : Hid (w5.ownsRow w4.heap.size 69 3 v5 ops.length (flatO ops)) := own_mono1 ho5 (by simp)
           try (have HN5 : Hid (∀ j u, [I kk, I a, I 0][j]? = some u → w5.cell? ((⟨w4.heap.size, 0, none⟩ : Addr).add j) = some u) := lk_keep (w := (w4.alloc (lnO kk a 0)).drew) (sp := ⟨w4.heap.size, 0, none⟩) (fun j u hu => three_new w4 kk a 0 69 j u hu) hb5)
           have HB5 := Lib.hid hB5
           clear ho5 hb5 hB5)
        | (refine step_op1 rfl (.tmp 125) (.tmp 127) 32 rfl 69 Tryz.underlying32 op_info w4.heap.size v5 ops.length (flatO ops) ⟨w4.heap.size, 0, none⟩ [I kk, I a, I 0] rfl rfl HO5.out rfl HN5.out (three_one kk a 0) (by omega) HB5.out.size ?_
           intro v6 w6 hown6 hgrow6
           have hb6 : Below w4.heap.size w4 w6 := HB5.out.grown hgrow6 HB5.out.size (own_ge1 HO5.out)
           have q0 : w6.cell? ⟨go, 0, none⟩ = some (I kk) := (hb6.cell (p := ⟨go, 0, none⟩) hgo).trans p0
           have q1 : w6.cell? ⟨go, 1, none⟩ = some (I a) := (hb6.cell (p := ⟨go, 1, none⟩) hgo).trans p1
           have q2 : w6.cell? ⟨go, 2, none⟩ = some (I 0) := (hb6.cell (p := ⟨go, 2, none⟩) hgo).trans p2
           obtain ⟨A6, c6, hv6, hos6⟩ := OwnO.os (own_op1 hown6)
           have HB6 := Lib.hid hb6
           have HV6 := Lib.hid hv6
           have HOS6 := Lib.hid hos6
           clear hown6 hgrow6 hv6 hos6 hb6)
        | (refine step_op1 rfl (.tmp 125) (.tmp 127) 32 rfl 69 Tryz.underlying32 op_info w4.heap.size v5 ops.length (flatO ops) ⟨w5.heap.size, 0, none⟩ [I kk, I a, I 0] rfl rfl (own_below HO5.out ((Below.refl _ _).alloc (Nat.le_refl _) _)) rfl (fun j u hu => three_new w5 kk a 0 69 j u hu) (three_one kk a 0) (by omega) (by have := HB5.out.size; simp; omega) ?_
           intro v6 w6 hown6 hgrow6
           have hb6 : Below w4.heap.size w4 w6 := (HB5.out.alloc HB5.out.size _).grown hgrow6 (by have := HB5.out.size; simp; omega) (own_ge1 HO5.out)
           have q0 : w6.cell? ⟨go, 0, none⟩ = some (I kk) := (hb6.cell (p := ⟨go, 0, none⟩) hgo).trans p0
           have q1 : w6.cell? ⟨go, 1, none⟩ = some (I a) := (hb6.cell (p := ⟨go, 1, none⟩) hgo).trans p1
           have q2 : w6.cell? ⟨go, 2, none⟩ = some (I 0) := (hb6.cell (p := ⟨go, 2, none⟩) hgo).trans p2
           obtain ⟨A6, c6, hv6, hos6⟩ := OwnO.os (own_op1 hown6)
           have HB6 := Lib.hid hb6
           have HV6 := Lib.hid hv6
           have HOS6 := Lib.hid hos6
           clear hown6 hgrow6 hv6 hos6 hb6)
        | fail)
    all_goals go_wp2
    all_goals go_ret3
    all_goals exact ln_done (HPS4.out.below HB6.out) HOS6.out HV6.out (tr2 HB4.out HB6.out) HA.out (by rw [bsv_app, bsv_app]; exact congrArg bsv (jnd_two xk xv).symm)
end Go.Proofs.YtpnjnedfcdppaaaGreatDoor
