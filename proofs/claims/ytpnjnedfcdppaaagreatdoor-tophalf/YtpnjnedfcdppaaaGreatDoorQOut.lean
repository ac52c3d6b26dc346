/-
  package half: a key is taken away from the parts; the greatest one of them. (Written by tools/gen_qout.py.)
-/
import Derived.Test.YtpnjnedfcdppaaaGreatDoorQWithA
namespace Go.Proofs.YtpnjnedfcdppaaaGreatDoor
open Go.RowKit Go.Maps

def WoR (n T : Nat) (S' : KS) (F : Nat → Prop) (w : World) (e : Ending) (w' : World) : Prop :=
  ∃ (po : Option Nat) (F' : Nat → Prop), e = .returned (qp po) ∧ QR n w' (T + qc n) po S' F' ∧ (∀ x, F' x → x < w'.heap.size ∧ (F x ∨ w.heap.size ≤ x)) ∧ QK F w w'
def WoutC (n : Nat) : Prop := ∀ (g T : Nat) (S : KS) (F : Nat → Prop) (key : Int) (w : World), QR n w T (some g) S F → (∀ x, F x → x < w.heap.size) → S key → T + qc n ≤ 1000000 →
  Calls Tryz.prog 152 #[.pointer (some ⟨g, 0, none⟩), I key] w (WoR n T (QCut S key) F w)
theorem QMb.del {w : World} {T b : Nat} {Q : Int → Option Nat} {D : DataW Unit} (h2 : ∀ h, D.atKey (.int .i64 h) .nil = qd (Q h)) {k : Int} (ho : w.ownsMap Tryz.prog 3 rp b T (D.del (.int .i64 k))) : QMb w T b (qupd Q k none) := by
  refine ⟨_, ho, fun x => ?_⟩
  by_cases hx : x = k
  · subst hx
    rw [qupd_same]
    exact atKey_del_same _
  · rw [qupd_ne _ _ hx, ← h2 x]
    exact atKey_del_other (by simp [hx]) _
/-- behind the cut in a part that has more: the map tells it -/
theorem part_last {n : Nat} {w w4 w5 : World} {g b : Nat} {lo hi : Int} {T T4 : Nat} {hq4 : Option Nat} {R R' : KS} {Px : KS} {F F4 : Nat → Prop} {Q : Int → Option Nat} {FH4 : Nat → Prop} {FP : Int → Nat → Prop} {x : Int} {g5 : Nat} {F5 : Nat → Prop}
    (Z4 : QZ n w4 T4 g (some b) hq4 (QHi (qq n) R') (QLo (qq n) R) F4 Q FH4 FP) (B4 : QN w4 g (qbt n) lo hi (some b) hq4) (K4 : QK F w w4) (L4 : ∀ y, F4 y → y < w4.heap.size ∧ (F y ∨ w.heap.size ≤ y)) (hbd : QBd (qq n * qq n) R')
    (hx : 0 ≤ x ∧ x ≤ 1000000) (hP : QLo (qq n) R' x = Px ∧ ∀ h, h ≠ x → QLo (qq n) R' h = QLo (qq n) R h) (hT : T4 ≤ T + qc n) (hT2 : T4 + qc n < 1000000)
    (hr5 : QR n w5 (T4 + qc n) (some g5) Px F5) (hl5 : ∀ y, F5 y → y < w5.heap.size ∧ (FP x y ∨ w4.heap.size ≤ y)) (hk5 : QK (FP x) w4 w5) :
    w5.cell? ⟨g, 3, none⟩ = some (.map (some b)) ∧ ∃ w6, (Instr.mapUpdate 214 (.map (some b)) (I x) (.pointer (some ⟨g5, 0, none⟩))).run Tryz.prog w5 = .ok () w6 ∧ AddR n g lo hi R' T F w (.returned (.tuple #[])) w6 := by
  have hgb : w5.heap[g]? = w4.heap[g]? := hk5.block g (Z4.lt g Z4.ge) (fun e => (Z4.fp x g e).2.1 rfl)
  obtain ⟨hbF, hbg, _, _⟩ := Z4.fm b rfl
  obtain ⟨w6, hupd, hm6, hg6⟩ := ((Z4.map_at hk5).mono (show T4 ≤ T4 + qc n by omega)).store (by omega) hx g5
  have Z6 := Z4.part (x := x) (po := some g5) (P' := QLo (qq n) R') (T' := T4 + qc n) (T2 := T4 + qc n + 1) (by omega) (by omega) (by rw [hP.1]; exact hr5) hl5 hk5 hg6 hm6 (fun h hne => hP.2 h hne)
  have B6 : QN w6 g (qbt n) lo hi (some b) hq4 := B4.keep ((hg6.block g (Nat.lt_of_lt_of_le (Z4.lt g Z4.ge) hk5.size) (fun e => hbg (Option.some.inj e).symm)).trans hgb)
  have K5 : QK F w w5 := K4.trans hk5 (fun _ _ e => e) (fun y hy e => (L4 y (Z4.fp x y e).1).2.resolve_right (by omega))
  have K6 : QK F w w6 := K5.trans (F' := F4) ⟨hg6.os, hg6.tape, hg6.output, hg6.size, fun y hy hy2 => hg6.block y hy (fun e => hy2 (by cases e; exact hbF))⟩ (fun _ _ e => e) (fun y hy e => (L4 y e).2.resolve_right (by omega))
  refine ⟨(B4.keep hgb).c3, w6, hupd, rfl, _, _, _, _, _, _, B6, (Z6.mono (by omega)).y hbd, .inl Z4.ge, fun y hy => ⟨Z6.lt y hy, ?_⟩, K6⟩
  rcases hy with hy | hy
  · exact (L4 y hy).2
  · rcases (hl5 y hy).2 with e | e
    · exact (L4 y (Z4.fp x y e).1).2
    · have := K4.size
      exact .inr (by omega)
/-- behind the cut of the last key of a part: it is struck from the map -/
theorem part_drop {n : Nat} {w w4 w5 w6 : World} {g b : Nat} {lo hi : Int} {T4 : Nat} {hq4 : Option Nat} {R R' : KS} {F F4 : Nat → Prop} {Q : Int → Option Nat} {FH4 : Nat → Prop} {FP : Int → Nat → Prop} {x : Int} {F5 : Nat → Prop}
    (Z4 : QZ n w4 T4 g (some b) hq4 (QHi (qq n) R) (QLo (qq n) R) F4 Q FH4 FP) (B4 : QN w4 g (qbt n) lo hi (some b) hq4) (K4 : QK F w w4) (L4 : ∀ y, F4 y → y < w4.heap.size ∧ (F y ∨ w.heap.size ≤ y))
    (hP : ∀ h, h ≠ x → QLo (qq n) R' h = QLo (qq n) R h)
    (hr5 : QR n w5 (T4 + qc n) none (QLo (qq n) R' x) F5) (hl5 : ∀ y, F5 y → y < w5.heap.size ∧ (FP x y ∨ w4.heap.size ≤ y)) (hk5 : QK (FP x) w4 w5) (hg6 : w5.grownBy w6 (some b)) (hm6 : QMb w6 (T4 + qc n) b (qupd Q x none)) :
    ∃ (F6 : Nat → Prop) (Q6 : Int → Option Nat) (FP6 : Int → Nat → Prop), QZ n w6 (T4 + qc n) g (some b) hq4 (QHi (qq n) R) (QLo (qq n) R') F6 Q6 FH4 FP6 ∧ QN w6 g (qbt n) lo hi (some b) hq4 ∧ QK F w w6 ∧ ∀ y, F6 y → y < w6.heap.size ∧ (F y ∨ w.heap.size ≤ y) := by
  have hgb : w5.heap[g]? = w4.heap[g]? := hk5.block g (Z4.lt g Z4.ge) (fun e => (Z4.fp x g e).2.1 rfl)
  obtain ⟨hbF, hbg, _, _⟩ := Z4.fm b rfl
  have Z6 := Z4.part (x := x) (po := none) (P' := QLo (qq n) R') (T' := T4 + qc n) (T2 := T4 + qc n) (by omega) (by omega) hr5 hl5 hk5 hg6 hm6 (fun h hne => hP h hne)
  have B6 : QN w6 g (qbt n) lo hi (some b) hq4 := B4.keep ((hg6.block g (Nat.lt_of_lt_of_le (Z4.lt g Z4.ge) hk5.size) (fun e => hbg (Option.some.inj e).symm)).trans hgb)
  have K5 : QK F w w5 := K4.trans hk5 (fun _ _ e => e) (fun y hy e => (L4 y (Z4.fp x y e).1).2.resolve_right (by omega))
  have K6 : QK F w w6 := K5.trans (F' := F4) ⟨hg6.os, hg6.tape, hg6.output, hg6.size, fun y hy hy2 => hg6.block y hy (fun e => hy2 (by cases e; exact hbF))⟩ (fun _ _ e => e) (fun y hy e => (L4 y e).2.resolve_right (by omega))
  refine ⟨_, _, _, Z6, B6, K6, fun y hy => ⟨Z6.lt y hy, ?_⟩⟩
  rcases hy with hy | hy
  · exact (L4 y hy).2
  · rcases (hl5 y hy).2 with e | e
    · exact (L4 y (Z4.fp x y e).1).2
    · have := K4.size
      exact .inr (by omega)
/-- behind the cut in the highs -/
theorem high_last {n : Nat} {w w6 w7 : World} {g : Nat} {lo hi : Int} {T T6 : Nat} {m hq : Option Nat} {H : KS} {R' : KS} {F F6 : Nat → Prop} {Q : Int → Option Nat} {FH : Nat → Prop} {FP : Int → Nat → Prop} {po : Option Nat} {F7 : Nat → Prop}
    (Z6 : QZ n w6 T6 g m hq H (QLo (qq n) R') F6 Q FH FP) (B6 : QN w6 g (qbt n) lo hi m hq) (K6 : QK F w w6) (L6 : ∀ y, F6 y → y < w6.heap.size ∧ (F y ∨ w.heap.size ≤ y)) (hbd : QBd (qq n * qq n) R') (hT : T6 + qc n ≤ T + (2 * qc n + 1))
    (hr7 : QR n w7 (T6 + qc n) po (QHi (qq n) R') F7) (hl7 : ∀ y, F7 y → y < w7.heap.size ∧ (FH y ∨ w6.heap.size ≤ y)) (hk7 : QK FH w6 w7) :
    w7.frozen? ⟨g, 4, none⟩ = false ∧ w7.cell? ⟨g, 4, none⟩ = some (qp hq) ∧ AddR n g lo hi R' T F w (.returned (.tuple #[])) (w7.setCell ⟨g, 4, none⟩ (qp po)) := by
  have hgb : w7.heap[g]? = w6.heap[g]? := hk7.block g (Z6.lt g Z6.ge) (fun e => (Z6.fh g e).2 rfl)
  have b7 := B6.keep hgb
  have Z7 := (Z6.high (T' := T6 + qc n) (by omega) hr7 hl7 hk7).cell 4 (qp po)
  have K7 : QK F w w7 := K6.trans hk7 (fun _ _ e => e) (fun y hy e => (L6 y (Z6.fh y e).1).2.resolve_right (by omega))
  have K8 : QK F w (w7.setCell ⟨g, 4, none⟩ (qp po)) := K7.trans (F' := F6) ((QK.refl F6 w7).set Z6.ge 4 _) (fun _ _ e => e) (fun y hy e => (L6 y e).2.resolve_right (by omega))
  refine ⟨b7.fr 4, b7.c4, rfl, _, _, _, _, _, _, b7.s4 po, (Z7.mono hT).y hbd, .inl Z6.ge, fun y hy => ⟨Z7.lt y hy, ?_⟩, K8⟩
  rcases hy with hy | hy
  · exact (L6 y hy).2
  · rcases (hl7 y hy).2 with e | e
    · exact (L6 y (Z6.fh y e).1).2
    · have := K6.size
      exact .inr (by omega)
theorem neq_some (g : Nat) (w : World) : (binOp BinOp.neq 137 (.pointer (some ⟨g, 0, none⟩)) (.pointer none)).run Tryz.prog w = .ok (.bool true) w := by kernel_rfl

set_option maxHeartbeats 4000000 in
theorem take_any {n : Nat} (hn : n ≤ 3) (ih : WoutC n) (g : Nat) (lo hi : Int) (m hq : Option Nat) (R : KS) (F : Nat → Prop) (Q : Int → Option Nat) (FH : Nat → Prop) (FP : Int → Nat → Prop) (key : Int) (T : Nat) (w : World)
    (hb : QN w g (qbt n) lo hi m hq) (hy : QY n w T g m hq R F Q FH FP) (hg : F g) (hF : ∀ x, F x → x < w.heap.size) (hk : R key) (hT : T + (2 * qc n + 1) ≤ 1000000) :
    Calls Tryz.prog 205 #[.pointer (some ⟨g, 0, none⟩), I key] w (AddR n g lo hi (QCut R key) T F w) := by
  have hqp := qq_pos n
  obtain ⟨h0, h1⟩ := hy.bd key hk
  have h6 := qq_le4 (show n + 1 ≤ 4 by omega)
  have h61 : qq (n + 1) = qq n * qq n := rfl
  have h7 := qq_le hn
  obtain ⟨d0, d1⟩ := qdiv_bd hqp h0 h1
  have HSP := Lib.hid (split_any hn w hb h0 (by omega))
  have HZ := Lib.hid (hy.z hg hF)
  have HB := Lib.hid hb
  have HBD := Lib.hid (qcut_bd (k := key) hy.bd)
  have HX0 : Hid (0 ≤ key / qq n ∧ key / qq n ≤ 1000000) := ⟨d0, by omega⟩
  have HPU : Hid (QLo (qq n) (QCut R key) (key / qq n) = QCut (QLo (qq n) R (key / qq n)) (key % qq n) ∧ ∀ h, h ≠ key / qq n → QLo (qq n) (QCut R key) h = QLo (qq n) R h) := ⟨qlo_cut, fun h hne => qlo_cut_ne hne⟩
  have HIN : Hid (QLo (qq n) R (key / qq n) (key % qq n)) := qlo_iff.2 hk
  have HHI : Hid (QHi (qq n) R (key / qq n)) := ⟨key, hk, rfl⟩
  have HHS : Hid (∀ l, QCut (QLo (qq n) R (key / qq n)) (key % qq n) l → QHi (qq n) (QCut R key) = QHi (qq n) R) := fun l hl => qhi_cut_some hl
  have HHN : Hid ((∀ l, ¬ QCut (QLo (qq n) R (key / qq n)) (key % qq n) l) → QHi (qq n) (QCut R key) = QCut (QHi (qq n) R) (key / qq n)) := fun hl => qhi_cut_none hl
  clear hb hy hF h0 h1 h6 h61 d0 d1 hqp hk
  generalize key / qq n = x at *
  generalize key % qq n = z at *
  obtain ⟨p, hqx⟩ := (HZ.out.qp x).some_of HIN.out
  obtain ⟨gh, hgh⟩ := HZ.out.qh.some_of HHI.out
  subst hgh
  have HQX := Lib.hid hqx
  clear hqx
  cases m with
  | none => exact absurd HQX.out (by rw [show Q x = none from HZ.out.qm x]; simp)
  | some b =>
    have hns := neq_some
    go_enter Tryz.func205, Tryz.ntmps205
    go_wp2_with fail
    refine HSP.out.mono ?_
    rintro e w1 ⟨rfl, j, hw1⟩
    have hh1 : w1.heap = w.heap := by rw [hw1]; rfl
    have K1 : Hid (QK F w w1) := by show QK F w w1; rw [hw1]; exact (QK.refl F w).drewN j
    have Z1 : Hid (QZ n w1 T g (some b) (some gh) (QHi (qq n) R) (QLo (qq n) R) F Q FH FP) := by show QZ _ _ _ _ _ _ _ _ _ _ _ _; rw [hw1]; exact HZ.out.drewN j
    have B1 : Hid (QN w1 g (qbt n) lo hi (some b) (some gh)) := HB.out.keep (by rw [hh1])
    have L1 : Hid (∀ y, F y → y < w1.heap.size ∧ (F y ∨ w.heap.size ≤ y)) := fun y hy => ⟨Z1.out.lt y hy, .inl hy⟩
    clear hw1 hh1
    have c3 := B1.out.c3
    have hlook := Z1.out.qm.look_some HX0.out HQX.out
    have HW : Hid (Calls Tryz.prog 152 #[.pointer (some ⟨p, 0, none⟩), I z] w1 (WoR n T (QCut (QLo (qq n) R x) z) (FP x) w1)) := ih p T (QLo (qq n) R x) (FP x) z w1 (by have := Z1.out.qp x; rw [HQX.out] at this; exact this) (fun y hy => Z1.out.lt y (Z1.out.fp x y hy).1) HIN.out (by omega)
    go_wp2_with fail
    refine HW.out.mono ?_
    rintro e w2 ⟨po, F2, rfl, hr2, hl2, hk2⟩
    cases po with
    | some p2 =>
      obtain ⟨l, hl⟩ := hr2.has
      have Z1' : QZ n w1 T g (some b) (some gh) (QHi (qq n) (QCut R key)) (QLo (qq n) R) F Q FH FP := by rw [HHS.out l hl]; exact Z1.out
      obtain ⟨e3, w6, hupd, h6⟩ := part_last (T := T) Z1' B1.out K1.out L1.out HBD.out HX0.out HPU.out (by omega) (by omega) hr2 hl2 hk2
      have H6 := Lib.hid h6
      clear hr2 hl2 hk2 h6 hl Z1'
      have hq2 : qp (some p2) = .pointer (some ⟨p2, 0, none⟩) := rfl
      rw [hq2]
      clear hq2
      go_wp2
      refine bodyPost_ret (results_none rfl _ _ _) rfl ?_
      exact H6.out
    | none =>
      have hq2 : qp none = .pointer none := rfl
      rw [hq2]
      clear hq2
      have hem := QR.none_iff.1 hr2
      have hr2' : QR n w2 (T + qc n) none (QLo (qq n) (QCut R key) x) F2 := by rw [HPU.out.1]; exact hr2
      have HHE := Lib.hid (HHN.out hem)
      have hgb : w2.heap[g]? = w1.heap[g]? := hk2.block g (Z1.out.lt g Z1.out.ge) (fun e => (Z1.out.fp x g e).2.1 rfl)
      have e3 := (B1.out.keep hgb).c3
      have HR2 := Lib.hid hr2'
      have HL2 := Lib.hid hl2
      have HK2 := Lib.hid hk2
      obtain ⟨D, hD, hQ⟩ := (Z1.out.map_at hk2).mono (show T ≤ T + qc n by omega)
      have HD := Lib.hid hD
      have HQ := Lib.hid hQ
      have hkey := keyOf_int_mk Tryz.underlying3 (wf_key HX0.out)
      clear hem hr2 hr2' hl2 hk2 hgb hD hQ
      go_wp2_with (first
        | (at_delete; refine wpList_delete_own _ rfl _ _ 214 3 rfl 137 keyed_int Tryz.underlying214 rp b (T + qc n) D rfl HD.out _ _ rfl hkey ?_; intro w3 hown3 hturn3
           obtain ⟨F6, Q6, FP6, z6, b6, k6, l6⟩ := part_drop (R' := QCut R key) (w6 := w3) Z1.out B1.out K1.out L1.out HPU.out.2 HR2.out HL2.out HK2.out hturn3.grown (QMb.del HQ.out hown3)
           have Z6 := Lib.hid z6
           have B6 := Lib.hid b6
           have K6 := Lib.hid k6
           have L6 := Lib.hid l6
           clear z6 b6 k6 l6 hown3 hturn3
           have c4 : w3.cell? ⟨g, 4, none⟩ = some (.pointer (some ⟨gh, 0, none⟩)) := B6.out.c4)
        | fail)
      clear e3 HD HQ hkey
      have HW7 : Hid (Calls Tryz.prog 152 #[.pointer (some ⟨gh, 0, none⟩), I x] w3 (WoR n (T + qc n) (QCut (QHi (qq n) R) x) FH w3)) := ih gh (T + qc n) (QHi (qq n) R) FH x w3 Z6.out.qh (fun y hy => Z6.out.lt y (Z6.out.fh y hy).1) HHI.out (by omega)
      refine HW7.out.mono ?_
      rintro e w7 ⟨po, F7, rfl, hr7, hl7, hk7⟩
      obtain ⟨fz, e4, h8⟩ := high_last (T := T) Z6.out B6.out K6.out L6.out HBD.out (by omega) (by rw [HHE.out]; exact hr7) hl7 hk7
      have H8 := Lib.hid h8
      clear hr7 hl7 hk7 h8
      obtain ⟨pv, hpv⟩ : ∃ pv, qp po = .pointer pv := ⟨_, rfl⟩
      rw [hpv] at H8 ⊢
      clear hpv
      go_wp2
      (first | exact H8.out | (go_end0; exact H8.out))
end Go.Proofs.YtpnjnedfcdppaaaGreatDoor
