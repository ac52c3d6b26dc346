/-
  package half: a key is put: with, addToPart. (Written by tools/gen_qwith.py.)
-/
import Derived.Test.YtpnjnedfcdppaaaGreatDoorQNext
import Derived.Test.YtpnjnedfcdppaaaGreatDoorQZone
import Derived.Deep.RegionWith
namespace Go.Proofs.YtpnjnedfcdppaaaGreatDoor
open Go.RowKit Go.Maps

theorem eqmap_nil (w : World) : (binOp BinOp.eql 214 (.map none) (.map none)).run Tryz.prog w = .ok (.bool true) w := by kernel_rfl
theorem eqmap_some (b : Nat) (w : World) : (binOp BinOp.eql 214 (.map (some b)) (.map none)).run Tryz.prog w = .ok (.bool false) w := by kernel_rfl
/-- how many stores one put makes in one map at most -/
def qc : Nat → Nat
  | 0 => 1
  | n + 1 => 2 * qc n + 1
theorem qc_le {n : Nat} (h : n ≤ 4) : qc n ≤ 31 := by
  match n, h with
  | 0, _ => decide
  | 1, _ => decide
  | 2, _ => decide
  | 3, _ => decide
  | 4, _ => decide
def WiR (n T : Nat) (S' : KS) (F : Nat → Prop) (w : World) (e : Ending) (w' : World) : Prop :=
  ∃ (g' : Nat) (F' : Nat → Prop), e = .returned (.pointer (some ⟨g', 0, none⟩)) ∧ QR n w' (T + qc n) (some g') S' F' ∧ (∀ x, F' x → x < w'.heap.size ∧ (F x ∨ w.heap.size ≤ x)) ∧ QK F w w'
def WithC (n : Nat) : Prop := ∀ (p : Option Nat) (T : Nat) (S : KS) (F : Nat → Prop) (key : Int) (w : World), QR n w T p S F → (∀ x, F x → x < w.heap.size) → 0 ≤ key → key < qq n → T + qc n ≤ 1000000 →
  Calls Tryz.prog 151 #[qp p, I key, I (qbt n)] w (WiR n T (QPut S key) F w)
def AddR (n g : Nat) (lo hi : Int) (R' : KS) (T : Nat) (F : Nat → Prop) (w : World) (e : Ending) (w' : World) : Prop :=
  e = .returned (.tuple #[]) ∧ ∃ (m' hq' : Option Nat) (Q' : Int → Option Nat) (FH' : Nat → Prop) (FP' : Int → Nat → Prop) (F' : Nat → Prop), QN w' g (qbt n) lo hi m' hq' ∧ QY n w' (T + (2 * qc n + 1)) g m' hq' R' F' Q' FH' FP' ∧ F' g ∧ (∀ x, F' x → x < w'.heap.size ∧ (F x ∨ w.heap.size ≤ x)) ∧ QK F w w'
theorem QR.drew {n : Nat} {w : World} {T : Nat} {p : Option Nat} {S : KS} {F : Nat → Prop} (h : QR n w T p S F) : QR n w.drew T p S F := h.keep fun _ _ => rfl
theorem QZ.drew {n : Nat} {w : World} {T g : Nat} {m hq : Option Nat} {H : KS} {P : Int → KS} {F : Nat → Prop} {Q : Int → Option Nat} {FH : Nat → Prop} {FP : Int → Nat → Prop} (z : QZ n w T g m hq H P F Q FH FP) : QZ n w.drew T g m hq H P F Q FH FP := z.drewN 1
theorem QK.drew {F : Nat → Prop} {a b : World} (h : QK F a b) : QK F a b.drew := ⟨h.os, h.tape, h.output, h.size, h.block⟩
/-- what a step in a part or in the highs does is done in F -/
theorem QK.into {n : Nat} {w w1 w2 : World} {T g : Nat} {m hq : Option Nat} {H : KS} {P : Int → KS} {F F0 : Nat → Prop} {Q : Int → Option Nat} {FH : Nat → Prop} {FP : Int → Nat → Prop} {G : Nat → Prop} (h : QK F0 w w1) (k : QK G w1 w2) (hG : ∀ x, x < w.heap.size → G x → F0 x) : QK F0 w w2 :=
  h.trans k (fun _ _ e => e) hG

/-- behind the put in a part: the map tells it  -/
theorem add_last {n : Nat} {w w4 w5 : World} {g b : Nat} {lo hi : Int} {T T4 : Nat} {hq4 : Option Nat} {R : KS} {F F4 : Nat → Prop} {Q : Int → Option Nat} {FH4 : Nat → Prop} {FP : Int → Nat → Prop} {key x z : Int} {g5 : Nat} {F5 : Nat → Prop}
    (Z4 : QZ n w4 T4 g (some b) hq4 (QHi (qq n) (QPut R key)) (QLo (qq n) R) F4 Q FH4 FP) (B4 : QN w4 g (qbt n) lo hi (some b) hq4) (K4 : QK F w w4) (L4 : ∀ y, F4 y → y < w4.heap.size ∧ (F y ∨ w.heap.size ≤ y)) (hbd : QBd (qq n * qq n) (QPut R key))
    (hx : 0 ≤ x ∧ x ≤ 1000000) (hP : QLo (qq n) (QPut R key) x = QPut (QLo (qq n) R x) z ∧ ∀ h, h ≠ x → QLo (qq n) (QPut R key) h = QLo (qq n) R h) (hT : T4 ≤ T + qc n) (hT2 : T4 + qc n < 1000000)
    (hr5 : QR n w5 (T4 + qc n) (some g5) (QPut (QLo (qq n) R x) z) F5) (hl5 : ∀ y, F5 y → y < w5.heap.size ∧ (FP x y ∨ w4.drew.heap.size ≤ y)) (hk5 : QK (FP x) w4.drew w5) :
    w5.cell? ⟨g, 3, none⟩ = some (.map (some b)) ∧ ∃ w6, (Instr.mapUpdate 214 (.map (some b)) (I x) (.pointer (some ⟨g5, 0, none⟩))).run Tryz.prog w5 = .ok () w6 ∧ AddR n g lo hi (QPut R key) T F w (.returned (.tuple #[])) w6 := by
  have hs : w4.drew.heap.size = w4.heap.size := rfl
  have hgb : w5.heap[g]? = w4.heap[g]? := hk5.block g (Z4.lt g Z4.ge) (fun e => (Z4.fp x g e).2.1 rfl)
  have Z4d : QZ n w4.drew T4 g (some b) hq4 (QHi (qq n) (QPut R key)) (QLo (qq n) R) F4 Q FH4 FP := Z4.drew
  obtain ⟨hbF, hbg, _, _⟩ := Z4.fm b rfl
  obtain ⟨w6, hupd, hm6, hg6⟩ := ((Z4d.map_at hk5).mono (show T4 ≤ T4 + qc n by omega)).store (by omega) hx g5
  have Z6 := Z4d.part (x := x) (po := some g5) (P' := QLo (qq n) (QPut R key)) (T' := T4 + qc n) (T2 := T4 + qc n + 1) (by omega) (by omega) (by rw [hP.1]; exact hr5) hl5 hk5 hg6 hm6 (fun h hne => hP.2 h hne)
  have B6 : QN w6 g (qbt n) lo hi (some b) hq4 := B4.keep ((hg6.block g (Nat.lt_of_lt_of_le (Z4.lt g Z4.ge) hk5.size) (fun e => hbg (Option.some.inj e).symm)).trans hgb)
  have K5 : QK F w w5 := K4.drew.trans hk5 (fun _ _ e => e) (fun y hy e => (L4 y (Z4.fp x y e).1).2.resolve_right (by omega))
  have K6 : QK F w w6 := K5.trans (F' := F4) ⟨hg6.os, hg6.tape, hg6.output, hg6.size, fun y hy hy2 => hg6.block y hy (fun e => hy2 (by cases e; exact hbF))⟩ (fun _ _ e => e) (fun y hy e => (L4 y e).2.resolve_right (by omega))
  refine ⟨(B4.keep hgb).c3, w6, hupd, rfl, _, _, _, _, _, _, B6, (Z6.mono (by omega)).y hbd, .inl Z4.ge, fun y hy => ⟨Z6.lt y hy, ?_⟩, K6⟩
  rcases hy with hy | hy
  · exact (L4 y hy).2
  · rcases (hl5 y hy).2 with e | e
    · exact (L4 y (Z4.fp x y e).1).2
    · have := K4.size
      exact .inr (by omega)

set_option maxHeartbeats 4000000 in
theorem add_any {n : Nat} (hn : n ≤ 3) (ih : WithC n) (g : Nat) (lo hi : Int) (m hq : Option Nat) (R : KS) (F : Nat → Prop) (Q : Int → Option Nat) (FH : Nat → Prop) (FP : Int → Nat → Prop) (key : Int) (T : Nat) (w : World)
    (hb : QN w g (qbt n) lo hi m hq) (hy : QY n w T g m hq R F Q FH FP) (hg : F g) (hF : ∀ x, F x → x < w.heap.size) (h0 : 0 ≤ key) (h1 : key < qq n * qq n) (hT : T + (2 * qc n + 1) ≤ 1000000) :
    Calls Tryz.prog 204 #[.pointer (some ⟨g, 0, none⟩), I key] w (AddR n g lo hi (QPut R key) T F w) := by
  have hqp := qq_pos n
  have h6 := qq_le4 (show n + 1 ≤ 4 by omega)
  have h61 : qq (n + 1) = qq n * qq n := rfl
  have h7 := qq_le hn
  have hqc := qc_le (show n ≤ 4 by omega)
  have hen := eqmap_nil
  have hes := eqmap_some
  obtain ⟨d0, d1⟩ := qdiv_bd hqp h0 h1
  obtain ⟨r0, r1⟩ := qmod_bd hqp key
  have HSP := Lib.hid (split_any hn w hb h0 (by omega))
  have HZ := Lib.hid (hy.z hg hF)
  have HB := Lib.hid hb
  have HBD := Lib.hid (qput_bd hy.bd h0 h1)
  have HX0 : Hid (0 ≤ key / qq n ∧ key / qq n ≤ 1000000) := ⟨d0, by omega⟩
  have HX1 := Lib.hid d1
  have HR : Hid (0 ≤ key % qq n ∧ key % qq n < qq n) := ⟨r0, r1⟩
  have HPU : Hid (QLo (qq n) (QPut R key) (key / qq n) = QPut (QLo (qq n) R (key / qq n)) (key % qq n) ∧ ∀ h, h ≠ key / qq n → QLo (qq n) (QPut R key) h = QLo (qq n) R h) := ⟨qlo_put, fun h hne => qlo_put_ne hne⟩
  have HHU : Hid (QHi (qq n) (QPut R key) = QPut (QHi (qq n) R) (key / qq n)) := qhi_put
  have HHS : Hid ((∃ l, QLo (qq n) R (key / qq n) l) → QHi (qq n) (QPut R key) = QHi (qq n) R) := fun hl => by rw [HHU.out]; exact qput_mem (qhi_lo.2 hl)
  clear hb hy hF h0 h1 h6 h61 d0 d1 r0 r1 hqp
  generalize key / qq n = x at *
  generalize key % qq n = z at *
  cases hqx : Q x with
  | none =>
    have HQX := Lib.hid hqx
    have HW : Hid (∀ W : World, W.heap = w.heap → Calls Tryz.prog 151 #[qp hq, I x, I (qbt n)] W (WiR n T (QPut (QHi (qq n) R) x) FH W)) := fun W hW => ih hq T (QHi (qq n) R) FH x W (HZ.out.qh.keep fun y _ => by rw [hW]) (fun y hy => by rw [hW]; exact HZ.out.lt y (HZ.out.fh y hy).1) HX0.out.1 HX1.out (by omega)
    obtain ⟨ph, hph⟩ : ∃ ph, qp hq = ph := ⟨_, rfl⟩
    rw [hph] at HW
    clear hqx
    cases m with
    | none =>
      go_enter Tryz.func204, Tryz.ntmps204
      go_wp2_with fail
      refine HSP.out.mono ?_
      rintro e w1 ⟨rfl, j, hw1⟩
      have hh1 : w1.heap = w.heap := by rw [hw1]; rfl
      have K1 : Hid (QK F w w1) := by show QK F w w1; rw [hw1]; exact (QK.refl F w).drewN j
      have Z1 : Hid (QZ n w1 T g none hq (QHi (qq n) R) (QLo (qq n) R) F Q FH FP) := by show QZ _ _ _ _ _ _ _ _ _ _ _ _; rw [hw1]; exact HZ.out.drewN j
      have B1 : Hid (QN w1 g (qbt n) lo hi none hq) := HB.out.keep (by rw [hh1])
      clear hw1
      have c0 := B1.out.c0
      have c3 := B1.out.c3
      have c4 := B1.out.c4
      have f4 := B1.out.fr 4
      rw [hph] at c4
      have hlook := Z1.out.qm.look_none HX0.out HQX.out
      go_wp2
      go_region_with
        (first
          | (go_at_call 151
             refine (HW.out w1.drew hh1).mono ?_
             rintro e w2 ⟨g2, F2, rfl, hr2, hl2, hk2⟩
             have hgb : w2.heap[g]? = w1.heap[g]? := hk2.block g (Z1.out.lt g Z1.out.ge) (fun e => (Z1.out.fh g e).2 rfl)
             have b2 := B1.out.keep hgb
             have fz := b2.fr 4
             have e4 := b2.c4
             rw [hph] at e4
             have B3 := Lib.hid (b2.s4 (some g2))
             have Z3 := Lib.hid ((Z1.out.drew.high (T' := T + qc n) (by omega) hr2 hl2 hk2).cell 4 (qp (some g2)))
             have K3 : Hid (QK F w (w2.setCell ⟨g, 4, none⟩ (qp (some g2)))) := (K1.out.drew.trans hk2 (fun _ _ e => e) (fun y hy e => (Z1.out.fh y e).1)).set HZ.out.ge 4 _
             have L3 : Hid (∀ y, F y ∨ F2 y → y < (w2.setCell ⟨g, 4, none⟩ (qp (some g2))).heap.size ∧ (F y ∨ w.heap.size ≤ y)) := fun y hy => ⟨Z3.out.lt y hy, by
               rcases hy with hy | hy
               · exact .inl hy
               · rcases (hl2 y hy).2 with e | e
                 · exact .inl (Z1.out.fh y e).1
                 · exact .inr (Nat.le_trans K1.out.size e)⟩
             clear hr2 hl2 hk2 hgb b2)
          | fail)
      all_goals
        obtain ⟨w3, hw3⟩ : ∃ w3, w2.setCell ⟨g, 4, none⟩ (.pointer (some ⟨g2, 0, none⟩)) = w3 := ⟨_, rfl⟩
        have hw3' : w2.setCell ⟨g, 4, none⟩ (qp (some g2)) = w3 := hw3
        rw [hw3'] at B3 Z3 K3 L3
        rw [hw3]
        clear hw3 hw3' fz e4
        have c3' := B3.out.c3
        have hsz3 := Z3.out.lt g Z3.out.ge
        have b3a := B3.out.keep (show (w3.alloc (.map #[] 0)).heap[g]? = w3.heap[g]? from ((Below.refl w3.heap.size w3).alloc (Nat.le_refl _) _).block g hsz3)
        have c3a := b3a.c3
        have f3' := b3a.fr 3
        have hmm := @run_makeMap Tryz.prog
        go_wp2
        have hszs : (w3.setCell ⟨g, 3, none⟩ (.map (some w3.heap.size))).heap.size = w3.heap.size := by simp [World.setCell]
        have Z4 := Lib.hid (((Z3.out.cell 3 (.map (some w3.heap.size)))).made)
        rw [hszs] at Z4
        have B4 := Lib.hid ((B3.out.s3 (some w3.heap.size)).keep (show ((w3.setCell ⟨g, 3, none⟩ (.map (some w3.heap.size))).alloc (.map #[] 0)).heap[g]? = _ from ((Below.refl w3.heap.size (w3.setCell ⟨g, 3, none⟩ (.map (some w3.heap.size)))).alloc (by omega) _).block g hsz3))
        have K4 : Hid (QK F w ((w3.setCell ⟨g, 3, none⟩ (.map (some w3.heap.size))).alloc (.map #[] 0))) := (K3.out.set HZ.out.ge 3 _).alloc _
        have L4 : Hid (∀ y, (F y ∨ F2 y) ∨ y = w3.heap.size → y < ((w3.setCell ⟨g, 3, none⟩ (.map (some w3.heap.size))).alloc (.map #[] 0)).heap.size ∧ (F y ∨ w.heap.size ≤ y)) := fun y hy => ⟨Z4.out.lt y hy, by
          rcases hy with hy | hy
          · exact (L3.out y hy).2
          · have := K3.out.size
            exact .inr (by omega)⟩
        have HH4 := HHU
        obtain ⟨T4, hT4⟩ : ∃ T4, T + qc n = T4 := ⟨_, rfl⟩
        rw [hT4] at Z4
        have HT4 : Hid (T4 ≤ T + qc n ∧ T4 + qc n < 1000000 ∧ qc n ≤ 31) := ⟨by omega, by omega, hqc⟩
        obtain ⟨b, hbb⟩ : ∃ b, w3.heap.size = b := ⟨_, rfl⟩
        rw [hbb] at Z4 B4 K4 L4 ⊢
        obtain ⟨w4, hw4⟩ : ∃ w4, (w3.setCell ⟨g, 3, none⟩ (.map (some b))).alloc (.map #[] 0) = w4 := ⟨_, rfl⟩
        rw [hw4] at Z4 B4 K4 L4 ⊢
        clear hw4 hbb B3 Z3 K3 L3 c3' f3' hsz3 hT4 hmm b3a c3a hszs
        clear B1 Z1 K1 c0 c3 c4 f4 hlook HW
        generalize HF4 : (fun y => (F y ∨ F2 y) ∨ y = b) = F4 at Z4
        have L4' : Hid (∀ y, F4 y → y < w4.heap.size ∧ (F y ∨ w.heap.size ≤ y)) := by rw [← HF4]; exact L4
        clear L4 HF4
        have L4 := L4'
        clear L4'
        have HW4 : Hid (Calls Tryz.prog 151 #[.pointer none, I z, I (qbt n)] w4.drew (WiR n T4 (QPut (QLo (qq n) R x) z) (FP x) w4.drew)) := ih none T4 (QLo (qq n) R x) (FP x) z w4.drew (by have := Z4.out.drew.qp x; rw [HQX.out] at this; exact this) (fun y hy => Z4.out.lt y (Z4.out.fp x y hy).1) HR.out.1 HR.out.2 (by have := HT4.out; omega)
        have Z5 : Hid (QZ n w4 T4 g (some b) (some g2) (QHi (qq n) (QPut R key)) (QLo (qq n) R) F4 Q F2 FP) := by have := Z4.out; rw [← HH4.out] at this; exact this
        clear Z4
        have d0 := B4.out.c0
        have d3 := B4.out.c3
        have hT5 : T4 ≤ T + qc n ∧ T4 + qc n < 1000000 := by have := HT4.out; omega
        go_wp2
        go_region_with
          (first
            | (go_at_call 151
               refine HW4.out.mono ?_
               rintro e w5 ⟨g5, F5, rfl, hr5, hl5, hk5⟩
               obtain ⟨e3, w6, hupd, h6⟩ := add_last (T := T) Z5.out B4.out K4.out L4.out HBD.out HX0.out HPU.out hT5.1 hT5.2 hr5 hl5 hk5
               have H6 := Lib.hid h6
               clear hr5 hl5 hk5 h6)
            | fail)
        all_goals go_wp2
        all_goals (first | exact H6.out | (go_end0; exact H6.out))

    | some b =>
      go_enter Tryz.func204, Tryz.ntmps204
      go_wp2_with fail
      refine HSP.out.mono ?_
      rintro e w1 ⟨rfl, j, hw1⟩
      have hh1 : w1.heap = w.heap := by rw [hw1]; rfl
      have K1 : Hid (QK F w w1) := by show QK F w w1; rw [hw1]; exact (QK.refl F w).drewN j
      have Z1 : Hid (QZ n w1 T g (some b) hq (QHi (qq n) R) (QLo (qq n) R) F Q FH FP) := by show QZ _ _ _ _ _ _ _ _ _ _ _ _; rw [hw1]; exact HZ.out.drewN j
      have B1 : Hid (QN w1 g (qbt n) lo hi (some b) hq) := HB.out.keep (by rw [hh1])
      clear hw1
      have c0 := B1.out.c0
      have c3 := B1.out.c3
      have c4 := B1.out.c4
      have f4 := B1.out.fr 4
      rw [hph] at c4
      have hlook := Z1.out.qm.look_none HX0.out HQX.out
      go_wp2
      go_region_with
        (first
          | (go_at_call 151
             refine (HW.out w1.drew hh1).mono ?_
             rintro e w2 ⟨g2, F2, rfl, hr2, hl2, hk2⟩
             have hgb : w2.heap[g]? = w1.heap[g]? := hk2.block g (Z1.out.lt g Z1.out.ge) (fun e => (Z1.out.fh g e).2 rfl)
             have b2 := B1.out.keep hgb
             have fz := b2.fr 4
             have e4 := b2.c4
             rw [hph] at e4
             have B3 := Lib.hid (b2.s4 (some g2))
             have Z3 := Lib.hid ((Z1.out.drew.high (T' := T + qc n) (by omega) hr2 hl2 hk2).cell 4 (qp (some g2)))
             have K3 : Hid (QK F w (w2.setCell ⟨g, 4, none⟩ (qp (some g2)))) := (K1.out.drew.trans hk2 (fun _ _ e => e) (fun y hy e => (Z1.out.fh y e).1)).set HZ.out.ge 4 _
             have L3 : Hid (∀ y, F y ∨ F2 y → y < (w2.setCell ⟨g, 4, none⟩ (qp (some g2))).heap.size ∧ (F y ∨ w.heap.size ≤ y)) := fun y hy => ⟨Z3.out.lt y hy, by
               rcases hy with hy | hy
               · exact .inl hy
               · rcases (hl2 y hy).2 with e | e
                 · exact .inl (Z1.out.fh y e).1
                 · exact .inr (Nat.le_trans K1.out.size e)⟩
             clear hr2 hl2 hk2 hgb b2)
          | fail)
      all_goals
        obtain ⟨w4, hw4⟩ : ∃ w4, w2.setCell ⟨g, 4, none⟩ (.pointer (some ⟨g2, 0, none⟩)) = w4 := ⟨_, rfl⟩
        have hw4' : w2.setCell ⟨g, 4, none⟩ (qp (some g2)) = w4 := hw4
        rw [hw4'] at B3 Z3 K3 L3
        rw [hw4]
        clear hw4 hw4' fz e4
        have Z4 := Z3
        have B4 := B3
        have K4 := K3
        have HH4 := HHU
        obtain ⟨T4, hT4⟩ : ∃ T4, T + qc n = T4 := ⟨_, rfl⟩
        rw [hT4] at Z4
        have HT4 : Hid (T4 ≤ T + qc n ∧ T4 + qc n < 1000000 ∧ qc n ≤ 31) := ⟨by omega, by omega, hqc⟩
        clear B3 Z3 K3 hT4
        clear B1 Z1 K1 c0 c3 c4 f4 hlook HW
        generalize HF4 : (fun y => F y ∨ F2 y) = F4 at Z4
        have L4 : Hid (∀ y, F4 y → y < w4.heap.size ∧ (F y ∨ w.heap.size ≤ y)) := by rw [← HF4]; exact L3
        clear L3 HF4
        have HW4 : Hid (Calls Tryz.prog 151 #[.pointer none, I z, I (qbt n)] w4.drew (WiR n T4 (QPut (QLo (qq n) R x) z) (FP x) w4.drew)) := ih none T4 (QLo (qq n) R x) (FP x) z w4.drew (by have := Z4.out.drew.qp x; rw [HQX.out] at this; exact this) (fun y hy => Z4.out.lt y (Z4.out.fp x y hy).1) HR.out.1 HR.out.2 (by have := HT4.out; omega)
        have Z5 : Hid (QZ n w4 T4 g (some b) (some g2) (QHi (qq n) (QPut R key)) (QLo (qq n) R) F4 Q F2 FP) := by have := Z4.out; rw [← HH4.out] at this; exact this
        clear Z4
        have d0 := B4.out.c0
        have d3 := B4.out.c3
        have hT5 : T4 ≤ T + qc n ∧ T4 + qc n < 1000000 := by have := HT4.out; omega
        go_wp2
        go_region_with
          (first
            | (go_at_call 151
               refine HW4.out.mono ?_
               rintro e w5 ⟨g5, F5, rfl, hr5, hl5, hk5⟩
               obtain ⟨e3, w6, hupd, h6⟩ := add_last (T := T) Z5.out B4.out K4.out L4.out HBD.out HX0.out HPU.out hT5.1 hT5.2 hr5 hl5 hk5
               have H6 := Lib.hid h6
               clear hr5 hl5 hk5 h6)
            | fail)
        all_goals go_wp2
        all_goals (first | exact H6.out | (go_end0; exact H6.out))

  | some p =>
    have HQX := Lib.hid hqx
    clear hqx
    cases m with
    | none => exact absurd HQX.out (by rw [show Q x = none from HZ.out.qm x]; simp)
    | some b =>
      go_enter Tryz.func204, Tryz.ntmps204
      go_wp2_with fail
      refine HSP.out.mono ?_
      rintro e w4 ⟨rfl, j, hw4⟩
      have hh4 : w4.heap = w.heap := by rw [hw4]; rfl
      have K4 : Hid (QK F w w4) := by show QK F w w4; rw [hw4]; exact (QK.refl F w).drewN j
      obtain ⟨T4, hT4⟩ : ∃ T4, T = T4 := ⟨_, rfl⟩
      have Z4 : Hid (QZ n w4 T4 g (some b) hq (QHi (qq n) R) (QLo (qq n) R) F Q FH FP) := by show QZ _ _ _ _ _ _ _ _ _ _ _ _; rw [hw4, ← hT4]; exact HZ.out.drewN j
      have B4 : Hid (QN w4 g (qbt n) lo hi (some b) hq) := HB.out.keep (by rw [hh4])
      have L4 : Hid (∀ y, F y → y < w4.heap.size ∧ (F y ∨ w.heap.size ≤ y)) := fun y hy => ⟨Z4.out.lt y hy, .inl hy⟩
      have HT4 : Hid (T4 ≤ T + qc n ∧ T4 + qc n < 1000000 ∧ qc n ≤ 31) := ⟨by omega, by omega, hqc⟩
      clear hw4 hT4
      obtain ⟨F4, hF4⟩ : ∃ F4, F = F4 := ⟨_, rfl⟩
      have Z4' : Hid (QZ n w4 T4 g (some b) hq (QHi (qq n) R) (QLo (qq n) R) F4 Q FH FP) := by rw [← hF4]; exact Z4
      have L4' : Hid (∀ y, F4 y → y < w4.heap.size ∧ (F y ∨ w.heap.size ≤ y)) := by rw [← hF4]; exact L4
      clear Z4 L4 hF4
      have Z4 := Z4'
      have L4 := L4'
      clear Z4' L4'
      have HH4 : Hid (QHi (qq n) (QPut R key) = QHi (qq n) R) := HHS.out (by
        have h := Z4.out.qp x
        rw [HQX.out] at h
        exact h.has)
      have hlook := Z4.out.qm.look_some HX0.out HQX.out
      have HW4 : Hid (Calls Tryz.prog 151 #[.pointer (some ⟨p, 0, none⟩), I z, I (qbt n)] w4.drew (WiR n T4 (QPut (QLo (qq n) R x) z) (FP x) w4.drew)) := ih (some p) T4 (QLo (qq n) R x) (FP x) z w4.drew (by have := Z4.out.drew.qp x; rw [HQX.out] at this; exact this) (fun y hy => Z4.out.lt y (Z4.out.fp x y hy).1) HR.out.1 HR.out.2 (by have := HT4.out; omega)
      have Z5 : Hid (QZ n w4 T4 g (some b) hq (QHi (qq n) (QPut R key)) (QLo (qq n) R) F4 Q FH FP) := by have := Z4.out; rw [← HH4.out] at this; exact this
      clear Z4
      have d0 := B4.out.c0
      have d3 := B4.out.c3
      have hT5 : T4 ≤ T + qc n ∧ T4 + qc n < 1000000 := by have := HT4.out; omega
      go_wp2
      go_region_with
        (first
          | (go_at_call 151
             refine HW4.out.mono ?_
             rintro e w5 ⟨g5, F5, rfl, hr5, hl5, hk5⟩
             obtain ⟨e3, w6, hupd, h6⟩ := add_last (T := T) Z5.out B4.out K4.out L4.out HBD.out HX0.out HPU.out hT5.1 hT5.2 hr5 hl5 hk5
             have H6 := Lib.hid h6
             clear hr5 hl5 hk5 h6)
          | fail)
      all_goals go_wp2
      all_goals (first | exact H6.out | (go_end0; exact H6.out))

end Go.Proofs.YtpnjnedfcdppaaaGreatDoor
