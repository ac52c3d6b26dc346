/-
  Joined texts: YtpnjnedfcdppaaaGreatDoorQWith, YtpnjnedfcdppaaaGreatDoorQWithA, YtpnjnedfcdppaaaGreatDoorQOut, YtpnjnedfcdppaaaGreatDoorQOutA.
-/
import Derived.Test.YtpnjnedfcdppaaaGreatDoorQNextAll
import Derived.Test.YtpnjnedfcdppaaaGreatDoorQZoneAll
import Derived.Deep.RegionWith
/-
  package half: a key is put: with, addToPart. (Written by tools/gen_qwith.py.)
-/
namespace Go.Proofs.YtpnjnedfcdppaaaGreatDoor
open Go.RowKit Go.Maps

theorem eqmap_nil (w : World) : (binOp BinOp.eql 214 (.map none) (.map none)).run Tryz.prog w = .ok (.bool true) w := by kernel_rfl
theorem eqmap_some (b : Nat) (w : World) : (binOp BinOp.eql 214 (.map (some b)) (.map none)).run Tryz.prog w = .ok (.bool false) w := by kernel_rfl
/-- how many stores one put makes in one map at most -/
def qc : Nat → Nat
  | 0 => 1
  | n + 1 => 2 * qc n + 1
theorem qc_le {n : Nat} (h : n ≤ 4) : qc n ≤ 31 := by
  match n, h with
  | 0, _ => decide
  | 1, _ => decide
  | 2, _ => decide
  | 3, _ => decide
  | 4, _ => decide
def WiR (n T : Nat) (S' : KS) (F : Nat → Prop) (w : World) (e : Ending) (w' : World) : Prop :=
  ∃ (g' : Nat) (F' : Nat → Prop), e = .returned (.pointer (some ⟨g', 0, none⟩)) ∧ QR n w' (T + qc n) (some g') S' F' ∧ (∀ x, F' x → x < w'.heap.size ∧ (F x ∨ w.heap.size ≤ x)) ∧ QK F w w'
def WithC (n : Nat) : Prop := ∀ (p : Option Nat) (T : Nat) (S : KS) (F : Nat → Prop) (key : Int) (w : World), QR n w T p S F → (∀ x, F x → x < w.heap.size) → 0 ≤ key → key < qq n → T + qc n ≤ 1000000 →
  Calls Tryz.prog 151 #[qp p, I key, I (qbt n)] w (WiR n T (QPut S key) F w)
def AddR (n g : Nat) (lo hi : Int) (R' : KS) (T : Nat) (F : Nat → Prop) (w : World) (e : Ending) (w' : World) : Prop :=
  e = .returned (.tuple #[]) ∧ ∃ (m' hq' : Option Nat) (Q' : Int → Option Nat) (FH' : Nat → Prop) (FP' : Int → Nat → Prop) (F' : Nat → Prop), QN w' g (qbt n) lo hi m' hq' ∧ QY n w' (T + (2 * qc n + 1)) g m' hq' R' F' Q' FH' FP' ∧ F' g ∧ (∀ x, F' x → x < w'.heap.size ∧ (F x ∨ w.heap.size ≤ x)) ∧ QK F w w'
theorem QR.drew {n : Nat} {w : World} {T : Nat} {p : Option Nat} {S : KS} {F : Nat → Prop} (h : QR n w T p S F) : QR n w.drew T p S F := h.keep fun _ _ => rfl
theorem QZ.drew {n : Nat} {w : World} {T g : Nat} {m hq : Option Nat} {H : KS} {P : Int → KS} {F : Nat → Prop} {Q : Int → Option Nat} {FH : Nat → Prop} {FP : Int → Nat → Prop} (z : QZ n w T g m hq H P F Q FH FP) : QZ n w.drew T g m hq H P F Q FH FP := z.drewN 1
theorem QK.drew {F : Nat → Prop} {a b : World} (h : QK F a b) : QK F a b.drew := ⟨h.os, h.tape, h.output, h.size, h.block⟩
/-- what a step in a part or in the highs does is done in F -/
theorem QK.into {n : Nat} {w w1 w2 : World} {T g : Nat} {m hq : Option Nat} {H : KS} {P : Int → KS} {F F0 : Nat → Prop} {Q : Int → Option Nat} {FH : Nat → Prop} {FP : Int → Nat → Prop} {G : Nat → Prop} (h : QK F0 w w1) (k : QK G w1 w2) (hG : ∀ x, x < w.heap.size → G x → F0 x) : QK F0 w w2 :=
  h.trans k (fun _ _ e => e) hG

/-- behind the put in a part: the map tells it  -/
theorem add_last {n : Nat} {w w4 w5 : World} {g b : Nat} {lo hi : Int} {T T4 : Nat} {hq4 : Option Nat} {R : KS} {F F4 : Nat → Prop} {Q : Int → Option Nat} {FH4 : Nat → Prop} {FP : Int → Nat → Prop} {key x z : Int} {g5 : Nat} {F5 : Nat → Prop}
    (Z4 : QZ n w4 T4 g (some b) hq4 (QHi (qq n) (QPut R key)) (QLo (qq n) R) F4 Q FH4 FP) (B4 : QN w4 g (qbt n) lo hi (some b) hq4) (K4 : QK F w w4) (L4 : ∀ y, F4 y → y < w4.heap.size ∧ (F y ∨ w.heap.size ≤ y)) (hbd : QBd (qq n * qq n) (QPut R key))
    (hx : 0 ≤ x ∧ x ≤ 1000000) (hP : QLo (qq n) (QPut R key) x = QPut (QLo (qq n) R x) z ∧ ∀ h, h ≠ x → QLo (qq n) (QPut R key) h = QLo (qq n) R h) (hT : T4 ≤ T + qc n) (hT2 : T4 + qc n < 1000000)
    (hr5 : QR n w5 (T4 + qc n) (some g5) (QPut (QLo (qq n) R x) z) F5) (hl5 : ∀ y, F5 y → y < w5.heap.size ∧ (FP x y ∨ w4.drew.heap.size ≤ y)) (hk5 : QK (FP x) w4.drew w5) :
    w5.cell? ⟨g, 3, none⟩ = some (.map (some b)) ∧ ∃ w6, (Instr.mapUpdate 214 (.map (some b)) (I x) (.pointer (some ⟨g5, 0, none⟩))).run Tryz.prog w5 = .ok () w6 ∧ AddR n g lo hi (QPut R key) T F w (.returned (.tuple #[])) w6 := by
  have hs : w4.drew.heap.size = w4.heap.size := rfl
  have hgb : w5.heap[g]? = w4.heap[g]? := hk5.block g (Z4.lt g Z4.ge) (fun e => (Z4.fp x g e).2.1 rfl)
  have Z4d : QZ n w4.drew T4 g (some b) hq4 (QHi (qq n) (QPut R key)) (QLo (qq n) R) F4 Q FH4 FP := Z4.drew
  obtain ⟨hbF, hbg, _, _⟩ := Z4.fm b rfl
  obtain ⟨w6, hupd, hm6, hg6⟩ := ((Z4d.map_at hk5).mono (show T4 ≤ T4 + qc n by omega)).store (by omega) hx g5
  have Z6 := Z4d.part (x := x) (po := some g5) (P' := QLo (qq n) (QPut R key)) (T' := T4 + qc n) (T2 := T4 + qc n + 1) (by omega) (by omega) (by rw [hP.1]; exact hr5) hl5 hk5 hg6 hm6 (fun h hne => hP.2 h hne)
  have B6 : QN w6 g (qbt n) lo hi (some b) hq4 := B4.keep ((hg6.block g (Nat.lt_of_lt_of_le (Z4.lt g Z4.ge) hk5.size) (fun e => hbg (Option.some.inj e).symm)).trans hgb)
  have K5 : QK F w w5 := K4.drew.trans hk5 (fun _ _ e => e) (fun y hy e => (L4 y (Z4.fp x y e).1).2.resolve_right (by omega))
  have K6 : QK F w w6 := K5.trans (F' := F4) ⟨hg6.os, hg6.tape, hg6.output, hg6.size, fun y hy hy2 => hg6.block y hy (fun e => hy2 (by cases e; exact hbF))⟩ (fun _ _ e => e) (fun y hy e => (L4 y e).2.resolve_right (by omega))
  refine ⟨(B4.keep hgb).c3, w6, hupd, rfl, _, _, _, _, _, _, B6, (Z6.mono (by omega)).y hbd, .inl Z4.ge, fun y hy => ⟨Z6.lt y hy, ?_⟩, K6⟩
  rcases hy with hy | hy
  · exact (L4 y hy).2
  · rcases (hl5 y hy).2 with e | e
    · exact (L4 y (Z4.fp x y e).1).2
    · have := K4.size
      exact .inr (by omega)

set_option maxHeartbeats 4000000 in
theorem add_any {n : Nat} (hn : n ≤ 3) (ih : WithC n) (g : Nat) (lo hi : Int) (m hq : Option Nat) (R : KS) (F : Nat → Prop) (Q : Int → Option Nat) (FH : Nat → Prop) (FP : Int → Nat → Prop) (key : Int) (T : Nat) (w : World)
    (hb : QN w g (qbt n) lo hi m hq) (hy : QY n w T g m hq R F Q FH FP) (hg : F g) (hF : ∀ x, F x → x < w.heap.size) (h0 : 0 ≤ key) (h1 : key < qq n * qq n) (hT : T + (2 * qc n + 1) ≤ 1000000) :
    Calls Tryz.prog 204 #[.pointer (some ⟨g, 0, none⟩), I key] w (AddR n g lo hi (QPut R key) T F w) := by
  have hqp := qq_pos n
  have h6 := qq_le4 (show n + 1 ≤ 4 by omega)
  have h61 : qq (n + 1) = qq n * qq n := rfl
  have h7 := qq_le hn
  have hqc := qc_le (show n ≤ 4 by omega)
  have hen := eqmap_nil
  have hes := eqmap_some
  obtain ⟨d0, d1⟩ := qdiv_bd hqp h0 h1
  obtain ⟨r0, r1⟩ := qmod_bd hqp key
  have HSP := Lib.hid (split_any hn w hb h0 (by omega))
  have HZ := Lib.hid (hy.z hg hF)
  have HB := Lib.hid hb
  have HBD := Lib.hid (qput_bd hy.bd h0 h1)
  have HX0 : Hid (0 ≤ key / qq n ∧ key / qq n ≤ 1000000) := ⟨d0, by omega⟩
  have HX1 := Lib.hid d1
  have HR : Hid (0 ≤ key % qq n ∧ key % qq n < qq n) := ⟨r0, r1⟩
  have HPU : Hid (QLo (qq n) (QPut R key) (key / qq n) = QPut (QLo (qq n) R (key / qq n)) (key % qq n) ∧ ∀ h, h ≠ key / qq n → QLo (qq n) (QPut R key) h = QLo (qq n) R h) := ⟨qlo_put, fun h hne => qlo_put_ne hne⟩
  have HHU : Hid (QHi (qq n) (QPut R key) = QPut (QHi (qq n) R) (key / qq n)) := qhi_put
  have HHS : Hid ((∃ l, QLo (qq n) R (key / qq n) l) → QHi (qq n) (QPut R key) = QHi (qq n) R) := fun hl => by rw [HHU.out]; exact qput_mem (qhi_lo.2 hl)
  clear hb hy hF h0 h1 h6 h61 d0 d1 r0 r1 hqp
  generalize key / qq n = x at *
  generalize key % qq n = z at *
  cases hqx : Q x with
  | none =>
    have HQX := Lib.hid hqx
    have HW : Hid (∀ W : World, W.heap = w.heap → Calls Tryz.prog 151 #[qp hq, I x, I (qbt n)] W (WiR n T (QPut (QHi (qq n) R) x) FH W)) := fun W hW => ih hq T (QHi (qq n) R) FH x W (HZ.out.qh.keep fun y _ => by rw [hW]) (fun y hy => by rw [hW]; exact HZ.out.lt y (HZ.out.fh y hy).1) HX0.out.1 HX1.out (by omega)
    obtain ⟨ph, hph⟩ : ∃ ph, qp hq = ph := ⟨_, rfl⟩
    rw [hph] at HW
    clear hqx
    cases m with
    | none =>
      go_enter Tryz.func204, Tryz.ntmps204
      go_wp2_with fail
      refine HSP.out.mono ?_
      rintro e w1 ⟨rfl, j, hw1⟩
      have hh1 : w1.heap = w.heap := by rw [hw1]; rfl
      have K1 : Hid (QK F w w1) := by show QK F w w1; rw [hw1]; exact (QK.refl F w).drewN j
      have Z1 : Hid (QZ n w1 T g none hq (QHi (qq n) R) (QLo (qq n) R) F Q FH FP) := by show QZ _ _ _ _ _ _ _ _ _ _ _ _; rw [hw1]; exact HZ.out.drewN j
      have B1 : Hid (QN w1 g (qbt n) lo hi none hq) := HB.out.keep (by rw [hh1])
      clear hw1
      have c0 := B1.out.c0
      have c3 := B1.out.c3
      have c4 := B1.out.c4
      have f4 := B1.out.fr 4
      rw [hph] at c4
      have hlook := Z1.out.qm.look_none HX0.out HQX.out
      go_wp2
      go_region_with
        (first
          | (go_at_call 151
             refine (HW.out w1.drew hh1).mono ?_
             rintro e w2 ⟨g2, F2, rfl, hr2, hl2, hk2⟩
             have hgb : w2.heap[g]? = w1.heap[g]? := hk2.block g (Z1.out.lt g Z1.out.ge) (fun e => (Z1.out.fh g e).2 rfl)
             have b2 := B1.out.keep hgb
             have fz := b2.fr 4
             have e4 := b2.c4
             rw [hph] at e4
             have B3 := Lib.hid (b2.s4 (some g2))
             have Z3 := Lib.hid ((Z1.out.drew.high (T' := T + qc n) (by omega) hr2 hl2 hk2).cell 4 (qp (some g2)))
             have K3 : Hid (QK F w (w2.setCell ⟨g, 4, none⟩ (qp (some g2)))) := (K1.out.drew.trans hk2 (fun _ _ e => e) (fun y hy e => (Z1.out.fh y e).1)).set HZ.out.ge 4 _
             have L3 : Hid (∀ y, F y ∨ F2 y → y < (w2.setCell ⟨g, 4, none⟩ (qp (some g2))).heap.size ∧ (F y ∨ w.heap.size ≤ y)) := fun y hy => ⟨Z3.out.lt y hy, by
               rcases hy with hy | hy
               · exact .inl hy
               · rcases (hl2 y hy).2 with e | e
                 · exact .inl (Z1.out.fh y e).1
                 · exact .inr (Nat.le_trans K1.out.size e)⟩
             clear hr2 hl2 hk2 hgb b2)
          | fail)
      all_goals
        obtain ⟨w3, hw3⟩ : ∃ w3, w2.setCell ⟨g, 4, none⟩ (.pointer (some ⟨g2, 0, none⟩)) = w3 := ⟨_, rfl⟩
        have hw3' : w2.setCell ⟨g, 4, none⟩ (qp (some g2)) = w3 := hw3
        rw [hw3'] at B3 Z3 K3 L3
        rw [hw3]
        clear hw3 hw3' fz e4
        have c3' := B3.out.c3
        have hsz3 := Z3.out.lt g Z3.out.ge
        have b3a := B3.out.keep (show (w3.alloc (.map #[] 0)).heap[g]? = w3.heap[g]? from ((Below.refl w3.heap.size w3).alloc (Nat.le_refl _) _).block g hsz3)
        have c3a := b3a.c3
        have f3' := b3a.fr 3
        have hmm := @run_makeMap Tryz.prog
        go_wp2
        have hszs : (w3.setCell ⟨g, 3, none⟩ (.map (some w3.heap.size))).heap.size = w3.heap.size := by simp [World.setCell]
        have Z4 := Lib.hid (((Z3.out.cell 3 (.map (some w3.heap.size)))).made)
        rw [hszs] at Z4
        have B4 := Lib.hid ((B3.out.s3 (some w3.heap.size)).keep (show ((w3.setCell ⟨g, 3, none⟩ (.map (some w3.heap.size))).alloc (.map #[] 0)).heap[g]? = _ from ((Below.refl w3.heap.size (w3.setCell ⟨g, 3, none⟩ (.map (some w3.heap.size)))).alloc (by omega) _).block g hsz3))
        have K4 : Hid (QK F w ((w3.setCell ⟨g, 3, none⟩ (.map (some w3.heap.size))).alloc (.map #[] 0))) := (K3.out.set HZ.out.ge 3 _).alloc _
        have L4 : Hid (∀ y, (F y ∨ F2 y) ∨ y = w3.heap.size → y < ((w3.setCell ⟨g, 3, none⟩ (.map (some w3.heap.size))).alloc (.map #[] 0)).heap.size ∧ (F y ∨ w.heap.size ≤ y)) := fun y hy => ⟨Z4.out.lt y hy, by
          rcases hy with hy | hy
          · exact (L3.out y hy).2
          · have := K3.out.size
            exact .inr (by omega)⟩
        have HH4 := HHU
        obtain ⟨T4, hT4⟩ : ∃ T4, T + qc n = T4 := ⟨_, rfl⟩
        rw [hT4] at Z4
        have HT4 : Hid (T4 ≤ T + qc n ∧ T4 + qc n < 1000000 ∧ qc n ≤ 31) := ⟨by omega, by omega, hqc⟩
        obtain ⟨b, hbb⟩ : ∃ b, w3.heap.size = b := ⟨_, rfl⟩
        rw [hbb] at Z4 B4 K4 L4 ⊢
        obtain ⟨w4, hw4⟩ : ∃ w4, (w3.setCell ⟨g, 3, none⟩ (.map (some b))).alloc (.map #[] 0) = w4 := ⟨_, rfl⟩
        rw [hw4] at Z4 B4 K4 L4 ⊢
        clear hw4 hbb B3 Z3 K3 L3 c3' f3' hsz3 hT4 hmm b3a c3a hszs
        clear B1 Z1 K1 c0 c3 c4 f4 hlook HW
        generalize HF4 : (fun y => (F y ∨ F2 y) ∨ y = b) = F4 at Z4
        have L4' : Hid (∀ y, F4 y → y < w4.heap.size ∧ (F y ∨ w.heap.size ≤ y)) := by rw [← HF4]; exact L4
        clear L4 HF4
        have L4 := L4'
        clear L4'
        have HW4 : Hid (Calls Tryz.prog 151 #[.pointer none, I z, I (qbt n)] w4.drew (WiR n T4 (QPut (QLo (qq n) R x) z) (FP x) w4.drew)) := ih none T4 (QLo (qq n) R x) (FP x) z w4.drew (by have := Z4.out.drew.qp x; rw [HQX.out] at this; exact this) (fun y hy => Z4.out.lt y (Z4.out.fp x y hy).1) HR.out.1 HR.out.2 (by have := HT4.out; omega)
        have Z5 : Hid (QZ n w4 T4 g (some b) (some g2) (QHi (qq n) (QPut R key)) (QLo (qq n) R) F4 Q F2 FP) := by have := Z4.out; rw [← HH4.out] at this; exact this
        clear Z4
        have d0 := B4.out.c0
        have d3 := B4.out.c3
        have hT5 : T4 ≤ T + qc n ∧ T4 + qc n < 1000000 := by have := HT4.out; omega
        go_wp2
        go_region_with
          (first
            | (go_at_call 151
               refine HW4.out.mono ?_
               rintro e w5 ⟨g5, F5, rfl, hr5, hl5, hk5⟩
               obtain ⟨e3, w6, hupd, h6⟩ := add_last (T := T) Z5.out B4.out K4.out L4.out HBD.out HX0.out HPU.out hT5.1 hT5.2 hr5 hl5 hk5
               have H6 := Lib.hid h6
               clear hr5 hl5 hk5 h6)
            | fail)
        all_goals go_wp2
        all_goals (first | exact H6.out | (go_end0; exact H6.out))

    | some b =>
      go_enter Tryz.func204, Tryz.ntmps204
      go_wp2_with fail
      refine HSP.out.mono ?_
      rintro e w1 ⟨rfl, j, hw1⟩
      have hh1 : w1.heap = w.heap := by rw [hw1]; rfl
      have K1 : Hid (QK F w w1) := by show QK F w w1; rw [hw1]; exact (QK.refl F w).drewN j
      have Z1 : Hid (QZ n w1 T g (some b) hq (QHi (qq n) R) (QLo (qq n) R) F Q FH FP) := by show QZ _ _ _ _ _ _ _ _ _ _ _ _; rw [hw1]; exact HZ.out.drewN j
      have B1 : Hid (QN w1 g (qbt n) lo hi (some b) hq) := HB.out.keep (by rw [hh1])
      clear hw1
      have c0 := B1.out.c0
      have c3 := B1.out.c3
      have c4 := B1.out.c4
      have f4 := B1.out.fr 4
      rw [hph] at c4
      have hlook := Z1.out.qm.look_none HX0.out HQX.out
      go_wp2
      go_region_with
        (first
          | (go_at_call 151
             refine (HW.out w1.drew hh1).mono ?_
             rintro e w2 ⟨g2, F2, rfl, hr2, hl2, hk2⟩
             have hgb : w2.heap[g]? = w1.heap[g]? := hk2.block g (Z1.out.lt g Z1.out.ge) (fun e => (Z1.out.fh g e).2 rfl)
             have b2 := B1.out.keep hgb
             have fz := b2.fr 4
             have e4 := b2.c4
             rw [hph] at e4
             have B3 := Lib.hid (b2.s4 (some g2))
             have Z3 := Lib.hid ((Z1.out.drew.high (T' := T + qc n) (by omega) hr2 hl2 hk2).cell 4 (qp (some g2)))
             have K3 : Hid (QK F w (w2.setCell ⟨g, 4, none⟩ (qp (some g2)))) := (K1.out.drew.trans hk2 (fun _ _ e => e) (fun y hy e => (Z1.out.fh y e).1)).set HZ.out.ge 4 _
             have L3 : Hid (∀ y, F y ∨ F2 y → y < (w2.setCell ⟨g, 4, none⟩ (qp (some g2))).heap.size ∧ (F y ∨ w.heap.size ≤ y)) := fun y hy => ⟨Z3.out.lt y hy, by
               rcases hy with hy | hy
               · exact .inl hy
               · rcases (hl2 y hy).2 with e | e
                 · exact .inl (Z1.out.fh y e).1
                 · exact .inr (Nat.le_trans K1.out.size e)⟩
             clear hr2 hl2 hk2 hgb b2)
          | fail)
      all_goals
        obtain ⟨w4, hw4⟩ : ∃ w4, w2.setCell ⟨g, 4, none⟩ (.pointer (some ⟨g2, 0, none⟩)) = w4 := ⟨_, rfl⟩
        have hw4' : w2.setCell ⟨g, 4, none⟩ (qp (some g2)) = w4 := hw4
        rw [hw4'] at B3 Z3 K3 L3
        rw [hw4]
        clear hw4 hw4' fz e4
        have Z4 := Z3
        have B4 := B3
        have K4 := K3
        have HH4 := HHU
        obtain ⟨T4, hT4⟩ : ∃ T4, T + qc n = T4 := ⟨_, rfl⟩
        rw [hT4] at Z4
        have HT4 : Hid (T4 ≤ T + qc n ∧ T4 + qc n < 1000000 ∧ qc n ≤ 31) := ⟨by omega, by omega, hqc⟩
        clear B3 Z3 K3 hT4
        clear B1 Z1 K1 c0 c3 c4 f4 hlook HW
        generalize HF4 : (fun y => F y ∨ F2 y) = F4 at Z4
        have L4 : Hid (∀ y, F4 y → y < w4.heap.size ∧ (F y ∨ w.heap.size ≤ y)) := by rw [← HF4]; exact L3
        clear L3 HF4
        have HW4 : Hid (Calls Tryz.prog 151 #[.pointer none, I z, I (qbt n)] w4.drew (WiR n T4 (QPut (QLo (qq n) R x) z) (FP x) w4.drew)) := ih none T4 (QLo (qq n) R x) (FP x) z w4.drew (by have := Z4.out.drew.qp x; rw [HQX.out] at this; exact this) (fun y hy => Z4.out.lt y (Z4.out.fp x y hy).1) HR.out.1 HR.out.2 (by have := HT4.out; omega)
        have Z5 : Hid (QZ n w4 T4 g (some b) (some g2) (QHi (qq n) (QPut R key)) (QLo (qq n) R) F4 Q F2 FP) := by have := Z4.out; rw [← HH4.out] at this; exact this
        clear Z4
        have d0 := B4.out.c0
        have d3 := B4.out.c3
        have hT5 : T4 ≤ T + qc n ∧ T4 + qc n < 1000000 := by have := HT4.out; omega
        go_wp2
        go_region_with
          (first
            | (go_at_call 151
               refine HW4.out.mono ?_
               rintro e w5 ⟨g5, F5, rfl, hr5, hl5, hk5⟩
               obtain ⟨e3, w6, hupd, h6⟩ := add_last (T := T) Z5.out B4.out K4.out L4.out HBD.out HX0.out HPU.out hT5.1 hT5.2 hr5 hl5 hk5
               have H6 := Lib.hid h6
               clear hr5 hl5 hk5 h6)
            | fail)
        all_goals go_wp2
        all_goals (first | exact H6.out | (go_end0; exact H6.out))

  | some p =>
    have HQX := Lib.hid hqx
    clear hqx
    cases m with
    | none => exact absurd HQX.out (by rw [show Q x = none from HZ.out.qm x]; simp)
    | some b =>
      go_enter Tryz.func204, Tryz.ntmps204
      go_wp2_with fail
      refine HSP.out.mono ?_
      rintro e w4 ⟨rfl, j, hw4⟩
      have hh4 : w4.heap = w.heap := by rw [hw4]; rfl
      have K4 : Hid (QK F w w4) := by show QK F w w4; rw [hw4]; exact (QK.refl F w).drewN j
      obtain ⟨T4, hT4⟩ : ∃ T4, T = T4 := ⟨_, rfl⟩
      have Z4 : Hid (QZ n w4 T4 g (some b) hq (QHi (qq n) R) (QLo (qq n) R) F Q FH FP) := by show QZ _ _ _ _ _ _ _ _ _ _ _ _; rw [hw4, ← hT4]; exact HZ.out.drewN j
      have B4 : Hid (QN w4 g (qbt n) lo hi (some b) hq) := HB.out.keep (by rw [hh4])
      have L4 : Hid (∀ y, F y → y < w4.heap.size ∧ (F y ∨ w.heap.size ≤ y)) := fun y hy => ⟨Z4.out.lt y hy, .inl hy⟩
      have HT4 : Hid (T4 ≤ T + qc n ∧ T4 + qc n < 1000000 ∧ qc n ≤ 31) := ⟨by omega, by omega, hqc⟩
      clear hw4 hT4
      obtain ⟨F4, hF4⟩ : ∃ F4, F = F4 := ⟨_, rfl⟩
      have Z4' : Hid (QZ n w4 T4 g (some b) hq (QHi (qq n) R) (QLo (qq n) R) F4 Q FH FP) := by rw [← hF4]; exact Z4
      have L4' : Hid (∀ y, F4 y → y < w4.heap.size ∧ (F y ∨ w.heap.size ≤ y)) := by rw [← hF4]; exact L4
      clear Z4 L4 hF4
      have Z4 := Z4'
      have L4 := L4'
      clear Z4' L4'
      have HH4 : Hid (QHi (qq n) (QPut R key) = QHi (qq n) R) := HHS.out (by
        have h := Z4.out.qp x
        rw [HQX.out] at h
        exact h.has)
      have hlook := Z4.out.qm.look_some HX0.out HQX.out
      have HW4 : Hid (Calls Tryz.prog 151 #[.pointer (some ⟨p, 0, none⟩), I z, I (qbt n)] w4.drew (WiR n T4 (QPut (QLo (qq n) R x) z) (FP x) w4.drew)) := ih (some p) T4 (QLo (qq n) R x) (FP x) z w4.drew (by have := Z4.out.drew.qp x; rw [HQX.out] at this; exact this) (fun y hy => Z4.out.lt y (Z4.out.fp x y hy).1) HR.out.1 HR.out.2 (by have := HT4.out; omega)
      have Z5 : Hid (QZ n w4 T4 g (some b) hq (QHi (qq n) (QPut R key)) (QLo (qq n) R) F4 Q FH FP) := by have := Z4.out; rw [← HH4.out] at this; exact this
      clear Z4
      have d0 := B4.out.c0
      have d3 := B4.out.c3
      have hT5 : T4 ≤ T + qc n ∧ T4 + qc n < 1000000 := by have := HT4.out; omega
      go_wp2
      go_region_with
        (first
          | (go_at_call 151
             refine HW4.out.mono ?_
             rintro e w5 ⟨g5, F5, rfl, hr5, hl5, hk5⟩
             obtain ⟨e3, w6, hupd, h6⟩ := add_last (T := T) Z5.out B4.out K4.out L4.out HBD.out HX0.out HPU.out hT5.1 hT5.2 hr5 hl5 hk5
             have H6 := Lib.hid h6
             clear hr5 hl5 hk5 h6)
          | fail)
      all_goals go_wp2
      all_goals (first | exact H6.out | (go_end0; exact H6.out))

end Go.Proofs.YtpnjnedfcdppaaaGreatDoor

/-
  package half: a key is put, at every level.
-/
namespace Go.Proofs.YtpnjnedfcdppaaaGreatDoor
open Go.RowKit Go.Maps

theorem with_nil {n : Nat} (T : Nat) (S : KS) (hS : ∀ x, ¬ S x) (F : Nat → Prop) (key : Int) (w : World) (h0 : 0 ≤ key) (h1 : key < qq n) (hn : n ≤ 4) :
    Calls Tryz.prog 151 #[.pointer none, I key, I (qbt n)] w (WiR n T (QPut S key) F w) := by
  obtain ⟨B, hB⟩ : ∃ B, qbt n = B := ⟨_, rfl⟩
  obtain ⟨D, hD⟩ : ∃ D, qhb n = D := ⟨_, rfl⟩
  have hBD : B / 2 = D := by rw [← hB, ← hD]; exact qhb_half n
  have hb16 : B ≤ 16 := by rw [← hB]; exact qbt_le hn
  have e1 : (B : Int) / 2 = (D : Int) := by omega
  have e2 : Int.tdiv (B : Int) 2 = (D : Int) := by rw [Int.tdiv_eq_ediv_of_nonneg (by omega)]; exact e1
  have HN := Lib.hid (qput_new key hS)
  have hbd : QBd (qq n) (QPut S key) := qput_bd (fun x hx => absurd hx (hS x)) h0 h1
  have HR : Hid (∀ W : World, QN W w.heap.size D key key none none → QR n W (T + qc n) (some w.heap.size) (QPut S key) (fun x => x = w.heap.size)) := fun W hW => by
    rw [← hD] at hW
    cases n with
    | zero => exact ⟨key, key, hW, HN.out.1, hbd, rfl⟩
    | succ n =>
      have hno := HN.out.2
      refine QR.shut1 (F := fun x => x = w.heap.size) (Q := fun _ => none) (FH := fun _ => False) (FP := fun _ _ => False) hW HN.out.1 hbd rfl ⟨qcut_bd hbd, fun _ => rfl, QR.none_iff.2 fun y => ?_, fun h => QR.none_iff.2 fun y => ?_, fun b hb => (by cases hb), fun x hx => hx.elim, fun h x hx => hx.elim, fun h h' x hx => hx.elim⟩
      · rintro ⟨x, hx, _⟩; exact hno x hx
      · rintro ⟨x, hx, _⟩; exact hno x hx
  rw [hB]
  clear hB hD hBD hS hbd h0 h1 HN
  go_enter Tryz.func151, Tryz.ntmps151
  go_wp2
  go_ret
  exact ⟨_, _, rfl, HR.out _ (QN.new w D key key none none), fun x hx => ⟨by rw [hx]; simp, .inr (by omega)⟩, (QK.refl F w).alloc _⟩
theorem max_is {a b : Int} : (if a < b then b else a) = if a < b then b else a := rfl
set_option maxHeartbeats 2000000 in
theorem with_zero : WithC 0 := by
  intro p T S F key w h hF h0 h1 hT
  cases p with
  | none => exact with_nil T S (QR.none_iff.1 h) F key w h0 h1 (by omega)
  | some g =>
    obtain ⟨lo, hi, hb, he, hbd, hg⟩ := h
    have h12 := (he.2.2 _ he.1).2
    have hgl := hb.lt
    have c0 := hb.c0
    have c1 := hb.c1
    have c2 := hb.c2
    have f1 := hb.fr 1
    have f2 := hb.fr 2
    have HB := Lib.hid hb
    have HBD := Lib.hid (qput_bd hbd h0 h1)
    have HG := Lib.hid hg
    have HE := Lib.hid he
    have HF := Lib.hid hF
    have HS := Lib.hid hbd
    clear hF hbd hg hb he h0 h1
    show Calls Tryz.prog 151 #[.pointer (some ⟨g, 0, none⟩), I key, I 1] w (WiR 0 T (QPut S key) F w)
    by_cases hlt : key < lo
    · have hmx : (if hi < lo then lo else hi) = hi := if_neg (by omega)
      have hmx2 : ¬ hi < lo := by omega
      have HR := Lib.hid (qput_low HE.out hlt).1
      clear hmx2
      go_enter Tryz.func151, Tryz.ntmps151
      go_wp2
      go_ret
      refine ⟨g, F, rfl, ⟨key, hi, (HB.out.s1 key).s2 hi, HR.out, HBD.out, HG.out⟩, fun x hx => ⟨by simp [World.setCell]; exact HF.out x hx, .inl hx⟩, ((QK.refl F w).set HG.out 1 _).set HG.out 2 _⟩
    · obtain ⟨M, hM⟩ : ∃ M, (if hi < key then key else hi) = M := ⟨_, rfl⟩
      have HR : Hid (QEnds (QPut S key) lo M) := by
        show QEnds _ _ _
        by_cases e : key = lo
        · rw [e, qput_mem HE.out.1, ← hM, if_neg (by omega)]; exact HE.out
        · rw [← hM]; exact (qput_high HE.out (by omega)).1
      by_cases hgt : lo < key
      · go_enter Tryz.func151, Tryz.ntmps151
        go_wp2
        go_ret
        refine ⟨g, F, rfl, ⟨lo, M, HB.out.s2 M, HR.out, HBD.out, HG.out⟩, fun x hx => ⟨by simp [World.setCell]; exact HF.out x hx, .inl hx⟩, (QK.refl F w).set HG.out 2 _⟩
      · go_enter Tryz.func151, Tryz.ntmps151
        go_wp2
        go_ret
        refine ⟨g, F, rfl, ⟨lo, M, HB.out.s2 M, HR.out, HBD.out, HG.out⟩, fun x hx => ⟨by simp [World.setCell]; exact HF.out x hx, .inl hx⟩, (QK.refl F w).set HG.out 2 _⟩

theorem QY.of_keep {n : Nat} {w w' : World} {T g : Nat} {m hq : Option Nat} {R : KS} {F : Nat → Prop} {Q : Int → Option Nat} {FH : Nat → Prop} {FP : Int → Nat → Prop} (y : QY n w T g m hq R F Q FH FP) (hx : ∀ x, x ≠ g → w'.heap[x]? = w.heap[x]?) : QY n w' T g m hq R F Q FH FP :=
  ⟨y.bd, y.qm.keep fun b hb => hx b (y.fm b hb).2.1, y.qh.keep fun x h => hx x (y.fh x h).2, fun h => (y.qp h).keep fun x h' => hx x (y.fp h x h').2.1, y.fm, y.fh, y.fp, y.fa⟩
/-- behind the put in the parts: the set is whole again -/
theorem with_last {n T g : Nat} {lo hi : Int} {S' : KS} {k : Int} {R : KS} {F : Nat → Prop} {w w2 w3 : World} (he : QEnds S' lo hi) (hbd : QBd (qq n * qq n) S') (hR : QCut S' lo = QPut R k) (hk : QK F w w2) (hs : w2.heap.size = w.heap.size) {e : Ending} (h : AddR n g lo hi (QPut R k) T F w2 e w3) :
    WiR (n + 1) T S' F w (.returned (.pointer (some ⟨g, 0, none⟩))) w3 := by
  obtain ⟨_, m', hq', Q', FH', FP', F', b3, y3, g3, l3, k3⟩ := h
  rw [← hR] at y3
  exact ⟨g, F', rfl, QR.shut1 b3 he hbd g3 y3, fun x hx => ⟨(l3 x hx).1, by rw [← hs]; exact (l3 x hx).2⟩, hk.trans k3 (fun _ _ e => e) (fun _ _ e => e)⟩
set_option maxHeartbeats 4000000 in
theorem with_succ {n : Nat} (hn : n ≤ 3) (ih : WithC n) : WithC (n + 1) := by
  intro p T S F key w h hF h0 h1 hT
  cases p with
  | none => exact with_nil T S (QR.none_iff.1 h) F key w h0 h1 (by omega)
  | some g =>
    obtain ⟨lo, hi, m, hq, Q, FH, FP, hb, he, hbd, hg, y⟩ := h.open1
    have h12 := (he.2.2 _ he.1).2
    have c0 := hb.c0
    have c1 := hb.c1
    have c2 := hb.c2
    have f1 := hb.fr 1
    have f2 := hb.fr 2
    have hpos : (0 : Int) < (qbt n : Int) := by have := qbt_pos n; omega
    have h1' : key < qq n * qq n := h1
    have HB := Lib.hid hb
    have HBD := Lib.hid (qput_bd hbd h0 h1')
    have HG := Lib.hid hg
    have HE := Lib.hid he
    have HF := Lib.hid hF
    have HY := Lib.hid y
    have hlb := hbd lo he.1
    have HLB := Lib.hid hlb
    have HKB : Hid (0 ≤ key ∧ key < qq n * qq n) := ⟨h0, h1'⟩
    clear hF hbd hg hb he h0 h1 h1' h y hlb
    show Calls Tryz.prog 151 #[.pointer (some ⟨g, 0, none⟩), I key, I (qbt (n + 1))] w (WiR (n + 1) T (QPut S key) F w)
    generalize qbt (n + 1) = bits
    by_cases hlt : key < lo
    · have hmx : (if hi < lo then lo else hi) = hi := if_neg (by omega)
      have hpl := qput_low HE.out hlt
      have HE2 := Lib.hid hpl.1
      have HR2 := Lib.hid hpl.2
      have HADD : Hid (∀ W : World, QN W g (qbt n) key hi m hq → (∀ x, x ≠ g → W.heap[x]? = w.heap[x]?) → W.heap.size = w.heap.size → Calls Tryz.prog 204 #[.pointer (some ⟨g, 0, none⟩), I lo] W (AddR n g key hi (QPut (QCut S lo) lo) T F W)) :=
        fun W hW hx hs => add_any hn ih g key hi m hq (QCut S lo) F Q FH FP lo T W hW (HY.out.of_keep hx) HG.out (fun x hx' => by rw [hs]; exact HF.out x hx') HLB.out.1 HLB.out.2 hT
      clear hpl
      go_enter Tryz.func151, Tryz.ntmps151
      go_wp2_with fail
      refine (HADD.out _ ((HB.out.s1 key).s2 hi) (fun x hx => ?_) (by simp [World.setCell])).mono ?_
      · rw [Below.heap_setCell _ ⟨g, 2, none⟩ _ x hx, Below.heap_setCell _ ⟨g, 1, none⟩ _ x hx]
      · intro e w3 h3
        obtain ⟨rfl, _⟩ := id h3
        have H3 := Lib.hid (with_last HE2.out HBD.out HR2.out (((QK.refl F w).set HG.out 1 (I key)).set HG.out 2 (I hi)) (by simp [World.setCell]) h3)
        clear h3
        go_wp2
        go_ret
        exact H3.out
    · by_cases hgt : lo < key
      · obtain ⟨M, hM⟩ : ∃ M, (if hi < key then key else hi) = M := ⟨_, rfl⟩
        have hpl := qput_high HE.out hgt
        rw [hM] at hpl
        have HE2 := Lib.hid hpl.1
        have HR2 := Lib.hid hpl.2
        have HADD : Hid (∀ W : World, QN W g (qbt n) lo M m hq → (∀ x, x ≠ g → W.heap[x]? = w.heap[x]?) → W.heap.size = w.heap.size → Calls Tryz.prog 204 #[.pointer (some ⟨g, 0, none⟩), I key] W (AddR n g lo M (QPut (QCut S lo) key) T F W)) :=
          fun W hW hx hs => add_any hn ih g lo M m hq (QCut S lo) F Q FH FP key T W hW (HY.out.of_keep hx) HG.out (fun x hx' => by rw [hs]; exact HF.out x hx') HKB.out.1 HKB.out.2 hT
        clear hpl
        go_enter Tryz.func151, Tryz.ntmps151
        go_wp2_with fail
        refine (HADD.out _ (HB.out.s2 M) (fun x hx => ?_) (by simp [World.setCell])).mono ?_
        · rw [Below.heap_setCell _ ⟨g, 2, none⟩ _ x hx]
        · intro e w3 h3
          obtain ⟨rfl, _⟩ := id h3
          have H3 := Lib.hid (with_last HE2.out HBD.out HR2.out ((QK.refl F w).set HG.out 2 (I M)) (by simp [World.setCell]) h3)
          clear h3
          go_wp2
          go_ret
          exact H3.out
      · have hkl : key = lo := by omega
        subst hkl
        have hmx : (if hi < key then key else hi) = hi := if_neg (by omega)
        have HU : Hid (∀ W : World, QN W g (qbt n) key hi m hq → (∀ x, x ≠ g → W.heap[x]? = w.heap[x]?) → QR (n + 1) W (T + qc (n + 1)) (some g) (QPut S key) F) := fun W hW hx => by
          rw [qput_mem HE.out.1]
          have hbd := HBD.out
          rw [qput_mem HE.out.1] at hbd
          exact (QR.shut1 hW HE.out hbd HG.out (HY.out.of_keep hx)).mono (by omega) (fun _ e => e)
        clear hlt hgt
        go_enter Tryz.func151, Tryz.ntmps151
        go_wp2
        go_ret
        refine ⟨g, F, rfl, HU.out _ (HB.out.s2 hi) (fun x hx => Below.heap_setCell _ ⟨g, 2, none⟩ _ x hx), fun x hx => ⟨by simp [World.setCell]; exact HF.out x hx, .inl hx⟩, (QK.refl F w).set HG.out 2 _⟩
theorem with_any : ∀ n, n ≤ 4 → WithC n
  | 0, _ => with_zero
  | n + 1, h => with_succ (by omega) (with_any n (by omega))

end Go.Proofs.YtpnjnedfcdppaaaGreatDoor

/-
  package half: a key is taken away from the parts; the greatest one of them. (Written by tools/gen_qout.py.)
-/
namespace Go.Proofs.YtpnjnedfcdppaaaGreatDoor
open Go.RowKit Go.Maps

def WoR (n T : Nat) (S' : KS) (F : Nat → Prop) (w : World) (e : Ending) (w' : World) : Prop :=
  ∃ (po : Option Nat) (F' : Nat → Prop), e = .returned (qp po) ∧ QR n w' (T + qc n) po S' F' ∧ (∀ x, F' x → x < w'.heap.size ∧ (F x ∨ w.heap.size ≤ x)) ∧ QK F w w'
def WoutC (n : Nat) : Prop := ∀ (g T : Nat) (S : KS) (F : Nat → Prop) (key : Int) (w : World), QR n w T (some g) S F → (∀ x, F x → x < w.heap.size) → S key → T + qc n ≤ 1000000 →
  Calls Tryz.prog 152 #[.pointer (some ⟨g, 0, none⟩), I key] w (WoR n T (QCut S key) F w)
theorem QMb.del {w : World} {T b : Nat} {Q : Int → Option Nat} {D : DataW Unit} (h2 : ∀ h, D.atKey (.int .i64 h) .nil = qd (Q h)) {k : Int} (ho : w.ownsMap Tryz.prog 3 rp b T (D.del (.int .i64 k))) : QMb w T b (qupd Q k none) := by
  refine ⟨_, ho, fun x => ?_⟩
  by_cases hx : x = k
  · subst hx
    rw [qupd_same]
    exact atKey_del_same _
  · rw [qupd_ne _ _ hx, ← h2 x]
    exact atKey_del_other (by simp [hx]) _
/-- behind the cut in a part that has more: the map tells it -/
theorem part_last {n : Nat} {w w4 w5 : World} {g b : Nat} {lo hi : Int} {T T4 : Nat} {hq4 : Option Nat} {R R' : KS} {Px : KS} {F F4 : Nat → Prop} {Q : Int → Option Nat} {FH4 : Nat → Prop} {FP : Int → Nat → Prop} {x : Int} {g5 : Nat} {F5 : Nat → Prop}
    (Z4 : QZ n w4 T4 g (some b) hq4 (QHi (qq n) R') (QLo (qq n) R) F4 Q FH4 FP) (B4 : QN w4 g (qbt n) lo hi (some b) hq4) (K4 : QK F w w4) (L4 : ∀ y, F4 y → y < w4.heap.size ∧ (F y ∨ w.heap.size ≤ y)) (hbd : QBd (qq n * qq n) R')
    (hx : 0 ≤ x ∧ x ≤ 1000000) (hP : QLo (qq n) R' x = Px ∧ ∀ h, h ≠ x → QLo (qq n) R' h = QLo (qq n) R h) (hT : T4 ≤ T + qc n) (hT2 : T4 + qc n < 1000000)
    (hr5 : QR n w5 (T4 + qc n) (some g5) Px F5) (hl5 : ∀ y, F5 y → y < w5.heap.size ∧ (FP x y ∨ w4.heap.size ≤ y)) (hk5 : QK (FP x) w4 w5) :
    w5.cell? ⟨g, 3, none⟩ = some (.map (some b)) ∧ ∃ w6, (Instr.mapUpdate 214 (.map (some b)) (I x) (.pointer (some ⟨g5, 0, none⟩))).run Tryz.prog w5 = .ok () w6 ∧ AddR n g lo hi R' T F w (.returned (.tuple #[])) w6 := by
  have hgb : w5.heap[g]? = w4.heap[g]? := hk5.block g (Z4.lt g Z4.ge) (fun e => (Z4.fp x g e).2.1 rfl)
  obtain ⟨hbF, hbg, _, _⟩ := Z4.fm b rfl
  obtain ⟨w6, hupd, hm6, hg6⟩ := ((Z4.map_at hk5).mono (show T4 ≤ T4 + qc n by omega)).store (by omega) hx g5
  have Z6 := Z4.part (x := x) (po := some g5) (P' := QLo (qq n) R') (T' := T4 + qc n) (T2 := T4 + qc n + 1) (by omega) (by omega) (by rw [hP.1]; exact hr5) hl5 hk5 hg6 hm6 (fun h hne => hP.2 h hne)
  have B6 : QN w6 g (qbt n) lo hi (some b) hq4 := B4.keep ((hg6.block g (Nat.lt_of_lt_of_le (Z4.lt g Z4.ge) hk5.size) (fun e => hbg (Option.some.inj e).symm)).trans hgb)
  have K5 : QK F w w5 := K4.trans hk5 (fun _ _ e => e) (fun y hy e => (L4 y (Z4.fp x y e).1).2.resolve_right (by omega))
  have K6 : QK F w w6 := K5.trans (F' := F4) ⟨hg6.os, hg6.tape, hg6.output, hg6.size, fun y hy hy2 => hg6.block y hy (fun e => hy2 (by cases e; exact hbF))⟩ (fun _ _ e => e) (fun y hy e => (L4 y e).2.resolve_right (by omega))
  refine ⟨(B4.keep hgb).c3, w6, hupd, rfl, _, _, _, _, _, _, B6, (Z6.mono (by omega)).y hbd, .inl Z4.ge, fun y hy => ⟨Z6.lt y hy, ?_⟩, K6⟩
  rcases hy with hy | hy
  · exact (L4 y hy).2
  · rcases (hl5 y hy).2 with e | e
    · exact (L4 y (Z4.fp x y e).1).2
    · have := K4.size
      exact .inr (by omega)
/-- behind the cut of the last key of a part: it is struck from the map -/
theorem part_drop {n : Nat} {w w4 w5 w6 : World} {g b : Nat} {lo hi : Int} {T4 : Nat} {hq4 : Option Nat} {R R' : KS} {F F4 : Nat → Prop} {Q : Int → Option Nat} {FH4 : Nat → Prop} {FP : Int → Nat → Prop} {x : Int} {F5 : Nat → Prop}
    (Z4 : QZ n w4 T4 g (some b) hq4 (QHi (qq n) R) (QLo (qq n) R) F4 Q FH4 FP) (B4 : QN w4 g (qbt n) lo hi (some b) hq4) (K4 : QK F w w4) (L4 : ∀ y, F4 y → y < w4.heap.size ∧ (F y ∨ w.heap.size ≤ y))
    (hP : ∀ h, h ≠ x → QLo (qq n) R' h = QLo (qq n) R h)
    (hr5 : QR n w5 (T4 + qc n) none (QLo (qq n) R' x) F5) (hl5 : ∀ y, F5 y → y < w5.heap.size ∧ (FP x y ∨ w4.heap.size ≤ y)) (hk5 : QK (FP x) w4 w5) (hg6 : w5.grownBy w6 (some b)) (hm6 : QMb w6 (T4 + qc n) b (qupd Q x none)) :
    ∃ (F6 : Nat → Prop) (Q6 : Int → Option Nat) (FP6 : Int → Nat → Prop), QZ n w6 (T4 + qc n) g (some b) hq4 (QHi (qq n) R) (QLo (qq n) R') F6 Q6 FH4 FP6 ∧ QN w6 g (qbt n) lo hi (some b) hq4 ∧ QK F w w6 ∧ ∀ y, F6 y → y < w6.heap.size ∧ (F y ∨ w.heap.size ≤ y) := by
  have hgb : w5.heap[g]? = w4.heap[g]? := hk5.block g (Z4.lt g Z4.ge) (fun e => (Z4.fp x g e).2.1 rfl)
  obtain ⟨hbF, hbg, _, _⟩ := Z4.fm b rfl
  have Z6 := Z4.part (x := x) (po := none) (P' := QLo (qq n) R') (T' := T4 + qc n) (T2 := T4 + qc n) (by omega) (by omega) hr5 hl5 hk5 hg6 hm6 (fun h hne => hP h hne)
  have B6 : QN w6 g (qbt n) lo hi (some b) hq4 := B4.keep ((hg6.block g (Nat.lt_of_lt_of_le (Z4.lt g Z4.ge) hk5.size) (fun e => hbg (Option.some.inj e).symm)).trans hgb)
  have K5 : QK F w w5 := K4.trans hk5 (fun _ _ e => e) (fun y hy e => (L4 y (Z4.fp x y e).1).2.resolve_right (by omega))
  have K6 : QK F w w6 := K5.trans (F' := F4) ⟨hg6.os, hg6.tape, hg6.output, hg6.size, fun y hy hy2 => hg6.block y hy (fun e => hy2 (by cases e; exact hbF))⟩ (fun _ _ e => e) (fun y hy e => (L4 y e).2.resolve_right (by omega))
  refine ⟨_, _, _, Z6, B6, K6, fun y hy => ⟨Z6.lt y hy, ?_⟩⟩
  rcases hy with hy | hy
  · exact (L4 y hy).2
  · rcases (hl5 y hy).2 with e | e
    · exact (L4 y (Z4.fp x y e).1).2
    · have := K4.size
      exact .inr (by omega)
/-- behind the cut in the highs -/
theorem high_last {n : Nat} {w w6 w7 : World} {g : Nat} {lo hi : Int} {T T6 : Nat} {m hq : Option Nat} {H : KS} {R' : KS} {F F6 : Nat → Prop} {Q : Int → Option Nat} {FH : Nat → Prop} {FP : Int → Nat → Prop} {po : Option Nat} {F7 : Nat → Prop}
    (Z6 : QZ n w6 T6 g m hq H (QLo (qq n) R') F6 Q FH FP) (B6 : QN w6 g (qbt n) lo hi m hq) (K6 : QK F w w6) (L6 : ∀ y, F6 y → y < w6.heap.size ∧ (F y ∨ w.heap.size ≤ y)) (hbd : QBd (qq n * qq n) R') (hT : T6 + qc n ≤ T + (2 * qc n + 1))
    (hr7 : QR n w7 (T6 + qc n) po (QHi (qq n) R') F7) (hl7 : ∀ y, F7 y → y < w7.heap.size ∧ (FH y ∨ w6.heap.size ≤ y)) (hk7 : QK FH w6 w7) :
    w7.frozen? ⟨g, 4, none⟩ = false ∧ w7.cell? ⟨g, 4, none⟩ = some (qp hq) ∧ AddR n g lo hi R' T F w (.returned (.tuple #[])) (w7.setCell ⟨g, 4, none⟩ (qp po)) := by
  have hgb : w7.heap[g]? = w6.heap[g]? := hk7.block g (Z6.lt g Z6.ge) (fun e => (Z6.fh g e).2 rfl)
  have b7 := B6.keep hgb
  have Z7 := (Z6.high (T' := T6 + qc n) (by omega) hr7 hl7 hk7).cell 4 (qp po)
  have K7 : QK F w w7 := K6.trans hk7 (fun _ _ e => e) (fun y hy e => (L6 y (Z6.fh y e).1).2.resolve_right (by omega))
  have K8 : QK F w (w7.setCell ⟨g, 4, none⟩ (qp po)) := K7.trans (F' := F6) ((QK.refl F6 w7).set Z6.ge 4 _) (fun _ _ e => e) (fun y hy e => (L6 y e).2.resolve_right (by omega))
  refine ⟨b7.fr 4, b7.c4, rfl, _, _, _, _, _, _, b7.s4 po, (Z7.mono hT).y hbd, .inl Z6.ge, fun y hy => ⟨Z7.lt y hy, ?_⟩, K8⟩
  rcases hy with hy | hy
  · exact (L6 y hy).2
  · rcases (hl7 y hy).2 with e | e
    · exact (L6 y (Z6.fh y e).1).2
    · have := K6.size
      exact .inr (by omega)
theorem neq_some (g : Nat) (w : World) : (binOp BinOp.neq 137 (.pointer (some ⟨g, 0, none⟩)) (.pointer none)).run Tryz.prog w = .ok (.bool true) w := by kernel_rfl

set_option maxHeartbeats 4000000 in
theorem take_any {n : Nat} (hn : n ≤ 3) (ih : WoutC n) (g : Nat) (lo hi : Int) (m hq : Option Nat) (R : KS) (F : Nat → Prop) (Q : Int → Option Nat) (FH : Nat → Prop) (FP : Int → Nat → Prop) (key : Int) (T : Nat) (w : World)
    (hb : QN w g (qbt n) lo hi m hq) (hy : QY n w T g m hq R F Q FH FP) (hg : F g) (hF : ∀ x, F x → x < w.heap.size) (hk : R key) (hT : T + (2 * qc n + 1) ≤ 1000000) :
    Calls Tryz.prog 205 #[.pointer (some ⟨g, 0, none⟩), I key] w (AddR n g lo hi (QCut R key) T F w) := by
  have hqp := qq_pos n
  obtain ⟨h0, h1⟩ := hy.bd key hk
  have h6 := qq_le4 (show n + 1 ≤ 4 by omega)
  have h61 : qq (n + 1) = qq n * qq n := rfl
  have h7 := qq_le hn
  obtain ⟨d0, d1⟩ := qdiv_bd hqp h0 h1
  have HSP := Lib.hid (split_any hn w hb h0 (by omega))
  have HZ := Lib.hid (hy.z hg hF)
  have HB := Lib.hid hb
  have HBD := Lib.hid (qcut_bd (k := key) hy.bd)
  have HX0 : Hid (0 ≤ key / qq n ∧ key / qq n ≤ 1000000) := ⟨d0, by omega⟩
  have HPU : Hid (QLo (qq n) (QCut R key) (key / qq n) = QCut (QLo (qq n) R (key / qq n)) (key % qq n) ∧ ∀ h, h ≠ key / qq n → QLo (qq n) (QCut R key) h = QLo (qq n) R h) := ⟨qlo_cut, fun h hne => qlo_cut_ne hne⟩
  have HIN : Hid (QLo (qq n) R (key / qq n) (key % qq n)) := qlo_iff.2 hk
  have HHI : Hid (QHi (qq n) R (key / qq n)) := ⟨key, hk, rfl⟩
  have HHS : Hid (∀ l, QCut (QLo (qq n) R (key / qq n)) (key % qq n) l → QHi (qq n) (QCut R key) = QHi (qq n) R) := fun l hl => qhi_cut_some hl
  have HHN : Hid ((∀ l, ¬ QCut (QLo (qq n) R (key / qq n)) (key % qq n) l) → QHi (qq n) (QCut R key) = QCut (QHi (qq n) R) (key / qq n)) := fun hl => qhi_cut_none hl
  clear hb hy hF h0 h1 h6 h61 d0 d1 hqp hk
  generalize key / qq n = x at *
  generalize key % qq n = z at *
  obtain ⟨p, hqx⟩ := (HZ.out.qp x).some_of HIN.out
  obtain ⟨gh, hgh⟩ := HZ.out.qh.some_of HHI.out
  subst hgh
  have HQX := Lib.hid hqx
  clear hqx
  cases m with
  | none => exact absurd HQX.out (by rw [show Q x = none from HZ.out.qm x]; simp)
  | some b =>
    have hns := neq_some
    go_enter Tryz.func205, Tryz.ntmps205
    go_wp2_with fail
    refine HSP.out.mono ?_
    rintro e w1 ⟨rfl, j, hw1⟩
    have hh1 : w1.heap = w.heap := by rw [hw1]; rfl
    have K1 : Hid (QK F w w1) := by show QK F w w1; rw [hw1]; exact (QK.refl F w).drewN j
    have Z1 : Hid (QZ n w1 T g (some b) (some gh) (QHi (qq n) R) (QLo (qq n) R) F Q FH FP) := by show QZ _ _ _ _ _ _ _ _ _ _ _ _; rw [hw1]; exact HZ.out.drewN j
    have B1 : Hid (QN w1 g (qbt n) lo hi (some b) (some gh)) := HB.out.keep (by rw [hh1])
    have L1 : Hid (∀ y, F y → y < w1.heap.size ∧ (F y ∨ w.heap.size ≤ y)) := fun y hy => ⟨Z1.out.lt y hy, .inl hy⟩
    clear hw1 hh1
    have c3 := B1.out.c3
    have hlook := Z1.out.qm.look_some HX0.out HQX.out
    have HW : Hid (Calls Tryz.prog 152 #[.pointer (some ⟨p, 0, none⟩), I z] w1 (WoR n T (QCut (QLo (qq n) R x) z) (FP x) w1)) := ih p T (QLo (qq n) R x) (FP x) z w1 (by have := Z1.out.qp x; rw [HQX.out] at this; exact this) (fun y hy => Z1.out.lt y (Z1.out.fp x y hy).1) HIN.out (by omega)
    go_wp2_with fail
    refine HW.out.mono ?_
    rintro e w2 ⟨po, F2, rfl, hr2, hl2, hk2⟩
    cases po with
    | some p2 =>
      obtain ⟨l, hl⟩ := hr2.has
      have Z1' : QZ n w1 T g (some b) (some gh) (QHi (qq n) (QCut R key)) (QLo (qq n) R) F Q FH FP := by rw [HHS.out l hl]; exact Z1.out
      obtain ⟨e3, w6, hupd, h6⟩ := part_last (T := T) Z1' B1.out K1.out L1.out HBD.out HX0.out HPU.out (by omega) (by omega) hr2 hl2 hk2
      have H6 := Lib.hid h6
      clear hr2 hl2 hk2 h6 hl Z1'
      have hq2 : qp (some p2) = .pointer (some ⟨p2, 0, none⟩) := rfl
      rw [hq2]
      clear hq2
      go_wp2
      refine bodyPost_ret (results_none rfl _ _ _) rfl ?_
      exact H6.out
    | none =>
      have hq2 : qp none = .pointer none := rfl
      rw [hq2]
      clear hq2
      have hem := QR.none_iff.1 hr2
      have hr2' : QR n w2 (T + qc n) none (QLo (qq n) (QCut R key) x) F2 := by rw [HPU.out.1]; exact hr2
      have HHE := Lib.hid (HHN.out hem)
      have hgb : w2.heap[g]? = w1.heap[g]? := hk2.block g (Z1.out.lt g Z1.out.ge) (fun e => (Z1.out.fp x g e).2.1 rfl)
      have e3 := (B1.out.keep hgb).c3
      have HR2 := Lib.hid hr2'
      have HL2 := Lib.hid hl2
      have HK2 := Lib.hid hk2
      obtain ⟨D, hD, hQ⟩ := (Z1.out.map_at hk2).mono (show T ≤ T + qc n by omega)
      have HD := Lib.hid hD
      have HQ := Lib.hid hQ
      have hkey := keyOf_int_mk Tryz.underlying3 (wf_key HX0.out)
      clear hem hr2 hr2' hl2 hk2 hgb hD hQ
      go_wp2_with (first
        | (at_delete; refine wpList_delete_own _ rfl _ _ 214 3 rfl 137 keyed_int Tryz.underlying214 rp b (T + qc n) D rfl HD.out _ _ rfl hkey ?_; intro w3 hown3 hturn3
           obtain ⟨F6, Q6, FP6, z6, b6, k6, l6⟩ := part_drop (R' := QCut R key) (w6 := w3) Z1.out B1.out K1.out L1.out HPU.out.2 HR2.out HL2.out HK2.out hturn3.grown (QMb.del HQ.out hown3)
           have Z6 := Lib.hid z6
           have B6 := Lib.hid b6
           have K6 := Lib.hid k6
           have L6 := Lib.hid l6
           clear z6 b6 k6 l6 hown3 hturn3
           have c4 : w3.cell? ⟨g, 4, none⟩ = some (.pointer (some ⟨gh, 0, none⟩)) := B6.out.c4)
        | fail)
      clear e3 HD HQ hkey
      have HW7 : Hid (Calls Tryz.prog 152 #[.pointer (some ⟨gh, 0, none⟩), I x] w3 (WoR n (T + qc n) (QCut (QHi (qq n) R) x) FH w3)) := ih gh (T + qc n) (QHi (qq n) R) FH x w3 Z6.out.qh (fun y hy => Z6.out.lt y (Z6.out.fh y hy).1) HHI.out (by omega)
      refine HW7.out.mono ?_
      rintro e w7 ⟨po, F7, rfl, hr7, hl7, hk7⟩
      obtain ⟨fz, e4, h8⟩ := high_last (T := T) Z6.out B6.out K6.out L6.out HBD.out (by omega) (by rw [HHE.out]; exact hr7) hl7 hk7
      have H8 := Lib.hid h8
      clear hr7 hl7 hk7 h8
      obtain ⟨pv, hpv⟩ : ∃ pv, qp po = .pointer pv := ⟨_, rfl⟩
      rw [hpv] at H8 ⊢
      clear hpv
      go_wp2
      (first | exact H8.out | (go_end0; exact H8.out))
end Go.Proofs.YtpnjnedfcdppaaaGreatDoor

/-
  package half: a key is taken away, at every level. (Written by tools/gen_qout.py.)
-/
namespace Go.Proofs.YtpnjnedfcdppaaaGreatDoor
open Go.RowKit Go.Maps

def GrR (R : KS) (lo : Int) (w : World) (e : Ending) (w' : World) : Prop := ∃ M, e = .returned (I M) ∧ w' = w ∧ (((∀ x, ¬ R x) ∧ M = lo) ∨ (R M ∧ ∀ x, R x → x ≤ M))
set_option maxHeartbeats 4000000 in
theorem greatest_any {n : Nat} (hn : n ≤ 3) {g : Nat} {lo hi : Int} {m hq : Option Nat} {R : KS} {F : Nat → Prop} {Q : Int → Option Nat} {FH : Nat → Prop} {FP : Int → Nat → Prop} {T : Nat} (w : World)
    (hb : QN w g (qbt n) lo hi m hq) (hy : QY n w T g m hq R F Q FH FP) : Calls Tryz.prog 206 #[.pointer (some ⟨g, 0, none⟩)] w (GrR R lo w) := by
  have c1 := hb.c1
  have c3 := hb.c3
  cases hq with
  | none =>
    have c4 : w.cell? ⟨g, 4, none⟩ = some (.pointer none) := hb.c4
    have HR := Lib.hid (qhi_none (QR.none_iff.1 hy.qh))
    clear hb hy
    go_enter Tryz.func206, Tryz.ntmps206
    go_wp2
    go_ret
    exact ⟨_, rfl, rfl, .inl ⟨HR.out, rfl⟩⟩
  | some gh =>
    have c4 : w.cell? ⟨g, 4, none⟩ = some (.pointer (some ⟨gh, 0, none⟩)) := hb.c4
    obtain ⟨h1, h2, hm, hhq, hhb, hhe, hhd, _⟩ := hy.qh.head
    have d2 := hhb.c2
    have hb2 := hhd h2 hhe.2.1
    obtain ⟨l0, hl0⟩ := qhi_lo.1 hhe.2.1
    obtain ⟨pp, hpp⟩ := (hy.qp h2).some_of hl0
    have hpr := hy.qp h2
    rw [hpp] at hpr
    obtain ⟨l1, l2, pm, phq, pb, pe, pbd, _⟩ := hpr.head
    have p2 := pb.c2
    have hl2 := pbd l2 pe.2.1
    have h7 := qq_le hn
    have hlook : (Instr.lookup 214 (.map m) (I h2) false).run Tryz.prog w = .ok (.pointer (some ⟨pp, 0, none⟩)) w := hy.qm.look_some ⟨hb2.1, by omega⟩ hpp
    have HJ := Lib.hid (join_any hn w hb hb2.1 hb2.2 hl2.1 hl2.2)
    have HR := Lib.hid (qrest_high (qq_pos n) hhe pe)
    clear hb hy hhb hhe hhd hl0 hpr hpp pb pe pbd
    go_enter Tryz.func206, Tryz.ntmps206
    go_wp2_with fail
    refine HJ.out.mono ?_
    rintro e w1 ⟨rfl, rfl⟩
    go_wp2
    go_ret
    exact ⟨_, rfl, rfl, .inr HR.out⟩

/-- the ends of what is left, by the greatest one of the rest -/
theorem ends_of {S' : KS} {lo M : Int} (h0 : S' lo) (h1 : ∀ x, S' x → lo ≤ x) (hM : ((∀ x, ¬ QCut S' lo x) ∧ M = lo) ∨ (QCut S' lo M ∧ ∀ x, QCut S' lo x → x ≤ M)) : QEnds S' lo M := by
  rcases hM with ⟨hno, rfl⟩ | ⟨hM, hle⟩
  · refine ⟨h0, h0, fun x hx => ⟨h1 x hx, ?_⟩⟩
    by_cases e : x = M
    · omega
    · exact absurd ⟨hx, e⟩ (hno x)
  · refine ⟨h0, hM.1, fun x hx => ⟨h1 x hx, ?_⟩⟩
    by_cases e : x = lo
    · rw [e]; exact h1 M hM.1
    · exact hle x ⟨hx, e⟩
/-- the set is whole again -/
theorem wo_last {n T g : Nat} {lo hi : Int} {S' : KS} {m hq : Option Nat} {Q : Int → Option Nat} {FH : Nat → Prop} {FP : Int → Nat → Prop} {F F' : Nat → Prop} {w w' : World} (hb : QN w' g (qbt n) lo hi m hq) (hy : QY n w' (T + (2 * qc n + 1)) g m hq (QCut S' lo) F' Q FH FP) (hg : F' g)
    (he : QEnds S' lo hi) (hbd : QBd (qq n * qq n) S') (hl : ∀ x, F' x → x < w'.heap.size ∧ (F x ∨ w.heap.size ≤ x)) (hk : QK F w w') : WoR (n + 1) T S' F w (.returned (.pointer (some ⟨g, 0, none⟩))) w' :=
  ⟨some g, F', rfl, QR.shut1 hb he hbd hg hy, hl, hk⟩
theorem wo_nil {n T g : Nat} {S : KS} {F : Nat → Prop} {lo key : Int} (w : World) (hS : ∀ x, S x → x = lo) (hk : S key) (hF : ∀ x, F x → x < w.heap.size) (j : Nat) : WoR n T (QCut S key) F w (.returned (.pointer none)) (w.drewN j) :=
  ⟨none, F, rfl, QR.none_iff.2 fun x hx => hx.2 (by rw [hS x hx.1, hS key hk]), fun x hx => ⟨hF x hx, .inl hx⟩, (QK.refl F w).drewN j⟩
set_option maxHeartbeats 2000000 in
theorem wout_zero : WoutC 0 := by
  intro g T S F key w h hF hk hT
  obtain ⟨lo, hi, hb, he, hbd, hg⟩ := h
  have c0 := hb.c0
  have c1 := hb.c1
  have c2 := hb.c2
  have f1 := hb.fr 1
  have f2 := hb.fr 2
  have hkb := hbd key hk
  have hlb := hbd lo he.1
  have hhb := hbd hi he.2.1
  have h12 := he.2.2 _ he.1
  have hke := he.2.2 _ hk
  by_cases hlh : lo = hi
  · have HW := Lib.hid (fun j => wo_nil (n := 0) (T := T) (g := g) (F := F) (lo := lo) w (fun x hx => by have := he.2.2 x hx; omega) hk hF j)
    have heq : (lo == hi) = true := by simpa using hlh
    clear hb he hbd hg hF hk hkb hlb hhb h12 hke hlh
    go_enter Tryz.func152, Tryz.ntmps152
    go_wp2
    go_quiet (fail)
    go_wp2
    go_ret
    exact HW.out _
  · have heq : (lo == hi) = false := by simpa using hlh
    have ew : IntKind.i64.wrap (1 - key) = 1 - key := IntWalk.i64_in _ (by omega)
    have hlo : lo = 0 := by omega
    have hhi : hi = 1 := by omega
    have hS' : S (1 - key) := by
      rcases (show key = 0 ∨ key = 1 by omega) with e | e
      · rw [e, show (1 : Int) - 0 = hi by omega]; exact he.2.1
      · rw [e, show (1 : Int) - 1 = lo by omega]; exact he.1
    have HE : Hid (QEnds (QCut S key) (1 - key) (1 - key)) := ⟨⟨hS', by omega⟩, ⟨hS', by omega⟩, fun x hx => by have := hbd x hx.1; have := hx.2; omega⟩
    have HBD := Lib.hid (qcut_bd (k := key) hbd)
    have HB := Lib.hid hb
    have HG := Lib.hid hg
    have HF := Lib.hid hF
    clear hb he hbd hg hF hk hkb hlb hhb h12 hke hlh hlo hhi hS'
    go_enter Tryz.func152, Tryz.ntmps152
    go_wp2
    go_quiet (fail)
    go_wp2
    go_ret
    refine ⟨some g, F, rfl, ⟨1 - key, 1 - key, ?_, HE.out, HBD.out, HG.out⟩, fun x hx => ⟨?_, .inl hx⟩, ?_⟩
    · exact ((HB.out.s1 (1 - key)).s2 (1 - key)).keep rfl
    · have := HF.out x hx
      simp [World.setCell]
      exact this
    · exact (((QK.refl F w).drewN _).set HG.out 1 _).set HG.out 2 _
set_option maxHeartbeats 4000000 in
theorem wout_succ {n : Nat} (hn : n ≤ 3) (ih : WoutC n) : WoutC (n + 1) := by
  intro g T S F key w h hF hk hT
  obtain ⟨lo, hi, m, hq, Q, FH, FP, hb, he, hbd, hg, y⟩ := h.open1
  have c0 := hb.c0
  have c1 := hb.c1
  have c2 := hb.c2
  have c3 := hb.c3
  have f1 := hb.fr 1
  have f2 := hb.fr 2
  have h12 := he.2.2 _ he.1
  have hke := he.2.2 _ hk
  have h8 : ((qbt n : Nat) : Int) ≠ 0 := by have := qbt_pos n; omega
  have h9 : ((qbt n : Int) == 0) = false := by simpa using h8
  have h7 := qq_le hn
  by_cases hlh : lo = hi
  · have HW := Lib.hid (fun j => wo_nil (n := n + 1) (T := T) (g := g) (F := F) (lo := lo) w (fun x hx => by have := he.2.2 x hx; omega) hk hF j)
    have heq0 : (lo == hi) = true := by simpa using hlh
    clear hb he hbd hg hF hk h12 hke hlh h y
    go_enter Tryz.func152, Tryz.ntmps152
    go_wp2
    go_quiet (fail)
    go_wp2
    go_ret
    exact HW.out _
  · have heq0 : (lo == hi) = false := by simpa using hlh
    have HSZ0 : Hid (∀ j, (w.drewN j).heap.size = w.heap.size) := fun j => rfl
    by_cases hkl : key = lo
    · -- the least one
      subst hkl
      have heq1 : (key == key) = true := by simp
      have hrh : QCut S key hi := ⟨he.2.1, fun e => hlh e.symm⟩
      have hHI : QHi (qq n) (QCut S key) (hi / qq n) := ⟨hi, hrh, rfl⟩
      obtain ⟨gh, hgh⟩ := y.qh.some_of hHI
      subst hgh
      have c4 : w.cell? ⟨g, 4, none⟩ = some (.pointer (some ⟨gh, 0, none⟩)) := hb.c4
      obtain ⟨h1, h2, hm, hhq, hhb, hhe, hhd, _⟩ := y.qh.head
      have d1 := hhb.c1
      have hb1 := hhd h1 hhe.1
      obtain ⟨l0, hl0⟩ := qhi_lo.1 hhe.1
      obtain ⟨pp, hpp⟩ := (y.qp h1).some_of hl0
      have hpr := y.qp h1
      rw [hpp] at hpr
      obtain ⟨l1, l2, pm, phq, pb, pe, pbd, _⟩ := hpr.head
      have p1 := pb.c1
      have hl1 := pbd l1 pe.1
      have hlook : ∀ j, (Instr.lookup 214 (.map m) (I h1) false).run Tryz.prog (w.drewN j) = .ok (.pointer (some ⟨pp, 0, none⟩)) (w.drewN j) := fun j => (y.qm.drewN j).look_some ⟨hb1.1, by omega⟩ hpp
      have HJ := Lib.hid (fun j => join_any hn (w.drewN j) (hb.keep rfl) hb1.1 hb1.2 hl1.1 hl1.2)
      obtain ⟨hu1, hu2⟩ := qrest_low (qq_pos n) hhe pe
      generalize h1 * qq n + l1 = u at HJ hu1 hu2
      have HRR : Hid (QCut (QCut S key) u = QCut (QCut S key) u) := rfl
      have HLOW : Hid (QCut S key u ∧ ∀ x, QCut S key x → u ≤ x) := ⟨hu1, hu2⟩
      have HMID : Hid (u ≠ hi → QEnds (QCut S key) u hi) := fun _ => ⟨hu1, hrh, fun x hx => ⟨hu2 x hx, (he.2.2 x hx.1).2⟩⟩
      have HBS := Lib.hid (qcut_bd (k := key) hbd)
      have HB := Lib.hid hb
      have HG := Lib.hid hg
      have HF := Lib.hid hF
      have HTK : Hid (∀ W : World, QN W g (qbt n) u hi m (some gh) → (∀ x, x ≠ g → W.heap[x]? = w.heap[x]?) → W.heap.size = w.heap.size → Calls Tryz.prog 205 #[.pointer (some ⟨g, 0, none⟩), I u] W (AddR n g u hi (QCut (QCut S key) u) T F W)) :=
        fun W hW hx hs => take_any hn ih g u hi m (some gh) (QCut S key) F Q FH FP u T W hW (y.of_keep hx) HG.out (fun x hx' => by rw [hs]; exact HF.out x hx') hu1 hT
      clear hb he hbd hg hF hk h12 hke hlh h y hrh hHI hhb hhe hhd hl0 hpr hpp pb pe pbd hu1 hu2
      go_enter Tryz.func152, Tryz.ntmps152
      go_wp2
      go_quiet (fail)
      go_wp2_with fail
      refine (HJ.out _).mono ?_
      rintro e w0 ⟨rfl, rfl⟩
      go_wp2_with fail
      refine (HTK.out ((w.drewN nq).setCell ⟨g, 1, none⟩ (I u)) ((HB.out.s1 u).keep rfl) (fun x hx => Below.heap_setCell w ⟨g, 1, none⟩ _ x hx) (by simp [World.setCell])).mono ?_
      have K1 : Hid (QK F w ((w.drewN nq).setCell ⟨g, 1, none⟩ (I u))) := ((QK.refl F w).drewN _).set HG.out 1 _
      have HSZ : Hid (((w.drewN nq).setCell ⟨g, 1, none⟩ (I u)).heap.size = w.heap.size) := by show _ = _; simp [World.setCell]
      rintro e w2 ⟨rfl, m2, hq2, Q2, FH2, FP2, F2, b2, y2, g2, l2, k2⟩
      have HB2 := Lib.hid b2
      have HY2 := Lib.hid y2
      have HG2 := Lib.hid g2
      have HL2 := Lib.hid l2
      have HK2 := Lib.hid (K1.out.trans k2 (fun _ _ e => e) (fun _ _ e => e))
      clear b2 y2 g2 l2 k2
      have e2 := HB2.out.c2
      have z2 := HB2.out.fr 2
      by_cases hkh : u = hi
      · have HGR := Lib.hid (greatest_any hn w2 HB2.out HY2.out)
        have heq : (u == hi) = true := by simpa using hkh
        have HLO := Lib.hid (HLOW.out)
        clear hkh
        go_wp2_with fail
        refine HGR.out.mono ?_
        rintro e w3 ⟨M, rfl, rfl, hM⟩
        have HW := Lib.hid (wo_last (T := T) (F := F) (w := w) (HB2.out.s2 M) (HY2.out.of_keep (fun x hx => Below.heap_setCell _ ⟨g, 2, none⟩ _ x hx)) HG2.out (ends_of HLO.out.1 HLO.out.2 hM) HBS.out (fun x hx => by
          have h := HL2.out x hx
          have hs : (w3.setCell ⟨g, 2, none⟩ (I M)).heap.size = w3.heap.size := by simp [World.setCell]
          have h0 := HSZ.out
          exact ⟨by omega, h.2.imp id (fun h => by omega)⟩) (HK2.out.trans (F' := F2) ((QK.refl F2 w3).set HG2.out 2 (I M)) (fun _ _ e => e) (fun x hx e => (HL2.out x e).2.resolve_right (by have := HSZ.out; omega))))
        clear hM
        go_wp2
        go_ret
        exact HW.out
      · have heq : (u == hi) = false := by simpa using hkh
        have HE2 := Lib.hid (HMID.out hkh)
        clear hkh
        have HW := Lib.hid (wo_last (T := T) (F := F) (w := w) HB2.out HY2.out HG2.out HE2.out HBS.out (fun x hx => ⟨(HL2.out x hx).1, (HL2.out x hx).2.imp id (fun h => by have := HSZ.out; omega)⟩) HK2.out)
        go_wp2
        go_ret
        exact HW.out

    · -- one of the rest
      have heq1 : (key == lo) = false := by simpa using hkl
      have hkr : QCut S lo key := ⟨hk, hkl⟩
      have HRR : Hid (QCut (QCut S lo) key = QCut (QCut S key) lo) := qcut_rest.symm
      have HLOW : Hid (QCut S key lo ∧ ∀ x, QCut S key x → lo ≤ x) := ⟨⟨he.1, fun e => hkl e.symm⟩, fun x hx => (he.2.2 x hx.1).1⟩
      have HMID : Hid (key ≠ hi → QEnds (QCut S key) lo hi) := fun h => qcut_mid he hkl h
      have HBS := Lib.hid (qcut_bd (k := key) hbd)
      have HB := Lib.hid hb
      have HG := Lib.hid hg
      have HF := Lib.hid hF
      have HTK : Hid (∀ j, Calls Tryz.prog 205 #[.pointer (some ⟨g, 0, none⟩), I key] (w.drewN j) (AddR n g lo hi (QCut (QCut S lo) key) T F (w.drewN j))) :=
        fun j => take_any hn ih g lo hi m hq (QCut S lo) F Q FH FP key T (w.drewN j) (HB.out.keep rfl) (y.of_keep (fun _ _ => rfl)) HG.out HF.out hkr hT
      clear hb he hbd hg hF hk h12 hke hlh h y hkr hkl
      go_enter Tryz.func152, Tryz.ntmps152
      go_wp2
      go_quiet (fail)
      go_wp2_with fail
      refine (HTK.out _).mono ?_
      have K1 : Hid (QK F w (w.drewN nq)) := (QK.refl F w).drewN _
      have HSZ : Hid ((w.drewN nq).heap.size = w.heap.size) := by show _ = _; rfl
      rintro e w2 ⟨rfl, m2, hq2, Q2, FH2, FP2, F2, b2, y2, g2, l2, k2⟩
      rw [HRR.out] at y2
      have HB2 := Lib.hid b2
      have HY2 := Lib.hid y2
      have HG2 := Lib.hid g2
      have HL2 := Lib.hid l2
      have HK2 := Lib.hid (K1.out.trans k2 (fun _ _ e => e) (fun _ _ e => e))
      clear b2 y2 g2 l2 k2
      have e2 := HB2.out.c2
      have z2 := HB2.out.fr 2
      by_cases hkh : key = hi
      · have HGR := Lib.hid (greatest_any hn w2 HB2.out HY2.out)
        have heq : (key == hi) = true := by simpa using hkh
        have HLO := Lib.hid (HLOW.out)
        clear hkh
        go_wp2_with fail
        refine HGR.out.mono ?_
        rintro e w3 ⟨M, rfl, rfl, hM⟩
        have HW := Lib.hid (wo_last (T := T) (F := F) (w := w) (HB2.out.s2 M) (HY2.out.of_keep (fun x hx => Below.heap_setCell _ ⟨g, 2, none⟩ _ x hx)) HG2.out (ends_of HLO.out.1 HLO.out.2 hM) HBS.out (fun x hx => by
          have h := HL2.out x hx
          have hs : (w3.setCell ⟨g, 2, none⟩ (I M)).heap.size = w3.heap.size := by simp [World.setCell]
          have h0 := HSZ.out
          exact ⟨by omega, h.2.imp id (fun h => by omega)⟩) (HK2.out.trans (F' := F2) ((QK.refl F2 w3).set HG2.out 2 (I M)) (fun _ _ e => e) (fun x hx e => (HL2.out x e).2.resolve_right (by have := HSZ.out; omega))))
        clear hM
        go_wp2
        go_ret
        exact HW.out
      · have heq : (key == hi) = false := by simpa using hkh
        have HE2 := Lib.hid (HMID.out hkh)
        clear hkh
        have HW := Lib.hid (wo_last (T := T) (F := F) (w := w) HB2.out HY2.out HG2.out HE2.out HBS.out (fun x hx => ⟨(HL2.out x hx).1, (HL2.out x hx).2.imp id (fun h => by have := HSZ.out; omega)⟩) HK2.out)
        go_wp2
        go_ret
        exact HW.out

theorem wout_any : ∀ n, n ≤ 4 → WoutC n
  | 0, _ => wout_zero
  | n + 1, h => wout_succ (by omega) (wout_any n (by omega))

end Go.Proofs.YtpnjnedfcdppaaaGreatDoor
