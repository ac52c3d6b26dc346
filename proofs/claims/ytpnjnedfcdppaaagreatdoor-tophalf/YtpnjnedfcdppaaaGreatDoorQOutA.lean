/-
  package half: a key is taken away, at every level. (Written by tools/gen_qout.py.)
-/
import Derived.Test.YtpnjnedfcdppaaaGreatDoorQOut
namespace Go.Proofs.YtpnjnedfcdppaaaGreatDoor
open Go.RowKit Go.Maps

def GrR (R : KS) (lo : Int) (w : World) (e : Ending) (w' : World) : Prop := ∃ M, e = .returned (I M) ∧ w' = w ∧ (((∀ x, ¬ R x) ∧ M = lo) ∨ (R M ∧ ∀ x, R x → x ≤ M))
set_option maxHeartbeats 4000000 in
theorem greatest_any {n : Nat} (hn : n ≤ 3) {g : Nat} {lo hi : Int} {m hq : Option Nat} {R : KS} {F : Nat → Prop} {Q : Int → Option Nat} {FH : Nat → Prop} {FP : Int → Nat → Prop} {T : Nat} (w : World)
    (hb : QN w g (qbt n) lo hi m hq) (hy : QY n w T g m hq R F Q FH FP) : Calls Tryz.prog 206 #[.pointer (some ⟨g, 0, none⟩)] w (GrR R lo w) := by
  have c1 := hb.c1
  have c3 := hb.c3
  cases hq with
  | none =>
    have c4 : w.cell? ⟨g, 4, none⟩ = some (.pointer none) := hb.c4
    have HR := Lib.hid (qhi_none (QR.none_iff.1 hy.qh))
    clear hb hy
    go_enter Tryz.func206, Tryz.ntmps206
    go_wp2
    go_ret
    exact ⟨_, rfl, rfl, .inl ⟨HR.out, rfl⟩⟩
  | some gh =>
    have c4 : w.cell? ⟨g, 4, none⟩ = some (.pointer (some ⟨gh, 0, none⟩)) := hb.c4
    obtain ⟨h1, h2, hm, hhq, hhb, hhe, hhd, _⟩ := hy.qh.head
    have d2 := hhb.c2
    have hb2 := hhd h2 hhe.2.1
    obtain ⟨l0, hl0⟩ := qhi_lo.1 hhe.2.1
    obtain ⟨pp, hpp⟩ := (hy.qp h2).some_of hl0
    have hpr := hy.qp h2
    rw [hpp] at hpr
    obtain ⟨l1, l2, pm, phq, pb, pe, pbd, _⟩ := hpr.head
    have p2 := pb.c2
    have hl2 := pbd l2 pe.2.1
    have h7 := qq_le hn
    have hlook : (Instr.lookup 214 (.map m) (I h2) false).run Tryz.prog w = .ok (.pointer (some ⟨pp, 0, none⟩)) w := hy.qm.look_some ⟨hb2.1, by omega⟩ hpp
    have HJ := Lib.hid (join_any hn w hb hb2.1 hb2.2 hl2.1 hl2.2)
    have HR := Lib.hid (qrest_high (qq_pos n) hhe pe)
    clear hb hy hhb hhe hhd hl0 hpr hpp pb pe pbd
    go_enter Tryz.func206, Tryz.ntmps206
    go_wp2_with fail
    refine HJ.out.mono ?_
    rintro e w1 ⟨rfl, rfl⟩
    go_wp2
    go_ret
    exact ⟨_, rfl, rfl, .inr HR.out⟩

/-- the ends of what is left, by the greatest one of the rest -/
theorem ends_of {S' : KS} {lo M : Int} (h0 : S' lo) (h1 : ∀ x, S' x → lo ≤ x) (hM : ((∀ x, ¬ QCut S' lo x) ∧ M = lo) ∨ (QCut S' lo M ∧ ∀ x, QCut S' lo x → x ≤ M)) : QEnds S' lo M := by
  rcases hM with ⟨hno, rfl⟩ | ⟨hM, hle⟩
  · refine ⟨h0, h0, fun x hx => ⟨h1 x hx, ?_⟩⟩
    by_cases e : x = M
    · omega
    · exact absurd ⟨hx, e⟩ (hno x)
  · refine ⟨h0, hM.1, fun x hx => ⟨h1 x hx, ?_⟩⟩
    by_cases e : x = lo
    · rw [e]; exact h1 M hM.1
    · exact hle x ⟨hx, e⟩
/-- the set is whole again -/
theorem wo_last {n T g : Nat} {lo hi : Int} {S' : KS} {m hq : Option Nat} {Q : Int → Option Nat} {FH : Nat → Prop} {FP : Int → Nat → Prop} {F F' : Nat → Prop} {w w' : World} (hb : QN w' g (qbt n) lo hi m hq) (hy : QY n w' (T + (2 * qc n + 1)) g m hq (QCut S' lo) F' Q FH FP) (hg : F' g)
    (he : QEnds S' lo hi) (hbd : QBd (qq n * qq n) S') (hl : ∀ x, F' x → x < w'.heap.size ∧ (F x ∨ w.heap.size ≤ x)) (hk : QK F w w') : WoR (n + 1) T S' F w (.returned (.pointer (some ⟨g, 0, none⟩))) w' :=
  ⟨some g, F', rfl, QR.shut1 hb he hbd hg hy, hl, hk⟩
theorem wo_nil {n T g : Nat} {S : KS} {F : Nat → Prop} {lo key : Int} (w : World) (hS : ∀ x, S x → x = lo) (hk : S key) (hF : ∀ x, F x → x < w.heap.size) (j : Nat) : WoR n T (QCut S key) F w (.returned (.pointer none)) (w.drewN j) :=
  ⟨none, F, rfl, QR.none_iff.2 fun x hx => hx.2 (by rw [hS x hx.1, hS key hk]), fun x hx => ⟨hF x hx, .inl hx⟩, (QK.refl F w).drewN j⟩
set_option maxHeartbeats 2000000 in
theorem wout_zero : WoutC 0 := by
  intro g T S F key w h hF hk hT
  obtain ⟨lo, hi, hb, he, hbd, hg⟩ := h
  have c0 := hb.c0
  have c1 := hb.c1
  have c2 := hb.c2
  have f1 := hb.fr 1
  have f2 := hb.fr 2
  have hkb := hbd key hk
  have hlb := hbd lo he.1
  have hhb := hbd hi he.2.1
  have h12 := he.2.2 _ he.1
  have hke := he.2.2 _ hk
  by_cases hlh : lo = hi
  · have HW := Lib.hid (fun j => wo_nil (n := 0) (T := T) (g := g) (F := F) (lo := lo) w (fun x hx => by have := he.2.2 x hx; omega) hk hF j)
    have heq : (lo == hi) = true := by simpa using hlh
    clear hb he hbd hg hF hk hkb hlb hhb h12 hke hlh
    go_enter Tryz.func152, Tryz.ntmps152
    go_wp2
    go_quiet (fail)
    go_wp2
    go_ret
    exact HW.out _
  · have heq : (lo == hi) = false := by simpa using hlh
    have ew : IntKind.i64.wrap (1 - key) = 1 - key := IntWalk.i64_in _ (by omega)
    have hlo : lo = 0 := by omega
    have hhi : hi = 1 := by omega
    have hS' : S (1 - key) := by
      rcases (show key = 0 ∨ key = 1 by omega) with e | e
      · rw [e, show (1 : Int) - 0 = hi by omega]; exact he.2.1
      · rw [e, show (1 : Int) - 1 = lo by omega]; exact he.1
    have HE : Hid (QEnds (QCut S key) (1 - key) (1 - key)) := ⟨⟨hS', by omega⟩, ⟨hS', by omega⟩, fun x hx => by have := hbd x hx.1; have := hx.2; omega⟩
    have HBD := Lib.hid (qcut_bd (k := key) hbd)
    have HB := Lib.hid hb
    have HG := Lib.hid hg
    have HF := Lib.hid hF
    clear hb he hbd hg hF hk hkb hlb hhb h12 hke hlh hlo hhi hS'
    go_enter Tryz.func152, Tryz.ntmps152
    go_wp2
    go_quiet (fail)
    go_wp2
    go_ret
    refine ⟨some g, F, rfl, ⟨1 - key, 1 - key, ?_, HE.out, HBD.out, HG.out⟩, fun x hx => ⟨?_, .inl hx⟩, ?_⟩
    · exact ((HB.out.s1 (1 - key)).s2 (1 - key)).keep rfl
    · have := HF.out x hx
      simp [World.setCell]
      exact this
    · exact (((QK.refl F w).drewN _).set HG.out 1 _).set HG.out 2 _
set_option maxHeartbeats 4000000 in
theorem wout_succ {n : Nat} (hn : n ≤ 3) (ih : WoutC n) : WoutC (n + 1) := by
  intro g T S F key w h hF hk hT
  obtain ⟨lo, hi, m, hq, Q, FH, FP, hb, he, hbd, hg, y⟩ := h.open1
  have c0 := hb.c0
  have c1 := hb.c1
  have c2 := hb.c2
  have c3 := hb.c3
  have f1 := hb.fr 1
  have f2 := hb.fr 2
  have h12 := he.2.2 _ he.1
  have hke := he.2.2 _ hk
  have h8 : ((qbt n : Nat) : Int) ≠ 0 := by have := qbt_pos n; omega
  have h9 : ((qbt n : Int) == 0) = false := by simpa using h8
  have h7 := qq_le hn
  by_cases hlh : lo = hi
  · have HW := Lib.hid (fun j => wo_nil (n := n + 1) (T := T) (g := g) (F := F) (lo := lo) w (fun x hx => by have := he.2.2 x hx; omega) hk hF j)
    have heq0 : (lo == hi) = true := by simpa using hlh
    clear hb he hbd hg hF hk h12 hke hlh h y
    go_enter Tryz.func152, Tryz.ntmps152
    go_wp2
    go_quiet (fail)
    go_wp2
    go_ret
    exact HW.out _
  · have heq0 : (lo == hi) = false := by simpa using hlh
    have HSZ0 : Hid (∀ j, (w.drewN j).heap.size = w.heap.size) := fun j => rfl
    by_cases hkl : key = lo
    · -- the least one
      subst hkl
      have heq1 : (key == key) = true := by simp
      have hrh : QCut S key hi := ⟨he.2.1, fun e => hlh e.symm⟩
      have hHI : QHi (qq n) (QCut S key) (hi / qq n) := ⟨hi, hrh, rfl⟩
      obtain ⟨gh, hgh⟩ := y.qh.some_of hHI
      subst hgh
      have c4 : w.cell? ⟨g, 4, none⟩ = some (.pointer (some ⟨gh, 0, none⟩)) := hb.c4
      obtain ⟨h1, h2, hm, hhq, hhb, hhe, hhd, _⟩ := y.qh.head
      have d1 := hhb.c1
      have hb1 := hhd h1 hhe.1
      obtain ⟨l0, hl0⟩ := qhi_lo.1 hhe.1
      obtain ⟨pp, hpp⟩ := (y.qp h1).some_of hl0
      have hpr := y.qp h1
      rw [hpp] at hpr
      obtain ⟨l1, l2, pm, phq, pb, pe, pbd, _⟩ := hpr.head
      have p1 := pb.c1
      have hl1 := pbd l1 pe.1
      have hlook : ∀ j, (Instr.lookup 214 (.map m) (I h1) false).run Tryz.prog (w.drewN j) = .ok (.pointer (some ⟨pp, 0, none⟩)) (w.drewN j) := fun j => (y.qm.drewN j).look_some ⟨hb1.1, by omega⟩ hpp
      have HJ := Lib.hid (fun j => join_any hn (w.drewN j) (hb.keep rfl) hb1.1 hb1.2 hl1.1 hl1.2)
      obtain ⟨hu1, hu2⟩ := qrest_low (qq_pos n) hhe pe
      generalize h1 * qq n + l1 = u at HJ hu1 hu2
      have HRR : Hid (QCut (QCut S key) u = QCut (QCut S key) u) := rfl
      have HLOW : Hid (QCut S key u ∧ ∀ x, QCut S key x → u ≤ x) := ⟨hu1, hu2⟩
      have HMID : Hid (u ≠ hi → QEnds (QCut S key) u hi) := fun _ => ⟨hu1, hrh, fun x hx => ⟨hu2 x hx, (he.2.2 x hx.1).2⟩⟩
      have HBS := Lib.hid (qcut_bd (k := key) hbd)
      have HB := Lib.hid hb
      have HG := Lib.hid hg
      have HF := Lib.hid hF
      have HTK : Hid (∀ W : World, QN W g (qbt n) u hi m (some gh) → (∀ x, x ≠ g → W.heap[x]? = w.heap[x]?) → W.heap.size = w.heap.size → Calls Tryz.prog 205 #[.pointer (some ⟨g, 0, none⟩), I u] W (AddR n g u hi (QCut (QCut S key) u) T F W)) :=
        fun W hW hx hs => take_any hn ih g u hi m (some gh) (QCut S key) F Q FH FP u T W hW (y.of_keep hx) HG.out (fun x hx' => by rw [hs]; exact HF.out x hx') hu1 hT
      clear hb he hbd hg hF hk h12 hke hlh h y hrh hHI hhb hhe hhd hl0 hpr hpp pb pe pbd hu1 hu2
      go_enter Tryz.func152, Tryz.ntmps152
      go_wp2
      go_quiet (fail)
      go_wp2_with fail
      refine (HJ.out _).mono ?_
      rintro e w0 ⟨rfl, rfl⟩
      go_wp2_with fail
      refine (HTK.out ((w.drewN nq).setCell ⟨g, 1, none⟩ (I u)) ((HB.out.s1 u).keep rfl) (fun x hx => Below.heap_setCell w ⟨g, 1, none⟩ _ x hx) (by simp [World.setCell])).mono ?_
      have K1 : Hid (QK F w ((w.drewN nq).setCell ⟨g, 1, none⟩ (I u))) := ((QK.refl F w).drewN _).set HG.out 1 _
      have HSZ : Hid (((w.drewN nq).setCell ⟨g, 1, none⟩ (I u)).heap.size = w.heap.size) := by show _ = _; simp [World.setCell]
      rintro e w2 ⟨rfl, m2, hq2, Q2, FH2, FP2, F2, b2, y2, g2, l2, k2⟩
      have HB2 := Lib.hid b2
      have HY2 := Lib.hid y2
      have HG2 := Lib.hid g2
      have HL2 := Lib.hid l2
      have HK2 := Lib.hid (K1.out.trans k2 (fun _ _ e => e) (fun _ _ e => e))
      clear b2 y2 g2 l2 k2
      have e2 := HB2.out.c2
      have z2 := HB2.out.fr 2
      by_cases hkh : u = hi
      · have HGR := Lib.hid (greatest_any hn w2 HB2.out HY2.out)
        have heq : (u == hi) = true := by simpa using hkh
        have HLO := Lib.hid (HLOW.out)
        clear hkh
        go_wp2_with fail
        refine HGR.out.mono ?_
        rintro e w3 ⟨M, rfl, rfl, hM⟩
        have HW := Lib.hid (wo_last (T := T) (F := F) (w := w) (HB2.out.s2 M) (HY2.out.of_keep (fun x hx => Below.heap_setCell _ ⟨g, 2, none⟩ _ x hx)) HG2.out (ends_of HLO.out.1 HLO.out.2 hM) HBS.out (fun x hx => by
          have h := HL2.out x hx
          have hs : (w3.setCell ⟨g, 2, none⟩ (I M)).heap.size = w3.heap.size := by simp [World.setCell]
          have h0 := HSZ.out
          exact ⟨by omega, h.2.imp id (fun h => by omega)⟩) (HK2.out.trans (F' := F2) ((QK.refl F2 w3).set HG2.out 2 (I M)) (fun _ _ e => e) (fun x hx e => (HL2.out x e).2.resolve_right (by have := HSZ.out; omega))))
        clear hM
        go_wp2
        go_ret
        exact HW.out
      · have heq : (u == hi) = false := by simpa using hkh
        have HE2 := Lib.hid (HMID.out hkh)
        clear hkh
        have HW := Lib.hid (wo_last (T := T) (F := F) (w := w) HB2.out HY2.out HG2.out HE2.out HBS.out (fun x hx => ⟨(HL2.out x hx).1, (HL2.out x hx).2.imp id (fun h => by have := HSZ.out; omega)⟩) HK2.out)
        go_wp2
        go_ret
        exact HW.out

    · -- one of the rest
      have heq1 : (key == lo) = false := by simpa using hkl
      have hkr : QCut S lo key := ⟨hk, hkl⟩
      have HRR : Hid (QCut (QCut S lo) key = QCut (QCut S key) lo) := qcut_rest.symm
      have HLOW : Hid (QCut S key lo ∧ ∀ x, QCut S key x → lo ≤ x) := ⟨⟨he.1, fun e => hkl e.symm⟩, fun x hx => (he.2.2 x hx.1).1⟩
      have HMID : Hid (key ≠ hi → QEnds (QCut S key) lo hi) := fun h => qcut_mid he hkl h
      have HBS := Lib.hid (qcut_bd (k := key) hbd)
      have HB := Lib.hid hb
      have HG := Lib.hid hg
      have HF := Lib.hid hF
      have HTK : Hid (∀ j, Calls Tryz.prog 205 #[.pointer (some ⟨g, 0, none⟩), I key] (w.drewN j) (AddR n g lo hi (QCut (QCut S lo) key) T F (w.drewN j))) :=
        fun j => take_any hn ih g lo hi m hq (QCut S lo) F Q FH FP key T (w.drewN j) (HB.out.keep rfl) (y.of_keep (fun _ _ => rfl)) HG.out HF.out hkr hT
      clear hb he hbd hg hF hk h12 hke hlh h y hkr hkl
      go_enter Tryz.func152, Tryz.ntmps152
      go_wp2
      go_quiet (fail)
      go_wp2_with fail
      refine (HTK.out _).mono ?_
      have K1 : Hid (QK F w (w.drewN nq)) := (QK.refl F w).drewN _
      have HSZ : Hid ((w.drewN nq).heap.size = w.heap.size) := by show _ = _; rfl
      rintro e w2 ⟨rfl, m2, hq2, Q2, FH2, FP2, F2, b2, y2, g2, l2, k2⟩
      rw [HRR.out] at y2
      have HB2 := Lib.hid b2
      have HY2 := Lib.hid y2
      have HG2 := Lib.hid g2
      have HL2 := Lib.hid l2
      have HK2 := Lib.hid (K1.out.trans k2 (fun _ _ e => e) (fun _ _ e => e))
      clear b2 y2 g2 l2 k2
      have e2 := HB2.out.c2
      have z2 := HB2.out.fr 2
      by_cases hkh : key = hi
      · have HGR := Lib.hid (greatest_any hn w2 HB2.out HY2.out)
        have heq : (key == hi) = true := by simpa using hkh
        have HLO := Lib.hid (HLOW.out)
        clear hkh
        go_wp2_with fail
        refine HGR.out.mono ?_
        rintro e w3 ⟨M, rfl, rfl, hM⟩
        have HW := Lib.hid (wo_last (T := T) (F := F) (w := w) (HB2.out.s2 M) (HY2.out.of_keep (fun x hx => Below.heap_setCell _ ⟨g, 2, none⟩ _ x hx)) HG2.out (ends_of HLO.out.1 HLO.out.2 hM) HBS.out (fun x hx => by
          have h := HL2.out x hx
          have hs : (w3.setCell ⟨g, 2, none⟩ (I M)).heap.size = w3.heap.size := by simp [World.setCell]
          have h0 := HSZ.out
          exact ⟨by omega, h.2.imp id (fun h => by omega)⟩) (HK2.out.trans (F' := F2) ((QK.refl F2 w3).set HG2.out 2 (I M)) (fun _ _ e => e) (fun x hx e => (HL2.out x e).2.resolve_right (by have := HSZ.out; omega))))
        clear hM
        go_wp2
        go_ret
        exact HW.out
      · have heq : (key == hi) = false := by simpa using hkh
        have HE2 := Lib.hid (HMID.out hkh)
        clear hkh
        have HW := Lib.hid (wo_last (T := T) (F := F) (w := w) HB2.out HY2.out HG2.out HE2.out HBS.out (fun x hx => ⟨(HL2.out x hx).1, (HL2.out x hx).2.imp id (fun h => by have := HSZ.out; omega)⟩) HK2.out)
        go_wp2
        go_ret
        exact HW.out

theorem wout_any : ∀ n, n ≤ 4 → WoutC n
  | 0, _ => wout_zero
  | n + 1, h => wout_succ (by omega) (wout_any n (by omega))

end Go.Proofs.YtpnjnedfcdppaaaGreatDoor
