/-
  package half: a key is put, at every level.
-/
import Derived.Test.YtpnjnedfcdppaaaGreatDoorQWith
namespace Go.Proofs.YtpnjnedfcdppaaaGreatDoor
open Go.RowKit Go.Maps

theorem with_nil {n : Nat} (T : Nat) (S : KS) (hS : ∀ x, ¬ S x) (F : Nat → Prop) (key : Int) (w : World) (h0 : 0 ≤ key) (h1 : key < qq n) (hn : n ≤ 4) :
    Calls Tryz.prog 151 #[.pointer none, I key, I (qbt n)] w (WiR n T (QPut S key) F w) := by
  obtain ⟨B, hB⟩ : ∃ B, qbt n = B := ⟨_, rfl⟩
  obtain ⟨D, hD⟩ : ∃ D, qhb n = D := ⟨_, rfl⟩
  have hBD : B / 2 = D := by rw [← hB, ← hD]; exact qhb_half n
  have hb16 : B ≤ 16 := by rw [← hB]; exact qbt_le hn
  have e1 : (B : Int) / 2 = (D : Int) := by omega
  have e2 : Int.tdiv (B : Int) 2 = (D : Int) := by rw [Int.tdiv_eq_ediv_of_nonneg (by omega)]; exact e1
  have HN := Lib.hid (qput_new key hS)
  have hbd : QBd (qq n) (QPut S key) := qput_bd (fun x hx => absurd hx (hS x)) h0 h1
  have HR : Hid (∀ W : World, QN W w.heap.size D key key none none → QR n W (T + qc n) (some w.heap.size) (QPut S key) (fun x => x = w.heap.size)) := fun W hW => by
    rw [← hD] at hW
    cases n with
    | zero => exact ⟨key, key, hW, HN.out.1, hbd, rfl⟩
    | succ n =>
      have hno := HN.out.2
      refine QR.shut1 (F := fun x => x = w.heap.size) (Q := fun _ => none) (FH := fun _ => False) (FP := fun _ _ => False) hW HN.out.1 hbd rfl ⟨qcut_bd hbd, fun _ => rfl, QR.none_iff.2 fun y => ?_, fun h => QR.none_iff.2 fun y => ?_, fun b hb => (by cases hb), fun x hx => hx.elim, fun h x hx => hx.elim, fun h h' x hx => hx.elim⟩
      · rintro ⟨x, hx, _⟩; exact hno x hx
      · rintro ⟨x, hx, _⟩; exact hno x hx
  rw [hB]
  clear hB hD hBD hS hbd h0 h1 HN
  go_enter Tryz.func151, Tryz.ntmps151
  go_wp2
  go_ret
  exact ⟨_, _, rfl, HR.out _ (QN.new w D key key none none), fun x hx => ⟨by rw [hx]; simp, .inr (by omega)⟩, (QK.refl F w).alloc _⟩
theorem max_is {a b : Int} : (if a < b then b else a) = if a < b then b else a := rfl
set_option maxHeartbeats 2000000 in
theorem with_zero : WithC 0 := by
  intro p T S F key w h hF h0 h1 hT
  cases p with
  | none => exact with_nil T S (QR.none_iff.1 h) F key w h0 h1 (by omega)
  | some g =>
    obtain ⟨lo, hi, hb, he, hbd, hg⟩ := h
    have h12 := (he.2.2 _ he.1).2
    have hgl := hb.lt
    have c0 := hb.c0
    have c1 := hb.c1
    have c2 := hb.c2
    have f1 := hb.fr 1
    have f2 := hb.fr 2
    have HB := Lib.hid hb
    have HBD := Lib.hid (qput_bd hbd h0 h1)
    have HG := Lib.hid hg
    have HE := Lib.hid he
    have HF := Lib.hid hF
    have HS := Lib.hid hbd
    clear hF hbd hg hb he h0 h1
    show Calls Tryz.prog 151 #[.pointer (some ⟨g, 0, none⟩), I key, I 1] w (WiR 0 T (QPut S key) F w)
    by_cases hlt : key < lo
    · have hmx : (if hi < lo then lo else hi) = hi := if_neg (by omega)
      have hmx2 : ¬ hi < lo := by omega
      have HR := Lib.hid (qput_low HE.out hlt).1
      clear hmx2
      go_enter Tryz.func151, Tryz.ntmps151
      go_wp2
      go_ret
      refine ⟨g, F, rfl, ⟨key, hi, (HB.out.s1 key).s2 hi, HR.out, HBD.out, HG.out⟩, fun x hx => ⟨by simp [World.setCell]; exact HF.out x hx, .inl hx⟩, ((QK.refl F w).set HG.out 1 _).set HG.out 2 _⟩
    · obtain ⟨M, hM⟩ : ∃ M, (if hi < key then key else hi) = M := ⟨_, rfl⟩
      have HR : Hid (QEnds (QPut S key) lo M) := by
        show QEnds _ _ _
        by_cases e : key = lo
        · rw [e, qput_mem HE.out.1, ← hM, if_neg (by omega)]; exact HE.out
        · rw [← hM]; exact (qput_high HE.out (by omega)).1
      by_cases hgt : lo < key
      · go_enter Tryz.func151, Tryz.ntmps151
        go_wp2
        go_ret
        refine ⟨g, F, rfl, ⟨lo, M, HB.out.s2 M, HR.out, HBD.out, HG.out⟩, fun x hx => ⟨by simp [World.setCell]; exact HF.out x hx, .inl hx⟩, (QK.refl F w).set HG.out 2 _⟩
      · go_enter Tryz.func151, Tryz.ntmps151
        go_wp2
        go_ret
        refine ⟨g, F, rfl, ⟨lo, M, HB.out.s2 M, HR.out, HBD.out, HG.out⟩, fun x hx => ⟨by simp [World.setCell]; exact HF.out x hx, .inl hx⟩, (QK.refl F w).set HG.out 2 _⟩

theorem QY.of_keep {n : Nat} {w w' : World} {T g : Nat} {m hq : Option Nat} {R : KS} {F : Nat → Prop} {Q : Int → Option Nat} {FH : Nat → Prop} {FP : Int → Nat → Prop} (y : QY n w T g m hq R F Q FH FP) (hx : ∀ x, x ≠ g → w'.heap[x]? = w.heap[x]?) : QY n w' T g m hq R F Q FH FP :=
  ⟨y.bd, y.qm.keep fun b hb => hx b (y.fm b hb).2.1, y.qh.keep fun x h => hx x (y.fh x h).2, fun h => (y.qp h).keep fun x h' => hx x (y.fp h x h').2.1, y.fm, y.fh, y.fp, y.fa⟩
/-- behind the put in the parts: the set is whole again -/
theorem with_last {n T g : Nat} {lo hi : Int} {S' : KS} {k : Int} {R : KS} {F : Nat → Prop} {w w2 w3 : World} (he : QEnds S' lo hi) (hbd : QBd (qq n * qq n) S') (hR : QCut S' lo = QPut R k) (hk : QK F w w2) (hs : w2.heap.size = w.heap.size) {e : Ending} (h : AddR n g lo hi (QPut R k) T F w2 e w3) :
    WiR (n + 1) T S' F w (.returned (.pointer (some ⟨g, 0, none⟩))) w3 := by
  obtain ⟨_, m', hq', Q', FH', FP', F', b3, y3, g3, l3, k3⟩ := h
  rw [← hR] at y3
  exact ⟨g, F', rfl, QR.shut1 b3 he hbd g3 y3, fun x hx => ⟨(l3 x hx).1, by rw [← hs]; exact (l3 x hx).2⟩, hk.trans k3 (fun _ _ e => e) (fun _ _ e => e)⟩
set_option maxHeartbeats 4000000 in
theorem with_succ {n : Nat} (hn : n ≤ 3) (ih : WithC n) : WithC (n + 1) := by
  intro p T S F key w h hF h0 h1 hT
  cases p with
  | none => exact with_nil T S (QR.none_iff.1 h) F key w h0 h1 (by omega)
  | some g =>
    obtain ⟨lo, hi, m, hq, Q, FH, FP, hb, he, hbd, hg, y⟩ := h.open1
    have h12 := (he.2.2 _ he.1).2
    have c0 := hb.c0
    have c1 := hb.c1
    have c2 := hb.c2
    have f1 := hb.fr 1
    have f2 := hb.fr 2
    have hpos : (0 : Int) < (qbt n : Int) := by have := qbt_pos n; omega
    have h1' : key < qq n * qq n := h1
    have HB := Lib.hid hb
    have HBD := Lib.hid (qput_bd hbd h0 h1')
    have HG := Lib.hid hg
    have HE := Lib.hid he
    have HF := Lib.hid hF
    have HY := Lib.hid y
    have hlb := hbd lo he.1
    have HLB := Lib.hid hlb
    have HKB : Hid (0 ≤ key ∧ key < qq n * qq n) := ⟨h0, h1'⟩
    clear hF hbd hg hb he h0 h1 h1' h y hlb
    show Calls Tryz.prog 151 #[.pointer (some ⟨g, 0, none⟩), I key, I (qbt (n + 1))] w (WiR (n + 1) T (QPut S key) F w)
    generalize qbt (n + 1) = bits
    by_cases hlt : key < lo
    · have hmx : (if hi < lo then lo else hi) = hi := if_neg (by omega)
      have hpl := qput_low HE.out hlt
      have HE2 := Lib.hid hpl.1
      have HR2 := Lib.hid hpl.2
      have HADD : Hid (∀ W : World, QN W g (qbt n) key hi m hq → (∀ x, x ≠ g → W.heap[x]? = w.heap[x]?) → W.heap.size = w.heap.size → Calls Tryz.prog 204 #[.pointer (some ⟨g, 0, none⟩), I lo] W (AddR n g key hi (QPut (QCut S lo) lo) T F W)) :=
        fun W hW hx hs => add_any hn ih g key hi m hq (QCut S lo) F Q FH FP lo T W hW (HY.out.of_keep hx) HG.out (fun x hx' => by rw [hs]; exact HF.out x hx') HLB.out.1 HLB.out.2 hT
      clear hpl
      go_enter Tryz.func151, Tryz.ntmps151
      go_wp2_with fail
      refine (HADD.out _ ((HB.out.s1 key).s2 hi) (fun x hx => ?_) (by simp [World.setCell])).mono ?_
      · rw [Below.heap_setCell _ ⟨g, 2, none⟩ _ x hx, Below.heap_setCell _ ⟨g, 1, none⟩ _ x hx]
      · intro e w3 h3
        obtain ⟨rfl, _⟩ := id h3
        have H3 := Lib.hid (with_last HE2.out HBD.out HR2.out (((QK.refl F w).set HG.out 1 (I key)).set HG.out 2 (I hi)) (by simp [World.setCell]) h3)
        clear h3
        go_wp2
        go_ret
        exact H3.out
    · by_cases hgt : lo < key
      · obtain ⟨M, hM⟩ : ∃ M, (if hi < key then key else hi) = M := ⟨_, rfl⟩
        have hpl := qput_high HE.out hgt
        rw [hM] at hpl
        have HE2 := Lib.hid hpl.1
        have HR2 := Lib.hid hpl.2
        have HADD : Hid (∀ W : World, QN W g (qbt n) lo M m hq → (∀ x, x ≠ g → W.heap[x]? = w.heap[x]?) → W.heap.size = w.heap.size → Calls Tryz.prog 204 #[.pointer (some ⟨g, 0, none⟩), I key] W (AddR n g lo M (QPut (QCut S lo) key) T F W)) :=
          fun W hW hx hs => add_any hn ih g lo M m hq (QCut S lo) F Q FH FP key T W hW (HY.out.of_keep hx) HG.out (fun x hx' => by rw [hs]; exact HF.out x hx') HKB.out.1 HKB.out.2 hT
        clear hpl
        go_enter Tryz.func151, Tryz.ntmps151
        go_wp2_with fail
        refine (HADD.out _ (HB.out.s2 M) (fun x hx => ?_) (by simp [World.setCell])).mono ?_
        · rw [Below.heap_setCell _ ⟨g, 2, none⟩ _ x hx]
        · intro e w3 h3
          obtain ⟨rfl, _⟩ := id h3
          have H3 := Lib.hid (with_last HE2.out HBD.out HR2.out ((QK.refl F w).set HG.out 2 (I M)) (by simp [World.setCell]) h3)
          clear h3
          go_wp2
          go_ret
          exact H3.out
      · have hkl : key = lo := by omega
        subst hkl
        have hmx : (if hi < key then key else hi) = hi := if_neg (by omega)
        have HU : Hid (∀ W : World, QN W g (qbt n) key hi m hq → (∀ x, x ≠ g → W.heap[x]? = w.heap[x]?) → QR (n + 1) W (T + qc (n + 1)) (some g) (QPut S key) F) := fun W hW hx => by
          rw [qput_mem HE.out.1]
          have hbd := HBD.out
          rw [qput_mem HE.out.1] at hbd
          exact (QR.shut1 hW HE.out hbd HG.out (HY.out.of_keep hx)).mono (by omega) (fun _ e => e)
        clear hlt hgt
        go_enter Tryz.func151, Tryz.ntmps151
        go_wp2
        go_ret
        refine ⟨g, F, rfl, HU.out _ (HB.out.s2 hi) (fun x hx => Below.heap_setCell _ ⟨g, 2, none⟩ _ x hx), fun x hx => ⟨by simp [World.setCell]; exact HF.out x hx, .inl hx⟩, (QK.refl F w).set HG.out 2 _⟩
theorem with_any : ∀ n, n ≤ 4 → WithC n
  | 0, _ => with_zero
  | n + 1, h => with_succ (by omega) (with_any n (by omega))

end Go.Proofs.YtpnjnedfcdppaaaGreatDoor
