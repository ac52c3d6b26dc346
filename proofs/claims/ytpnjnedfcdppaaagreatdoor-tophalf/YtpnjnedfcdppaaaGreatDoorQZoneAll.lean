/-
  Joined texts: YtpnjnedfcdppaaaGreatDoorQMem, YtpnjnedfcdppaaaGreatDoorQZone.
-/
import Derived.Test.YtpnjnedfcdppaaaGreatDoorQOpsAll
import Derived.Test.YtpnjnedfcdppaaaGreatDoorLiftBase
import Derived.Test.YtpnjnedfcdppaaaGreatDoorGOfAll
import Derived.Maps.OwnSet
/-
  A SET BY HALVES IN MEMORY: a block for each set, a map of its parts, a set of its highs; each in blocks of its own.
-/
namespace Go.Proofs.YtpnjnedfcdppaaaGreatDoor
open Go.RowKit Go.Maps

/-- a pointer to a set, or nil -/
abbrev qp (o : Option Nat) : Value := .pointer (o.map fun g => ⟨g, 0, none⟩)
/-- how a part reads in a map -/
def qd : Option Nat → DataW Unit
  | none => .nil
  | some g => .lit (.int .i64 g)
def rp (v : Value) : Option (DataW Unit × List MemPlace) :=
  match v with
  | .pointer none => some (.nil, [])
  | .pointer (some ⟨g, 0, none⟩) => some (.lit (.int .i64 g), [])
  | _ => none
theorem rp_mk (o : Option Nat) : rp (qp o) = some (qd o, []) := by cases o <;> rfl
theorem rp_inv {v : Value} {o : Option Nat} {ps : List MemPlace} (h : rp v = some (qd o, ps)) : v = qp o := by
  unfold rp at h
  split at h
  · cases o with
    | none => rfl
    | some g => simp [qd] at h
  · cases o with
    | none => simp [qd] at h
    | some g =>
      simp [qd] at h
      have e := Int.ofNat.inj h.1
      subst e
      rfl
  · cases h
theorem zero_ptr (w : World) : (zeroValue 137).run Tryz.prog w = .ok (qp none) w := by kernel_rfl

/-- one part is set -/
def qupd (Q : Int → Option Nat) (h : Int) (o : Option Nat) : Int → Option Nat := fun x => if x = h then o else Q x
theorem qupd_same (Q : Int → Option Nat) (h : Int) (o : Option Nat) : qupd Q h o h = o := by simp [qupd]
theorem qupd_ne (Q : Int → Option Nat) {h x : Int} (o : Option Nat) (hne : x ≠ h) : qupd Q h o x = Q x := by simp [qupd, hne]

/-- block b is the map of the parts -/
def QMb (w : World) (T b : Nat) (Q : Int → Option Nat) : Prop := ∃ D, w.ownsMap Tryz.prog 3 rp b T D ∧ ∀ h, D.atKey (.int .i64 h) .nil = qd (Q h)
def QM (w : World) (T : Nat) (m : Option Nat) (Q : Int → Option Nat) : Prop :=
  match m with
  | none => ∀ h, Q h = none
  | some b => QMb w T b Q
theorem QMb.lt {w : World} {T b : Nat} {Q : Int → Option Nat} (h : QMb w T b Q) : b < w.heap.size := by obtain ⟨D, h1, _⟩ := h; exact h1.lt
theorem QMb.keep {w w' : World} {T b : Nat} {Q : Int → Option Nat} (h : QMb w T b Q) (e : w'.heap[b]? = w.heap[b]?) : QMb w' T b Q := by
  obtain ⟨D, ⟨es, clock, hb', F, hs, hD⟩, h2⟩ := h
  exact ⟨D, ⟨es, clock, e.trans hb', F, hs, hD⟩, h2⟩
theorem QMb.mono {w : World} {T T' b : Nat} {Q : Int → Option Nat} (h : QMb w T b Q) (hT : T ≤ T') : QMb w T' b Q := by
  obtain ⟨D, h1, h2⟩ := h
  exact ⟨D, h1.mono hT, h2⟩
theorem QM.keep {w w' : World} {T : Nat} {m : Option Nat} {Q : Int → Option Nat} (h : QM w T m Q) (e : ∀ b, m = some b → w'.heap[b]? = w.heap[b]?) : QM w' T m Q := by
  cases m with
  | none => exact h
  | some b => exact QMb.keep h (e b rfl)
theorem QM.mono {w : World} {T T' : Nat} {m : Option Nat} {Q : Int → Option Nat} (h : QM w T m Q) (hT : T ≤ T') : QM w T' m Q := by
  cases m with
  | none => exact h
  | some b => exact QMb.mono h hT
/-- 'parts[high]' -/
theorem QM.look {w : World} {T : Nat} {m : Option Nat} {Q : Int → Option Nat} (h : QM w T m Q) {k : Int} (hk : 0 ≤ k ∧ k ≤ 1000000) :
    (Instr.lookup 214 (.map m) (I k) false).run Tryz.prog w = .ok (qp (Q k)) w := by
  have hkey := keyOf_int_mk Tryz.underlying3 (wf_key hk)
  cases m with
  | none =>
    have e : Q k = none := h k
    rw [e]
    exact Maps.look_nil false keyed_int Tryz.underlying214 (zero_ptr w) hkey
  | some b =>
    obtain ⟨D, h1, h2⟩ := h
    obtain ⟨v, ps, hrun, hv⟩ := h1.lookup keyed_int Tryz.underlying214 (zero_ptr w) (rp_mk none) hkey
    rw [show qd none = DataW.nil from rfl, h2 k] at hv
    rw [← rp_inv hv]
    exact hrun
/-- 'make' -/
theorem QMb.made (w : World) (T : Nat) : QMb (w.alloc (.map #[] 0)) T w.heap.size (fun _ => none) :=
  ⟨.map [], (World.ownsMap_made _ _ _ _).mono (Nat.zero_le _), fun _ => rfl⟩
/-- 'parts[high] = part' -/
theorem QMb.store {w : World} {T b : Nat} {Q : Int → Option Nat} (h : QMb w T b Q) (hT : T < 1000000000000) {k : Int} (hk : 0 ≤ k ∧ k ≤ 1000000) (g : Nat) :
    ∃ w', (Instr.mapUpdate 214 (.map (some b)) (I k) (.pointer (some ⟨g, 0, none⟩))).run Tryz.prog w = .ok () w' ∧ QMb w' (T + 1) b (qupd Q k (some g)) ∧ w.grownBy w' (some b) := by
  have hkey := keyOf_int_mk Tryz.underlying3 (wf_key hk)
  obtain ⟨D, h1, h2⟩ := h
  obtain ⟨w', hrun, ho, hg⟩ := h1.update keyed_int Tryz.underlying214 (by unfold maxLen; omega) hkey (rp_mk (some g))
  refine ⟨w', hrun, ⟨_, ho, fun x => ?_⟩, hg⟩
  by_cases hx : x = k
  · subst hx
    rw [qupd_same]
    exact atKey_put_same h1.isMap (by first | trivial | simp [WideAt.IsKeyLit]) _ _
  · rw [qupd_ne _ _ hx, ← h2 x]
    exact atKey_put_other (by simp [hx]) _ _
/-- 'delete(parts, high)' -/
theorem QMb.drop {w : World} {T b : Nat} {Q : Int → Option Nat} (h : QMb w T b Q) {k : Int} (hk : 0 ≤ k ∧ k ≤ 1000000) (ty : TypeId) :
    ∃ w', (Builtin.delete_ #[214, 3] ty #[.map (some b), I k]).run Tryz.prog w = .ok (.tuple #[]) w' ∧ QMb w' T b (qupd Q k none) ∧ w.grownBy w' (some b) := by
  have hkey := keyOf_int_mk Tryz.underlying3 (wf_key hk)
  obtain ⟨D, h1, h2⟩ := h
  obtain ⟨w', hrun, ho, hg⟩ := h1.drop keyed_int Tryz.underlying214 hkey ty
  refine ⟨w', hrun, ⟨_, ho, fun x => ?_⟩, hg.grown⟩
  by_cases hx : x = k
  · subst hx
    rw [qupd_same]
    exact atKey_del_same _
  · rw [qupd_ne _ _ hx, ← h2 x]
    exact atKey_del_other (by simp [hx]) _

/-- a set's own block -/
def QN (w : World) (g h : Nat) (lo hi : Int) (m hq : Option Nat) : Prop := w.heap[g]? = some (.cells #[I h, I lo, I hi, .map m, qp hq] 216 (0, 0))
theorem QN.lt {w : World} {g h : Nat} {lo hi : Int} {m hq : Option Nat} (b : QN w g h lo hi m hq) : g < w.heap.size := (Array.getElem?_eq_some_iff.1 b).1
theorem QN.keep {w w' : World} {g h : Nat} {lo hi : Int} {m hq : Option Nat} (b : QN w g h lo hi m hq) (e : w'.heap[g]? = w.heap[g]?) : QN w' g h lo hi m hq := e.trans b
theorem QN.c0 {w : World} {g h : Nat} {lo hi : Int} {m hq : Option Nat} (b : QN w g h lo hi m hq) : w.cell? ⟨g, 0, none⟩ = some (I h) := by simp [World.cell?, show w.heap[g]? = _ from b]
theorem QN.c1 {w : World} {g h : Nat} {lo hi : Int} {m hq : Option Nat} (b : QN w g h lo hi m hq) : w.cell? ⟨g, 1, none⟩ = some (I lo) := by simp [World.cell?, show w.heap[g]? = _ from b]
theorem QN.c2 {w : World} {g h : Nat} {lo hi : Int} {m hq : Option Nat} (b : QN w g h lo hi m hq) : w.cell? ⟨g, 2, none⟩ = some (I hi) := by simp [World.cell?, show w.heap[g]? = _ from b]
theorem QN.c3 {w : World} {g h : Nat} {lo hi : Int} {m hq : Option Nat} (b : QN w g h lo hi m hq) : w.cell? ⟨g, 3, none⟩ = some (.map m) := by simp [World.cell?, show w.heap[g]? = _ from b]
theorem QN.c4 {w : World} {g h : Nat} {lo hi : Int} {m hq : Option Nat} (b : QN w g h lo hi m hq) : w.cell? ⟨g, 4, none⟩ = some (qp hq) := by simp [World.cell?, show w.heap[g]? = _ from b]
theorem QN.fr {w : World} {g h : Nat} {lo hi : Int} {m hq : Option Nat} (b : QN w g h lo hi m hq) (i : Nat) : w.frozen? ⟨g, i, none⟩ = false := by simp [World.frozen?, show w.heap[g]? = _ from b]
theorem QN.new (w : World) (h : Nat) (lo hi : Int) (m hq : Option Nat) : QN (w.alloc (.cells #[I h, I lo, I hi, .map m, qp hq] 216)) w.heap.size h lo hi m hq := heap_alloc_new w _
theorem qcells_set {w : World} {g t : Nat} {cs : List Value} (h : w.heap[g]? = some (.cells cs.toArray t (0, 0))) (i : Nat) (v : Value) : (w.setCell ⟨g, i, none⟩ v).heap[g]? = some (.cells (cs.set i v).toArray t (0, 0)) := by
  rw [setCell_eq_setRow w g i _ t (0, 0) v h, setRow_heap w g _ _ t (0, 0) h]
  simp
theorem QN.s1 {w : World} {g h : Nat} {lo hi : Int} {m hq : Option Nat} (b : QN w g h lo hi m hq) (x : Int) : QN (w.setCell ⟨g, 1, none⟩ (I x)) g h x hi m hq := by
  have := qcells_set (cs := [I h, I lo, I hi, .map m, qp hq]) b 1 (I x)
  simpa [QN] using this
theorem QN.s2 {w : World} {g h : Nat} {lo hi : Int} {m hq : Option Nat} (b : QN w g h lo hi m hq) (x : Int) : QN (w.setCell ⟨g, 2, none⟩ (I x)) g h lo x m hq := by
  have := qcells_set (cs := [I h, I lo, I hi, .map m, qp hq]) b 2 (I x)
  simpa [QN] using this
theorem QN.s3 {w : World} {g h : Nat} {lo hi : Int} {m hq : Option Nat} (b : QN w g h lo hi m hq) (x : Option Nat) : QN (w.setCell ⟨g, 3, none⟩ (.map x)) g h lo hi x hq := by
  have := qcells_set (cs := [I h, I lo, I hi, .map m, qp hq]) b 3 (.map x)
  simpa [QN] using this
theorem QN.s4 {w : World} {g h : Nat} {lo hi : Int} {m hq : Option Nat} (b : QN w g h lo hi m hq) (x : Option Nat) : QN (w.setCell ⟨g, 4, none⟩ (qp x)) g h lo hi m x := by
  have := qcells_set (cs := [I h, I lo, I hi, .map m, qp hq]) b 4 (qp x)
  simpa [QN] using this

/-- w' is w but for the blocks of F, and new ones -/
structure QK (F : Nat → Prop) (w w' : World) : Prop where
  os : w'.os = w.os
  tape : w'.tape = w.tape
  output : w'.output = w.output
  size : w.heap.size ≤ w'.heap.size
  block : ∀ x, x < w.heap.size → ¬ F x → w'.heap[x]? = w.heap[x]?
theorem QK.refl (F : Nat → Prop) (w : World) : QK F w w := ⟨rfl, rfl, rfl, Nat.le_refl _, fun _ _ _ => rfl⟩
theorem QK.trans {F F' G : Nat → Prop} {a b c : World} (h : QK F a b) (k : QK F' b c) (h1 : ∀ x, x < a.heap.size → F x → G x) (h2 : ∀ x, x < a.heap.size → F' x → G x) : QK G a c :=
  ⟨k.os.trans h.os, k.tape.trans h.tape, k.output.trans h.output, Nat.le_trans h.size k.size, fun x hx hG => (k.block x (Nat.lt_of_lt_of_le hx h.size) (fun e => hG (h2 x hx e))).trans (h.block x hx (fun e => hG (h1 x hx e)))⟩
theorem QK.mono {F G : Nat → Prop} {a b : World} (h : QK F a b) (h1 : ∀ x, F x → G x) : QK G a b := ⟨h.os, h.tape, h.output, h.size, fun x hx hG => h.block x hx (fun e => hG (h1 x e))⟩
theorem QK.below {F : Nat → Prop} {B : Nat} {a b : World} (h : QK F a b) (hB : B ≤ a.heap.size) (h1 : ∀ x, F x → B ≤ x) : Below B a b :=
  ⟨h.os, h.tape, h.output, h.size, fun x hx => h.block x (by omega) (fun e => by have := h1 x e; omega)⟩
theorem QK.of_below {B : Nat} {F : Nat → Prop} {a b : World} (h : Below B a b) (hB : a.heap.size ≤ B) : QK F a b := ⟨h.os, h.tape, h.output, h.size, fun x hx _ => h.block x (by omega)⟩
theorem QK.drewN {F : Nat → Prop} {a b : World} (h : QK F a b) (n : Nat) : QK F a (b.drewN n) := ⟨h.os, h.tape, h.output, h.size, h.block⟩
theorem QK.alloc {F : Nat → Prop} {a b : World} (h : QK F a b) (o : Obj) : QK F a (b.alloc o) :=
  h.trans (QK.of_below ((Below.refl b.heap.size b).alloc (Nat.le_refl _) o) (Nat.le_refl _)) (fun _ _ e => e) (fun _ _ e => e)
theorem QK.set {F : Nat → Prop} {a b : World} (h : QK F a b) {g : Nat} (hg : F g) (i : Nat) (v : Value) : QK F a (b.setCell ⟨g, i, none⟩ v) :=
  h.trans (F' := F) ⟨rfl, rfl, rfl, by simp [World.setCell], fun x hx hF => Below.heap_setCell b ⟨g, i, none⟩ v x (fun e => hF (by rw [e]; exact hg))⟩ (fun _ _ e => e) (fun _ _ e => e)
theorem QK.grown {F : Nat → Prop} {a b c : World} (h : QK F a b) {g : Nat} (hg : b.grownBy c (some g)) (hF : F g) : QK F a c :=
  h.trans (F' := F) ⟨hg.os, hg.tape, hg.output, hg.size, fun x hx hx2 => hg.block x hx (fun e => hx2 (by cases e; exact hF))⟩ (fun _ _ e => e) (fun _ _ e => e)

/-- p is a set of level n that has just the keys S; all of it lies in the blocks F; its maps have had no more than T stores -/
def QR : Nat → World → Nat → Option Nat → KS → (Nat → Prop) → Prop
  | 0, w, _, p, S, F => match p with
    | none => ∀ x, ¬ S x
    | some g => ∃ lo hi, QN w g 0 lo hi none none ∧ QEnds S lo hi ∧ QBd 2 S ∧ F g
  | n + 1, w, T, p, S, F => match p with
    | none => ∀ x, ¬ S x
    | some g => ∃ (lo hi : Int) (m hq : Option Nat) (Q : Int → Option Nat) (FH : Nat → Prop) (FP : Int → Nat → Prop), QN w g (qbt n) lo hi m hq ∧ QEnds S lo hi ∧ QBd (qq n * qq n) S ∧ F g ∧
      QM w T m Q ∧ QR n w T hq (QHi (qq n) (QCut S lo)) FH ∧ (∀ h, QR n w T (Q h) (QLo (qq n) (QCut S lo) h) (FP h)) ∧
      (∀ b, m = some b → F b ∧ b ≠ g ∧ ¬ FH b ∧ ∀ h, ¬ FP h b) ∧ (∀ x, FH x → F x ∧ x ≠ g) ∧ (∀ h x, FP h x → F x ∧ x ≠ g ∧ ¬ FH x) ∧ (∀ h h' x, FP h x → FP h' x → h = h')
/-- the parts and the highs of a set in block g: the keys R, in the blocks F -/
structure QY (n : Nat) (w : World) (T g : Nat) (m hq : Option Nat) (R : KS) (F : Nat → Prop) (Q : Int → Option Nat) (FH : Nat → Prop) (FP : Int → Nat → Prop) : Prop where
  bd : QBd (qq n * qq n) R
  qm : QM w T m Q
  qh : QR n w T hq (QHi (qq n) R) FH
  qp : ∀ h, QR n w T (Q h) (QLo (qq n) R h) (FP h)
  fm : ∀ b, m = some b → F b ∧ b ≠ g ∧ ¬ FH b ∧ ∀ h, ¬ FP h b
  fh : ∀ x, FH x → F x ∧ x ≠ g
  fp : ∀ h x, FP h x → F x ∧ x ≠ g ∧ ¬ FH x
  fa : ∀ h h' x, FP h x → FP h' x → h = h'
theorem QR.none_iff {n : Nat} {w : World} {T : Nat} {S : KS} {F : Nat → Prop} : QR n w T none S F ↔ ∀ x, ¬ S x := by cases n <;> exact Iff.rfl
theorem QR.open1 {n : Nat} {w : World} {T g : Nat} {S : KS} {F : Nat → Prop} (h : QR (n + 1) w T (some g) S F) :
    ∃ (lo hi : Int) (m hq : Option Nat) (Q : Int → Option Nat) (FH : Nat → Prop) (FP : Int → Nat → Prop), QN w g (qbt n) lo hi m hq ∧ QEnds S lo hi ∧ QBd (qq n * qq n) S ∧ F g ∧ QY n w T g m hq (QCut S lo) F Q FH FP := by
  obtain ⟨lo, hi, m, hq, Q, FH, FP, h1, h2, h3, h4, h5, h6, h7, h8, h9, h10, h11⟩ := h
  exact ⟨lo, hi, m, hq, Q, FH, FP, h1, h2, h3, h4, qcut_bd h3, h5, h6, h7, h8, h9, h10, h11⟩
theorem QR.shut1 {n : Nat} {w : World} {T g : Nat} {S : KS} {F : Nat → Prop} {lo hi : Int} {m hq : Option Nat} {Q : Int → Option Nat} {FH : Nat → Prop} {FP : Int → Nat → Prop}
    (h1 : QN w g (qbt n) lo hi m hq) (h2 : QEnds S lo hi) (h3 : QBd (qq n * qq n) S) (h4 : F g) (h : QY n w T g m hq (QCut S lo) F Q FH FP) : QR (n + 1) w T (some g) S F :=
  ⟨lo, hi, m, hq, Q, FH, FP, h1, h2, h3, h4, h.qm, h.qh, h.qp, h.fm, h.fh, h.fp, h.fa⟩
/-- what all levels have -/
theorem QR.head {n : Nat} {w : World} {T g : Nat} {S : KS} {F : Nat → Prop} (h : QR n w T (some g) S F) : ∃ lo hi m hq, QN w g (qhb n) lo hi m hq ∧ QEnds S lo hi ∧ QBd (qq n) S ∧ F g := by
  cases n with
  | zero =>
    obtain ⟨lo, hi, h1, h2, h3, h4⟩ := h
    exact ⟨lo, hi, none, none, h1, h2, h3, h4⟩
  | succ n =>
    obtain ⟨lo, hi, m, hq, Q, FH, FP, h1, h2, h3, h4, _⟩ := h.open1
    exact ⟨lo, hi, m, hq, h1, h2, h3, h4⟩
theorem QR.keep : ∀ {n : Nat} {w w' : World} {T : Nat} {p : Option Nat} {S : KS} {F : Nat → Prop}, QR n w T p S F → (∀ x, F x → w'.heap[x]? = w.heap[x]?) → QR n w' T p S F
  | 0, _, _, _, none, _, _, h, _ => h
  | n + 1, _, _, _, none, _, _, h, _ => h
  | 0, w, w', T, some g, S, F, h, hx => by
    obtain ⟨lo, hi, h1, h2, h3, h4⟩ := h
    exact ⟨lo, hi, h1.keep (hx g h4), h2, h3, h4⟩
  | n + 1, w, w', T, some g, S, F, h, hx => by
    obtain ⟨lo, hi, m, hq, Q, FH, FP, h1, h2, h3, h4, y⟩ := h.open1
    exact QR.shut1 (h1.keep (hx g h4)) h2 h3 h4 ⟨y.bd, y.qm.keep (fun b hb => hx b (y.fm b hb).1), y.qh.keep (fun x hx' => hx x (y.fh x hx').1), fun k => (y.qp k).keep (fun x hx' => hx x (y.fp k x hx').1), y.fm, y.fh, y.fp, y.fa⟩
theorem QR.mono : ∀ {n : Nat} {w : World} {T T' : Nat} {p : Option Nat} {S : KS} {F F' : Nat → Prop}, QR n w T p S F → T ≤ T' → (∀ x, F x → F' x) → QR n w T' p S F'
  | 0, _, _, _, none, _, _, _, h, _, _ => h
  | n + 1, _, _, _, none, _, _, _, h, _, _ => h
  | 0, w, T, T', some g, S, F, F', h, _, hF => by
    obtain ⟨lo, hi, h1, h2, h3, h4⟩ := h
    exact ⟨lo, hi, h1, h2, h3, hF g h4⟩
  | n + 1, w, T, T', some g, S, F, F', h, hT, hF => by
    obtain ⟨lo, hi, m, hq, Q, FH, FP, h1, h2, h3, h4, y⟩ := h.open1
    refine QR.shut1 h1 h2 h3 (hF g h4) ⟨y.bd, y.qm.mono hT, y.qh.mono hT (fun _ e => e), fun k => (y.qp k).mono hT (fun _ e => e), fun b hb => ?_, fun x hx => ?_, fun k x hx => ?_, y.fa⟩
    · obtain ⟨a, b', c⟩ := y.fm b hb
      exact ⟨hF b a, b', c⟩
    · obtain ⟨a, b'⟩ := y.fh x hx
      exact ⟨hF x a, b'⟩
    · obtain ⟨a, b'⟩ := y.fp k x hx
      exact ⟨hF x a, b'⟩
/-- the keys decide whether there is a block -/
theorem QR.some_of {n : Nat} {w : World} {T : Nat} {p : Option Nat} {S : KS} {F : Nat → Prop} (h : QR n w T p S F) {x : Int} (hx : S x) : ∃ g, p = some g := by
  cases p with
  | none => exact absurd hx (QR.none_iff.1 h x)
  | some g => exact ⟨g, rfl⟩
theorem QR.has {n : Nat} {w : World} {T g : Nat} {S : KS} {F : Nat → Prop} (h : QR n w T (some g) S F) : ∃ x, S x := by
  obtain ⟨lo, hi, m, hq, _, h2, _⟩ := h.head
  exact ⟨lo, h2.1⟩

end Go.Proofs.YtpnjnedfcdppaaaGreatDoor

/-
  A SET BY HALVES, while it is changed: its highs and its parts, each on its own; what one step leaves.
-/
namespace Go.Proofs.YtpnjnedfcdppaaaGreatDoor
open Go.RowKit Go.Maps

/-- the parts and the highs of the set in block g: the highs H, the parts P -/
structure QZ (n : Nat) (w : World) (T g : Nat) (m hq : Option Nat) (H : KS) (P : Int → KS) (F : Nat → Prop) (Q : Int → Option Nat) (FH : Nat → Prop) (FP : Int → Nat → Prop) : Prop where
  ge : F g
  lt : ∀ x, F x → x < w.heap.size
  qm : QM w T m Q
  qh : QR n w T hq H FH
  qp : ∀ h, QR n w T (Q h) (P h) (FP h)
  fm : ∀ b, m = some b → F b ∧ b ≠ g ∧ ¬ FH b ∧ ∀ h, ¬ FP h b
  fh : ∀ x, FH x → F x ∧ x ≠ g
  fp : ∀ h x, FP h x → F x ∧ x ≠ g ∧ ¬ FH x
  fa : ∀ h h' x, FP h x → FP h' x → h = h'
theorem QY.z {n : Nat} {w : World} {T g : Nat} {m hq : Option Nat} {R : KS} {F : Nat → Prop} {Q : Int → Option Nat} {FH : Nat → Prop} {FP : Int → Nat → Prop} (y : QY n w T g m hq R F Q FH FP) (hg : F g) (hF : ∀ x, F x → x < w.heap.size) :
    QZ n w T g m hq (QHi (qq n) R) (QLo (qq n) R) F Q FH FP := ⟨hg, hF, y.qm, y.qh, y.qp, y.fm, y.fh, y.fp, y.fa⟩
theorem QZ.y {n : Nat} {w : World} {T g : Nat} {m hq : Option Nat} {R : KS} {F : Nat → Prop} {Q : Int → Option Nat} {FH : Nat → Prop} {FP : Int → Nat → Prop} (z : QZ n w T g m hq (QHi (qq n) R) (QLo (qq n) R) F Q FH FP) (hb : QBd (qq n * qq n) R) :
    QY n w T g m hq R F Q FH FP := ⟨hb, z.qm, z.qh, z.qp, z.fm, z.fh, z.fp, z.fa⟩
section
variable {n : Nat} {w w' w'' : World} {T T' g : Nat} {m hq : Option Nat} {H : KS} {P : Int → KS} {F : Nat → Prop} {Q : Int → Option Nat} {FH : Nat → Prop} {FP : Int → Nat → Prop}
theorem QZ.mono (z : QZ n w T g m hq H P F Q FH FP) (hT : T ≤ T') : QZ n w T' g m hq H P F Q FH FP :=
  ⟨z.ge, z.lt, z.qm.mono hT, z.qh.mono hT (fun _ e => e), fun h => (z.qp h).mono hT (fun _ e => e), z.fm, z.fh, z.fp, z.fa⟩
theorem QZ.wider {F' : Nat → Prop} (z : QZ n w T g m hq H P F Q FH FP) (hF : ∀ x, F x → F' x) (hl : ∀ x, F' x → x < w.heap.size) : QZ n w T g m hq H P F' Q FH FP :=
  ⟨hF _ z.ge, hl, z.qm, z.qh, z.qp, fun b hb => ⟨hF _ (z.fm b hb).1, (z.fm b hb).2⟩, fun x hx => ⟨hF _ (z.fh x hx).1, (z.fh x hx).2⟩, fun h x hx => ⟨hF _ (z.fp h x hx).1, (z.fp h x hx).2⟩, z.fa⟩
/-- all is as it was but block g, and new blocks -/
theorem QZ.keep (z : QZ n w T g m hq H P F Q FH FP) (hs : w.heap.size ≤ w'.heap.size) (hx : ∀ x, x < w.heap.size → x ≠ g → w'.heap[x]? = w.heap[x]?) : QZ n w' T g m hq H P F Q FH FP :=
  ⟨z.ge, fun x h => Nat.lt_of_lt_of_le (z.lt x h) hs, z.qm.keep fun b hb => hx b (z.lt _ (z.fm b hb).1) (z.fm b hb).2.1, z.qh.keep fun x h => hx x (z.lt _ (z.fh x h).1) (z.fh x h).2, fun h => (z.qp h).keep fun x h' => hx x (z.lt _ (z.fp h x h').1) (z.fp h x h').2.1, z.fm, z.fh, z.fp, z.fa⟩
theorem QZ.cell (z : QZ n w T g m hq H P F Q FH FP) (i : Nat) (v : Value) : QZ n (w.setCell ⟨g, i, none⟩ v) T g m hq H P F Q FH FP :=
  z.keep (by simp [World.setCell]) fun x _ hne => Below.heap_setCell w ⟨g, i, none⟩ v x hne
theorem QZ.drewN (z : QZ n w T g m hq H P F Q FH FP) (j : Nat) : QZ n (w.drewN j) T g m hq H P F Q FH FP := z.keep (Nat.le_refl _) fun _ _ _ => rfl
/-- the highs have changed -/
theorem QZ.high {hq' : Option Nat} {H' : KS} {FH' : Nat → Prop} (z : QZ n w T g m hq H P F Q FH FP) (hT : T ≤ T') (h : QR n w' T' hq' H' FH') (hl : ∀ x, FH' x → x < w'.heap.size ∧ (FH x ∨ w.heap.size ≤ x)) (hk : QK FH w w') :
    QZ n w' T' g m hq' H' P (fun x => F x ∨ FH' x) Q FH' FP := by
  have old : ∀ x, F x → FH' x → FH x := fun x hx hy => by
    rcases (hl x hy).2 with e | e
    · exact e
    · have := z.lt x hx; omega
  refine ⟨.inl z.ge, fun x hx => ?_, ?_, h, fun k => ?_, fun b hb => ?_, fun x hx => ?_, fun k x hx => ?_, z.fa⟩
  · rcases hx with hx | hx
    · exact Nat.lt_of_lt_of_le (z.lt x hx) hk.size
    · exact (hl x hx).1
  · exact (z.qm.keep fun b hb => hk.block b (z.lt _ (z.fm b hb).1) (z.fm b hb).2.2.1).mono hT
  · exact ((z.qp k).keep fun x hx => hk.block x (z.lt _ (z.fp k x hx).1) (z.fp k x hx).2.2).mono hT (fun _ e => e)
  · obtain ⟨a, b', c, d⟩ := z.fm b hb
    exact ⟨.inl a, b', fun e => c (old b a e), d⟩
  · exact ⟨.inr hx, fun e => by subst e; exact (z.fh _ (old _ z.ge hx)).2 rfl⟩
  · obtain ⟨a, b', c⟩ := z.fp k x hx
    exact ⟨.inl a, b', fun e => c (old x a e)⟩
/-- the map has been made -/
theorem QZ.made (z : QZ n w T g none hq H P F Q FH FP) : QZ n (w.alloc (.map #[] 0)) T g (some w.heap.size) hq H P (fun x => F x ∨ x = w.heap.size) Q FH FP := by
  have hB : Below w.heap.size w (w.alloc (.map #[] 0)) := (Below.refl _ _).alloc (Nat.le_refl _) _
  have z2 := z.keep (w' := w.alloc (.map #[] 0)) hB.size (fun x hx _ => hB.block x hx)
  have hQ : Q = fun _ => none := funext z.qm
  have hs : (w.alloc (.map #[] 0)).heap.size = w.heap.size + 1 := by simp
  refine ⟨.inl z.ge, fun x hx => ?_, ?_, z2.qh, z2.qp, fun b hb => ?_, fun x hx => ⟨.inl (z.fh x hx).1, (z.fh x hx).2⟩, fun k x hx => ⟨.inl (z.fp k x hx).1, (z.fp k x hx).2⟩, z.fa⟩
  · rcases hx with hx | hx
    · have := z.lt x hx; omega
    · omega
  · rw [hQ]; exact QMb.made w T
  · cases hb
    refine ⟨.inr rfl, fun e => ?_, fun e => ?_, fun k e => ?_⟩
    · have := z.lt _ z.ge; omega
    · have := z.lt _ (z.fh _ e).1; omega
    · have := z.lt _ (z.fp k _ e).1; omega
/-- the map of the parts, behind a call at one of them -/
theorem QZ.map_at {b : Nat} (z : QZ n w T g (some b) hq H P F Q FH FP) {x : Int} (hk : QK (FP x) w w') : QMb w' T b Q :=
  (show QMb w T b Q from z.qm).keep (hk.block b (z.lt _ (z.fm b rfl).1) ((z.fm b rfl).2.2.2 x))
/-- one part has changed, and the map tells it -/
theorem QZ.part {b : Nat} {x : Int} {po : Option Nat} {P' : Int → KS} {FX : Nat → Prop} {T2 : Nat} (z : QZ n w T g (some b) hq H P F Q FH FP) (hT : T ≤ T2) (hT2 : T' ≤ T2) (h : QR n w' T' po (P' x) FX) (hl : ∀ y, FX y → y < w'.heap.size ∧ (FP x y ∨ w.heap.size ≤ y))
    (hk : QK (FP x) w w') (hg : w'.grownBy w'' (some b)) (hm : QMb w'' T2 b (qupd Q x po)) (hP : ∀ h, h ≠ x → P' h = P h) :
    QZ n w'' T2 g (some b) hq H P' (fun y => F y ∨ FX y) (qupd Q x po) FH (fun h y => if h = x then FX y else FP h y) := by
  have old : ∀ y, F y → FX y → FP x y := fun y hy hx => by
    rcases (hl y hx).2 with e | e
    · exact e
    · have := z.lt y hy; omega
  have hbF := z.fm b rfl
  have all : ∀ y, F y → y ≠ b → ¬ FP x y → w''.heap[y]? = w.heap[y]? := fun y hy hne hn => by
    have h1 := z.lt y hy
    exact (hg.block y (Nat.lt_of_lt_of_le h1 hk.size) (fun e => hne (by cases e; rfl))).trans (hk.block y h1 hn)
  have hxb : ¬ FX b := fun e => hbF.2.2.2 x (old b hbF.1 e)
  refine ⟨.inl z.ge, fun y hy => ?_, hm, ?_, fun k => ?_, fun b' hb' => ?_, fun y hy => ⟨.inl (z.fh y hy).1, (z.fh y hy).2⟩, fun k y hy => ?_, fun k k' y hy hy' => ?_⟩
  · rcases hy with hy | hy
    · exact Nat.lt_of_lt_of_le (z.lt y hy) (Nat.le_trans hk.size hg.size)
    · exact Nat.lt_of_lt_of_le (hl y hy).1 hg.size
  · exact (z.qh.keep fun y hy => all y (z.fh y hy).1 (fun e => hbF.2.2.1 (e ▸ hy)) (fun e => (z.fp x y e).2.2 hy)).mono hT (fun _ e => e)
  · by_cases hkx : k = x
    · subst hkx
      rw [qupd_same]
      refine (h.keep fun y hy => hg.block y (hl y hy).1 (fun e => ?_)).mono hT2 (fun y hy => by simpa using hy)
      have := Option.some.inj e
      subst this
      exact hxb hy
    · rw [qupd_ne _ _ hkx, hP k hkx]
      refine ((z.qp k).keep fun y hy => all y (z.fp k y hy).1 (fun e => hbF.2.2.2 k (e ▸ hy)) (fun e => hkx (z.fa k x y hy e))).mono hT (fun y hy => by simpa [hkx] using hy)
  · cases hb'
    refine ⟨.inl hbF.1, hbF.2.1, hbF.2.2.1, fun k hk' => ?_⟩
    by_cases hkx : k = x
    · rw [if_pos hkx] at hk'; exact hxb hk'
    · rw [if_neg hkx] at hk'; exact hbF.2.2.2 k hk'
  · by_cases hkx : k = x
    · rw [if_pos hkx] at hy
      refine ⟨.inr hy, fun e => ?_, fun e => ?_⟩
      · subst e; exact (z.fp x _ (old _ z.ge hy)).2.1 rfl
      · exact (z.fp x y (old y (z.fh y e).1 hy)).2.2 e
    · rw [if_neg hkx] at hy
      exact ⟨.inl (z.fp k y hy).1, (z.fp k y hy).2⟩
  · by_cases hkx : k = x <;> by_cases hkx' : k' = x
    · rw [hkx, hkx']
    · rw [if_pos hkx] at hy
      rw [if_neg hkx'] at hy'
      exact absurd (z.fa k' x y hy' (old y (z.fp k' y hy').1 hy)) hkx'
    · rw [if_neg hkx] at hy
      rw [if_pos hkx'] at hy'
      exact absurd (z.fa k x y hy (old y (z.fp k y hy).1 hy')) hkx
    · rw [if_neg hkx] at hy
      rw [if_neg hkx'] at hy'
      exact z.fa k k' y hy hy'
end

end Go.Proofs.YtpnjnedfcdppaaaGreatDoor
