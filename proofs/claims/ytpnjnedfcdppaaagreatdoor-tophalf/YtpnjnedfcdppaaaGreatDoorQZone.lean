/-
  A SET BY HALVES, while it is changed: its highs and its parts, each on its own; what one step leaves.
-/
import Derived.Test.YtpnjnedfcdppaaaGreatDoorQMem
namespace Go.Proofs.YtpnjnedfcdppaaaGreatDoor
open Go.RowKit Go.Maps

/-- the parts and the highs of the set in block g: the highs H, the parts P -/
structure QZ (n : Nat) (w : World) (T g : Nat) (m hq : Option Nat) (H : KS) (P : Int → KS) (F : Nat → Prop) (Q : Int → Option Nat) (FH : Nat → Prop) (FP : Int → Nat → Prop) : Prop where
  ge : F g
  lt : ∀ x, F x → x < w.heap.size
  qm : QM w T m Q
  qh : QR n w T hq H FH
  qp : ∀ h, QR n w T (Q h) (P h) (FP h)
  fm : ∀ b, m = some b → F b ∧ b ≠ g ∧ ¬ FH b ∧ ∀ h, ¬ FP h b
  fh : ∀ x, FH x → F x ∧ x ≠ g
  fp : ∀ h x, FP h x → F x ∧ x ≠ g ∧ ¬ FH x
  fa : ∀ h h' x, FP h x → FP h' x → h = h'
theorem QY.z {n : Nat} {w : World} {T g : Nat} {m hq : Option Nat} {R : KS} {F : Nat → Prop} {Q : Int → Option Nat} {FH : Nat → Prop} {FP : Int → Nat → Prop} (y : QY n w T g m hq R F Q FH FP) (hg : F g) (hF : ∀ x, F x → x < w.heap.size) :
    QZ n w T g m hq (QHi (qq n) R) (QLo (qq n) R) F Q FH FP := ⟨hg, hF, y.qm, y.qh, y.qp, y.fm, y.fh, y.fp, y.fa⟩
theorem QZ.y {n : Nat} {w : World} {T g : Nat} {m hq : Option Nat} {R : KS} {F : Nat → Prop} {Q : Int → Option Nat} {FH : Nat → Prop} {FP : Int → Nat → Prop} (z : QZ n w T g m hq (QHi (qq n) R) (QLo (qq n) R) F Q FH FP) (hb : QBd (qq n * qq n) R) :
    QY n w T g m hq R F Q FH FP := ⟨hb, z.qm, z.qh, z.qp, z.fm, z.fh, z.fp, z.fa⟩
section
variable {n : Nat} {w w' w'' : World} {T T' g : Nat} {m hq : Option Nat} {H : KS} {P : Int → KS} {F : Nat → Prop} {Q : Int → Option Nat} {FH : Nat → Prop} {FP : Int → Nat → Prop}
theorem QZ.mono (z : QZ n w T g m hq H P F Q FH FP) (hT : T ≤ T') : QZ n w T' g m hq H P F Q FH FP :=
  ⟨z.ge, z.lt, z.qm.mono hT, z.qh.mono hT (fun _ e => e), fun h => (z.qp h).mono hT (fun _ e => e), z.fm, z.fh, z.fp, z.fa⟩
theorem QZ.wider {F' : Nat → Prop} (z : QZ n w T g m hq H P F Q FH FP) (hF : ∀ x, F x → F' x) (hl : ∀ x, F' x → x < w.heap.size) : QZ n w T g m hq H P F' Q FH FP :=
  ⟨hF _ z.ge, hl, z.qm, z.qh, z.qp, fun b hb => ⟨hF _ (z.fm b hb).1, (z.fm b hb).2⟩, fun x hx => ⟨hF _ (z.fh x hx).1, (z.fh x hx).2⟩, fun h x hx => ⟨hF _ (z.fp h x hx).1, (z.fp h x hx).2⟩, z.fa⟩
/-- all is as it was but block g, and new blocks -/
theorem QZ.keep (z : QZ n w T g m hq H P F Q FH FP) (hs : w.heap.size ≤ w'.heap.size) (hx : ∀ x, x < w.heap.size → x ≠ g → w'.heap[x]? = w.heap[x]?) : QZ n w' T g m hq H P F Q FH FP :=
  ⟨z.ge, fun x h => Nat.lt_of_lt_of_le (z.lt x h) hs, z.qm.keep fun b hb => hx b (z.lt _ (z.fm b hb).1) (z.fm b hb).2.1, z.qh.keep fun x h => hx x (z.lt _ (z.fh x h).1) (z.fh x h).2, fun h => (z.qp h).keep fun x h' => hx x (z.lt _ (z.fp h x h').1) (z.fp h x h').2.1, z.fm, z.fh, z.fp, z.fa⟩
theorem QZ.cell (z : QZ n w T g m hq H P F Q FH FP) (i : Nat) (v : Value) : QZ n (w.setCell ⟨g, i, none⟩ v) T g m hq H P F Q FH FP :=
  z.keep (by simp [World.setCell]) fun x _ hne => Below.heap_setCell w ⟨g, i, none⟩ v x hne
theorem QZ.drewN (z : QZ n w T g m hq H P F Q FH FP) (j : Nat) : QZ n (w.drewN j) T g m hq H P F Q FH FP := z.keep (Nat.le_refl _) fun _ _ _ => rfl
/-- the highs have changed -/
theorem QZ.high {hq' : Option Nat} {H' : KS} {FH' : Nat → Prop} (z : QZ n w T g m hq H P F Q FH FP) (hT : T ≤ T') (h : QR n w' T' hq' H' FH') (hl : ∀ x, FH' x → x < w'.heap.size ∧ (FH x ∨ w.heap.size ≤ x)) (hk : QK FH w w') :
    QZ n w' T' g m hq' H' P (fun x => F x ∨ FH' x) Q FH' FP := by
  have old : ∀ x, F x → FH' x → FH x := fun x hx hy => by
    rcases (hl x hy).2 with e | e
    · exact e
    · have := z.lt x hx; omega
  refine ⟨.inl z.ge, fun x hx => ?_, ?_, h, fun k => ?_, fun b hb => ?_, fun x hx => ?_, fun k x hx => ?_, z.fa⟩
  · rcases hx with hx | hx
    · exact Nat.lt_of_lt_of_le (z.lt x hx) hk.size
    · exact (hl x hx).1
  · exact (z.qm.keep fun b hb => hk.block b (z.lt _ (z.fm b hb).1) (z.fm b hb).2.2.1).mono hT
  · exact ((z.qp k).keep fun x hx => hk.block x (z.lt _ (z.fp k x hx).1) (z.fp k x hx).2.2).mono hT (fun _ e => e)
  · obtain ⟨a, b', c, d⟩ := z.fm b hb
    exact ⟨.inl a, b', fun e => c (old b a e), d⟩
  · exact ⟨.inr hx, fun e => by subst e; exact (z.fh _ (old _ z.ge hx)).2 rfl⟩
  · obtain ⟨a, b', c⟩ := z.fp k x hx
    exact ⟨.inl a, b', fun e => c (old x a e)⟩
/-- the map has been made -/
theorem QZ.made (z : QZ n w T g none hq H P F Q FH FP) : QZ n (w.alloc (.map #[] 0)) T g (some w.heap.size) hq H P (fun x => F x ∨ x = w.heap.size) Q FH FP := by
  have hB : Below w.heap.size w (w.alloc (.map #[] 0)) := (Below.refl _ _).alloc (Nat.le_refl _) _
  have z2 := z.keep (w' := w.alloc (.map #[] 0)) hB.size (fun x hx _ => hB.block x hx)
  have hQ : Q = fun _ => none := funext z.qm
  have hs : (w.alloc (.map #[] 0)).heap.size = w.heap.size + 1 := by simp
  refine ⟨.inl z.ge, fun x hx => ?_, ?_, z2.qh, z2.qp, fun b hb => ?_, fun x hx => ⟨.inl (z.fh x hx).1, (z.fh x hx).2⟩, fun k x hx => ⟨.inl (z.fp k x hx).1, (z.fp k x hx).2⟩, z.fa⟩
  · rcases hx with hx | hx
    · have := z.lt x hx; omega
    · omega
  · rw [hQ]; exact QMb.made w T
  · cases hb
    refine ⟨.inr rfl, fun e => ?_, fun e => ?_, fun k e => ?_⟩
    · have := z.lt _ z.ge; omega
    · have := z.lt _ (z.fh _ e).1; omega
    · have := z.lt _ (z.fp k _ e).1; omega
/-- the map of the parts, behind a call at one of them -/
theorem QZ.map_at {b : Nat} (z : QZ n w T g (some b) hq H P F Q FH FP) {x : Int} (hk : QK (FP x) w w') : QMb w' T b Q :=
  (show QMb w T b Q from z.qm).keep (hk.block b (z.lt _ (z.fm b rfl).1) ((z.fm b rfl).2.2.2 x))
/-- one part has changed, and the map tells it -/
theorem QZ.part {b : Nat} {x : Int} {po : Option Nat} {P' : Int → KS} {FX : Nat → Prop} {T2 : Nat} (z : QZ n w T g (some b) hq H P F Q FH FP) (hT : T ≤ T2) (hT2 : T' ≤ T2) (h : QR n w' T' po (P' x) FX) (hl : ∀ y, FX y → y < w'.heap.size ∧ (FP x y ∨ w.heap.size ≤ y))
    (hk : QK (FP x) w w') (hg : w'.grownBy w'' (some b)) (hm : QMb w'' T2 b (qupd Q x po)) (hP : ∀ h, h ≠ x → P' h = P h) :
    QZ n w'' T2 g (some b) hq H P' (fun y => F y ∨ FX y) (qupd Q x po) FH (fun h y => if h = x then FX y else FP h y) := by
  have old : ∀ y, F y → FX y → FP x y := fun y hy hx => by
    rcases (hl y hx).2 with e | e
    · exact e
    · have := z.lt y hy; omega
  have hbF := z.fm b rfl
  have all : ∀ y, F y → y ≠ b → ¬ FP x y → w''.heap[y]? = w.heap[y]? := fun y hy hne hn => by
    have h1 := z.lt y hy
    exact (hg.block y (Nat.lt_of_lt_of_le h1 hk.size) (fun e => hne (by cases e; rfl))).trans (hk.block y h1 hn)
  have hxb : ¬ FX b := fun e => hbF.2.2.2 x (old b hbF.1 e)
  refine ⟨.inl z.ge, fun y hy => ?_, hm, ?_, fun k => ?_, fun b' hb' => ?_, fun y hy => ⟨.inl (z.fh y hy).1, (z.fh y hy).2⟩, fun k y hy => ?_, fun k k' y hy hy' => ?_⟩
  · rcases hy with hy | hy
    · exact Nat.lt_of_lt_of_le (z.lt y hy) (Nat.le_trans hk.size hg.size)
    · exact Nat.lt_of_lt_of_le (hl y hy).1 hg.size
  · exact (z.qh.keep fun y hy => all y (z.fh y hy).1 (fun e => hbF.2.2.1 (e ▸ hy)) (fun e => (z.fp x y e).2.2 hy)).mono hT (fun _ e => e)
  · by_cases hkx : k = x
    · subst hkx
      rw [qupd_same]
      refine (h.keep fun y hy => hg.block y (hl y hy).1 (fun e => ?_)).mono hT2 (fun y hy => by simpa using hy)
      have := Option.some.inj e
      subst this
      exact hxb hy
    · rw [qupd_ne _ _ hkx, hP k hkx]
      refine ((z.qp k).keep fun y hy => all y (z.fp k y hy).1 (fun e => hbF.2.2.2 k (e ▸ hy)) (fun e => hkx (z.fa k x y hy e))).mono hT (fun y hy => by simpa [hkx] using hy)
  · cases hb'
    refine ⟨.inl hbF.1, hbF.2.1, hbF.2.2.1, fun k hk' => ?_⟩
    by_cases hkx : k = x
    · rw [if_pos hkx] at hk'; exact hxb hk'
    · rw [if_neg hkx] at hk'; exact hbF.2.2.2 k hk'
  · by_cases hkx : k = x
    · rw [if_pos hkx] at hy
      refine ⟨.inr hy, fun e => ?_, fun e => ?_⟩
      · subst e; exact (z.fp x _ (old _ z.ge hy)).2.1 rfl
      · exact (z.fp x y (old y (z.fh y e).1 hy)).2.2 e
    · rw [if_neg hkx] at hy
      exact ⟨.inl (z.fp k y hy).1, (z.fp k y hy).2⟩
  · by_cases hkx : k = x <;> by_cases hkx' : k' = x
    · rw [hkx, hkx']
    · rw [if_pos hkx] at hy
      rw [if_neg hkx'] at hy'
      exact absurd (z.fa k' x y hy' (old y (z.fp k' y hy').1 hy)) hkx'
    · rw [if_neg hkx] at hy
      rw [if_pos hkx'] at hy'
      exact absurd (z.fa k x y hy (old y (z.fp k y hy).1 hy')) hkx
    · rw [if_neg hkx] at hy
      rw [if_neg hkx'] at hy'
      exact z.fa k k' y hy hy'
end

end Go.Proofs.YtpnjnedfcdppaaaGreatDoor
