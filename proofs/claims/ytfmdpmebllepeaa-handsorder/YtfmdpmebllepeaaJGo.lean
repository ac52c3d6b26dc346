/-
  package hands: all hands: a step of one of them, beside the plain step.
-/
import Derived.Test.YtfmdpmebllepeaaJStepN
import Derived.Test.YtfmdpmebllepeaaMTimeMAll
namespace Go.Proofs.Ytfmdpmebllepeaa
open Go.RowKit

/-- the deeds as pairs -/
def dds (P : Nat → PL) (v j : Nat) : Int × Int := ((P v)[j]?).getD (0, 0)
/-- what is told of a hand so far -/
def DL (W : Wd) (v : Nat) : List Dn := (List.range (W.ix v)).map (tolD W v) ++ (match W.bg v with | none => [] | some b => [⟨v, W.ix v, b, -1, false⟩])
structure HO (al base B v : Nat) (pr : PL) (W : Wd) (ad : Nat → Nat) (hm : Nat → Value) (w : World) : Prop where
  jv : JV base v pr (DL W v) hm w
  way : hm 3 = fWay al
  head : hm 4 = jp (ad 0)
  idle : W.bg v = none → hm 7 = .nilFunc
  at_ : ∀ b, W.bg v = some b → NX al w (.pointer (some ⟨B, v * 9, none⟩)) (W.hs v).at_ ((pr[W.ix v]?).getD (0, 0)).1 (hm 7) ∧ ((W.hs v).at_ ≠ 0 → hm 5 = jp (ad (W.hs v).p) ∧ hm 6 = jp (ad (W.hs v).c))
structure GS (al base B nh : Nat) (P : Nat → PL) (W : Wd) (ad : Nat → Nat) (hs : Nat → Nat → Value) (w : World) : Prop where
  js : JS base B nh ad W.s W.lk hs w
  ho : ∀ v, v < nh → HO al base B v (P v) W ad (hs v) w
  apt : ∀ v v', v < nh → v' < nh → v ≠ v' → ∀ g, (hs v 2).ownBlock = some g → (hs v' 2).ownBlock ≠ some g
  blt : ∀ v b, W.bg v = some b → W.ix v < (P v).length
/-- what holds of all hands -/
def Okay (al : Nat) (P : Nat → PL) (W : Wd) : Prop := ∀ v, W.ix v < (P v).length → JC al W.s W.lk (W.hs v) (dds P v (W.ix v)).1 (dds P v (W.ix v)).2 ∧ (W.bg v = none → W.hs v = hd0)
/-- what a step leaves as it is -/
structure JR (base : Nat) (w w' : World) : Prop where
  kp : ∀ (g : Nat) (cs : Array Value) (t : Nat) (f : Nat × Nat), w.heap[g]? = some (Obj.cells cs t f) → t ≠ 86 → t ≠ 74 → t ≠ 37 → w'.heap[g]? = some (Obj.cells cs t f)
  bl : Below base w w'
theorem JQ.r {base : Nat} {row : Option Nat} {w w' : World} (h : JQ base row w w') : JR base w w' := ⟨fun g cs t f a b c d => h.kp g cs t f a b c (fun e => absurd e d), h.bl⟩
theorem JR.trans {base : Nat} {w w1 w2 : World} (h : JR base w w1) (h2 : JR base w1 w2) : JR base w w2 := ⟨fun g cs t f a b c d => h2.kp g cs t f (h.kp g cs t f a b c d) b c d, h.bl.trans h2.bl⟩
theorem JR.refl (base : Nat) (w : World) : JR base w w := ⟨fun _ _ _ _ h _ _ _ => h, Below.refl _ _⟩

theorem alg_first {al : Nat} (hal : al = 1 ∨ al = 2 ∨ al = 3 ∨ al = 4) (s : Bs) (lk : Nat → Bool) (kd K : Int) : ((alg al).step s lk hd0 kd K).over = false := by
  rcases hal with rfl | rfl | rfl | rfl
  · exact aOver_ok.first s lk kd K
  · exact aLazy_ok.first s lk kd K
  · exact aMark_ok.first s lk kd K
  · show (naiveS s hd0 kd K).over = false
    unfold naiveS
    rw [if_pos rfl]
theorem JC.pc {al : Nat} {s : Bs} {lk : Nat → Bool} {q : Hd} {kd K : Int} (h : JC al s lk q kd K) (h0 : q.at_ ≠ 0) : q.p < s.sz ∧ q.c < s.sz := by
  rcases h.c with ⟨_, a, b⟩ | ⟨_, a, g, b⟩ | ⟨_, a, g, b⟩ | ⟨_, a, b⟩
  · obtain ⟨p1, p2, p3, p4⟩ := b.pc h0
    exact ⟨p1, by rw [← p4]; exact a.cor.nlt _ p1 (key_tl a.cor h.d.1 (.inl p2))⟩
  · exact ⟨(b.pc h0).1, (b.pc h0).2.1⟩
  · exact ⟨(b.pc h0).1, (b.pc h0).2.1⟩
  · exact ⟨(b.pc h0).1, (b.pc h0).2.1⟩
theorem JC.pos {al : Nat} {s : Bs} {lk : Nat → Bool} {q : Hd} {kd K : Int} (h : JC al s lk q kd K) : 0 < s.sz := by
  rcases h.c with ⟨_, a, b⟩ | ⟨_, a, g, b⟩ | ⟨_, a, g, b⟩ | ⟨_, a, b⟩
  · exact a.cor.pos
  · exact a.pos
  · exact a.pos
  · exact a.pos
section
variable {al base B nh : Nat} {P : Nat → PL} {W : Wd} {ad : Nat → Nat} {hs : Nat → Nat → Value} {w : World}
theorem dds_at {v j : Nat} (h : j < (P v).length) : dds P v j = (P v)[j] := by unfold dds; rw [List.getElem?_eq_getElem h]; rfl
/-- what is told of the one behind its step -/
theorem DL_go (v : Nat) {A : Alg} {r : Rel} (hr : A.step W.s W.lk (W.hs v) (dds P v (W.ix v)).1 (dds P v (W.ix v)).2 = r) {b : Nat} (hb : (W.bg v).getD W.now = b) : DL (W.go A (dds P) v) v = (List.range (W.ix v)).map (tolD W v) ++ [dnow r v (W.ix v) b W.now] := by
  have hgo : W.go A (dds P) v = ⟨r.s, r.lk, upd W.hs v r.nh, upd W.ix v (if r.over = true then W.ix v + 1 else W.ix v), upd W.bg v (if r.over = true then none else some b), W.now + 1,
    if r.over = true then fun w' j => if w' = v ∧ j = W.ix v then some (b, W.now, r.h.is_) else W.tol w' j else W.tol⟩ := by
    unfold Wd.go
    rw [hr, hb]
  rw [hgo]
  unfold DL dnow
  cases hov : r.over with
  | true =>
    simp only [if_true, upd_same, List.append_nil]
    rw [List.range_succ, List.map_append, List.map_singleton]
    congr 1
    · apply List.map_congr_left
      intro j hj
      have hj' := List.mem_range.mp hj
      unfold tolD
      show (match (if v = v ∧ j = W.ix v then some (b, W.now, r.h.is_) else W.tol v j) with | some (b, e, i) => (⟨v, j, b, e, i⟩ : Dn) | none => ⟨v, j, 0, -1, false⟩) = _
      rw [if_neg (by omega)]
      rfl
    · unfold tolD
      show [match (if v = v ∧ W.ix v = W.ix v then some (b, W.now, r.h.is_) else W.tol v (W.ix v)) with | some (b, e, i) => (⟨v, W.ix v, b, e, i⟩ : Dn) | none => ⟨v, W.ix v, 0, -1, false⟩] = _
      rw [if_pos ⟨rfl, rfl⟩]
  | false =>
    simp only [Bool.false_eq_true, if_false, upd_same]
    congr 1
theorem DL_other {v v' : Nat} (A : Alg) (h : v' ≠ v) : DL (W.go A (dds P) v) v' = DL W v' := by
  unfold DL Wd.go
  simp only [upd_other _ _ h]
  congr 1
  apply List.map_congr_left
  intro j hj
  unfold tolD
  cases hov : (A.step W.s W.lk (W.hs v) (dds P v (W.ix v)).1 (dds P v (W.ix v)).2).over with
  | true =>
    simp only [if_true]
    rw [if_neg (by omega)]
  | false => simp only [Bool.false_eq_true, if_false]
/-- behind the step of the one -/
theorem GS.step {v : Nat} (h : GS al base B nh P W ad hs w) (hok : Okay al P W) (hv : v < nh) (hi : W.ix v < (P v).length) {w' : World} {e : Ending} {b : Nat} (hb : (W.bg v).getD W.now = b)
    (hr : RetS al base B nh v (P v) ((List.range (W.ix v)).map (tolD W v)) (W.ix v) b W.now (dds P v (W.ix v)).1 ad W.s.sz hs (hs v) ((alg al).step W.s W.lk (W.hs v) (dds P v (W.ix v)).1 (dds P v (W.ix v)).2) w e w') :
    e = .returned (.tuple #[]) ∧ ∃ ad' hs', GS al base B nh P (W.go (alg al) (dds P) v) ad' hs' w' ∧ JR base w w' ∧ ad' 0 = ad 0 := by
  obtain ⟨rfl, ad', hm', had, hjs, hjv, ⟨e3, e4⟩, ho, hg, hq, hrow⟩ := hr
  obtain ⟨r, hrr⟩ : ∃ r, (alg al).step W.s W.lk (W.hs v) (dds P v (W.ix v)).1 (dds P v (W.ix v)).2 = r := ⟨_, rfl⟩
  rw [hrr] at hjs hjv ho hg
  have hgo : W.go (alg al) (dds P) v = ⟨r.s, r.lk, upd W.hs v r.nh, upd W.ix v (if r.over = true then W.ix v + 1 else W.ix v), upd W.bg v (if r.over = true then none else some b), W.now + 1,
    if r.over = true then fun w' j => if w' = v ∧ j = W.ix v then some (b, W.now, r.h.is_) else W.tol w' j else W.tol⟩ := by
    unfold Wd.go
    rw [hrr, hb]
  have hpos := (hok v hi).1.pos
  have hlow : ∀ v', v' < nh → ∀ g, (hs v' 2).ownBlock = some g → g < w.heap.size := fun v' hv' g hg => by
    obtain ⟨cs, hc, _⟩ := (h.ho v' hv').jv.done.blk hg
    exact jblk hc
  refine ⟨rfl, ad', upd hs v hm', ⟨?_, fun v' hv' => ?_, fun v1 v2 h1 h2 hne g hg1 hg2 => ?_, fun v' b' hb' => ?_⟩, hq.r, had 0 hpos⟩
  · rw [hgo]; exact hjs
  · by_cases e : v' = v
    · subst e
      rw [upd_same]
      refine ⟨by rw [DL_go v' hrr hb]; exact hjv, e3.trans (h.ho v' hv').way, ?_, fun hn => ?_, fun b' hb' => ?_⟩
      · rw [e4, (h.ho v' hv').head, had 0 hpos]
      · rw [hgo] at hn
        have hn' : upd W.bg v' (if r.over = true then none else some b) v' = none := hn
        rw [upd_same] at hn'
        cases hov : r.over with
        | true => exact ho hov
        | false => rw [hov] at hn'; cases hn'
      · rw [hgo] at hb'
        have hb'' : upd W.bg v' (if r.over = true then none else some b) v' = some b' := hb'
        rw [upd_same] at hb''
        cases hov : r.over with
        | true => rw [hov] at hb''; cases hb''
        | false =>
          obtain ⟨g1, g2⟩ := hg hov
          have hnh : r.nh = r.h := by unfold Rel.nh; rw [hov]; rfl
          have hhs : (W.go (alg al) (dds P) v').hs v' = r.h := by rw [hgo]; show upd W.hs v' r.nh v' = r.h; rw [upd_same, hnh]
          have hix : (W.go (alg al) (dds P) v').ix v' = W.ix v' := by rw [hgo]; show upd W.ix v' (if r.over = true then W.ix v' + 1 else W.ix v') v' = W.ix v'; rw [upd_same, hov]; rfl
          rw [hhs, hix]
          exact ⟨g1, g2⟩
    · rw [upd_other _ _ e]
      have H := h.ho v' hv'
      have hne : ∀ g, (hs v' 2).ownBlock = some g → (hs v 2).ownBlock ≠ some g := fun g hg => h.apt v' v hv' hv e g hg
      have hbg : (W.go (alg al) (dds P) v).bg v' = W.bg v' := by rw [hgo]; exact upd_other _ _ e
      have hhs : (W.go (alg al) (dds P) v).hs v' = W.hs v' := by rw [hgo]; exact upd_other _ _ e
      have hix : (W.go (alg al) (dds P) v).ix v' = W.ix v' := by rw [hgo]; exact upd_other _ _ e
      refine ⟨?_, H.way, by rw [H.head, had 0 hpos], fun hn => H.idle (by rw [← hbg]; exact hn), fun b' hb' => ?_⟩
      · rw [DL_other (alg al) e]
        obtain ⟨A, c, a1, a2, a3⟩ := H.jv.deeds
        exact ⟨H.jv.who, H.jv.le, ⟨A, c, a1, a2.low0 a3 hq.bl, a3⟩, H.jv.done.keepQ hq hne⟩
      · rw [hbg] at hb'
        rw [hhs, hix]
        obtain ⟨g1, g2⟩ := H.at_ b' hb'
        refine ⟨g1.keepQ hq, fun h0 => ?_⟩
        have hp := (hok v' (h.blt v' b' hb')).1.pc h0
        rw [had _ hp.1, had _ hp.2]
        exact g2 h0
  · by_cases e1 : v1 = v
    · have e2 : v2 ≠ v := fun e => hne (by rw [e1, e])
      rw [e1, upd_same] at hg1
      rw [upd_other _ _ e2] at hg2
      rcases hrow g hg1 with hr | hr
      · exact h.apt v v2 hv h2 (fun e => e2 e.symm) g hr hg2
      · have := hlow v2 h2 g hg2; omega
    · rw [upd_other _ _ e1] at hg1
      by_cases e2 : v2 = v
      · rw [e2, upd_same] at hg2
        rcases hrow g hg2 with hr | hr
        · exact h.apt v1 v h1 hv e1 g hg1 hr
        · have := hlow v1 h1 g hg1; omega
      · rw [upd_other _ _ e2] at hg2
        exact h.apt v1 v2 h1 h2 hne g hg1 hg2
  · rw [hgo] at hb' ⊢
    show upd W.ix v (if r.over = true then W.ix v + 1 else W.ix v) v' < _
    have hb'' : upd W.bg v (if r.over = true then none else some b) v' = some b' := hb'
    by_cases e : v' = v
    · subst e
      rw [upd_same] at hb'' ⊢
      cases hov : r.over with
      | true => rw [hov] at hb''; cases hb''
      | false => rw [if_neg (by decide)]; exact hi
    · rw [upd_other _ _ e] at hb'' ⊢
      exact h.blt v' b' hb''
theorem gstep_any {v : Nat} (h : GS al base B nh P W ad hs w) (hok : Okay al P W) (hv : v < nh) (hi : W.ix v < (P v).length) :
    Calls Try.prog 36 #[.pointer (some ⟨B, v * 9, none⟩), I W.now] w fun e w' => e = .returned (.tuple #[]) ∧ ∃ ad' hs', GS al base B nh P (W.go (alg al) (dds P) v) ad' hs' w' ∧ JR base w w' ∧ ad' 0 = ad 0 := by
  have H := h.ho v hv
  obtain ⟨hJ, hidle⟩ := hok v hi
  have hal := hJ.is_al
  have hjs : JS base B nh ad W.s W.lk (upd hs v (hs v)) w := by rw [upd_self]; exact h.js
  have hjv := H.jv
  unfold DL at hjv
  have hd := dds_at (P := P) hi
  have hlen : ((List.range (W.ix v)).map (tolD W v)).length = W.ix v := by simp
  cases hbg : W.bg v with
  | none =>
    rw [hbg] at hjv
    simp only [List.append_nil] at hjv
    have hhd := hidle hbg
    have hidx : ((List.range (W.ix v)).map (tolD W v)).length < (P v).length := by rw [hlen]; exact hi
    have hJ' := hJ
    rw [hhd] at hJ'
    have hE : (P v)[((List.range (W.ix v)).map (tolD W v)).length] = dds P v (W.ix v) := by rw [hd]; congr 1
    have := step_new_go (now := W.now) hjs hv hidx hjv (H.idle hbg) H.way H.head (by rw [hE]; exact hJ') (alg_first hal _ _ _ _)
    rw [hE, hlen] at this
    refine this.mono fun e w' hr => h.step hok hv hi (b := W.now) (by rw [hbg]; rfl) ?_
    rw [hhd]
    exact hr
  | some b =>
    rw [hbg] at hjv
    obtain ⟨g1, g2⟩ := H.at_ b hbg
    have hE : ((P v)[W.ix v]?).getD (0, 0) = (P v)[W.ix v] := hd
    rw [hE] at g1
    rw [hd] at hJ
    cases hov : ((alg al).step W.s W.lk (W.hs v) (P v)[W.ix v].1 (P v)[W.ix v].2).over with
    | false =>
      refine (step_on_go (now := W.now) hjs hv hi hlen hjv g1 H.way H.head g2 hJ hov).mono fun e w' hr => h.step hok hv hi (b := b) (by rw [hbg]; rfl) ?_
      rw [hd]
      exact hr
    | true =>
      refine (step_on_over (now := W.now) hjs hv hi hlen hjv g1 H.way H.head g2 hJ hov).mono fun e w' hr => h.step hok hv hi (b := b) (by rw [hbg]; rfl) ?_
      rw [hd]
      exact hr
end

end Go.Proofs.Ytfmdpmebllepeaa
