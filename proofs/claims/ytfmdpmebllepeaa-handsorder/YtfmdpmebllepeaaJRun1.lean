/-
  package hands: hasDeeds, and the function of run that gives a hand its step.
-/
import Derived.Test.YtfmdpmebllepeaaJGo
namespace Go.Proofs.Ytfmdpmebllepeaa
open Go.RowKit

/-- a variable that holds a number -/
def IBox (w : World) (g : Nat) (x : Int) : Prop := w.heap[g]? = some (.cells #[I x] 3 (0, 0))
theorem IBox.cell {w : World} {g : Nat} {x : Int} (h : IBox w g x) : w.cell? ⟨g, 0, none⟩ = some (I x) := by rw [jcell h]; rfl
theorem IBox.lt {w : World} {g : Nat} {x : Int} (h : IBox w g x) : g < w.heap.size := jblk h
theorem IBox.keepR {base : Nat} {w w' : World} {g : Nat} {x : Int} (h : IBox w g x) (hr : JR base w w') : IBox w' g x := hr.kp g _ _ _ h (by decide) (by decide) (by decide)
theorem IBox.set {w : World} {g : Nat} {x : Int} (h : IBox w g x) (y : Int) : IBox (w.setCell ⟨g, 0, none⟩ (I y)) g y := by unfold IBox; rw [jset_at h]; rfl
theorem IBox.far {w : World} {g : Nat} {x : Int} (h : IBox w g x) {p : Addr} (hp : g ≠ p.block) (u : Value) : IBox (w.setCell p u) g x := (Below.heap_setCell _ _ _ _ hp).trans h
/-- the number in a variable -/
def nowOf (w : World) (g : Nat) : Nat := match w.cell? ⟨g, 0, none⟩ with | some (.int _ n) => n.toNat | _ => 0
theorem IBox.now {w : World} {g : Nat} {x : Int} (h : IBox w g x) : nowOf w g = x.toNat := by unfold nowOf; rw [h.cell]
theorem NX.keepB {al : Nat} {w w' : World} {P : Value} {at_ : Nat} {kd : Int} {f : Value} (h : NX al w P at_ kd f)
    (hk : ∀ (g : Nat) (cs : Array Value) (t : Nat) (f : Nat × Nat), w.heap[g]? = some (Obj.cells cs t f) → (t = 1 ∨ t = 75) → w'.heap[g]? = some (Obj.cells cs t f)) : NX al w' P at_ kd f := by
  have hH : ∀ {g x}, HBox w g x → HBox w' g x := fun h => hk _ _ _ _ h (.inr rfl)
  have hF : ∀ {g x}, FBox w g x → FBox w' g x := fun h => hk _ _ _ _ h (.inl rfl)
  refine ⟨fun e => ?_, fun e => ?_, fun e => ?_, fun e => ?_⟩
  · obtain ⟨hb, lb, ob, a, b⟩ := h.1 e; exact ⟨hb, lb, ob, ⟨hH a.h, hF a.l, hF a.o⟩, b⟩
  · obtain ⟨hb, wb, lb, ob, ub, a, b⟩ := h.2.1 e; exact ⟨hb, wb, lb, ob, ub, ⟨hH a.h, hF a.k, hF a.l, hF a.o, hF a.u⟩, b⟩
  · obtain ⟨gb, ub, hb, ab, cb, lb, a, b⟩ := h.2.2.1 e; exact ⟨gb, ub, hb, ab, cb, lb, ⟨hH a.g, hF a.u, ⟨hH a.e.h, hF a.e.a, hF a.e.c, hF a.e.l⟩⟩, b⟩
  · obtain ⟨gb, hb, ab, cb, lb, a, b⟩ := h.2.2.2 e; exact ⟨gb, hb, ab, cb, lb, ⟨hH a.g, ⟨hH a.e.h, hF a.e.a, hF a.e.c, hF a.e.l⟩⟩, b⟩
section
variable {al base B nh : Nat} {P : Nat → PL} {W : Wd} {ad : Nat → Nat} {hs : Nat → Nat → Value} {w : World}
/-- what is not theirs is changed -/
theorem GS.keep {w' : World} (h : GS al base B nh P W ad hs w) (hb : Below base w w')
    (hk : ∀ (g : Nat) (cs : Array Value) (t : Nat) (f : Nat × Nat), w.heap[g]? = some (Obj.cells cs t f) → t ≠ 3 → t ≠ 26 → w'.heap[g]? = some (Obj.cells cs t f)) : GS al base B nh P W ad hs w' := by
  refine ⟨⟨h.js.l.keep fun i hi => ?_, h.js.h.keep ?_, h.js.ge⟩, fun v hv => ?_, h.apt, h.blt⟩
  · have := h.js.l.bd i hi
    unfold JBead at this
    rw [this]
    exact hk _ _ _ _ this (by decide) (by decide)
  · obtain ⟨C, h1, _⟩ := h.js.h
    rw [h1]
    exact hk _ _ _ _ h1 (by decide) (by decide)
  · have H := h.ho v hv
    refine ⟨?_, H.way, H.head, H.idle, fun b hb' => ⟨(H.at_ b hb').1.keepB fun g cs t f a t1 => hk g cs t f a (by rcases t1 with e | e <;> rw [e] <;> decide) (by rcases t1 with e | e <;> rw [e] <;> decide), (H.at_ b hb').2⟩⟩
    obtain ⟨A, c, a1, a2, a3⟩ := H.jv.deeds
    exact ⟨H.jv.who, H.jv.le, ⟨A, c, a1, a2.low0 a3 hb, a3⟩, H.jv.done.keep fun g hg => by
      obtain ⟨cs, h1, _⟩ := H.jv.done.blk hg
      rw [h1]
      exact hk _ _ _ _ h1 (by decide) (by decide)⟩
theorem GS.iset (h : GS al base B nh P W ad hs w) {g : Nat} {x : Int} (hg : IBox w g x) (hb : base ≤ g) (u : Value) : GS al base B nh P W ad hs (w.setCell ⟨g, 0, none⟩ u) :=
  h.keep ((Below.refl _ _).setCell (p := ⟨g, 0, none⟩) hb u) fun g' cs t f a b _ => by
    rw [Below.heap_setCell _ _ _ _ (fun e => by
      have hg' : w.heap[g]? = _ := hg
      rw [show g' = g from e, hg'] at a
      injection a with a
      injection a with _ a
      exact b a.symm)]
    exact a
theorem DL_len (v : Nat) (h : W.bg v = none) : (DL W v).length = W.ix v := by unfold DL; rw [h]; simp
set_option maxRecDepth 100000 in
set_option maxHeartbeats 4000000 in
theorem hasDeeds_any {v : Nat} (h : GS al base B nh P W ad hs w) (hal : al = 1 ∨ al = 2 ∨ al = 3 ∨ al = 4) (hv : v < nh) {b : Bool} (hb : decide (W.ix v < (P v).length) = b) :
    Calls Try.prog 35 #[.pointer (some ⟨B, v * 9, none⟩)] w fun e w' => e = .returned (.bool b) ∧ ∃ m, w' = w.drewN m := by
  have H := h.ho v hv
  have c7 := h.js.h.cell hv (i := 7) (by omega)
  cases hbg : W.bg v with
  | some b0 =>
    have hlt := h.blt v b0 hbg
    obtain rfl : b = true := by rw [← hb]; simpa using hlt
    obtain ⟨k, caps, e7, -⟩ := (H.at_ b0 hbg).1.func hal
    rw [e7] at c7
    have hq : ∀ w : World, (binOp .neq 1 (.func (.func k) #[] caps) .nilFunc).run Try.prog w = .ok (.bool true) w := fun _ => by kernel_rfl
    clear h H hbg hlt e7 hb
    go_enter Try.func35, Try.ntmps35
    go_wp2
    go_quiet (fail)
    go_wp2
    go_ret
    exact ⟨by first | rfl | simp, _, rfl⟩
  | none =>
    rw [H.idle hbg] at c7
    have c1 := h.js.h.cell hv (i := 1) (by omega)
    have c2 := h.js.h.cell hv (i := 2) (by omega)
    obtain ⟨A, c, e1, -, -⟩ := H.jv.deeds
    obtain ⟨DA, dc, e2, -⟩ := H.jv.done.is_
    rw [e1] at c1
    rw [e2, DL_len v hbg] at c2
    have hq : ∀ w : World, (binOp .neq 1 .nilFunc .nilFunc).run Try.prog w = .ok (.bool false) w := fun _ => by kernel_rfl
    generalize W.ix v = m at *
    generalize (P v).length = n at *
    subst hb
    clear h H hbg e1 e2
    go_enter Try.func35, Try.ntmps35
    go_wp2
    go_quiet (fail)
    go_wp2
    go_ret
    exact ⟨by first | rfl | simp, _, rfl⟩

/-- where the answer will stand -/
def TBk (w : World) (g : Nat) : Prop := w.heap[g]? = some (.cells #[.slice none 0 0, .slice none 0 0] 26 (0, 0))
/-- all of run's state -/
structure JRS (al base B nh : Nat) (P : Nat → PL) (z sb mb tb : Nat) (W : Wd) (w : World) : Prop where
  gs : ∃ ad hs, GS al base B nh P W ad hs w ∧ ad 0 = z
  st : IBox w sb W.now
  mo : IBox w mb 4000
  ge : base ≤ sb
  ne : mb ≠ sb
  le : W.now ≤ 4000
  tk : TBk w tb
theorem JRS.drewN {z sb mb tb : Nat} (h : JRS al base B nh P z sb mb tb W w) (n : Nat) : JRS al base B nh P z sb mb tb W (w.drewN n) := by
  obtain ⟨ad, hs, hg, h0⟩ := h.gs
  exact ⟨⟨ad, hs, hg.keep (below_drewN (Below.refl _ _) n) (fun _ _ _ _ a _ _ => a), h0⟩, h.st, h.mo, h.ge, h.ne, h.le, h.tk⟩
/-- a step, where there may be one -/
def Wd.may (A : Alg) (P : Nat → PL) (W : Wd) (v : Nat) : Wd := if W.now < 4000 ∧ W.ix v < (P v).length then W.go A (dds P) v else W
set_option maxRecDepth 100000 in
set_option maxHeartbeats 4000000 in
theorem give_any {v z sb mb tb : Nat} (h : JRS al base B nh P z sb mb tb W w) (hok : Okay al P W) (hal : al = 1 ∨ al = 2 ∨ al = 3 ∨ al = 4) (hv : v < nh) {b : Bool} (hb : (decide (W.now < 4000) && decide (W.ix v < (P v).length)) = b) :
    Calls Try.prog 34 #[.pointer (some ⟨B, v * 9, none⟩), jp sb, jp mb] w fun e w' => e = .returned (.bool b) ∧ JRS al base B nh P z sb mb tb (W.may (alg al) P v) w' ∧ Below base w w' := by
  have H := Lib.hid h
  have cs := h.st.cell
  have cm := h.mo.cell
  by_cases h4 : W.now < 4000
  · by_cases hi : W.ix v < (P v).length
    · obtain rfl : b = true := by rw [← hb]; simp [h4, hi]
      obtain ⟨ad, hs, hg, h0⟩ := h.gs
      have HD : Hid (Calls Try.prog 35 #[.pointer (some ⟨B, v * 9, none⟩)] w fun e w' => e = .returned (.bool true) ∧ ∃ m, w' = w.drewN m) := hasDeeds_any hg hal hv (by simpa using hi)
      have HS : Hid (∀ m, Calls Try.prog 36 #[.pointer (some ⟨B, v * 9, none⟩), I W.now] (w.drewN m) fun e w' => e = .returned (.tuple #[]) ∧ ∃ ad' hs', GS al base B nh P (W.go (alg al) (dds P) v) ad' hs' w' ∧ JR base (w.drewN m) w' ∧ ad' 0 = ad 0) := fun m => gstep_any (hg.keep (below_drewN (Below.refl _ _) m) (fun _ _ _ _ a _ _ => a)) hok hv hi
      have HM : Hid (W.may (alg al) P v = W.go (alg al) (dds P) v) := by show _ = _; unfold Wd.may; rw [if_pos ⟨h4, hi⟩]
      obtain ⟨n, hn⟩ : ∃ n, W.now = n := ⟨_, rfl⟩
      have HN := Lib.hid hn
      have H0 := Lib.hid h0
      rw [hn] at cs HS h4
      have hne : ¬ (n : Int) = 4000 := by omega
      have hw1 : IntKind.i64.wrap ((n : Int) + 1) = (n : Int) + 1 := IntWalk.i64_in _ (by omega)
      clear h hg h0 hok hn hi hb
      go_enter Try.func34, Try.ntmps34
      go_wp2_with fail
      refine HD.out.mono ?_
      rintro e w1 ⟨rfl, m, rfl⟩
      go_wp2_with fail
      refine (HS.out _).mono ?_
      rintro e w2 ⟨rfl, ad', hs', hg2, hr2, h02⟩
      have hst2 : IBox w2 sb n := by have := H.out.st; rw [HN.out] at this; exact IBox.keepR (w := w.drewN m) this hr2
      have cs2 := hst2.cell
      have fs2 := jfroz (i := 0) hst2
      have HST2 := Lib.hid hst2
      have HMO2 : Hid (IBox w2 mb 4000) := IBox.keepR (w := w.drewN m) H.out.mo hr2
      have HTK2 : Hid (TBk w2 tb) := hr2.kp _ _ _ _ (show (w.drewN m).heap[tb]? = _ from H.out.tk) (by decide) (by decide) (by decide)
      have HG2 := Lib.hid hg2
      have HR2 := Lib.hid hr2
      have H02 := Lib.hid h02
      clear hg2 hr2 h02 hst2
      go_wp2
      go_ret
      refine ⟨rfl, ?_, ?_⟩
      · rw [HM.out]
        have hnw : (W.go (alg al) (dds P) v).now = n + 1 := by show W.now + 1 = n + 1; rw [HN.out]
        refine ⟨⟨ad', hs', HG2.out.iset HST2.out H.out.ge _, H02.out.trans H0.out⟩, ?_, HMO2.out.far H.out.ne _, H.out.ge, H.out.ne, by rw [hnw]; omega, ?_⟩
        · rw [hnw]
          have := HST2.out.set ((n : Int) + 1)
          simpa using this
        · have ht := HTK2.out
          unfold TBk at ht ⊢
          rw [Below.heap_setCell _ _ _ _ (fun e => by
            have hs := HST2.out
            unfold IBox at hs
            rw [show tb = sb from e, hs] at ht
            injection ht with ht
            injection ht with _ ht
            exact absurd ht (by decide))]
          exact ht
      · exact (Below.trans (below_drewN (Below.refl _ _) m) HR2.out.bl).setCell (p := ⟨sb, 0, none⟩) H.out.ge _
    · obtain rfl : b = false := by rw [← hb]; simp [hi]
      obtain ⟨ad, hs, hg, h0⟩ := h.gs
      have HD : Hid (Calls Try.prog 35 #[.pointer (some ⟨B, v * 9, none⟩)] w fun e w' => e = .returned (.bool false) ∧ ∃ m, w' = w.drewN m) := hasDeeds_any hg hal hv (by simpa using hi)
      have HM : Hid (W.may (alg al) P v = W) := by show _ = _; unfold Wd.may; rw [if_neg (fun e => hi e.2)]
      obtain ⟨n, hn⟩ : ∃ n, W.now = n := ⟨_, rfl⟩
      rw [hn] at cs h4
      have hne : ¬ (n : Int) = 4000 := by omega
      clear h hg h0 hok hn hi hb
      go_enter Try.func34, Try.ntmps34
      go_wp2_with fail
      refine HD.out.mono ?_
      rintro e w1 ⟨rfl, m, rfl⟩
      go_wp2
      go_ret
      exact ⟨rfl, by rw [HM.out]; exact H.out.drewN _, below_drewN (Below.refl _ _) _⟩
  · obtain rfl : b = false := by rw [← hb]; simp [h4]
    have hn : W.now = 4000 := by have := h.le; omega
    have HM : Hid (W.may (alg al) P v = W) := by show _ = _; unfold Wd.may; rw [if_neg (fun e => h4 e.1)]
    rw [hn] at cs
    clear h hok hn h4 hb
    go_enter Try.func34, Try.ntmps34
    go_wp2
    go_ret
    exact ⟨rfl, by rw [HM.out]; exact H.out, Below.refl _ _⟩
end

end Go.Proofs.Ytfmdpmebllepeaa
