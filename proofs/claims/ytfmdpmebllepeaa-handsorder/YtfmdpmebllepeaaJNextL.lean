/-
  package hands: looked at twice: one step.
-/
import Derived.Test.YtfmdpmebllepeaaJRetC
import Derived.Test.YtfmdpmebllepeaaJCL
namespace Go.Proofs.Ytfmdpmebllepeaa
open Go.RowKit

section
variable {base B nh v : Nat} {kd K : Int} {ad : Nat → Nat} {s : Bs} {lk : Nat → Bool} {hs : Nat → Nat → Value} {hm : Nat → Value} {w : World} {q : Hd}
theorem next_lazy {g : Prop} (h : ST base B nh v kd K ad s lk hs hm w) (hn : NXL w (.pointer (some ⟨B, v * 9, none⟩)) q.at_ (hm 7)) (h3 : hm 3 = fWay 2) (h4 : hm 4 = jp (ad 0)) (hpc : q.at_ ≠ 0 → hm 5 = jp (ad q.p) ∧ hm 6 = jp (ad q.c)) (hc : Cor s) (hk : LI s q kd K g) (hd : Dee kd K) (hlk : lk s.sz = false) :
    ∃ k caps, hm 7 = .func (.func k) #[] caps ∧ Calls Try.prog k caps w (RetC base B nh v kd K ad s.sz hs hm 2 (lazyS s lk q kd K) w) := by
  obtain ⟨hb, wb, lb, ob, ub, he, hf⟩ := hn
  have hle := hk.le
  rcases (show q.at_ = 0 ∨ (q.at_ = 1 ∨ q.at_ = 2) ∨ q.at_ = 3 ∨ q.at_ = 4 ∨ q.at_ = 5 by omega) with h0 | h0 | h0 | h0 | h0
  · have hf' : hm 7 = fL1 hb wb := by rw [hf, if_pos h0]
    refine ⟨_, _, hf', ?_⟩
    refine (cL1 h he h4 hc.pos hc.hd.symm).mono fun e w' hr => ?_
    have e1 : lazyS s lk q kd K = ⟨s, lk, ⟨1, 0, s.nx 0, q.is_⟩, .none, false⟩ := by unfold lazyS; rw [if_pos h0]
    rw [e1]
    exact retC_567 hr (NX.of2 ⟨hb, wb, lb, ob, ub, he.keep hr.2.2, rfl⟩) rfl rfl
  · obtain ⟨h5, h6⟩ := hpc (by omega)
    obtain ⟨p1, p2, p3⟩ := hk.pc (by omega)
    have hf' : hm 7 = fL2 hb lb := by rw [hf, if_neg (by omega), if_pos (by omega)]
    refine ⟨_, _, hf', ?_⟩
    by_cases c1 : s.key q.c < K
    · have h01 : q.at_ = 1 := by
        rcases h0 with h0 | h0
        · exact h0
        · have := (hk.two (by omega)).1; omega
      refine (cL2_lt h he h6 p2 (key_tl hc hd.1 (.inl c1)) c1).mono fun e w' hr => ?_
      have e1 : lazyS s lk q kd K = ⟨s, lk, ⟨1, q.c, s.nx q.c, q.is_⟩, .none, false⟩ := by unfold lazyS; rw [if_neg (by omega), if_pos h01, if_pos c1]
      rw [e1]
      exact retC_56 hr (NX.of2 ⟨hb, wb, lb, ob, ub, he.keep hr.2.2, hf'⟩) rfl rfl
    · by_cases c2 : kd = 3
      · have h01 : q.at_ = 1 := by
          rcases h0 with h0 | h0
          · exact h0
          · exact absurd c2 (hk.two (by omega)).2
        subst c2
        refine (cL2_has h he h6 p2 c1).mono fun e w' hr => ?_
        have e1 : lazyS s lk q 3 K = ⟨s, lk, ⟨1, q.p, q.c, decide (s.key q.c = K) && !s.mrk q.c⟩, .none, true⟩ := by unfold lazyS; rw [if_neg (by omega), if_pos h01, if_neg c1, if_pos rfl]
        rw [e1]
        exact retC_over hr rfl fun _ _ => rfl
      · cases hl : lk q.p with
        | false =>
          refine (cL2_take_t h he h5 h6 p1 p2 c1 c2 hl).mono fun e w' hr => ?_
          have e1 : lazyS s lk q kd K = ⟨s, upd lk q.p true, ⟨3, q.p, q.c, q.is_⟩, .none, false⟩ := by
            unfold lazyS
            rw [if_neg (by omega)]
            rcases h0 with h0 | h0
            · rw [if_pos h0, if_neg c1, if_neg c2, if_pos hl]
            · rw [if_neg (by omega), if_pos h0, if_pos hl]
          rw [e1]
          exact retC_7 hr (NX.of2 ⟨hb, wb, lb, ob, ub, he.keep hr.2.2, rfl⟩) (fun _ => ⟨h5, h6⟩)
        | true =>
          refine (cL2_take_f h he h5 h6 p1 p2 c1 c2 hl).mono fun e w' hr => ?_
          have hne : ¬ lk q.p = false := by rw [hl]; decide
          rcases h0 with h0 | h0
          · have e1 : lazyS s lk q kd K = ⟨s, lk, ⟨2, q.p, q.c, q.is_⟩, .none, false⟩ := by unfold lazyS; rw [if_neg (by omega), if_pos h0, if_neg c1, if_neg c2, if_neg hne]
            rw [e1]
            exact retC_same hr (NX.of2 ⟨hb, wb, lb, ob, ub, he.keep hr.2.2, hf'⟩) (fun _ => ⟨h5, h6⟩)
          · have e1 : lazyS s lk q kd K = ⟨s, lk, q, .none, false⟩ := by unfold lazyS; rw [if_neg (by omega), if_neg (by omega), if_pos h0, if_neg hne]
            rw [e1]
            exact retC_same hr (NX.of2 ⟨hb, wb, lb, ob, ub, he.keep hr.2.2, hf⟩) hpc
  · obtain ⟨h5, h6⟩ := hpc (by omega)
    obtain ⟨p1, p2, p3⟩ := hk.pc (by omega)
    have hf' : hm 7 = fL3 hb ob := by rw [hf, if_neg (by omega), if_neg (by omega), if_pos h0]
    refine ⟨_, _, hf', ?_⟩
    cases hl : lk q.c with
    | false =>
      refine (cL3_t h he h6 p2 hl).mono fun e w' hr => ?_
      have e1 : lazyS s lk q kd K = ⟨s, upd lk q.c true, ⟨4, q.p, q.c, q.is_⟩, .none, false⟩ := by unfold lazyS; rw [if_neg (by omega), if_neg (by omega), if_neg (by omega), if_pos h0, if_pos hl]
      rw [e1]
      exact retC_7 hr (NX.of2 ⟨hb, wb, lb, ob, ub, he.keep hr.2.2, rfl⟩) (fun _ => ⟨h5, h6⟩)
    | true =>
      refine (cL3_f h he h6 p2 hl).mono fun e w' hr => ?_
      have e1 : lazyS s lk q kd K = ⟨s, lk, q, .none, false⟩ := by unfold lazyS; rw [if_neg (by omega), if_neg (by omega), if_neg (by omega), if_pos h0, if_neg (by rw [hl]; decide)]
      rw [e1]
      exact retC_same hr (NX.of2 ⟨hb, wb, lb, ob, ub, he.keep hr.2.2, hf⟩) hpc
  · obtain ⟨h5, h6⟩ := hpc (by omega)
    obtain ⟨p1, p2, p3⟩ := hk.pc (by omega)
    obtain ⟨k1, k2⟩ := hk.two (by omega)
    have hpt : q.p ≠ s.tl := key_tl hc hd.1 (.inl p3)
    have hnp := hc.nlt _ p1 hpt
    have hf' : hm 7 = fL4 hb ub := by rw [hf, if_neg (by omega), if_neg (by omega), if_neg (by omega), if_pos h0]
    refine ⟨_, _, hf', ?_⟩
    have e0 : lazyS s lk q kd K = if s.mrk q.p = true ∨ s.mrk q.c = true ∨ s.nx q.p ≠ q.c then ⟨s, fre lk q, ⟨0, q.p, q.c, q.is_⟩, .none, false⟩
     else if kd = 2 then
       (if s.key q.c = K then ⟨s.mark q.c, lk, ⟨5, q.p, q.c, true⟩, .del K, false⟩ else ⟨s, fre lk q, ⟨4, q.p, q.c, false⟩, .none, true⟩)
     else (if s.key q.c = K then ⟨s, fre lk q, ⟨4, q.p, q.c, false⟩, .none, true⟩ else ⟨s.ins q.p K, fre lk q, ⟨4, q.p, q.c, true⟩, .add K, true⟩) := by
      unfold lazyS; rw [if_neg (by omega), if_neg (by omega), if_neg (by omega), if_neg (by omega), if_pos h0]
    cases c1 : s.mrk q.p with
    | true =>
      refine (cL4_bad1 h he h5 h6 p1 p2 h3 c1).mono fun e w' hr => ?_
      rw [e0, if_pos (.inl c1)]
      exact retC_begin hr rfl
    | false =>
      by_cases c2 : s.nx q.p = q.c
      · cases c3 : s.mrk q.c with
        | true =>
          refine (cL4_bad3 h he h5 h6 p1 p2 h3 hpt hnp c1 (decide_eq_true c2) c3).mono fun e w' hr => ?_
          rw [e0, if_pos (.inr (.inl c3))]
          exact retC_begin hr rfl
        | false =>
          rw [e0, if_neg (by rw [c1, c3]; simp [c2])]
          by_cases c4 : s.key q.c = K
          · rcases hd.2 with rfl | rfl | rfl
            · refine (cL4_no1 h he h5 h6 p1 p2 hpt hnp c1 (decide_eq_true c2) c3 (decide_eq_true c4)).mono fun e w' hr => ?_
              rw [if_neg (by decide), if_pos c4]
              exact retC_over hr rfl fun _ _ => rfl
            · refine (cL4_cut h he h5 h6 p1 p2 hpt hnp c1 (decide_eq_true c2) c3 (decide_eq_true c4)).mono fun e w' hr => ?_
              rw [if_pos rfl, if_pos c4]
              exact retC_7 hr (NX.of2 ⟨hb, wb, lb, ob, ub, he.keep hr.2.2, rfl⟩) (fun _ => ⟨h5, h6⟩)
            · exact absurd rfl k2
          · rcases hd.2 with rfl | rfl | rfl
            · refine (cL4_add h he h5 h6 p1 p2 hpt hnp c1 (decide_eq_true c2) c3 (decide_eq_false c4) hc.tlt hc.nlt hlk).mono fun e w' hr => ?_
              obtain ⟨g, hr⟩ := hr
              rw [if_neg (by decide), if_neg c4, ← insc_ins c2]
              exact retC_over hr rfl upd_ad
            · refine (cL4_no2 h he h5 h6 p1 p2 hpt hnp c1 (decide_eq_true c2) c3 (decide_eq_false c4)).mono fun e w' hr => ?_
              rw [if_pos rfl, if_neg c4]
              exact retC_over hr rfl fun _ _ => rfl
            · exact absurd rfl k2
      · refine (cL4_bad2 h he h5 h6 p1 p2 h3 hpt hnp c1 (decide_eq_false c2)).mono fun e w' hr => ?_
        rw [e0, if_pos (.inr (.inr c2))]
        exact retC_begin hr rfl
  · obtain ⟨h5, h6⟩ := hpc (by omega)
    obtain ⟨p1, p2, p3⟩ := hk.pc (by omega)
    obtain ⟨k1, k2, k3, k4, k5, k6⟩ := hk.five h0
    have hpt : q.p ≠ s.tl := key_tl hc hd.1 (.inl p3)
    have hf' : hm 7 = fL5 hb := by rw [hf, if_neg (by omega), if_neg (by omega), if_neg (by omega), if_neg (by omega)]
    refine ⟨_, _, hf', ?_⟩
    refine (cL5 h he h5 h6 p1 p2 hpt (key_tl hc hd.1 (.inr k2))).mono fun e w' hr => ?_
    rw [lazyS_pend h0]
    exact retC_over hr k6 fun _ _ => rfl
end

end Go.Proofs.Ytfmdpmebllepeaa
