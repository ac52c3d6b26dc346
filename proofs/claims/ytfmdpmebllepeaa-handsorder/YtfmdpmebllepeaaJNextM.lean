/-
  package hands: those that mark, those that are naive: one step.
-/
import Derived.Test.YtfmdpmebllepeaaJRetC
import Derived.Test.YtfmdpmebllepeaaJCM
import Derived.Test.YtfmdpmebllepeaaJCW
namespace Go.Proofs.Ytfmdpmebllepeaa
open Go.RowKit

section
variable {base B nh v : Nat} {kd K : Int} {ad : Nat → Nat} {s : Bs} {lk : Nat → Bool} {hs : Nat → Nat → Value} {hm : Nat → Value} {w : World} {q : Hd}
theorem next_mark {g : Prop} (h : ST base B nh v kd K ad s lk hs hm w) (hn : NXM w (.pointer (some ⟨B, v * 9, none⟩)) q.at_ kd (hm 7)) (h3 : hm 3 = fWay 3) (h4 : hm 4 = jp (ad 0)) (hpc : q.at_ ≠ 0 → hm 5 = jp (ad q.p) ∧ hm 6 = jp (ad q.c)) (hc : Cor s) (hk : MI s q kd K g) (hd : Dee kd K) (hlk : lk s.sz = false) :
    ∃ k caps, hm 7 = .func (.func k) #[] caps ∧ Calls Try.prog k caps w (RetC base B nh v kd K ad s.sz hs hm 3 (aMark.step s lk q kd K) w) := by
  show ∃ k caps, hm 7 = .func (.func k) #[] caps ∧ Calls Try.prog k caps w (RetC base B nh v kd K ad s.sz hs hm 3 ⟨(markS s q kd K).s, lk, (markS s q kd K).h, (markS s q kd K).e, (markS s q kd K).over⟩ w)
  obtain ⟨gb, ub, hb, ab, cb, lb, he, hf⟩ := hn
  have hle := hk.le
  rcases (show q.at_ = 0 ∨ q.at_ = 1 ∨ q.at_ = 2 ∨ q.at_ = 3 by omega) with h0 | h0 | h0 | h0
  · have hf' : hm 7 = fW2 hb lb := by rw [hf, if_pos h0]
    refine ⟨_, _, hf', ?_⟩
    refine (cW2 h he.e h4 hc.pos hc.hd.symm).mono fun e w' hr => ?_
    have e1 : markS s q kd K = ⟨s, ⟨1, 0, s.nx 0, q.is_⟩, .none, false⟩ := by unfold markS; rw [if_pos h0]
    rw [e1]
    exact retC_567 hr (NX.of3 ⟨gb, ub, hb, ab, cb, lb, he.keep hr.2.2, rfl⟩) rfl rfl
  · obtain ⟨h5, h6⟩ := hpc (by omega)
    obtain ⟨p1, p2, p3⟩ := hk.pc (by omega)
    have hpt : q.p ≠ s.tl := key_tl hc hd.1 (.inl p3)
    have hnp := hc.nlt _ p1 hpt
    have hf' : hm 7 = fW1 hb ab cb := by rw [hf, if_neg (by omega), if_pos h0]
    refine ⟨_, _, hf', ?_⟩
    have e0 : markS s q kd K = if s.mrk q.c = true ∧ kd ≠ 3 then (if clean s q then ⟨s.cut q.p q.c, ⟨1, q.p, s.nx q.c, q.is_⟩, .none, false⟩ else ⟨s, ⟨0, q.p, q.c, q.is_⟩, .none, false⟩)
     else if s.key q.c < K then ⟨s, ⟨1, q.c, s.nx q.c, q.is_⟩, .none, false⟩
     else if kd = 3 then ⟨s, ⟨1, q.p, q.c, decide (s.key q.c = K) && !s.mrk q.c⟩, .none, true⟩
     else if (kd = 1 ∧ s.key q.c = K) ∨ (kd = 2 ∧ s.key q.c ≠ K) then ⟨s, ⟨1, q.p, q.c, false⟩, .none, true⟩
     else ⟨s, ⟨2, q.p, q.c, q.is_⟩, .none, false⟩ := by unfold markS; rw [if_neg (by omega), if_pos h0]
    cases c1 : s.mrk q.c with
    | true =>
      have hct : q.c ≠ s.tl := fun e => by rw [e, hc.mt] at c1; cases c1
      by_cases c2 : kd = 3
      · subst c2
        by_cases c3 : s.key q.c < K
        · refine (cW1_ltm h he.e h6 p2 c1 hct c3).mono fun e w' hr => ?_
          rw [e0, if_neg (by rw [c1]; simp), if_pos c3]
          exact retC_56 hr (NX.of3 ⟨gb, ub, hb, ab, cb, lb, he.keep hr.2.2, hf'⟩) rfl rfl
        · refine (cW1_hasm h he.e h6 p2 c1 c3).mono fun e w' hr => ?_
          rw [e0, if_neg (by rw [c1]; simp), if_neg c3, if_pos rfl]
          exact retC_over hr rfl fun _ _ => rfl
      · cases c3 : s.mrk q.p with
        | true =>
          refine (cW1_bad1 h he.e h5 h6 p1 p2 c1 c2 c3 h3).mono fun e w' hr => ?_
          rw [e0, if_pos ⟨c1, c2⟩, if_neg (fun hcl => by have := hcl.1; rw [c3] at this; cases this)]
          exact retC_begin hr rfl
        | false =>
          by_cases c4 : s.nx q.p = q.c
          · refine (cW1_ok h he.e h5 h6 p1 p2 c1 c2 hpt hnp c3 (decide_eq_true c4) hct).mono fun e w' hr => ?_
            rw [e0, if_pos ⟨c1, c2⟩, if_pos ⟨c3, c4⟩]
            exact retC_go hr (fun i hi => by rw [upd_other _ _ (by omega)]) (NX.of3 ⟨gb, ub, hb, ab, cb, lb, he.keep hr.2.2, by rw [upd_other _ _ (by omega)]; exact hf'⟩) (fun _ => ⟨by rw [upd_other _ _ (by omega)]; exact h5, by rw [upd_same]⟩)
          · refine (cW1_bad2 h he.e h5 h6 p1 p2 c1 c2 hpt hnp c3 (decide_eq_false c4) h3).mono fun e w' hr => ?_
            rw [e0, if_pos ⟨c1, c2⟩, if_neg (fun hcl => c4 hcl.2)]
            exact retC_begin hr rfl
    | false =>
      have hn1 : ¬ (s.mrk q.c = true ∧ kd ≠ 3) := by rw [c1]; simp
      rw [e0, if_neg hn1]
      by_cases c3 : s.key q.c < K
      · refine (cW1_lt h he.e h6 p2 c1 (key_tl hc hd.1 (.inl c3)) c3).mono fun e w' hr => ?_
        rw [if_pos c3]
        exact retC_56 hr (NX.of3 ⟨gb, ub, hb, ab, cb, lb, he.keep hr.2.2, hf'⟩) rfl rfl
      · rw [if_neg c3]
        by_cases c4 : s.key q.c = K
        · rcases hd.2 with rfl | rfl | rfl
          · refine (cW1_no1 h he.e h6 p2 c1 c3 (decide_eq_true c4)).mono fun e w' hr => ?_
            rw [if_neg (by decide), if_pos (.inl ⟨rfl, c4⟩)]
            exact retC_over hr rfl fun _ _ => rfl
          · refine (cW1_do2 h he.e h6 p2 c1 c3 (decide_eq_true c4)).mono fun e w' hr => ?_
            rw [if_neg (by decide), if_neg (by simp [c4])]
            exact retC_7 hr (NX.of3 ⟨gb, ub, hb, ab, cb, lb, he.keep hr.2.2, rfl⟩) (fun _ => ⟨h5, h6⟩)
          · refine (cW1_has h he.e h6 p2 c1 c3).mono fun e w' hr => ?_
            rw [if_pos rfl]
            rw [c1] at hr
            exact retC_over hr (by rw [c1]) fun _ _ => rfl
        · rcases hd.2 with rfl | rfl | rfl
          · refine (cW1_do1 h he.e h6 p2 c1 c3 (decide_eq_false c4)).mono fun e w' hr => ?_
            rw [if_neg (by decide), if_neg (by simp [c4])]
            exact retC_7 hr (NX.of3 ⟨gb, ub, hb, ab, cb, lb, he.keep hr.2.2, rfl⟩) (fun _ => ⟨h5, h6⟩)
          · refine (cW1_no2 h he.e h6 p2 c1 c3 (decide_eq_false c4)).mono fun e w' hr => ?_
            rw [if_neg (by decide), if_pos (.inr ⟨rfl, c4⟩)]
            exact retC_over hr rfl fun _ _ => rfl
          · refine (cW1_has h he.e h6 p2 c1 c3).mono fun e w' hr => ?_
            rw [if_pos rfl]
            rw [c1] at hr
            exact retC_over hr (by rw [c1]) fun _ _ => rfl
  · obtain ⟨h5, h6⟩ := hpc (by omega)
    obtain ⟨p1, p2, p3⟩ := hk.pc (by omega)
    have hpt : q.p ≠ s.tl := key_tl hc hd.1 (.inl p3)
    have hnp := hc.nlt _ p1 hpt
    have e0 : markS s q kd K = if kd = 1 ∧ clean s q then ⟨s.ins q.p K, ⟨2, q.p, q.c, true⟩, .add K, true⟩
     else if kd = 2 ∧ s.mrk q.c = false then ⟨s.mark q.c, ⟨3, q.p, q.c, true⟩, .del K, false⟩
     else ⟨s, ⟨0, q.p, q.c, q.is_⟩, .none, false⟩ := by unfold markS; rw [if_neg (by omega), if_neg (by omega), if_pos h0]
    rcases hk.two h0 with ⟨rfl, k2⟩ | ⟨rfl, k2⟩
    · have hf' : hm 7 = fM1 gb := by rw [hf, if_neg (by omega), if_neg (by omega), if_pos h0, if_pos rfl]
      refine ⟨_, _, hf', ?_⟩
      cases c3 : s.mrk q.p with
      | true =>
        refine (cM1_bad1 h he h5 h6 p1 p2 c3 h3).mono fun e w' hr => ?_
        rw [e0, if_neg (fun hcl => by have := hcl.2.1; rw [c3] at this; cases this), if_neg (by simp)]
        exact retC_begin hr rfl
      | false =>
        by_cases c4 : s.nx q.p = q.c
        · refine (cM1_ok h he h5 h6 p1 p2 hpt hnp c3 (decide_eq_true c4) hc.tlt hc.nlt hlk).mono fun e w' hr => ?_
          obtain ⟨g, hr⟩ := hr
          rw [e0, if_pos ⟨rfl, c3, c4⟩, ← insc_ins c4]
          exact retC_over hr rfl upd_ad
        · refine (cM1_bad2 h he h5 h6 p1 p2 hpt hnp c3 (decide_eq_false c4) h3).mono fun e w' hr => ?_
          rw [e0, if_neg (fun hcl => c4 hcl.2.2), if_neg (by simp)]
          exact retC_begin hr rfl
    · have hf' : hm 7 = fM3 gb ub := by rw [hf, if_neg (by omega), if_neg (by omega), if_pos h0, if_neg (by decide)]
      refine ⟨_, _, hf', ?_⟩
      cases c3 : s.mrk q.c with
      | true =>
        refine (cM3_bad h he h6 p2 c3 h3).mono fun e w' hr => ?_
        rw [e0, if_neg (by simp), if_neg (by rw [c3]; simp)]
        exact retC_begin hr rfl
      | false =>
        refine (cM3_ok h he h6 p2 c3).mono fun e w' hr => ?_
        rw [e0, if_neg (by simp), if_pos ⟨rfl, c3⟩]
        exact retC_7 hr (NX.of3 ⟨gb, ub, hb, ab, cb, lb, he.keep hr.2.2, rfl⟩) (fun _ => ⟨h5, h6⟩)
  · obtain ⟨h5, h6⟩ := hpc (by omega)
    obtain ⟨p1, p2, p3⟩ := hk.pc (by omega)
    obtain ⟨k1, k2, k3, k4⟩ := hk.three h0
    have hpt : q.p ≠ s.tl := key_tl hc hd.1 (.inl p3)
    have hnp := hc.nlt _ p1 hpt
    have hct : q.c ≠ s.tl := key_tl hc hd.1 (.inr k2)
    have hf' : hm 7 = fM2 gb := by rw [hf, if_neg (by omega), if_neg (by omega), if_neg (by omega)]
    refine ⟨_, _, hf', ?_⟩
    have e0 : markS s q kd K = if clean s q then ⟨s.cut q.p q.c, q, .none, true⟩ else ⟨s, q, .none, true⟩ := by unfold markS; rw [if_neg (by omega), if_neg (by omega), if_neg (by omega)]
    cases c3 : s.mrk q.p with
    | true =>
      refine (cM2_bad1 h he h5 h6 p1 p2 c3).mono fun e w' hr => ?_
      rw [e0, if_neg (fun hcl => by have := hcl.1; rw [c3] at this; cases this)]
      exact retC_over hr k4 fun _ _ => rfl
    | false =>
      by_cases c4 : s.nx q.p = q.c
      · refine (cM2_ok h he h5 h6 p1 p2 hpt hnp c3 (decide_eq_true c4) hct).mono fun e w' hr => ?_
        rw [e0, if_pos ⟨c3, c4⟩]
        exact retC_over hr k4 fun _ _ => rfl
      · refine (cM2_bad2 h he h5 h6 p1 p2 hpt hnp c3 (decide_eq_false c4)).mono fun e w' hr => ?_
        rw [e0, if_neg (fun hcl => c4 hcl.2)]
        exact retC_over hr k4 fun _ _ => rfl
theorem next_naive (h : ST base B nh v kd K ad s lk hs hm w) (hn : NXN w (.pointer (some ⟨B, v * 9, none⟩)) q.at_ kd (hm 7)) (h4 : hm 4 = jp (ad 0)) (hpc : q.at_ ≠ 0 → hm 5 = jp (ad q.p) ∧ hm 6 = jp (ad q.c)) (hc : NCor s) (hk : NI s q kd K) (hd : Dee kd K) (hlk : lk s.sz = false) :
    ∃ k caps, hm 7 = .func (.func k) #[] caps ∧ Calls Try.prog k caps w (RetC base B nh v kd K ad s.sz hs hm 4 (aNaive.step s lk q kd K) w) := by
  show ∃ k caps, hm 7 = .func (.func k) #[] caps ∧ Calls Try.prog k caps w (RetC base B nh v kd K ad s.sz hs hm 4 ⟨(naiveS s q kd K).s, lk, (naiveS s q kd K).h, (naiveS s q kd K).e, (naiveS s q kd K).over⟩ w)
  obtain ⟨gb, hb, ab, cb, lb, he, hf⟩ := hn
  have hle := hk.le
  rcases (show q.at_ = 0 ∨ q.at_ = 1 ∨ q.at_ = 2 by omega) with h0 | h0 | h0
  · have hf' : hm 7 = fW2 hb lb := by rw [hf, if_pos h0]
    refine ⟨_, _, hf', ?_⟩
    refine (cW2 h he.e h4 hc.pos hc.hd.symm).mono fun e w' hr => ?_
    have e1 : naiveS s q kd K = ⟨s, ⟨1, 0, s.nx 0, q.is_⟩, .none, false⟩ := by unfold naiveS; rw [if_pos h0]
    rw [e1]
    exact retC_567 hr (NX.of4 ⟨gb, hb, ab, cb, lb, he.keep hr.2.2, rfl⟩) rfl rfl
  · obtain ⟨h5, h6⟩ := hpc (by omega)
    obtain ⟨p1, p2, p3⟩ := hk.pc (by omega)
    have hf' : hm 7 = fW1 hb ab cb := by rw [hf, if_neg (by omega), if_pos h0]
    refine ⟨_, _, hf', ?_⟩
    have c1 := hc.um q.c
    have e0 : naiveS s q kd K = if s.key q.c < K then ⟨s, ⟨1, q.c, s.nx q.c, q.is_⟩, .none, false⟩
     else if kd = 3 then ⟨s, ⟨1, q.p, q.c, decide (s.key q.c = K)⟩, .none, true⟩
     else if (kd = 1 ∧ s.key q.c = K) ∨ (kd = 2 ∧ s.key q.c ≠ K) then ⟨s, ⟨1, q.p, q.c, false⟩, .none, true⟩
     else ⟨s, ⟨2, q.p, q.c, q.is_⟩, .none, false⟩ := by unfold naiveS; rw [if_neg (by omega), if_pos h0]
    rw [e0]
    by_cases c3 : s.key q.c < K
    · refine (cW1_lt h he.e h6 p2 c1 (hc.key_tl hd.1 (.inl c3)) c3).mono fun e w' hr => ?_
      rw [if_pos c3]
      exact retC_56 hr (NX.of4 ⟨gb, hb, ab, cb, lb, he.keep hr.2.2, hf'⟩) rfl rfl
    · rw [if_neg c3]
      by_cases c4 : s.key q.c = K
      · rcases hd.2 with rfl | rfl | rfl
        · refine (cW1_no1 h he.e h6 p2 c1 c3 (decide_eq_true c4)).mono fun e w' hr => ?_
          rw [if_neg (by decide), if_pos (.inl ⟨rfl, c4⟩)]
          exact retC_over hr rfl fun _ _ => rfl
        · refine (cW1_do2 h he.e h6 p2 c1 c3 (decide_eq_true c4)).mono fun e w' hr => ?_
          rw [if_neg (by decide), if_neg (by simp [c4])]
          exact retC_7 hr (NX.of4 ⟨gb, hb, ab, cb, lb, he.keep hr.2.2, rfl⟩) (fun _ => ⟨h5, h6⟩)
        · refine (cW1_has h he.e h6 p2 c1 c3).mono fun e w' hr => ?_
          rw [if_pos rfl]
          exact retC_over hr (by rw [c1]; simp) fun _ _ => rfl
      · rcases hd.2 with rfl | rfl | rfl
        · refine (cW1_do1 h he.e h6 p2 c1 c3 (decide_eq_false c4)).mono fun e w' hr => ?_
          rw [if_neg (by decide), if_neg (by simp [c4])]
          exact retC_7 hr (NX.of4 ⟨gb, hb, ab, cb, lb, he.keep hr.2.2, rfl⟩) (fun _ => ⟨h5, h6⟩)
        · refine (cW1_no2 h he.e h6 p2 c1 c3 (decide_eq_false c4)).mono fun e w' hr => ?_
          rw [if_neg (by decide), if_pos (.inr ⟨rfl, c4⟩)]
          exact retC_over hr rfl fun _ _ => rfl
        · refine (cW1_has h he.e h6 p2 c1 c3).mono fun e w' hr => ?_
          rw [if_pos rfl]
          exact retC_over hr (by rw [c1]; simp) fun _ _ => rfl
  · obtain ⟨h5, h6⟩ := hpc (by omega)
    obtain ⟨p1, p2, p3⟩ := hk.pc (by omega)
    have hpt : q.p ≠ s.tl := hc.key_tl hd.1 (.inl p3)
    rcases hk.two h0 with ⟨rfl, k2⟩ | ⟨rfl, k2⟩
    · have hf' : hm 7 = fN1 gb := by rw [hf, if_neg (by omega), if_neg (by omega), if_pos rfl]
      refine ⟨_, _, hf', ?_⟩
      refine (cN1 h he h5 h6 p1 p2 hpt hc.tlt hc.nlt hlk).mono fun e w' hr => ?_
      obtain ⟨g, hr⟩ := hr
      have e0 : naiveS s q 1 K = ⟨s.insc q.p q.c K, ⟨2, q.p, q.c, true⟩, .none, true⟩ := by unfold naiveS; rw [if_neg (by omega), if_neg (by omega), if_pos rfl]
      rw [e0]
      exact retC_over hr rfl upd_ad
    · have hf' : hm 7 = fN2 gb := by rw [hf, if_neg (by omega), if_neg (by omega), if_neg (by decide)]
      refine ⟨_, _, hf', ?_⟩
      refine (cN2 h he h5 h6 p1 p2 hpt (hc.key_tl hd.1 (.inr k2))).mono fun e w' hr => ?_
      have e0 : naiveS s q 2 K = ⟨s.cut q.p q.c, ⟨2, q.p, q.c, true⟩, .none, true⟩ := by unfold naiveS; rw [if_neg (by omega), if_neg (by omega), if_neg (by decide)]
      rw [e0]
      exact retC_over hr rfl fun _ _ => rfl
end

end Go.Proofs.Ytfmdpmebllepeaa
