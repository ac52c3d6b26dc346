/-
  package hands: hand over hand: one step.
-/
import Derived.Test.YtfmdpmebllepeaaJRetC
import Derived.Test.YtfmdpmebllepeaaJCO
namespace Go.Proofs.Ytfmdpmebllepeaa
open Go.RowKit

section
variable {base B nh v : Nat} {kd K : Int} {ad : Nat → Nat} {s : Bs} {lk : Nat → Bool} {hs : Nat → Nat → Value} {hm : Nat → Value} {w : World} {q : Hd}
theorem next_over (h : ST base B nh v kd K ad s lk hs hm w) (hn : NXO w (.pointer (some ⟨B, v * 9, none⟩)) q.at_ (hm 7)) (h4 : hm 4 = jp (ad 0)) (hpc : q.at_ ≠ 0 → hm 5 = jp (ad q.p) ∧ hm 6 = jp (ad q.c)) (hc : Cor1 s) (hk : KI s q K) (hd : Dee kd K) (hlk : lk s.sz = false) :
    ∃ k caps, hm 7 = .func (.func k) #[] caps ∧ Calls Try.prog k caps w (RetC base B nh v kd K ad s.sz hs hm 1 (overS s lk q kd K) w) := by
  obtain ⟨hb, lb, ob, he, hf⟩ := hn
  have hcr := hc.cor
  have hle := hk.le
  rcases (show q.at_ = 0 ∨ q.at_ = 1 ∨ q.at_ = 2 by omega) with h0 | h0 | h0
  · have hf' : hm 7 = fO1 hb lb := by rw [hf, if_pos h0]
    refine ⟨_, _, hf', ?_⟩
    cases hl : lk 0 with
    | false =>
      refine (cO1_t h he h4 hcr.pos hcr.hd.symm hl).mono fun e w' hr => ?_
      have e1 : overS s lk q kd K = ⟨s, upd lk 0 true, ⟨1, 0, s.nx 0, q.is_⟩, .none, false⟩ := by unfold overS; rw [if_pos h0, if_pos hl]
      rw [e1]
      exact retC_567 hr (NX.of1 ⟨hb, lb, ob, he.keep hr.2.2, rfl⟩) rfl rfl
    | true =>
      refine (cO1_f h he h4 hcr.pos hcr.hd.symm hl).mono fun e w' hr => ?_
      have e1 : overS s lk q kd K = ⟨s, lk, q, .none, false⟩ := by unfold overS; rw [if_pos h0, if_neg (by rw [hl]; decide)]
      rw [e1]
      exact retC_same hr (NX.of1 ⟨hb, lb, ob, he.keep hr.2.2, hf⟩) hpc
  · obtain ⟨h5, h6⟩ := hpc (by omega)
    obtain ⟨p1, p2, p3, p4⟩ := hk.pc (by omega)
    have hpt : q.p ≠ s.tl := key_tl hcr hd.1 (.inl p2)
    have hcs : q.c < s.sz := by rw [← p4]; exact hcr.nlt _ p1 hpt
    have hf' : hm 7 = fO2 hb ob := by rw [hf, if_neg (by omega), if_pos h0]
    refine ⟨_, _, hf', ?_⟩
    cases hl : lk q.c with
    | false =>
      refine (cO2_t h he h6 hcs hl).mono fun e w' hr => ?_
      have e1 : overS s lk q kd K = ⟨s, upd lk q.c true, ⟨2, q.p, q.c, q.is_⟩, .none, false⟩ := by unfold overS; rw [if_neg (by omega), if_pos h0, if_pos hl]
      rw [e1]
      exact retC_7 hr (NX.of1 ⟨hb, lb, ob, he.keep hr.2.2, rfl⟩) (fun _ => ⟨h5, h6⟩)
    | true =>
      refine (cO2_f h he h6 hcs hl).mono fun e w' hr => ?_
      have e1 : overS s lk q kd K = ⟨s, lk, q, .none, false⟩ := by unfold overS; rw [if_neg (by omega), if_pos h0, if_neg (by rw [hl]; decide)]
      rw [e1]
      exact retC_same hr (NX.of1 ⟨hb, lb, ob, he.keep hr.2.2, hf⟩) hpc
  · obtain ⟨h5, h6⟩ := hpc (by omega)
    obtain ⟨p1, p2, p3, p4⟩ := hk.pc (by omega)
    have hpt : q.p ≠ s.tl := key_tl hcr hd.1 (.inl p2)
    have hcs : q.c < s.sz := by rw [← p4]; exact hcr.nlt _ p1 hpt
    have hf' : hm 7 = fO3 hb lb := by rw [hf, if_neg (by omega), if_neg (by omega)]
    refine ⟨_, _, hf', ?_⟩
    have e0 : overS s lk q kd K = if s.key q.c < K then ⟨s, upd lk q.p false, ⟨1, q.c, s.nx q.c, q.is_⟩, .none, false⟩
      else if kd = 3 then ⟨s, fre lk q, ⟨2, q.p, q.c, decide (s.key q.c = K)⟩, .none, true⟩
      else if kd = 2 then (if s.key q.c = K then ⟨(s.mark q.c).cut q.p q.c, fre lk q, ⟨2, q.p, q.c, true⟩, .del K, true⟩ else ⟨s, fre lk q, ⟨2, q.p, q.c, false⟩, .none, true⟩)
      else (if s.key q.c = K then ⟨s, fre lk q, ⟨2, q.p, q.c, false⟩, .none, true⟩ else ⟨s.ins q.p K, fre lk q, ⟨2, q.p, q.c, true⟩, .add K, true⟩) := by unfold overS; rw [if_neg (by omega), if_neg (by omega)]
    by_cases c1 : s.key q.c < K
    · refine (cO3_lt h he h5 h6 p1 hcs (key_tl hcr hd.1 (.inl c1)) c1).mono fun e w' hr => ?_
      rw [e0, if_pos c1]
      exact retC_567 hr (NX.of1 ⟨hb, lb, ob, he.keep hr.2.2, rfl⟩) rfl rfl
    · rw [e0, if_neg c1]
      by_cases c4 : s.key q.c = K
      · have hf := decide_eq_true c4
        have hct : q.c ≠ s.tl := key_tl hcr hd.1 (.inr c4)
        rcases hd.2 with rfl | rfl | rfl
        · refine (cO3_add_f h he h5 h6 p1 hcs c1 hf).mono fun e w' hr => ?_
          rw [if_neg (by decide), if_neg (by decide), if_pos c4]
          exact retC_over hr rfl fun _ _ => rfl
        · refine (cO3_cut_t h he h5 h6 p1 hcs c1 hf hpt hct).mono fun e w' hr => ?_
          rw [if_neg (by decide), if_pos rfl, if_pos c4]
          exact retC_over hr rfl fun _ _ => rfl
        · refine (cO3_has_t h he h5 h6 p1 hcs c1 hf).mono fun e w' hr => ?_
          rw [if_pos rfl]
          exact retC_over hr hf fun _ _ => rfl
      · have hf := decide_eq_false c4
        rcases hd.2 with rfl | rfl | rfl
        · refine (cO3_add_t h he h5 h6 p1 hcs c1 hf hpt hcr.tlt hcr.nlt hlk).mono fun e w' hr => ?_
          obtain ⟨g, hr⟩ := hr
          rw [if_neg (by decide), if_neg (by decide), if_neg c4, ← insc_ins p4]
          exact retC_over hr rfl upd_ad
        · refine (cO3_cut_f h he h5 h6 p1 hcs c1 hf).mono fun e w' hr => ?_
          rw [if_neg (by decide), if_pos rfl, if_neg c4]
          exact retC_over hr rfl fun _ _ => rfl
        · refine (cO3_has_f h he h5 h6 p1 hcs c1 hf).mono fun e w' hr => ?_
          rw [if_pos rfl]
          exact retC_over hr hf fun _ _ => rfl
end

end Go.Proofs.Ytfmdpmebllepeaa
