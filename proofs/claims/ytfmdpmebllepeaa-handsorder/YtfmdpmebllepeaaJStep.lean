/-
  package hands: step, of a hand that is at a deed.
-/
import Derived.Test.YtfmdpmebllepeaaJStepS
namespace Go.Proofs.Ytfmdpmebllepeaa
open Go.RowKit

/-- a hand between its steps: who, its deeds, what is told -/
structure JV (base v : Nat) (prog : PL) (dl : List Dn) (hm : Nat → Value) (w : World) : Prop where
  who : hm 0 = I v
  le : prog.length ≤ 4
  deeds : ∃ A c, hm 1 = .slice A prog.length c ∧ PS w A prog.length c prog ∧ (0 < prog.length → ∀ ad, A = some ad → ad.block < base)
  done : OwnD w base (hm 2) dl
theorem JV.jd {base v : Nat} {prog : PL} {dl : List Dn} {hm : Nat → Value} {w : World} (h : JV base v prog dl hm w) {j : Nat} (hj : j < prog.length) (hl : dl.length = j + 1) : JD base hm prog[j].1 prog[j].2 w := by
  obtain ⟨A, c, h1, h2, h3⟩ := h.deeds
  obtain ⟨b, off, rfl, hb, hc⟩ := h2.at_ (by omega)
  obtain ⟨DA, dc, h4, _⟩ := h.done.is_
  rw [hl] at h4
  exact ⟨b, off, _, c, DA, j, dc, h1, h4, hj, h.le, h3 (by omega) _ rfl, (hc j hj).1, (hc j hj).2⟩
theorem PS.low0 {w w' : World} {base n c : Nat} {A : Option Addr} {l : PL} (h : PS w A n c l) (hA : 0 < n → ∀ ad, A = some ad → ad.block < base) (hb : Below base w w') : PS w' A n c l := by
  rcases Nat.eq_zero_or_pos n with h0 | h0
  · subst h0
    exact ⟨h.len, h.rd.1, fun hn => absurd hn (by omega)⟩
  · exact h.low (hA h0) hb
theorem JV.keepP {base v : Nat} {prog : PL} {dl : List Dn} {hm hm' : Nat → Value} {w w' : World} (h : JV base v prog dl hm w) (hp : JP base w w') (he : ∀ i, i ≤ 4 → hm' i = hm i) : JV base v prog dl hm' w' := by
  obtain ⟨A, c, h1, h2, h3⟩ := h.deeds
  exact ⟨(he 0 (by omega)).trans h.who, h.le, ⟨A, c, (he 1 (by omega)).trans h1, h2.low0 h3 hp.bl, h3⟩, by rw [he 2 (by omega)]; exact h.done.keepP hp⟩
/-- the deed as it is told behind a step -/
def dnow (r : Rel) (v j b now : Nat) : Dn := ⟨v, j, b, if r.over = true then now else -1, if r.over = true then r.h.is_ else false⟩
def RetS (al base B nh v : Nat) (prog : PL) (dl : List Dn) (j b now : Nat) (kd : Int) (ad : Nat → Nat) (sz : Nat) (hs : Nat → Nat → Value) (hm : Nat → Value) (r : Rel) (w : World) (e : Ending) (w' : World) : Prop :=
  e = .returned (.tuple #[]) ∧ ∃ ad' hm', (∀ i, i < sz → ad' i = ad i) ∧ JS base B nh ad' r.s r.lk (upd hs v hm') w' ∧ JV base v prog (dl ++ [dnow r v j b now]) hm' w' ∧ (hm' 3 = hm 3 ∧ hm' 4 = hm 4) ∧ (r.over = true → hm' 7 = .nilFunc) ∧
    (r.over = false → NX al w' (.pointer (some ⟨B, v * 9, none⟩)) r.h.at_ kd (hm' 7) ∧ (r.h.at_ ≠ 0 → hm' 5 = jp (ad' r.h.p) ∧ hm' 6 = jp (ad' r.h.c))) ∧
    JQ base (hm 2).ownBlock w w' ∧ (∀ g, (hm' 2).ownBlock = some g → (hm 2).ownBlock = some g ∨ w.heap.size ≤ g)
section
variable {base B nh v : Nat} {ad : Nat → Nat} {s : Bs} {lk : Nat → Bool} {hs : Nat → Nat → Value} {hm : Nat → Value} {w : World} {q : Hd} {al : Nat}
theorem JV.same {prog : PL} {dl dl' : List Dn} {hm' : Nat → Value} {w' : World} (h : JV base v prog dl hm w) (he : ∀ i, i ≤ 1 → hm' i = hm i) (hb : Below base w w') (hd : OwnD w' base (hm' 2) dl') : JV base v prog dl' hm' w' := by
  obtain ⟨A, c, h1, h2, h3⟩ := h.deeds
  exact ⟨(he 0 (by omega)).trans h.who, h.le, ⟨A, c, (he 1 (by omega)).trans h1, h2.low0 h3 hb, h3⟩, hd⟩
/-- behind the plain step: the deed goes on -/
theorem retS_go {prog : PL} {dl : List Dn} {j b now : Nat} {kd K : Int} {r : Rel} {w0 w w' : World} {ad0 ad' : Nat → Nat} {sz : Nat} {hm0 hm' : Nat → Value} (hov : r.over = false) (had : ∀ i, i < sz → ad' i = ad i) (hst : ST base B nh v kd K ad' r.s r.lk hs hm' w') (hp : JP base w w') (hV : JV base v prog (dl ++ [⟨v, j, b, -1, false⟩]) hm w) (h4 : ∀ i, i ≤ 4 → hm' i = hm i)
    (hn : NX al w' (.pointer (some ⟨B, v * 9, none⟩)) r.h.at_ kd (hm' 7) ∧ (r.h.at_ ≠ 0 → hm' 5 = jp (ad' r.h.p) ∧ hm' 6 = jp (ad' r.h.c))) (h34 : hm 3 = hm0 3 ∧ hm 4 = hm0 4) (hq : JQ base (hm0 2).ownBlock w0 w) (ho : ∀ g, (hm 2).ownBlock = some g → (hm0 2).ownBlock = some g ∨ w0.heap.size ≤ g) : RetS al base B nh v prog dl j b now kd ad sz hs hm0 r w0 (.returned (.tuple #[])) w' := by
  have hd : dnow r v j b now = ⟨v, j, b, -1, false⟩ := by unfold dnow; rw [hov]; rfl
  refine ⟨rfl, ad', hm', had, hst.js, by rw [hd]; exact hV.keepP hp h4, ⟨(h4 3 (by omega)).trans h34.1, (h4 4 (by omega)).trans h34.2⟩, fun h => (by rw [hov] at h; cases h), fun _ => hn, hq.trans (hp.q (hm0 2).ownBlock) (.inl rfl), fun g hg => ?_⟩
  rw [h4 2 (by omega)] at hg
  exact ho g hg
/-- behind the plain step: the deed is over -/
theorem retS_over {prog : PL} {dl : List Dn} {j b now : Nat} {kd K : Int} {r : Rel} {w0 w w' : World} {ad' : Nat → Nat} {sz : Nat} {hm0 hm' : Nat → Value} {g n c : Nat} (hov : r.over = true) (had : ∀ i, i < sz → ad' i = ad i) (hst : ST base B nh v kd K ad' r.s r.lk hs hm' w') (hp : JP base w w') (hV : JV base v prog (dl ++ [⟨v, j, b, -1, false⟩]) hm w) (h4 : ∀ i, i ≤ 4 → hm' i = hm i)
    (h7 : hm' 7 = .nilFunc) (h2 : hm 2 = .slice (some ⟨g, 0, none⟩) n c) (h34 : hm 3 = hm0 3 ∧ hm 4 = hm0 4) (hq : JQ base (hm0 2).ownBlock w0 w) (ho : ∀ g, (hm 2).ownBlock = some g → (hm0 2).ownBlock = some g ∨ w0.heap.size ≤ g) :
    RetS al base B nh v prog dl j b now kd ad sz hs hm0 r w0 (.returned (.tuple #[])) ((w'.setCell ⟨g, dl.length * 5 + 3, none⟩ (I now)).setCell ⟨g, dl.length * 5 + 4, none⟩ (.bool r.h.is_)) := by
  have hd : dnow r v j b now = ⟨v, j, b, now, r.h.is_⟩ := by unfold dnow; rw [hov]; rfl
  have hV' := hV.keepP hp h4
  have hdn := hV'.done
  have e2 : hm' 2 = .slice (some ⟨g, 0, none⟩) n c := (h4 2 (by omega)).trans h2
  rw [e2] at hdn
  obtain ⟨cs, hcs, hge⟩ := hdn.blk (g := g) rfl
  have hne : ∀ i, i < r.s.sz → ad' i ≠ g := fun i hi e => by
    have h1 := hst.js.l.bd i hi
    unfold JBead at h1
    rw [e, hcs] at h1
    injection h1 with h1
    injection h1 with _ h1
    exact absurd h1 (by decide)
  have hnB : B ≠ g := fun e => by
    obtain ⟨C, h2, _⟩ := hst.js.h
    rw [e, hcs] at h2
    injection h2 with h1
    injection h1 with _ h1
    exact absurd h1 (by decide)
  have q1 := JQ.row hcs hge (dl.length * 5 + 3) (I now)
  have q2 := JQ.row (w := w'.setCell ⟨g, dl.length * 5 + 3, none⟩ (I now)) (jset_at hcs) hge (dl.length * 5 + 4) (.bool r.h.is_)
  have q12 := q1.trans q2 (.inl rfl)
  have hrow : (hm 2).ownBlock = some g := by rw [h2]; rfl
  refine ⟨rfl, ad', hm', had, ⟨hst.js.l.keep fun i hi => ?_, hst.js.h.keep ?_, hst.js.ge⟩, ?_, ⟨(h4 3 (by omega)).trans h34.1, (h4 4 (by omega)).trans h34.2⟩, fun _ => h7, fun h => (by rw [hov] at h; cases h), ?_, fun g' hg => ?_⟩
  · rw [Below.heap_setCell _ _ _ _ (hne i hi), Below.heap_setCell _ _ _ _ (hne i hi)]
  · rw [Below.heap_setCell _ _ _ _ hnB, Below.heap_setCell _ _ _ _ hnB]
  · rw [hd]
    have hV2 : JV base v prog (dl ++ [⟨v, j, b, now, r.h.is_⟩]) hm' _ := ⟨hV'.who, hV'.le, (by
      obtain ⟨A, c, h1, h2, h3⟩ := hV'.deeds
      exact ⟨A, c, h1, h2.low0 h3 q12.bl, h3⟩), by rw [e2]; exact hdn.ended now r.h.is_⟩
    exact hV2
  · refine (hq.trans (hp.q (hm0 2).ownBlock) (.inl rfl)).trans q12 ?_
    rcases ho g hrow with h | h
    · exact .inl h.symm
    · exact .inr fun g' e => by cases e; exact h
  · rw [h4 2 (by omega)] at hg
    exact ho g' hg
theorem func_eq (k : Nat) (caps : Array Value) : ∀ w : World, (binOp .eql 1 (.func (.func k) #[] caps) .nilFunc).run Try.prog w = .ok (.bool false) w := fun _ => by kernel_rfl
theorem func_eqn : ∀ w : World, (binOp .eql 1 .nilFunc .nilFunc).run Try.prog w = .ok (.bool true) w := fun _ => by kernel_rfl
set_option maxRecDepth 100000 in
set_option maxHeartbeats 4000000 in
theorem step_on_go {prog : PL} {dl : List Dn} {j b now : Nat} (h : JS base B nh ad s lk (upd hs v hm) w) (hv : v < nh) (hj : j < prog.length) (hl : dl.length = j) (hV : JV base v prog (dl ++ [⟨v, j, b, -1, false⟩]) hm w)
    (hn : NX al w (.pointer (some ⟨B, v * 9, none⟩)) q.at_ prog[j].1 (hm 7)) (h3 : hm 3 = fWay al) (h4 : hm 4 = jp (ad 0)) (hpc : q.at_ ≠ 0 → hm 5 = jp (ad q.p) ∧ hm 6 = jp (ad q.c)) (hJ : JC al s lk q prog[j].1 prog[j].2) (hov : ((alg al).step s lk q prog[j].1 prog[j].2).over = false) :
    Calls Try.prog 36 #[.pointer (some ⟨B, v * 9, none⟩), I now] w (RetS al base B nh v prog dl j b now prog[j].1 ad s.sz hs hm ((alg al).step s lk q prog[j].1 prog[j].2) w) := by
  have hst : ST base B nh v prog[j].1 prog[j].2 ad s lk hs hm w := ⟨h, hv, hV.jd hj (by simp [hl])⟩
  obtain ⟨k, caps, h7, hC⟩ := next_any hst hn h3 h4 hpc hJ
  have hal := hJ.is_al
  obtain ⟨k', caps', h7', hE⟩ := hn.func hal
  have hkk : k' = k := by rw [h7] at h7'; injection h7' with h7'; injection h7' with h7'; exact h7'.symm
  subst hkk
  obtain ⟨kd, hkd⟩ : ∃ kd, prog[j].1 = kd := ⟨_, rfl⟩
  obtain ⟨K, hK⟩ : ∃ K, prog[j].2 = K := ⟨_, rfl⟩
  obtain ⟨r, hr⟩ : ∃ r, (alg al).step s lk q prog[j].1 prog[j].2 = r := ⟨_, rfl⟩
  rw [hr] at hC hov ⊢
  rw [hkd] at hC ⊢
  rw [hK] at hC
  have c7 := hst.hand (i := 7) (by omega)
  rw [h7] at c7
  have hq := func_eq k' caps
  have HC := Lib.hid hC
  have HV := Lib.hid hV
  have HAL := Lib.hid hal
  clear h hV hn hpc hJ hst hC h3 h4 hr hl hj hkd hK h7 h7' hal
  go_enter Try.func36, Try.ntmps36
  go_wp2_with fail
  refine HC.out.mono ?_
  rintro e w1 ⟨ad', hm', had, ⟨rfl, h1, hp1⟩, h41, -, hn1⟩
  have hn1' := hn1 hov
  obtain ⟨k1, caps1, e7, -⟩ := hn1'.1.func HAL.out
  have c71 := h1.hand (i := 7) (by omega)
  rw [e7] at c71
  have hq1 := func_eq k1 caps1
  have H1 := Lib.hid h1
  have HP1 := Lib.hid hp1
  have H41 := Lib.hid h41
  have HN1 := Lib.hid hn1'
  have HAD := Lib.hid had
  clear h1 hp1 h41 hn1 hn1' had e7 hq hE c7
  go_wp2
  go_end0
  exact retS_go (ad0 := ad') hov HAD.out H1.out HP1.out HV.out H41.out HN1.out ⟨rfl, rfl⟩ ((JP.refl _ _).q _) (fun g hg => .inl hg)
set_option maxRecDepth 100000 in
set_option maxHeartbeats 4000000 in
theorem step_on_over {prog : PL} {dl : List Dn} {j b now : Nat} (h : JS base B nh ad s lk (upd hs v hm) w) (hv : v < nh) (hj : j < prog.length) (hl : dl.length = j) (hV : JV base v prog (dl ++ [⟨v, j, b, -1, false⟩]) hm w)
    (hn : NX al w (.pointer (some ⟨B, v * 9, none⟩)) q.at_ prog[j].1 (hm 7)) (h3 : hm 3 = fWay al) (h4 : hm 4 = jp (ad 0)) (hpc : q.at_ ≠ 0 → hm 5 = jp (ad q.p) ∧ hm 6 = jp (ad q.c)) (hJ : JC al s lk q prog[j].1 prog[j].2) (hov : ((alg al).step s lk q prog[j].1 prog[j].2).over = true) :
    Calls Try.prog 36 #[.pointer (some ⟨B, v * 9, none⟩), I now] w (RetS al base B nh v prog dl j b now prog[j].1 ad s.sz hs hm ((alg al).step s lk q prog[j].1 prog[j].2) w) := by
  have hst : ST base B nh v prog[j].1 prog[j].2 ad s lk hs hm w := ⟨h, hv, hV.jd hj (by simp [hl])⟩
  obtain ⟨k, caps, h7, hC⟩ := next_any hst hn h3 h4 hpc hJ
  have hal := hJ.is_al
  obtain ⟨k', caps', h7', hE⟩ := hn.func hal
  have hkk : k' = k := by rw [h7] at h7'; injection h7' with h7'; injection h7' with h7'; exact h7'.symm
  subst hkk
  have hj4 : dl.length < 4 := by have := hV.le; omega
  obtain ⟨kd, hkd⟩ : ∃ kd, prog[j].1 = kd := ⟨_, rfl⟩
  obtain ⟨K, hK⟩ : ∃ K, prog[j].2 = K := ⟨_, rfl⟩
  obtain ⟨r, hr⟩ : ∃ r, (alg al).step s lk q prog[j].1 prog[j].2 = r := ⟨_, rfl⟩
  rw [hr] at hC hov ⊢
  rw [hkd] at hC ⊢
  rw [hK] at hC
  have c7 := hst.hand (i := 7) (by omega)
  rw [h7] at c7
  have hq := func_eq k' caps
  obtain ⟨DA, dc, e2, hDA⟩ := hV.done.is_
  obtain ⟨g, rfl⟩ : ∃ g, DA = some ⟨g, 0, none⟩ := by
    rcases hDA with h | h
    · simp at h
    · exact h
  have HC := Lib.hid hC
  have HV := Lib.hid hV
  have E2 := Lib.hid e2
  clear h hV hn hpc hJ hst hC h3 h4 hr hl hj hkd hK h7 h7' hal e2 hDA
  go_enter Try.func36, Try.ntmps36
  go_wp2_with fail
  refine HC.out.mono ?_
  rintro e w1 ⟨ad', hm', had, ⟨rfl, h1, hp1⟩, h41, ho1, -⟩
  obtain ⟨e7, e8⟩ := ho1 hov
  have c71 := h1.hand (i := 7) (by omega)
  have c81 := h1.hand (i := 8) (by omega)
  have c21 := h1.hand (i := 2) (by omega)
  rw [e7] at c71
  rw [e8] at c81
  rw [h41 2 (by omega), E2.out] at c21
  have hq1 := func_eqn
  have hV1 := HV.out.keepP hp1 h41
  have hd1 := hV1.done
  rw [h41 2 (by omega), E2.out] at hd1
  obtain ⟨hn5, d3, d4, df⟩ := hd1.last
  obtain ⟨m, hm5⟩ : ∃ m, dl.length = m := ⟨_, rfl⟩
  have HM := Lib.hid hm5
  rw [hm5] at d3 d4 hj4
  rw [hn5, hm5] at c21
  obtain ⟨bb, hbb⟩ : ∃ bb, r.h.is_ = bb := ⟨_, rfl⟩
  have HBB := Lib.hid hbb
  rw [hbb] at c81
  have f3 := df (m * 5 + 3)
  have f4 := df (m * 5 + 4)
  have hw1 : IntKind.i64.wrap (m : Int) = m := IntWalk.i64_in _ (by omega)
  have H1 := Lib.hid h1
  have HP1 := Lib.hid hp1
  have H41 := Lib.hid h41
  have HAD := Lib.hid had
  have E7 := Lib.hid e7
  have c21' : ∀ x : Nat, (w1.drewN x).cell? ⟨B, v * 9 + 2, none⟩ = _ := fun _ => c21
  clear h1 hp1 h41 had e7 e8 hq hE c7 ho1 hV1 hd1 hn5 df hm5 hbb
  go_wp2_with fail
  go_quiet (fail)
  go_wp2
  go_end0
  have := retS_over (now := now) (al := al) hov HAD.out (H1.out.drewN nq) (HP1.out.drewN nq) HV.out H41.out E7.out E2.out ⟨rfl, rfl⟩ ((JP.refl _ _).q _) (fun g hg => .inl hg)
  rw [HM.out, HBB.out] at this
  exact this
end

end Go.Proofs.Ytfmdpmebllepeaa
