/-
  package hands: what a step of a hand comes to, beside the plain step.
-/
import Derived.Test.YtfmdpmebllepeaaJBegin
namespace Go.Proofs.Ytfmdpmebllepeaa
open Go.RowKit

/-- behind a step: as the plain step says; its new node has a block of its own -/
def RetC (base B nh v : Nat) (kd K : Int) (ad : Nat → Nat) (sz : Nat) (hs : Nat → Nat → Value) (hm : Nat → Value) (al : Nat) (r : Rel) (w : World) (e : Ending) (w' : World) : Prop :=
  ∃ ad' hm', (∀ i, i < sz → ad' i = ad i) ∧ RetJ base B nh v kd K ad' r.s r.lk hs hm' w e w' ∧ (∀ i, i ≤ 4 → hm' i = hm i) ∧ (r.over = true → hm' 7 = .nilFunc ∧ hm' 8 = .bool r.h.is_) ∧
    (r.over = false → NX al w' (.pointer (some ⟨B, v * 9, none⟩)) r.h.at_ kd (hm' 7) ∧ (r.h.at_ ≠ 0 → hm' 5 = jp (ad' r.h.p) ∧ hm' 6 = jp (ad' r.h.c)))
section
variable {base B nh v : Nat} {kd K : Int} {ad ad' : Nat → Nat} {s s' : Bs} {lk lk' : Nat → Bool} {hs : Nat → Nat → Value} {hm hm' : Nat → Value} {w w' : World} {e : Ending} {al : Nat}
theorem retC_over {q : Hd} {ef : Eff} {b : Bool} (hr : RetJ base B nh v kd K ad' s' lk' hs (upd (upd hm 7 .nilFunc) 8 (.bool b)) w e w') (hb : q.is_ = b) (had : ∀ i, i < s.sz → ad' i = ad i) : RetC base B nh v kd K ad s.sz hs hm al ⟨s', lk', q, ef, true⟩ w e w' :=
  ⟨ad', _, had, hr, fun i hi => by rw [upd_other _ _ (by omega), upd_other _ _ (by omega)], fun _ => ⟨by rw [upd_other _ _ (by omega), upd_same], by rw [upd_same, hb]⟩, fun h => by cases h⟩
theorem retC_go {q : Hd} {ef : Eff} (hr : RetJ base B nh v kd K ad s' lk' hs hm' w e w') (h4 : ∀ i, i ≤ 4 → hm' i = hm i) (hn : NX al w' (.pointer (some ⟨B, v * 9, none⟩)) q.at_ kd (hm' 7)) (hp : q.at_ ≠ 0 → hm' 5 = jp (ad q.p) ∧ hm' 6 = jp (ad q.c)) : RetC base B nh v kd K ad s.sz hs hm al ⟨s', lk', q, ef, false⟩ w e w' :=
  ⟨ad, hm', fun _ _ => rfl, hr, h4, fun h => (by cases h), fun _ => ⟨hn, hp⟩⟩
/-- what it does next alone is changed -/
theorem retC_7 {q : Hd} {ef : Eff} {f : Value} (hr : RetJ base B nh v kd K ad s' lk' hs (upd hm 7 f) w e w') (hn : NX al w' (.pointer (some ⟨B, v * 9, none⟩)) q.at_ kd f) (hp : q.at_ ≠ 0 → hm 5 = jp (ad q.p) ∧ hm 6 = jp (ad q.c)) : RetC base B nh v kd K ad s.sz hs hm al ⟨s', lk', q, ef, false⟩ w e w' :=
  retC_go hr (fun i hi => by rw [upd_other _ _ (by omega)]) (by rw [upd_same]; exact hn) (fun h => by rw [upd_other _ _ (by omega), upd_other _ _ (by omega)]; exact hp h)
/-- one farther, and the next function -/
theorem retC_567 {q : Hd} {ef : Eff} {f a b : Value} (hr : RetJ base B nh v kd K ad s' lk' hs (upd (upd (upd hm 5 a) 6 b) 7 f) w e w') (hn : NX al w' (.pointer (some ⟨B, v * 9, none⟩)) q.at_ kd f) (ha : a = jp (ad q.p)) (hb : b = jp (ad q.c)) : RetC base B nh v kd K ad s.sz hs hm al ⟨s', lk', q, ef, false⟩ w e w' :=
  retC_go hr (fun i hi => by rw [upd_other _ _ (by omega), upd_other _ _ (by omega), upd_other _ _ (by omega)]) (by rw [upd_same]; exact hn) (fun _ => ⟨by rw [upd_other _ _ (by omega), upd_other _ _ (by omega), upd_same, ha], by rw [upd_other _ _ (by omega), upd_same, hb]⟩)
/-- one farther -/
theorem retC_56 {q : Hd} {ef : Eff} {a b : Value} (hr : RetJ base B nh v kd K ad s' lk' hs (upd (upd hm 5 a) 6 b) w e w') (hn : NX al w' (.pointer (some ⟨B, v * 9, none⟩)) q.at_ kd (hm 7)) (ha : a = jp (ad q.p)) (hb : b = jp (ad q.c)) : RetC base B nh v kd K ad s.sz hs hm al ⟨s', lk', q, ef, false⟩ w e w' :=
  retC_go hr (fun i hi => by rw [upd_other _ _ (by omega), upd_other _ _ (by omega)]) (by rw [upd_other _ _ (by omega), upd_other _ _ (by omega)]; exact hn) (fun _ => ⟨by rw [upd_other _ _ (by omega), upd_same, ha], by rw [upd_same, hb]⟩)
/-- nothing is changed -/
theorem retC_same {q : Hd} {ef : Eff} (hr : RetJ base B nh v kd K ad s' lk' hs hm w e w') (hn : NX al w' (.pointer (some ⟨B, v * 9, none⟩)) q.at_ kd (hm 7)) (hp : q.at_ ≠ 0 → hm 5 = jp (ad q.p) ∧ hm 6 = jp (ad q.c)) : RetC base B nh v kd K ad s.sz hs hm al ⟨s', lk', q, ef, false⟩ w e w' :=
  retC_go hr (fun _ _ => rfl) hn hp
/-- from the beginning -/
theorem retC_begin {q : Hd} {ef : Eff} (hr : RetB al base B nh v kd K ad s' lk' hs hm w e w') (h0 : q.at_ = 0) : RetC base B nh v kd K ad s.sz hs hm al ⟨s', lk', q, ef, false⟩ w e w' := by
  obtain ⟨f, h1, h2⟩ := hr
  exact retC_7 h1 (by rw [h0]; exact h2) (fun h => absurd h0 h)
theorem upd_ad {sz g : Nat} : ∀ i, i < sz → upd ad sz g i = ad i := fun i hi => upd_other _ _ (by omega)
theorem insc_ins {p c : Nat} (h : s.nx p = c) (K : Int) : s.insc p c K = s.ins p K := by rw [← h]; rfl
end

end Go.Proofs.Ytfmdpmebllepeaa
