/-
  Joined texts: YtfmdpmebllepeaaJCO, YtfmdpmebllepeaaJNextO, YtfmdpmebllepeaaJCL, YtfmdpmebllepeaaJNextL.
-/
import Derived.Test.YtfmdpmebllepeaaJRetCAll
import Derived.Deep.QuietTactic
/-
  package hands: hand over hand, function by function. Written by tools/gen_jclos.py.
-/
namespace Go.Proofs.Ytfmdpmebllepeaa
open Go.RowKit

section
variable {base B nh v : Nat} {kd K : Int} {ad : Nat → Nat} {s : Bs} {lk : Nat → Bool} {hs : Nat → Nat → Value} {hm : Nat → Value} {w : World}
set_option maxRecDepth 100000 in
set_option maxHeartbeats 4000000 in
theorem cO1_t {hb lb ob : Nat} (h : ST base B nh v kd K ad s lk hs hm w) (he : EnvO w (.pointer (some ⟨B, v * 9, none⟩)) hb lb ob) (h4 : hm 4 = jp (ad 0)) (hz : 0 < s.sz) (ht : 0 ≠ s.tl) (hl : lk 0 = false) : Calls Try.prog 43 #[jp hb, jp lb] w (RetJ base B nh v kd K ad s (upd lk 0 true) hs (upd (upd (upd hm 5 (jp (ad 0))) 6 (jp (ad (s.nx 0)))) 7 (fO2 hb ob)) w) := by
  have H0 := Lib.hid h
  have HE := Lib.hid he
  have HP0 : Hid (JP base w w) := Lib.hid (JP.refl _ _)
  have Hh4 := Lib.hid h4
  have Hhz := Lib.hid hz
  have Hht := Lib.hid ht
  have Hhl := Lib.hid hl
  have cb0_0 := (HE.out.h.keep HP0.out).cell
  have cb1_0 := (HE.out.l.keep HP0.out).cell
  have cb2_0 := (HE.out.o.keep HP0.out).cell
  have c4_0 := H0.out.hand (i := 4) (by omega)
  rw [show (hm) 4 = jp (ad 0) from (by first | exact Hh4.out | (simp [upd]; done) | (simp [upd, Hh4.out]; done))] at c4_0
  have c7_0 := H0.out.hand (i := 7) (by omega)
  have f7_0 := H0.out.hfroz (v * 9 + 7)
  clear h he h4 hz ht hl
  go_enter Try.func43, Try.ntmps43
  go_wp2_with fail
  first | with_reducible refine (take_t H0.out (x := 0) Hhz.out Hhl.out).mono ?_ | with_reducible refine (take_t (H0.out.drewN _) (x := 0) Hhz.out Hhl.out).mono ?_ | with_reducible refine (take_t ((H0.out.drewN _).drewN _) (x := 0) Hhz.out Hhl.out).mono ?_
  rintro e w1 ⟨rfl, h1, hp1⟩
  have H1 := Lib.hid h1
  have HP1 : Hid (JP base w w1) := Lib.hid (by first | exact HP0.out.trans hp1 | exact (HP0.out.drewN _).trans hp1)
  have cb0_1 := (HE.out.h.keep HP1.out).cell
  have cb1_1 := (HE.out.l.keep HP1.out).cell
  have cb2_1 := (HE.out.o.keep HP1.out).cell
  have c4_1 := H1.out.hand (i := 4) (by omega)
  rw [show (hm) 4 = jp (ad 0) from (by first | exact Hh4.out | (simp [upd]; done) | (simp [upd, Hh4.out]; done))] at c4_1
  have c7_1 := H1.out.hand (i := 7) (by omega)
  have f7_1 := H1.out.hfroz (v * 9 + 7)
  clear h1 hp1
  go_wp2_with fail
  go_region_with (first
    | (go_at_call 45
       first | with_reducible refine (to_any H1.out (x := 0) Hhz.out Hht.out).mono ?_ | with_reducible refine (to_any (H1.out.drewN _) (x := 0) Hhz.out Hht.out).mono ?_ | with_reducible refine (to_any ((H1.out.drewN _).drewN _) (x := 0) Hhz.out Hht.out).mono ?_ | refine (to_any (H1.out.drewN 1) (x := 0) Hhz.out Hht.out).mono ?_
       rintro e w2 ⟨rfl, h2, hp2⟩
       have H2 := Lib.hid h2
       have HP2 : Hid (JP base w w2) := Lib.hid (by first | exact HP1.out.trans hp2 | exact HP1.out.drew.trans hp2 | exact (HP1.out.drewN _).trans hp2 | exact ((HP1.out.drewN _).drewN _).trans hp2)
       have cb0_2 := (HE.out.h.keep HP2.out).cell
       have cb1_2 := (HE.out.l.keep HP2.out).cell
       have cb2_2 := (HE.out.o.keep HP2.out).cell
       have c5_2 := H2.out.hand (i := 5) (by omega)
       rw [show (upd (upd hm 5 (jp (ad 0))) 6 (jp (ad (s.nx 0)))) 5 = jp (ad 0) from (by first | exact rfl | (simp [upd]; done) | (simp [upd, rfl]; done))] at c5_2
       have c6_2 := H2.out.hand (i := 6) (by omega)
       rw [show (upd (upd hm 5 (jp (ad 0))) 6 (jp (ad (s.nx 0)))) 6 = jp (ad (s.nx 0)) from (by first | exact rfl | (simp [upd]; done) | (simp [upd, rfl]; done))] at c6_2
       have c7_2 := H2.out.hand (i := 7) (by omega)
       have f7_2 := H2.out.hfroz (v * 9 + 7)
       clear h2 hp2))
  all_goals
   (skip
    go_wp2
    go_end0
    first | exact ⟨rfl, H2.out.fld (i := 7) (by omega) (by omega) _, HP2.out.trans (H2.out.js.jp_fld _ _)⟩ | exact ⟨rfl, (H2.out.drewN _).fld (i := 7) (by omega) (by omega) _, (HP2.out.drewN _).trans ((H2.out.drewN _).js.jp_fld _ _)⟩ | exact ⟨rfl, ((H2.out.drewN _).drewN _).fld (i := 7) (by omega) (by omega) _, ((HP2.out.drewN _).drewN _).trans (((H2.out.drewN _).drewN _).js.jp_fld _ _)⟩)

set_option maxRecDepth 100000 in
set_option maxHeartbeats 4000000 in
theorem cO1_f {hb lb ob : Nat} (h : ST base B nh v kd K ad s lk hs hm w) (he : EnvO w (.pointer (some ⟨B, v * 9, none⟩)) hb lb ob) (h4 : hm 4 = jp (ad 0)) (hz : 0 < s.sz) (ht : 0 ≠ s.tl) (hl : lk 0 = true) : Calls Try.prog 43 #[jp hb, jp lb] w (RetJ base B nh v kd K ad s lk hs hm w) := by
  have H0 := Lib.hid h
  have HE := Lib.hid he
  have HP0 : Hid (JP base w w) := Lib.hid (JP.refl _ _)
  have Hh4 := Lib.hid h4
  have Hhz := Lib.hid hz
  have Hht := Lib.hid ht
  have Hhl := Lib.hid hl
  have cb0_0 := (HE.out.h.keep HP0.out).cell
  have cb1_0 := (HE.out.l.keep HP0.out).cell
  have cb2_0 := (HE.out.o.keep HP0.out).cell
  have c4_0 := H0.out.hand (i := 4) (by omega)
  rw [show (hm) 4 = jp (ad 0) from (by first | exact Hh4.out | (simp [upd]; done) | (simp [upd, Hh4.out]; done))] at c4_0
  have c7_0 := H0.out.hand (i := 7) (by omega)
  have f7_0 := H0.out.hfroz (v * 9 + 7)
  clear h he h4 hz ht hl
  go_enter Try.func43, Try.ntmps43
  go_wp2_with fail
  refine (take_f H0.out (x := 0) Hhz.out Hhl.out).mono ?_
  rintro e w1 ⟨rfl, rfl⟩
  go_wp2
  go_end0
  first | exact ⟨rfl, H0.out, HP0.out⟩ | exact ⟨rfl, (H0.out.drewN _), (HP0.out.drewN _)⟩ | exact ⟨rfl, ((H0.out.drewN _).drewN _), ((HP0.out.drewN _).drewN _)⟩

set_option maxRecDepth 100000 in
set_option maxHeartbeats 4000000 in
theorem cO2_t {hb lb ob c : Nat} (h : ST base B nh v kd K ad s lk hs hm w) (he : EnvO w (.pointer (some ⟨B, v * 9, none⟩)) hb lb ob) (h6 : hm 6 = jp (ad c)) (hc : c < s.sz) (hl : lk c = false) : Calls Try.prog 46 #[jp hb, jp ob] w (RetJ base B nh v kd K ad s (upd lk c true) hs (upd hm 7 (fO3 hb lb)) w) := by
  have H0 := Lib.hid h
  have HE := Lib.hid he
  have HP0 : Hid (JP base w w) := Lib.hid (JP.refl _ _)
  have Hh6 := Lib.hid h6
  have Hhc := Lib.hid hc
  have Hhl := Lib.hid hl
  have cb0_0 := (HE.out.h.keep HP0.out).cell
  have cb1_0 := (HE.out.l.keep HP0.out).cell
  have cb2_0 := (HE.out.o.keep HP0.out).cell
  have c6_0 := H0.out.hand (i := 6) (by omega)
  rw [show (hm) 6 = jp (ad c) from (by first | exact Hh6.out | (simp [upd]; done) | (simp [upd, Hh6.out]; done))] at c6_0
  have c7_0 := H0.out.hand (i := 7) (by omega)
  have f7_0 := H0.out.hfroz (v * 9 + 7)
  clear h he h6 hc hl
  go_enter Try.func46, Try.ntmps46
  go_wp2_with fail
  first | with_reducible refine (take_t H0.out (x := c) Hhc.out Hhl.out).mono ?_ | with_reducible refine (take_t (H0.out.drewN _) (x := c) Hhc.out Hhl.out).mono ?_ | with_reducible refine (take_t ((H0.out.drewN _).drewN _) (x := c) Hhc.out Hhl.out).mono ?_
  rintro e w1 ⟨rfl, h1, hp1⟩
  have H1 := Lib.hid h1
  have HP1 : Hid (JP base w w1) := Lib.hid (by first | exact HP0.out.trans hp1 | exact (HP0.out.drewN _).trans hp1)
  have cb0_1 := (HE.out.h.keep HP1.out).cell
  have cb1_1 := (HE.out.l.keep HP1.out).cell
  have cb2_1 := (HE.out.o.keep HP1.out).cell
  have c6_1 := H1.out.hand (i := 6) (by omega)
  rw [show (hm) 6 = jp (ad c) from (by first | exact Hh6.out | (simp [upd]; done) | (simp [upd, Hh6.out]; done))] at c6_1
  have c7_1 := H1.out.hand (i := 7) (by omega)
  have f7_1 := H1.out.hfroz (v * 9 + 7)
  clear h1 hp1
  go_wp2
  go_end0
  first | exact ⟨rfl, H1.out.fld (i := 7) (by omega) (by omega) _, HP1.out.trans (H1.out.js.jp_fld _ _)⟩ | exact ⟨rfl, (H1.out.drewN _).fld (i := 7) (by omega) (by omega) _, (HP1.out.drewN _).trans ((H1.out.drewN _).js.jp_fld _ _)⟩ | exact ⟨rfl, ((H1.out.drewN _).drewN _).fld (i := 7) (by omega) (by omega) _, ((HP1.out.drewN _).drewN _).trans (((H1.out.drewN _).drewN _).js.jp_fld _ _)⟩

set_option maxRecDepth 100000 in
set_option maxHeartbeats 4000000 in
theorem cO2_f {hb lb ob c : Nat} (h : ST base B nh v kd K ad s lk hs hm w) (he : EnvO w (.pointer (some ⟨B, v * 9, none⟩)) hb lb ob) (h6 : hm 6 = jp (ad c)) (hc : c < s.sz) (hl : lk c = true) : Calls Try.prog 46 #[jp hb, jp ob] w (RetJ base B nh v kd K ad s lk hs hm w) := by
  have H0 := Lib.hid h
  have HE := Lib.hid he
  have HP0 : Hid (JP base w w) := Lib.hid (JP.refl _ _)
  have Hh6 := Lib.hid h6
  have Hhc := Lib.hid hc
  have Hhl := Lib.hid hl
  have cb0_0 := (HE.out.h.keep HP0.out).cell
  have cb1_0 := (HE.out.l.keep HP0.out).cell
  have cb2_0 := (HE.out.o.keep HP0.out).cell
  have c6_0 := H0.out.hand (i := 6) (by omega)
  rw [show (hm) 6 = jp (ad c) from (by first | exact Hh6.out | (simp [upd]; done) | (simp [upd, Hh6.out]; done))] at c6_0
  have c7_0 := H0.out.hand (i := 7) (by omega)
  have f7_0 := H0.out.hfroz (v * 9 + 7)
  clear h he h6 hc hl
  go_enter Try.func46, Try.ntmps46
  go_wp2_with fail
  refine (take_f H0.out (x := c) Hhc.out Hhl.out).mono ?_
  rintro e w1 ⟨rfl, rfl⟩
  go_wp2
  go_end0
  first | exact ⟨rfl, H0.out, HP0.out⟩ | exact ⟨rfl, (H0.out.drewN _), (HP0.out.drewN _)⟩ | exact ⟨rfl, ((H0.out.drewN _).drewN _), ((HP0.out.drewN _).drewN _)⟩

set_option maxRecDepth 100000 in
set_option maxHeartbeats 4000000 in
theorem cO3_lt {hb lb ob p c : Nat} (h : ST base B nh v kd K ad s lk hs hm w) (he : EnvO w (.pointer (some ⟨B, v * 9, none⟩)) hb lb ob) (h5 : hm 5 = jp (ad p)) (h6 : hm 6 = jp (ad c)) (hp : p < s.sz) (hc : c < s.sz) (hct : c ≠ s.tl) (hlt : s.key c < K) : Calls Try.prog 47 #[jp hb, jp lb] w (RetJ base B nh v kd K ad s (upd lk p false) hs (upd (upd (upd hm 5 (jp (ad c))) 6 (jp (ad (s.nx c)))) 7 (fO2 hb ob)) w) := by
  have H0 := Lib.hid h
  have HE := Lib.hid he
  have HP0 : Hid (JP base w w) := Lib.hid (JP.refl _ _)
  have Hh5 := Lib.hid h5
  have Hh6 := Lib.hid h6
  have Hhp := Lib.hid hp
  have Hhc := Lib.hid hc
  have Hhct := Lib.hid hct
  have Hhlt := Lib.hid hlt
  have cb0_0 := (HE.out.h.keep HP0.out).cell
  have cb1_0 := (HE.out.l.keep HP0.out).cell
  have cb2_0 := (HE.out.o.keep HP0.out).cell
  have c5_0 := H0.out.hand (i := 5) (by omega)
  rw [show (hm) 5 = jp (ad p) from (by first | exact Hh5.out | (simp [upd]; done) | (simp [upd, Hh5.out]; done))] at c5_0
  have c6_0 := H0.out.hand (i := 6) (by omega)
  rw [show (hm) 6 = jp (ad c) from (by first | exact Hh6.out | (simp [upd]; done) | (simp [upd, Hh6.out]; done))] at c6_0
  have c7_0 := H0.out.hand (i := 7) (by omega)
  have f7_0 := H0.out.hfroz (v * 9 + 7)
  obtain ⟨b0c_0, b1c_0, b2c_0, b3c_0⟩ := H0.out.bead Hhc.out
  have fmc_0 := H0.out.bfroz Hhc.out 2
  clear h he h5 h6 hp hc hct
  go_enter Try.func47, Try.ntmps47
  have HQ0_1 : Hid (∀ m, Calls Try.prog 48 #[.pointer (some ⟨B, v * 9, none⟩)] (w.drewN m) fun e w' => e = .returned (I K) ∧ ∃ m', w' = (w.drewN m).drewN m') := fun m => key_any (H0.out.drewN m)
  have HR0_1 : Hid (∀ m k, Calls Try.prog 48 #[.pointer (some ⟨B, v * 9, none⟩)] ((w.drewN m).drewN k) fun e w' => e = .returned (I K) ∧ ∃ m', w' = ((w.drewN m).drewN k).drewN m') := fun m k => key_any ((H0.out.drewN m).drewN k)
  go_wp2_with fail
  go_quiet ((first | (go_at_call 48; with_reducible exact Calls.quiet_of (HQ0_1.out _)) | (go_at_call 48; with_reducible exact Calls.quiet_of (HR0_1.out _ _))))
  generalize hw1 : World.drewN w nq = w1
  have h1 := H0.out.drewN nq
  rw [hw1] at h1
  have hp1 := (JP.refl base w).drewN nq
  rw [hw1] at hp1
  clear hw1
  have H1 := Lib.hid h1
  have HP1 : Hid (JP base w w1) := Lib.hid (by first | exact HP0.out.trans hp1 | exact (HP0.out.drewN _).trans hp1)
  have cb0_1 := (HE.out.h.keep HP1.out).cell
  have cb1_1 := (HE.out.l.keep HP1.out).cell
  have cb2_1 := (HE.out.o.keep HP1.out).cell
  have c5_1 := H1.out.hand (i := 5) (by omega)
  rw [show (hm) 5 = jp (ad p) from (by first | exact Hh5.out | (simp [upd]; done) | (simp [upd, Hh5.out]; done))] at c5_1
  have c6_1 := H1.out.hand (i := 6) (by omega)
  rw [show (hm) 6 = jp (ad c) from (by first | exact Hh6.out | (simp [upd]; done) | (simp [upd, Hh6.out]; done))] at c6_1
  have c7_1 := H1.out.hand (i := 7) (by omega)
  have f7_1 := H1.out.hfroz (v * 9 + 7)
  obtain ⟨b0c_1, b1c_1, b2c_1, b3c_1⟩ := H1.out.bead Hhc.out
  have fmc_1 := H1.out.bfroz Hhc.out 2
  clear h1 hp1
  go_wp2_with fail
  first | with_reducible refine (nfree_any H1.out (x := p) Hhp.out).mono ?_ | with_reducible refine (nfree_any (H1.out.drewN _) (x := p) Hhp.out).mono ?_ | with_reducible refine (nfree_any ((H1.out.drewN _).drewN _) (x := p) Hhp.out).mono ?_
  rintro e w2 ⟨rfl, h2, hp2⟩
  have H2 := Lib.hid h2
  have HP2 : Hid (JP base w w2) := Lib.hid (by first | exact HP1.out.trans hp2 | exact (HP1.out.drewN _).trans hp2)
  have cb0_2 := (HE.out.h.keep HP2.out).cell
  have cb1_2 := (HE.out.l.keep HP2.out).cell
  have cb2_2 := (HE.out.o.keep HP2.out).cell
  have c5_2 := H2.out.hand (i := 5) (by omega)
  rw [show (hm) 5 = jp (ad p) from (by first | exact Hh5.out | (simp [upd]; done) | (simp [upd, Hh5.out]; done))] at c5_2
  have c6_2 := H2.out.hand (i := 6) (by omega)
  rw [show (hm) 6 = jp (ad c) from (by first | exact Hh6.out | (simp [upd]; done) | (simp [upd, Hh6.out]; done))] at c6_2
  have c7_2 := H2.out.hand (i := 7) (by omega)
  have f7_2 := H2.out.hfroz (v * 9 + 7)
  clear h2 hp2
  go_wp2_with fail
  go_region_with (first
    | (go_at_call 45
       first | with_reducible refine (to_any H2.out (x := c) Hhc.out Hhct.out).mono ?_ | with_reducible refine (to_any (H2.out.drewN _) (x := c) Hhc.out Hhct.out).mono ?_ | with_reducible refine (to_any ((H2.out.drewN _).drewN _) (x := c) Hhc.out Hhct.out).mono ?_ | refine (to_any (H2.out.drewN 1) (x := c) Hhc.out Hhct.out).mono ?_
       rintro e w3 ⟨rfl, h3, hp3⟩
       have H3 := Lib.hid h3
       have HP3 : Hid (JP base w w3) := Lib.hid (by first | exact HP2.out.trans hp3 | exact HP2.out.drew.trans hp3 | exact (HP2.out.drewN _).trans hp3 | exact ((HP2.out.drewN _).drewN _).trans hp3)
       have cb0_3 := (HE.out.h.keep HP3.out).cell
       have cb1_3 := (HE.out.l.keep HP3.out).cell
       have cb2_3 := (HE.out.o.keep HP3.out).cell
       have c5_3 := H3.out.hand (i := 5) (by omega)
       rw [show (upd (upd hm 5 (jp (ad c))) 6 (jp (ad (s.nx c)))) 5 = jp (ad c) from (by first | exact rfl | (simp [upd]; done) | (simp [upd, rfl]; done))] at c5_3
       have c6_3 := H3.out.hand (i := 6) (by omega)
       rw [show (upd (upd hm 5 (jp (ad c))) 6 (jp (ad (s.nx c)))) 6 = jp (ad (s.nx c)) from (by first | exact rfl | (simp [upd]; done) | (simp [upd, rfl]; done))] at c6_3
       have c7_3 := H3.out.hand (i := 7) (by omega)
       have f7_3 := H3.out.hfroz (v * 9 + 7)
       clear h3 hp3))
  all_goals
   (skip
    go_wp2
    go_end0
    first | exact ⟨rfl, H3.out.fld (i := 7) (by omega) (by omega) _, HP3.out.trans (H3.out.js.jp_fld _ _)⟩ | exact ⟨rfl, (H3.out.drewN _).fld (i := 7) (by omega) (by omega) _, (HP3.out.drewN _).trans ((H3.out.drewN _).js.jp_fld _ _)⟩ | exact ⟨rfl, ((H3.out.drewN _).drewN _).fld (i := 7) (by omega) (by omega) _, ((HP3.out.drewN _).drewN _).trans (((H3.out.drewN _).drewN _).js.jp_fld _ _)⟩)

set_option maxRecDepth 100000 in
set_option maxHeartbeats 4000000 in
theorem cO3_has_t {hb lb ob p c : Nat} (h : ST base B nh v 3 K ad s lk hs hm w) (he : EnvO w (.pointer (some ⟨B, v * 9, none⟩)) hb lb ob) (h5 : hm 5 = jp (ad p)) (h6 : hm 6 = jp (ad c)) (hp : p < s.sz) (hc : c < s.sz) (hge : ¬ s.key c < K) (hf : decide (s.key c = K) = true) : Calls Try.prog 47 #[jp hb, jp lb] w (RetJ base B nh v 3 K ad s (upd (upd lk p false) c false) hs (upd (upd hm 7 .nilFunc) 8 (.bool true)) w) := by
  have H0 := Lib.hid h
  have HE := Lib.hid he
  have HP0 : Hid (JP base w w) := Lib.hid (JP.refl _ _)
  have Hh5 := Lib.hid h5
  have Hh6 := Lib.hid h6
  have Hhp := Lib.hid hp
  have Hhc := Lib.hid hc
  have Hhge := Lib.hid hge
  have Hhf := Lib.hid hf
  have cb0_0 := (HE.out.h.keep HP0.out).cell
  have cb1_0 := (HE.out.l.keep HP0.out).cell
  have cb2_0 := (HE.out.o.keep HP0.out).cell
  have c5_0 := H0.out.hand (i := 5) (by omega)
  rw [show (hm) 5 = jp (ad p) from (by first | exact Hh5.out | (simp [upd]; done) | (simp [upd, Hh5.out]; done))] at c5_0
  have c6_0 := H0.out.hand (i := 6) (by omega)
  rw [show (hm) 6 = jp (ad c) from (by first | exact Hh6.out | (simp [upd]; done) | (simp [upd, Hh6.out]; done))] at c6_0
  have c7_0 := H0.out.hand (i := 7) (by omega)
  have f7_0 := H0.out.hfroz (v * 9 + 7)
  obtain ⟨b0c_0, b1c_0, b2c_0, b3c_0⟩ := H0.out.bead Hhc.out
  have fmc_0 := H0.out.bfroz Hhc.out 2
  clear h he h5 h6 hp hc hf
  go_enter Try.func47, Try.ntmps47
  have HQ0_1 : Hid (∀ m, Calls Try.prog 48 #[.pointer (some ⟨B, v * 9, none⟩)] (w.drewN m) fun e w' => e = .returned (I K) ∧ ∃ m', w' = (w.drewN m).drewN m') := fun m => key_any (H0.out.drewN m)
  have HR0_1 : Hid (∀ m k, Calls Try.prog 48 #[.pointer (some ⟨B, v * 9, none⟩)] ((w.drewN m).drewN k) fun e w' => e = .returned (I K) ∧ ∃ m', w' = ((w.drewN m).drewN k).drewN m') := fun m k => key_any ((H0.out.drewN m).drewN k)
  go_wp2_with fail
  go_quiet ((first | (go_at_call 48; with_reducible exact Calls.quiet_of (HQ0_1.out _)) | (go_at_call 48; with_reducible exact Calls.quiet_of (HR0_1.out _ _))))
  generalize hw1 : World.drewN w nq = w1
  have h1 := H0.out.drewN nq
  rw [hw1] at h1
  have hp1 := (JP.refl base w).drewN nq
  rw [hw1] at hp1
  clear hw1
  have H1 := Lib.hid h1
  have HP1 : Hid (JP base w w1) := Lib.hid (by first | exact HP0.out.trans hp1 | exact (HP0.out.drewN _).trans hp1)
  have cb0_1 := (HE.out.h.keep HP1.out).cell
  have cb1_1 := (HE.out.l.keep HP1.out).cell
  have cb2_1 := (HE.out.o.keep HP1.out).cell
  have c5_1 := H1.out.hand (i := 5) (by omega)
  rw [show (hm) 5 = jp (ad p) from (by first | exact Hh5.out | (simp [upd]; done) | (simp [upd, Hh5.out]; done))] at c5_1
  have c6_1 := H1.out.hand (i := 6) (by omega)
  rw [show (hm) 6 = jp (ad c) from (by first | exact Hh6.out | (simp [upd]; done) | (simp [upd, Hh6.out]; done))] at c6_1
  have c7_1 := H1.out.hand (i := 7) (by omega)
  have f7_1 := H1.out.hfroz (v * 9 + 7)
  obtain ⟨b0c_1, b1c_1, b2c_1, b3c_1⟩ := H1.out.bead Hhc.out
  have fmc_1 := H1.out.bfroz Hhc.out 2
  clear h1 hp1
  have HQ0_2 : Hid (∀ m, Calls Try.prog 50 #[.pointer (some ⟨B, v * 9, none⟩)] (w1.drewN m) fun e w' => e = .returned (.bool true) ∧ ∃ m', w' = (w1.drewN m).drewN m') := fun m => found_any (H1.out.drewN m) (c := c) Hhc.out Hh6.out (b := true) Hhf.out
  have HR0_2 : Hid (∀ m k, Calls Try.prog 50 #[.pointer (some ⟨B, v * 9, none⟩)] ((w1.drewN m).drewN k) fun e w' => e = .returned (.bool true) ∧ ∃ m', w' = ((w1.drewN m).drewN k).drewN m') := fun m k => found_any ((H1.out.drewN m).drewN k) (c := c) Hhc.out Hh6.out (b := true) Hhf.out
  have HQ1_3 : Hid (∀ m, Calls Try.prog 51 #[.pointer (some ⟨B, v * 9, none⟩)] (w1.drewN m) fun e w' => e = .returned (I 3) ∧ ∃ m', w' = (w1.drewN m).drewN m') := fun m => kind_any (H1.out.drewN m)
  have HR1_3 : Hid (∀ m k, Calls Try.prog 51 #[.pointer (some ⟨B, v * 9, none⟩)] ((w1.drewN m).drewN k) fun e w' => e = .returned (I 3) ∧ ∃ m', w' = ((w1.drewN m).drewN k).drewN m') := fun m k => kind_any ((H1.out.drewN m).drewN k)
  go_wp2_with fail
  go_quiet ((first | (go_at_call 50; with_reducible exact Calls.quiet_of (HQ0_2.out _)) | (go_at_call 50; with_reducible exact Calls.quiet_of (HR0_2.out _ _)) | (go_at_call 51; with_reducible exact Calls.quiet_of (HQ1_3.out _)) | (go_at_call 51; with_reducible exact Calls.quiet_of (HR1_3.out _ _))))
  generalize hw2 : World.drewN w1 nq = w2
  have h2 := H1.out.drewN nq
  rw [hw2] at h2
  have hp2 := (JP.refl base w1).drewN nq
  rw [hw2] at hp2
  clear hw2
  have H2 := Lib.hid h2
  have HP2 : Hid (JP base w w2) := Lib.hid (by first | exact HP1.out.trans hp2 | exact (HP1.out.drewN _).trans hp2)
  have cb0_2 := (HE.out.h.keep HP2.out).cell
  have cb1_2 := (HE.out.l.keep HP2.out).cell
  have cb2_2 := (HE.out.o.keep HP2.out).cell
  have c5_2 := H2.out.hand (i := 5) (by omega)
  rw [show (hm) 5 = jp (ad p) from (by first | exact Hh5.out | (simp [upd]; done) | (simp [upd, Hh5.out]; done))] at c5_2
  have c6_2 := H2.out.hand (i := 6) (by omega)
  rw [show (hm) 6 = jp (ad c) from (by first | exact Hh6.out | (simp [upd]; done) | (simp [upd, Hh6.out]; done))] at c6_2
  have c7_2 := H2.out.hand (i := 7) (by omega)
  have f7_2 := H2.out.hfroz (v * 9 + 7)
  obtain ⟨b0c_2, b1c_2, b2c_2, b3c_2⟩ := H2.out.bead Hhc.out
  have fmc_2 := H2.out.bfroz Hhc.out 2
  clear h2 hp2
  go_wp2_with fail
  with_reducible refine (kind_any H2.out).mono ?_
  rintro e w3 ⟨rfl, m3, hw3⟩
  have h3 := H2.out.drewN m3
  rw [← hw3] at h3
  have hp3 := (JP.refl base w2).drewN m3
  rw [← hw3] at hp3
  clear hw3
  have H3 := Lib.hid h3
  have HP3 : Hid (JP base w w3) := Lib.hid (by first | exact HP2.out.trans hp3 | exact (HP2.out.drewN _).trans hp3)
  have cb0_3 := (HE.out.h.keep HP3.out).cell
  have cb1_3 := (HE.out.l.keep HP3.out).cell
  have cb2_3 := (HE.out.o.keep HP3.out).cell
  have c5_3 := H3.out.hand (i := 5) (by omega)
  rw [show (hm) 5 = jp (ad p) from (by first | exact Hh5.out | (simp [upd]; done) | (simp [upd, Hh5.out]; done))] at c5_3
  have c6_3 := H3.out.hand (i := 6) (by omega)
  rw [show (hm) 6 = jp (ad c) from (by first | exact Hh6.out | (simp [upd]; done) | (simp [upd, Hh6.out]; done))] at c6_3
  have c7_3 := H3.out.hand (i := 7) (by omega)
  have f7_3 := H3.out.hfroz (v * 9 + 7)
  obtain ⟨b0c_3, b1c_3, b2c_3, b3c_3⟩ := H3.out.bead Hhc.out
  have fmc_3 := H3.out.bfroz Hhc.out 2
  clear h3 hp3
  go_wp2_with fail
  with_reducible refine (kind_any H3.out).mono ?_
  rintro e w4 ⟨rfl, m4, hw4⟩
  have h4 := H3.out.drewN m4
  rw [← hw4] at h4
  have hp4 := (JP.refl base w3).drewN m4
  rw [← hw4] at hp4
  clear hw4
  have H4 := Lib.hid h4
  have HP4 : Hid (JP base w w4) := Lib.hid (by first | exact HP3.out.trans hp4 | exact (HP3.out.drewN _).trans hp4)
  have cb0_4 := (HE.out.h.keep HP4.out).cell
  have cb1_4 := (HE.out.l.keep HP4.out).cell
  have cb2_4 := (HE.out.o.keep HP4.out).cell
  have c5_4 := H4.out.hand (i := 5) (by omega)
  rw [show (hm) 5 = jp (ad p) from (by first | exact Hh5.out | (simp [upd]; done) | (simp [upd, Hh5.out]; done))] at c5_4
  have c6_4 := H4.out.hand (i := 6) (by omega)
  rw [show (hm) 6 = jp (ad c) from (by first | exact Hh6.out | (simp [upd]; done) | (simp [upd, Hh6.out]; done))] at c6_4
  have c7_4 := H4.out.hand (i := 7) (by omega)
  have f7_4 := H4.out.hfroz (v * 9 + 7)
  obtain ⟨b0c_4, b1c_4, b2c_4, b3c_4⟩ := H4.out.bead Hhc.out
  have fmc_4 := H4.out.bfroz Hhc.out 2
  clear h4 hp4
  go_wp2_with fail
  first | with_reducible refine (free_any H4.out (p := p) (c := c) Hhp.out Hhc.out Hh5.out Hh6.out).mono ?_ | with_reducible refine (free_any (H4.out.drewN _) (p := p) (c := c) Hhp.out Hhc.out Hh5.out Hh6.out).mono ?_ | with_reducible refine (free_any ((H4.out.drewN _).drewN _) (p := p) (c := c) Hhp.out Hhc.out Hh5.out Hh6.out).mono ?_
  rintro e w5 ⟨rfl, h5, hp5⟩
  have H5 := Lib.hid h5
  have HP5 : Hid (JP base w w5) := Lib.hid (by first | exact HP4.out.trans hp5 | exact (HP4.out.drewN _).trans hp5)
  have cb0_5 := (HE.out.h.keep HP5.out).cell
  have cb1_5 := (HE.out.l.keep HP5.out).cell
  have cb2_5 := (HE.out.o.keep HP5.out).cell
  have c7_5 := H5.out.hand (i := 7) (by omega)
  have f7_5 := H5.out.hfroz (v * 9 + 7)
  clear h5 hp5
  go_wp2_with fail
  first | with_reducible refine (end_any H5.out true).mono ?_ | with_reducible refine (end_any (H5.out.drewN _) true).mono ?_ | with_reducible refine (end_any ((H5.out.drewN _).drewN _) true).mono ?_
  rintro e w6 ⟨rfl, h6, hp6⟩
  have H6 := Lib.hid h6
  have HP6 : Hid (JP base w w6) := Lib.hid (by first | exact HP5.out.trans hp6 | exact (HP5.out.drewN _).trans hp6)
  have cb0_6 := (HE.out.h.keep HP6.out).cell
  have cb1_6 := (HE.out.l.keep HP6.out).cell
  have cb2_6 := (HE.out.o.keep HP6.out).cell
  have c7_6 := H6.out.hand (i := 7) (by omega)
  have f7_6 := H6.out.hfroz (v * 9 + 7)
  clear h6 hp6
  go_wp2
  go_end0
  first | exact ⟨rfl, H6.out, HP6.out⟩ | exact ⟨rfl, (H6.out.drewN _), (HP6.out.drewN _)⟩ | exact ⟨rfl, ((H6.out.drewN _).drewN _), ((HP6.out.drewN _).drewN _)⟩

set_option maxRecDepth 100000 in
set_option maxHeartbeats 4000000 in
theorem cO3_has_f {hb lb ob p c : Nat} (h : ST base B nh v 3 K ad s lk hs hm w) (he : EnvO w (.pointer (some ⟨B, v * 9, none⟩)) hb lb ob) (h5 : hm 5 = jp (ad p)) (h6 : hm 6 = jp (ad c)) (hp : p < s.sz) (hc : c < s.sz) (hge : ¬ s.key c < K) (hf : decide (s.key c = K) = false) : Calls Try.prog 47 #[jp hb, jp lb] w (RetJ base B nh v 3 K ad s (upd (upd lk p false) c false) hs (upd (upd hm 7 .nilFunc) 8 (.bool false)) w) := by
  have H0 := Lib.hid h
  have HE := Lib.hid he
  have HP0 : Hid (JP base w w) := Lib.hid (JP.refl _ _)
  have Hh5 := Lib.hid h5
  have Hh6 := Lib.hid h6
  have Hhp := Lib.hid hp
  have Hhc := Lib.hid hc
  have Hhge := Lib.hid hge
  have Hhf := Lib.hid hf
  have cb0_0 := (HE.out.h.keep HP0.out).cell
  have cb1_0 := (HE.out.l.keep HP0.out).cell
  have cb2_0 := (HE.out.o.keep HP0.out).cell
  have c5_0 := H0.out.hand (i := 5) (by omega)
  rw [show (hm) 5 = jp (ad p) from (by first | exact Hh5.out | (simp [upd]; done) | (simp [upd, Hh5.out]; done))] at c5_0
  have c6_0 := H0.out.hand (i := 6) (by omega)
  rw [show (hm) 6 = jp (ad c) from (by first | exact Hh6.out | (simp [upd]; done) | (simp [upd, Hh6.out]; done))] at c6_0
  have c7_0 := H0.out.hand (i := 7) (by omega)
  have f7_0 := H0.out.hfroz (v * 9 + 7)
  obtain ⟨b0c_0, b1c_0, b2c_0, b3c_0⟩ := H0.out.bead Hhc.out
  have fmc_0 := H0.out.bfroz Hhc.out 2
  clear h he h5 h6 hp hc hf
  go_enter Try.func47, Try.ntmps47
  have HQ0_1 : Hid (∀ m, Calls Try.prog 48 #[.pointer (some ⟨B, v * 9, none⟩)] (w.drewN m) fun e w' => e = .returned (I K) ∧ ∃ m', w' = (w.drewN m).drewN m') := fun m => key_any (H0.out.drewN m)
  have HR0_1 : Hid (∀ m k, Calls Try.prog 48 #[.pointer (some ⟨B, v * 9, none⟩)] ((w.drewN m).drewN k) fun e w' => e = .returned (I K) ∧ ∃ m', w' = ((w.drewN m).drewN k).drewN m') := fun m k => key_any ((H0.out.drewN m).drewN k)
  go_wp2_with fail
  go_quiet ((first | (go_at_call 48; with_reducible exact Calls.quiet_of (HQ0_1.out _)) | (go_at_call 48; with_reducible exact Calls.quiet_of (HR0_1.out _ _))))
  generalize hw1 : World.drewN w nq = w1
  have h1 := H0.out.drewN nq
  rw [hw1] at h1
  have hp1 := (JP.refl base w).drewN nq
  rw [hw1] at hp1
  clear hw1
  have H1 := Lib.hid h1
  have HP1 : Hid (JP base w w1) := Lib.hid (by first | exact HP0.out.trans hp1 | exact (HP0.out.drewN _).trans hp1)
  have cb0_1 := (HE.out.h.keep HP1.out).cell
  have cb1_1 := (HE.out.l.keep HP1.out).cell
  have cb2_1 := (HE.out.o.keep HP1.out).cell
  have c5_1 := H1.out.hand (i := 5) (by omega)
  rw [show (hm) 5 = jp (ad p) from (by first | exact Hh5.out | (simp [upd]; done) | (simp [upd, Hh5.out]; done))] at c5_1
  have c6_1 := H1.out.hand (i := 6) (by omega)
  rw [show (hm) 6 = jp (ad c) from (by first | exact Hh6.out | (simp [upd]; done) | (simp [upd, Hh6.out]; done))] at c6_1
  have c7_1 := H1.out.hand (i := 7) (by omega)
  have f7_1 := H1.out.hfroz (v * 9 + 7)
  obtain ⟨b0c_1, b1c_1, b2c_1, b3c_1⟩ := H1.out.bead Hhc.out
  have fmc_1 := H1.out.bfroz Hhc.out 2
  clear h1 hp1
  have HQ0_2 : Hid (∀ m, Calls Try.prog 50 #[.pointer (some ⟨B, v * 9, none⟩)] (w1.drewN m) fun e w' => e = .returned (.bool false) ∧ ∃ m', w' = (w1.drewN m).drewN m') := fun m => found_any (H1.out.drewN m) (c := c) Hhc.out Hh6.out (b := false) Hhf.out
  have HR0_2 : Hid (∀ m k, Calls Try.prog 50 #[.pointer (some ⟨B, v * 9, none⟩)] ((w1.drewN m).drewN k) fun e w' => e = .returned (.bool false) ∧ ∃ m', w' = ((w1.drewN m).drewN k).drewN m') := fun m k => found_any ((H1.out.drewN m).drewN k) (c := c) Hhc.out Hh6.out (b := false) Hhf.out
  have HQ1_3 : Hid (∀ m, Calls Try.prog 51 #[.pointer (some ⟨B, v * 9, none⟩)] (w1.drewN m) fun e w' => e = .returned (I 3) ∧ ∃ m', w' = (w1.drewN m).drewN m') := fun m => kind_any (H1.out.drewN m)
  have HR1_3 : Hid (∀ m k, Calls Try.prog 51 #[.pointer (some ⟨B, v * 9, none⟩)] ((w1.drewN m).drewN k) fun e w' => e = .returned (I 3) ∧ ∃ m', w' = ((w1.drewN m).drewN k).drewN m') := fun m k => kind_any ((H1.out.drewN m).drewN k)
  go_wp2_with fail
  go_quiet ((first | (go_at_call 50; with_reducible exact Calls.quiet_of (HQ0_2.out _)) | (go_at_call 50; with_reducible exact Calls.quiet_of (HR0_2.out _ _)) | (go_at_call 51; with_reducible exact Calls.quiet_of (HQ1_3.out _)) | (go_at_call 51; with_reducible exact Calls.quiet_of (HR1_3.out _ _))))
  generalize hw2 : World.drewN w1 nq = w2
  have h2 := H1.out.drewN nq
  rw [hw2] at h2
  have hp2 := (JP.refl base w1).drewN nq
  rw [hw2] at hp2
  clear hw2
  have H2 := Lib.hid h2
  have HP2 : Hid (JP base w w2) := Lib.hid (by first | exact HP1.out.trans hp2 | exact (HP1.out.drewN _).trans hp2)
  have cb0_2 := (HE.out.h.keep HP2.out).cell
  have cb1_2 := (HE.out.l.keep HP2.out).cell
  have cb2_2 := (HE.out.o.keep HP2.out).cell
  have c5_2 := H2.out.hand (i := 5) (by omega)
  rw [show (hm) 5 = jp (ad p) from (by first | exact Hh5.out | (simp [upd]; done) | (simp [upd, Hh5.out]; done))] at c5_2
  have c6_2 := H2.out.hand (i := 6) (by omega)
  rw [show (hm) 6 = jp (ad c) from (by first | exact Hh6.out | (simp [upd]; done) | (simp [upd, Hh6.out]; done))] at c6_2
  have c7_2 := H2.out.hand (i := 7) (by omega)
  have f7_2 := H2.out.hfroz (v * 9 + 7)
  obtain ⟨b0c_2, b1c_2, b2c_2, b3c_2⟩ := H2.out.bead Hhc.out
  have fmc_2 := H2.out.bfroz Hhc.out 2
  clear h2 hp2
  go_wp2_with fail
  first | with_reducible refine (free_any H2.out (p := p) (c := c) Hhp.out Hhc.out Hh5.out Hh6.out).mono ?_ | with_reducible refine (free_any (H2.out.drewN _) (p := p) (c := c) Hhp.out Hhc.out Hh5.out Hh6.out).mono ?_ | with_reducible refine (free_any ((H2.out.drewN _).drewN _) (p := p) (c := c) Hhp.out Hhc.out Hh5.out Hh6.out).mono ?_
  rintro e w3 ⟨rfl, h3, hp3⟩
  have H3 := Lib.hid h3
  have HP3 : Hid (JP base w w3) := Lib.hid (by first | exact HP2.out.trans hp3 | exact (HP2.out.drewN _).trans hp3)
  have cb0_3 := (HE.out.h.keep HP3.out).cell
  have cb1_3 := (HE.out.l.keep HP3.out).cell
  have cb2_3 := (HE.out.o.keep HP3.out).cell
  have c7_3 := H3.out.hand (i := 7) (by omega)
  have f7_3 := H3.out.hfroz (v * 9 + 7)
  clear h3 hp3
  go_wp2_with fail
  first | with_reducible refine (end_any H3.out false).mono ?_ | with_reducible refine (end_any (H3.out.drewN _) false).mono ?_ | with_reducible refine (end_any ((H3.out.drewN _).drewN _) false).mono ?_
  rintro e w4 ⟨rfl, h4, hp4⟩
  have H4 := Lib.hid h4
  have HP4 : Hid (JP base w w4) := Lib.hid (by first | exact HP3.out.trans hp4 | exact (HP3.out.drewN _).trans hp4)
  have cb0_4 := (HE.out.h.keep HP4.out).cell
  have cb1_4 := (HE.out.l.keep HP4.out).cell
  have cb2_4 := (HE.out.o.keep HP4.out).cell
  have c7_4 := H4.out.hand (i := 7) (by omega)
  have f7_4 := H4.out.hfroz (v * 9 + 7)
  clear h4 hp4
  go_wp2
  go_end0
  first | exact ⟨rfl, H4.out, HP4.out⟩ | exact ⟨rfl, (H4.out.drewN _), (HP4.out.drewN _)⟩ | exact ⟨rfl, ((H4.out.drewN _).drewN _), ((HP4.out.drewN _).drewN _)⟩

set_option maxRecDepth 100000 in
set_option maxHeartbeats 4000000 in
theorem cO3_add_f {hb lb ob p c : Nat} (h : ST base B nh v 1 K ad s lk hs hm w) (he : EnvO w (.pointer (some ⟨B, v * 9, none⟩)) hb lb ob) (h5 : hm 5 = jp (ad p)) (h6 : hm 6 = jp (ad c)) (hp : p < s.sz) (hc : c < s.sz) (hge : ¬ s.key c < K) (hf : decide (s.key c = K) = true) : Calls Try.prog 47 #[jp hb, jp lb] w (RetJ base B nh v 1 K ad s (upd (upd lk p false) c false) hs (upd (upd hm 7 .nilFunc) 8 (.bool false)) w) := by
  have H0 := Lib.hid h
  have HE := Lib.hid he
  have HP0 : Hid (JP base w w) := Lib.hid (JP.refl _ _)
  have Hh5 := Lib.hid h5
  have Hh6 := Lib.hid h6
  have Hhp := Lib.hid hp
  have Hhc := Lib.hid hc
  have Hhge := Lib.hid hge
  have Hhf := Lib.hid hf
  have cb0_0 := (HE.out.h.keep HP0.out).cell
  have cb1_0 := (HE.out.l.keep HP0.out).cell
  have cb2_0 := (HE.out.o.keep HP0.out).cell
  have c5_0 := H0.out.hand (i := 5) (by omega)
  rw [show (hm) 5 = jp (ad p) from (by first | exact Hh5.out | (simp [upd]; done) | (simp [upd, Hh5.out]; done))] at c5_0
  have c6_0 := H0.out.hand (i := 6) (by omega)
  rw [show (hm) 6 = jp (ad c) from (by first | exact Hh6.out | (simp [upd]; done) | (simp [upd, Hh6.out]; done))] at c6_0
  have c7_0 := H0.out.hand (i := 7) (by omega)
  have f7_0 := H0.out.hfroz (v * 9 + 7)
  obtain ⟨b0c_0, b1c_0, b2c_0, b3c_0⟩ := H0.out.bead Hhc.out
  have fmc_0 := H0.out.bfroz Hhc.out 2
  clear h he h5 h6 hp hc hf
  go_enter Try.func47, Try.ntmps47
  have HQ0_1 : Hid (∀ m, Calls Try.prog 48 #[.pointer (some ⟨B, v * 9, none⟩)] (w.drewN m) fun e w' => e = .returned (I K) ∧ ∃ m', w' = (w.drewN m).drewN m') := fun m => key_any (H0.out.drewN m)
  have HR0_1 : Hid (∀ m k, Calls Try.prog 48 #[.pointer (some ⟨B, v * 9, none⟩)] ((w.drewN m).drewN k) fun e w' => e = .returned (I K) ∧ ∃ m', w' = ((w.drewN m).drewN k).drewN m') := fun m k => key_any ((H0.out.drewN m).drewN k)
  go_wp2_with fail
  go_quiet ((first | (go_at_call 48; with_reducible exact Calls.quiet_of (HQ0_1.out _)) | (go_at_call 48; with_reducible exact Calls.quiet_of (HR0_1.out _ _))))
  generalize hw1 : World.drewN w nq = w1
  have h1 := H0.out.drewN nq
  rw [hw1] at h1
  have hp1 := (JP.refl base w).drewN nq
  rw [hw1] at hp1
  clear hw1
  have H1 := Lib.hid h1
  have HP1 : Hid (JP base w w1) := Lib.hid (by first | exact HP0.out.trans hp1 | exact (HP0.out.drewN _).trans hp1)
  have cb0_1 := (HE.out.h.keep HP1.out).cell
  have cb1_1 := (HE.out.l.keep HP1.out).cell
  have cb2_1 := (HE.out.o.keep HP1.out).cell
  have c5_1 := H1.out.hand (i := 5) (by omega)
  rw [show (hm) 5 = jp (ad p) from (by first | exact Hh5.out | (simp [upd]; done) | (simp [upd, Hh5.out]; done))] at c5_1
  have c6_1 := H1.out.hand (i := 6) (by omega)
  rw [show (hm) 6 = jp (ad c) from (by first | exact Hh6.out | (simp [upd]; done) | (simp [upd, Hh6.out]; done))] at c6_1
  have c7_1 := H1.out.hand (i := 7) (by omega)
  have f7_1 := H1.out.hfroz (v * 9 + 7)
  obtain ⟨b0c_1, b1c_1, b2c_1, b3c_1⟩ := H1.out.bead Hhc.out
  have fmc_1 := H1.out.bfroz Hhc.out 2
  clear h1 hp1
  have HQ0_2 : Hid (∀ m, Calls Try.prog 50 #[.pointer (some ⟨B, v * 9, none⟩)] (w1.drewN m) fun e w' => e = .returned (.bool true) ∧ ∃ m', w' = (w1.drewN m).drewN m') := fun m => found_any (H1.out.drewN m) (c := c) Hhc.out Hh6.out (b := true) Hhf.out
  have HR0_2 : Hid (∀ m k, Calls Try.prog 50 #[.pointer (some ⟨B, v * 9, none⟩)] ((w1.drewN m).drewN k) fun e w' => e = .returned (.bool true) ∧ ∃ m', w' = ((w1.drewN m).drewN k).drewN m') := fun m k => found_any ((H1.out.drewN m).drewN k) (c := c) Hhc.out Hh6.out (b := true) Hhf.out
  have HQ1_3 : Hid (∀ m, Calls Try.prog 51 #[.pointer (some ⟨B, v * 9, none⟩)] (w1.drewN m) fun e w' => e = .returned (I 1) ∧ ∃ m', w' = (w1.drewN m).drewN m') := fun m => kind_any (H1.out.drewN m)
  have HR1_3 : Hid (∀ m k, Calls Try.prog 51 #[.pointer (some ⟨B, v * 9, none⟩)] ((w1.drewN m).drewN k) fun e w' => e = .returned (I 1) ∧ ∃ m', w' = ((w1.drewN m).drewN k).drewN m') := fun m k => kind_any ((H1.out.drewN m).drewN k)
  go_wp2_with fail
  go_quiet ((first | (go_at_call 50; with_reducible exact Calls.quiet_of (HQ0_2.out _)) | (go_at_call 50; with_reducible exact Calls.quiet_of (HR0_2.out _ _)) | (go_at_call 51; with_reducible exact Calls.quiet_of (HQ1_3.out _)) | (go_at_call 51; with_reducible exact Calls.quiet_of (HR1_3.out _ _))))
  generalize hw2 : World.drewN w1 nq = w2
  have h2 := H1.out.drewN nq
  rw [hw2] at h2
  have hp2 := (JP.refl base w1).drewN nq
  rw [hw2] at hp2
  clear hw2
  have H2 := Lib.hid h2
  have HP2 : Hid (JP base w w2) := Lib.hid (by first | exact HP1.out.trans hp2 | exact (HP1.out.drewN _).trans hp2)
  have cb0_2 := (HE.out.h.keep HP2.out).cell
  have cb1_2 := (HE.out.l.keep HP2.out).cell
  have cb2_2 := (HE.out.o.keep HP2.out).cell
  have c5_2 := H2.out.hand (i := 5) (by omega)
  rw [show (hm) 5 = jp (ad p) from (by first | exact Hh5.out | (simp [upd]; done) | (simp [upd, Hh5.out]; done))] at c5_2
  have c6_2 := H2.out.hand (i := 6) (by omega)
  rw [show (hm) 6 = jp (ad c) from (by first | exact Hh6.out | (simp [upd]; done) | (simp [upd, Hh6.out]; done))] at c6_2
  have c7_2 := H2.out.hand (i := 7) (by omega)
  have f7_2 := H2.out.hfroz (v * 9 + 7)
  obtain ⟨b0c_2, b1c_2, b2c_2, b3c_2⟩ := H2.out.bead Hhc.out
  have fmc_2 := H2.out.bfroz Hhc.out 2
  clear h2 hp2
  go_wp2_with fail
  first | with_reducible refine (free_any H2.out (p := p) (c := c) Hhp.out Hhc.out Hh5.out Hh6.out).mono ?_ | with_reducible refine (free_any (H2.out.drewN _) (p := p) (c := c) Hhp.out Hhc.out Hh5.out Hh6.out).mono ?_ | with_reducible refine (free_any ((H2.out.drewN _).drewN _) (p := p) (c := c) Hhp.out Hhc.out Hh5.out Hh6.out).mono ?_
  rintro e w3 ⟨rfl, h3, hp3⟩
  have H3 := Lib.hid h3
  have HP3 : Hid (JP base w w3) := Lib.hid (by first | exact HP2.out.trans hp3 | exact (HP2.out.drewN _).trans hp3)
  have cb0_3 := (HE.out.h.keep HP3.out).cell
  have cb1_3 := (HE.out.l.keep HP3.out).cell
  have cb2_3 := (HE.out.o.keep HP3.out).cell
  have c7_3 := H3.out.hand (i := 7) (by omega)
  have f7_3 := H3.out.hfroz (v * 9 + 7)
  clear h3 hp3
  go_wp2_with fail
  first | with_reducible refine (end_any H3.out false).mono ?_ | with_reducible refine (end_any (H3.out.drewN _) false).mono ?_ | with_reducible refine (end_any ((H3.out.drewN _).drewN _) false).mono ?_
  rintro e w4 ⟨rfl, h4, hp4⟩
  have H4 := Lib.hid h4
  have HP4 : Hid (JP base w w4) := Lib.hid (by first | exact HP3.out.trans hp4 | exact (HP3.out.drewN _).trans hp4)
  have cb0_4 := (HE.out.h.keep HP4.out).cell
  have cb1_4 := (HE.out.l.keep HP4.out).cell
  have cb2_4 := (HE.out.o.keep HP4.out).cell
  have c7_4 := H4.out.hand (i := 7) (by omega)
  have f7_4 := H4.out.hfroz (v * 9 + 7)
  clear h4 hp4
  go_wp2
  go_end0
  first | exact ⟨rfl, H4.out, HP4.out⟩ | exact ⟨rfl, (H4.out.drewN _), (HP4.out.drewN _)⟩ | exact ⟨rfl, ((H4.out.drewN _).drewN _), ((HP4.out.drewN _).drewN _)⟩

set_option maxRecDepth 100000 in
set_option maxHeartbeats 4000000 in
theorem cO3_add_t {hb lb ob p c : Nat} (h : ST base B nh v 1 K ad s lk hs hm w) (he : EnvO w (.pointer (some ⟨B, v * 9, none⟩)) hb lb ob) (h5 : hm 5 = jp (ad p)) (h6 : hm 6 = jp (ad c)) (hp : p < s.sz) (hc : c < s.sz) (hge : ¬ s.key c < K) (hf : decide (s.key c = K) = false) (hpt : p ≠ s.tl) (htl : s.tl < s.sz) (hnl : ∀ i, i < s.sz → i ≠ s.tl → s.nx i < s.sz) (hlk : lk s.sz = false) : Calls Try.prog 47 #[jp hb, jp lb] w (fun e w' => ∃ g, RetJ base B nh v 1 K (upd ad s.sz g) (s.insc p c K) (upd (upd lk p false) c false) hs (upd (upd hm 7 .nilFunc) 8 (.bool true)) w e w') := by
  have H0 := Lib.hid h
  have HE := Lib.hid he
  have HP0 : Hid (JP base w w) := Lib.hid (JP.refl _ _)
  have Hh5 := Lib.hid h5
  have Hh6 := Lib.hid h6
  have Hhp := Lib.hid hp
  have Hhc := Lib.hid hc
  have Hhge := Lib.hid hge
  have Hhf := Lib.hid hf
  have Hhpt := Lib.hid hpt
  have Hhtl := Lib.hid htl
  have Hhnl := Lib.hid hnl
  have Hhlk := Lib.hid hlk
  have cb0_0 := (HE.out.h.keep HP0.out).cell
  have cb1_0 := (HE.out.l.keep HP0.out).cell
  have cb2_0 := (HE.out.o.keep HP0.out).cell
  have c5_0 := H0.out.hand (i := 5) (by omega)
  rw [show (hm) 5 = jp (ad p) from (by first | exact Hh5.out | (simp [upd]; done) | (simp [upd, Hh5.out]; done))] at c5_0
  have c6_0 := H0.out.hand (i := 6) (by omega)
  rw [show (hm) 6 = jp (ad c) from (by first | exact Hh6.out | (simp [upd]; done) | (simp [upd, Hh6.out]; done))] at c6_0
  have c7_0 := H0.out.hand (i := 7) (by omega)
  have f7_0 := H0.out.hfroz (v * 9 + 7)
  obtain ⟨b0c_0, b1c_0, b2c_0, b3c_0⟩ := H0.out.bead Hhc.out
  have fmc_0 := H0.out.bfroz Hhc.out 2
  clear h he h5 h6 hp hc hf hpt htl hnl hlk
  go_enter Try.func47, Try.ntmps47
  have HQ0_1 : Hid (∀ m, Calls Try.prog 48 #[.pointer (some ⟨B, v * 9, none⟩)] (w.drewN m) fun e w' => e = .returned (I K) ∧ ∃ m', w' = (w.drewN m).drewN m') := fun m => key_any (H0.out.drewN m)
  have HR0_1 : Hid (∀ m k, Calls Try.prog 48 #[.pointer (some ⟨B, v * 9, none⟩)] ((w.drewN m).drewN k) fun e w' => e = .returned (I K) ∧ ∃ m', w' = ((w.drewN m).drewN k).drewN m') := fun m k => key_any ((H0.out.drewN m).drewN k)
  go_wp2_with fail
  go_quiet ((first | (go_at_call 48; with_reducible exact Calls.quiet_of (HQ0_1.out _)) | (go_at_call 48; with_reducible exact Calls.quiet_of (HR0_1.out _ _))))
  generalize hw1 : World.drewN w nq = w1
  have h1 := H0.out.drewN nq
  rw [hw1] at h1
  have hp1 := (JP.refl base w).drewN nq
  rw [hw1] at hp1
  clear hw1
  have H1 := Lib.hid h1
  have HP1 : Hid (JP base w w1) := Lib.hid (by first | exact HP0.out.trans hp1 | exact (HP0.out.drewN _).trans hp1)
  have cb0_1 := (HE.out.h.keep HP1.out).cell
  have cb1_1 := (HE.out.l.keep HP1.out).cell
  have cb2_1 := (HE.out.o.keep HP1.out).cell
  have c5_1 := H1.out.hand (i := 5) (by omega)
  rw [show (hm) 5 = jp (ad p) from (by first | exact Hh5.out | (simp [upd]; done) | (simp [upd, Hh5.out]; done))] at c5_1
  have c6_1 := H1.out.hand (i := 6) (by omega)
  rw [show (hm) 6 = jp (ad c) from (by first | exact Hh6.out | (simp [upd]; done) | (simp [upd, Hh6.out]; done))] at c6_1
  have c7_1 := H1.out.hand (i := 7) (by omega)
  have f7_1 := H1.out.hfroz (v * 9 + 7)
  obtain ⟨b0c_1, b1c_1, b2c_1, b3c_1⟩ := H1.out.bead Hhc.out
  have fmc_1 := H1.out.bfroz Hhc.out 2
  clear h1 hp1
  have HQ0_2 : Hid (∀ m, Calls Try.prog 50 #[.pointer (some ⟨B, v * 9, none⟩)] (w1.drewN m) fun e w' => e = .returned (.bool false) ∧ ∃ m', w' = (w1.drewN m).drewN m') := fun m => found_any (H1.out.drewN m) (c := c) Hhc.out Hh6.out (b := false) Hhf.out
  have HR0_2 : Hid (∀ m k, Calls Try.prog 50 #[.pointer (some ⟨B, v * 9, none⟩)] ((w1.drewN m).drewN k) fun e w' => e = .returned (.bool false) ∧ ∃ m', w' = ((w1.drewN m).drewN k).drewN m') := fun m k => found_any ((H1.out.drewN m).drewN k) (c := c) Hhc.out Hh6.out (b := false) Hhf.out
  have HQ1_3 : Hid (∀ m, Calls Try.prog 51 #[.pointer (some ⟨B, v * 9, none⟩)] (w1.drewN m) fun e w' => e = .returned (I 1) ∧ ∃ m', w' = (w1.drewN m).drewN m') := fun m => kind_any (H1.out.drewN m)
  have HR1_3 : Hid (∀ m k, Calls Try.prog 51 #[.pointer (some ⟨B, v * 9, none⟩)] ((w1.drewN m).drewN k) fun e w' => e = .returned (I 1) ∧ ∃ m', w' = ((w1.drewN m).drewN k).drewN m') := fun m k => kind_any ((H1.out.drewN m).drewN k)
  go_wp2_with fail
  go_quiet ((first | (go_at_call 50; with_reducible exact Calls.quiet_of (HQ0_2.out _)) | (go_at_call 50; with_reducible exact Calls.quiet_of (HR0_2.out _ _)) | (go_at_call 51; with_reducible exact Calls.quiet_of (HQ1_3.out _)) | (go_at_call 51; with_reducible exact Calls.quiet_of (HR1_3.out _ _))))
  generalize hw2 : World.drewN w1 nq = w2
  have h2 := H1.out.drewN nq
  rw [hw2] at h2
  have hp2 := (JP.refl base w1).drewN nq
  rw [hw2] at hp2
  clear hw2
  have H2 := Lib.hid h2
  have HP2 : Hid (JP base w w2) := Lib.hid (by first | exact HP1.out.trans hp2 | exact (HP1.out.drewN _).trans hp2)
  have cb0_2 := (HE.out.h.keep HP2.out).cell
  have cb1_2 := (HE.out.l.keep HP2.out).cell
  have cb2_2 := (HE.out.o.keep HP2.out).cell
  have c5_2 := H2.out.hand (i := 5) (by omega)
  rw [show (hm) 5 = jp (ad p) from (by first | exact Hh5.out | (simp [upd]; done) | (simp [upd, Hh5.out]; done))] at c5_2
  have c6_2 := H2.out.hand (i := 6) (by omega)
  rw [show (hm) 6 = jp (ad c) from (by first | exact Hh6.out | (simp [upd]; done) | (simp [upd, Hh6.out]; done))] at c6_2
  have c7_2 := H2.out.hand (i := 7) (by omega)
  have f7_2 := H2.out.hfroz (v * 9 + 7)
  obtain ⟨b0c_2, b1c_2, b2c_2, b3c_2⟩ := H2.out.bead Hhc.out
  have fmc_2 := H2.out.bfroz Hhc.out 2
  clear h2 hp2
  go_wp2_with fail
  with_reducible refine (kind_any H2.out).mono ?_
  rintro e w3 ⟨rfl, m3, hw3⟩
  have h3 := H2.out.drewN m3
  rw [← hw3] at h3
  have hp3 := (JP.refl base w2).drewN m3
  rw [← hw3] at hp3
  clear hw3
  have H3 := Lib.hid h3
  have HP3 : Hid (JP base w w3) := Lib.hid (by first | exact HP2.out.trans hp3 | exact (HP2.out.drewN _).trans hp3)
  have cb0_3 := (HE.out.h.keep HP3.out).cell
  have cb1_3 := (HE.out.l.keep HP3.out).cell
  have cb2_3 := (HE.out.o.keep HP3.out).cell
  have c5_3 := H3.out.hand (i := 5) (by omega)
  rw [show (hm) 5 = jp (ad p) from (by first | exact Hh5.out | (simp [upd]; done) | (simp [upd, Hh5.out]; done))] at c5_3
  have c6_3 := H3.out.hand (i := 6) (by omega)
  rw [show (hm) 6 = jp (ad c) from (by first | exact Hh6.out | (simp [upd]; done) | (simp [upd, Hh6.out]; done))] at c6_3
  have c7_3 := H3.out.hand (i := 7) (by omega)
  have f7_3 := H3.out.hfroz (v * 9 + 7)
  obtain ⟨b0c_3, b1c_3, b2c_3, b3c_3⟩ := H3.out.bead Hhc.out
  have fmc_3 := H3.out.bfroz Hhc.out 2
  clear h3 hp3
  go_wp2_with fail
  first | with_reducible refine (add_any H3.out (p := p) (c := c) Hhp.out Hhpt.out Hhc.out Hhtl.out Hhnl.out Hhlk.out Hh5.out Hh6.out).mono ?_ | with_reducible refine (add_any (H3.out.drewN _) (p := p) (c := c) Hhp.out Hhpt.out Hhc.out Hhtl.out Hhnl.out Hhlk.out Hh5.out Hh6.out).mono ?_ | with_reducible refine (add_any ((H3.out.drewN _).drewN _) (p := p) (c := c) Hhp.out Hhpt.out Hhc.out Hhtl.out Hhnl.out Hhlk.out Hh5.out Hh6.out).mono ?_
  rintro e w4 ⟨g, rfl, h4, hp4⟩
  have H4 := Lib.hid h4
  have HP4 : Hid (JP base w w4) := Lib.hid (by first | exact HP3.out.trans hp4 | exact (HP3.out.drewN _).trans hp4)
  have cb0_4 := (HE.out.h.keep HP4.out).cell
  have cb1_4 := (HE.out.l.keep HP4.out).cell
  have cb2_4 := (HE.out.o.keep HP4.out).cell
  have c7_4 := H4.out.hand (i := 7) (by omega)
  have f7_4 := H4.out.hfroz (v * 9 + 7)
  clear h4 hp4
  go_wp2_with fail
  first | with_reducible refine (free_any H4.out (p := p) (c := c) (sz_ins Hhp.out) (sz_ins Hhc.out) (Hh5.out.trans (by rw [upd_other _ _ (Nat.ne_of_lt Hhp.out)])) (Hh6.out.trans (by rw [upd_other _ _ (Nat.ne_of_lt Hhc.out)]))).mono ?_ | with_reducible refine (free_any (H4.out.drewN _) (p := p) (c := c) (sz_ins Hhp.out) (sz_ins Hhc.out) (Hh5.out.trans (by rw [upd_other _ _ (Nat.ne_of_lt Hhp.out)])) (Hh6.out.trans (by rw [upd_other _ _ (Nat.ne_of_lt Hhc.out)]))).mono ?_ | with_reducible refine (free_any ((H4.out.drewN _).drewN _) (p := p) (c := c) (sz_ins Hhp.out) (sz_ins Hhc.out) (Hh5.out.trans (by rw [upd_other _ _ (Nat.ne_of_lt Hhp.out)])) (Hh6.out.trans (by rw [upd_other _ _ (Nat.ne_of_lt Hhc.out)]))).mono ?_
  rintro e w5 ⟨rfl, h5, hp5⟩
  have H5 := Lib.hid h5
  have HP5 : Hid (JP base w w5) := Lib.hid (by first | exact HP4.out.trans hp5 | exact (HP4.out.drewN _).trans hp5)
  have cb0_5 := (HE.out.h.keep HP5.out).cell
  have cb1_5 := (HE.out.l.keep HP5.out).cell
  have cb2_5 := (HE.out.o.keep HP5.out).cell
  have c7_5 := H5.out.hand (i := 7) (by omega)
  have f7_5 := H5.out.hfroz (v * 9 + 7)
  clear h5 hp5
  go_wp2_with fail
  first | with_reducible refine (end_any H5.out true).mono ?_ | with_reducible refine (end_any (H5.out.drewN _) true).mono ?_ | with_reducible refine (end_any ((H5.out.drewN _).drewN _) true).mono ?_
  rintro e w6 ⟨rfl, h6, hp6⟩
  have H6 := Lib.hid h6
  have HP6 : Hid (JP base w w6) := Lib.hid (by first | exact HP5.out.trans hp6 | exact (HP5.out.drewN _).trans hp6)
  have cb0_6 := (HE.out.h.keep HP6.out).cell
  have cb1_6 := (HE.out.l.keep HP6.out).cell
  have cb2_6 := (HE.out.o.keep HP6.out).cell
  have c7_6 := H6.out.hand (i := 7) (by omega)
  have f7_6 := H6.out.hfroz (v * 9 + 7)
  clear h6 hp6
  go_wp2
  go_end0
  first | exact ⟨g, rfl, H6.out, HP6.out⟩ | exact ⟨g, rfl, (H6.out.drewN _), (HP6.out.drewN _)⟩ | exact ⟨g, rfl, ((H6.out.drewN _).drewN _), ((HP6.out.drewN _).drewN _)⟩

set_option maxRecDepth 100000 in
set_option maxHeartbeats 4000000 in
theorem cO3_cut_t {hb lb ob p c : Nat} (h : ST base B nh v 2 K ad s lk hs hm w) (he : EnvO w (.pointer (some ⟨B, v * 9, none⟩)) hb lb ob) (h5 : hm 5 = jp (ad p)) (h6 : hm 6 = jp (ad c)) (hp : p < s.sz) (hc : c < s.sz) (hge : ¬ s.key c < K) (hf : decide (s.key c = K) = true) (hpt : p ≠ s.tl) (hct : c ≠ s.tl) : Calls Try.prog 47 #[jp hb, jp lb] w (RetJ base B nh v 2 K ad ((s.cut p c).mark c) (upd (upd lk p false) c false) hs (upd (upd hm 7 .nilFunc) 8 (.bool true)) w) := by
  have H0 := Lib.hid h
  have HE := Lib.hid he
  have HP0 : Hid (JP base w w) := Lib.hid (JP.refl _ _)
  have Hh5 := Lib.hid h5
  have Hh6 := Lib.hid h6
  have Hhp := Lib.hid hp
  have Hhc := Lib.hid hc
  have Hhge := Lib.hid hge
  have Hhf := Lib.hid hf
  have Hhpt := Lib.hid hpt
  have Hhct := Lib.hid hct
  have cb0_0 := (HE.out.h.keep HP0.out).cell
  have cb1_0 := (HE.out.l.keep HP0.out).cell
  have cb2_0 := (HE.out.o.keep HP0.out).cell
  have c5_0 := H0.out.hand (i := 5) (by omega)
  rw [show (hm) 5 = jp (ad p) from (by first | exact Hh5.out | (simp [upd]; done) | (simp [upd, Hh5.out]; done))] at c5_0
  have c6_0 := H0.out.hand (i := 6) (by omega)
  rw [show (hm) 6 = jp (ad c) from (by first | exact Hh6.out | (simp [upd]; done) | (simp [upd, Hh6.out]; done))] at c6_0
  have c7_0 := H0.out.hand (i := 7) (by omega)
  have f7_0 := H0.out.hfroz (v * 9 + 7)
  obtain ⟨b0c_0, b1c_0, b2c_0, b3c_0⟩ := H0.out.bead Hhc.out
  have fmc_0 := H0.out.bfroz Hhc.out 2
  clear h he h5 h6 hp hc hf hpt hct
  go_enter Try.func47, Try.ntmps47
  have HQ0_1 : Hid (∀ m, Calls Try.prog 48 #[.pointer (some ⟨B, v * 9, none⟩)] (w.drewN m) fun e w' => e = .returned (I K) ∧ ∃ m', w' = (w.drewN m).drewN m') := fun m => key_any (H0.out.drewN m)
  have HR0_1 : Hid (∀ m k, Calls Try.prog 48 #[.pointer (some ⟨B, v * 9, none⟩)] ((w.drewN m).drewN k) fun e w' => e = .returned (I K) ∧ ∃ m', w' = ((w.drewN m).drewN k).drewN m') := fun m k => key_any ((H0.out.drewN m).drewN k)
  go_wp2_with fail
  go_quiet ((first | (go_at_call 48; with_reducible exact Calls.quiet_of (HQ0_1.out _)) | (go_at_call 48; with_reducible exact Calls.quiet_of (HR0_1.out _ _))))
  generalize hw1 : World.drewN w nq = w1
  have h1 := H0.out.drewN nq
  rw [hw1] at h1
  have hp1 := (JP.refl base w).drewN nq
  rw [hw1] at hp1
  clear hw1
  have H1 := Lib.hid h1
  have HP1 : Hid (JP base w w1) := Lib.hid (by first | exact HP0.out.trans hp1 | exact (HP0.out.drewN _).trans hp1)
  have cb0_1 := (HE.out.h.keep HP1.out).cell
  have cb1_1 := (HE.out.l.keep HP1.out).cell
  have cb2_1 := (HE.out.o.keep HP1.out).cell
  have c5_1 := H1.out.hand (i := 5) (by omega)
  rw [show (hm) 5 = jp (ad p) from (by first | exact Hh5.out | (simp [upd]; done) | (simp [upd, Hh5.out]; done))] at c5_1
  have c6_1 := H1.out.hand (i := 6) (by omega)
  rw [show (hm) 6 = jp (ad c) from (by first | exact Hh6.out | (simp [upd]; done) | (simp [upd, Hh6.out]; done))] at c6_1
  have c7_1 := H1.out.hand (i := 7) (by omega)
  have f7_1 := H1.out.hfroz (v * 9 + 7)
  obtain ⟨b0c_1, b1c_1, b2c_1, b3c_1⟩ := H1.out.bead Hhc.out
  have fmc_1 := H1.out.bfroz Hhc.out 2
  clear h1 hp1
  have HQ0_2 : Hid (∀ m, Calls Try.prog 50 #[.pointer (some ⟨B, v * 9, none⟩)] (w1.drewN m) fun e w' => e = .returned (.bool true) ∧ ∃ m', w' = (w1.drewN m).drewN m') := fun m => found_any (H1.out.drewN m) (c := c) Hhc.out Hh6.out (b := true) Hhf.out
  have HR0_2 : Hid (∀ m k, Calls Try.prog 50 #[.pointer (some ⟨B, v * 9, none⟩)] ((w1.drewN m).drewN k) fun e w' => e = .returned (.bool true) ∧ ∃ m', w' = ((w1.drewN m).drewN k).drewN m') := fun m k => found_any ((H1.out.drewN m).drewN k) (c := c) Hhc.out Hh6.out (b := true) Hhf.out
  have HQ1_3 : Hid (∀ m, Calls Try.prog 51 #[.pointer (some ⟨B, v * 9, none⟩)] (w1.drewN m) fun e w' => e = .returned (I 2) ∧ ∃ m', w' = (w1.drewN m).drewN m') := fun m => kind_any (H1.out.drewN m)
  have HR1_3 : Hid (∀ m k, Calls Try.prog 51 #[.pointer (some ⟨B, v * 9, none⟩)] ((w1.drewN m).drewN k) fun e w' => e = .returned (I 2) ∧ ∃ m', w' = ((w1.drewN m).drewN k).drewN m') := fun m k => kind_any ((H1.out.drewN m).drewN k)
  go_wp2_with fail
  go_quiet ((first | (go_at_call 50; with_reducible exact Calls.quiet_of (HQ0_2.out _)) | (go_at_call 50; with_reducible exact Calls.quiet_of (HR0_2.out _ _)) | (go_at_call 51; with_reducible exact Calls.quiet_of (HQ1_3.out _)) | (go_at_call 51; with_reducible exact Calls.quiet_of (HR1_3.out _ _))))
  generalize hw2 : World.drewN w1 nq = w2
  have h2 := H1.out.drewN nq
  rw [hw2] at h2
  have hp2 := (JP.refl base w1).drewN nq
  rw [hw2] at hp2
  clear hw2
  have H2 := Lib.hid h2
  have HP2 : Hid (JP base w w2) := Lib.hid (by first | exact HP1.out.trans hp2 | exact (HP1.out.drewN _).trans hp2)
  have cb0_2 := (HE.out.h.keep HP2.out).cell
  have cb1_2 := (HE.out.l.keep HP2.out).cell
  have cb2_2 := (HE.out.o.keep HP2.out).cell
  have c5_2 := H2.out.hand (i := 5) (by omega)
  rw [show (hm) 5 = jp (ad p) from (by first | exact Hh5.out | (simp [upd]; done) | (simp [upd, Hh5.out]; done))] at c5_2
  have c6_2 := H2.out.hand (i := 6) (by omega)
  rw [show (hm) 6 = jp (ad c) from (by first | exact Hh6.out | (simp [upd]; done) | (simp [upd, Hh6.out]; done))] at c6_2
  have c7_2 := H2.out.hand (i := 7) (by omega)
  have f7_2 := H2.out.hfroz (v * 9 + 7)
  obtain ⟨b0c_2, b1c_2, b2c_2, b3c_2⟩ := H2.out.bead Hhc.out
  have fmc_2 := H2.out.bfroz Hhc.out 2
  clear h2 hp2
  go_wp2_with fail
  with_reducible refine (kind_any H2.out).mono ?_
  rintro e w3 ⟨rfl, m3, hw3⟩
  have h3 := H2.out.drewN m3
  rw [← hw3] at h3
  have hp3 := (JP.refl base w2).drewN m3
  rw [← hw3] at hp3
  clear hw3
  have H3 := Lib.hid h3
  have HP3 : Hid (JP base w w3) := Lib.hid (by first | exact HP2.out.trans hp3 | exact (HP2.out.drewN _).trans hp3)
  have cb0_3 := (HE.out.h.keep HP3.out).cell
  have cb1_3 := (HE.out.l.keep HP3.out).cell
  have cb2_3 := (HE.out.o.keep HP3.out).cell
  have c5_3 := H3.out.hand (i := 5) (by omega)
  rw [show (hm) 5 = jp (ad p) from (by first | exact Hh5.out | (simp [upd]; done) | (simp [upd, Hh5.out]; done))] at c5_3
  have c6_3 := H3.out.hand (i := 6) (by omega)
  rw [show (hm) 6 = jp (ad c) from (by first | exact Hh6.out | (simp [upd]; done) | (simp [upd, Hh6.out]; done))] at c6_3
  have c7_3 := H3.out.hand (i := 7) (by omega)
  have f7_3 := H3.out.hfroz (v * 9 + 7)
  obtain ⟨b0c_3, b1c_3, b2c_3, b3c_3⟩ := H3.out.bead Hhc.out
  have fmc_3 := H3.out.bfroz Hhc.out 2
  clear h3 hp3
  go_wp2_with fail
  with_reducible refine (kind_any H3.out).mono ?_
  rintro e w4 ⟨rfl, m4, hw4⟩
  have h4 := H3.out.drewN m4
  rw [← hw4] at h4
  have hp4 := (JP.refl base w3).drewN m4
  rw [← hw4] at hp4
  clear hw4
  have H4 := Lib.hid h4
  have HP4 : Hid (JP base w w4) := Lib.hid (by first | exact HP3.out.trans hp4 | exact (HP3.out.drewN _).trans hp4)
  have cb0_4 := (HE.out.h.keep HP4.out).cell
  have cb1_4 := (HE.out.l.keep HP4.out).cell
  have cb2_4 := (HE.out.o.keep HP4.out).cell
  have c5_4 := H4.out.hand (i := 5) (by omega)
  rw [show (hm) 5 = jp (ad p) from (by first | exact Hh5.out | (simp [upd]; done) | (simp [upd, Hh5.out]; done))] at c5_4
  have c6_4 := H4.out.hand (i := 6) (by omega)
  rw [show (hm) 6 = jp (ad c) from (by first | exact Hh6.out | (simp [upd]; done) | (simp [upd, Hh6.out]; done))] at c6_4
  have c7_4 := H4.out.hand (i := 7) (by omega)
  have f7_4 := H4.out.hfroz (v * 9 + 7)
  obtain ⟨b0c_4, b1c_4, b2c_4, b3c_4⟩ := H4.out.bead Hhc.out
  have fmc_4 := H4.out.bfroz Hhc.out 2
  clear h4 hp4
  go_wp2_with fail
  first | with_reducible refine (unlink_any H4.out (p := p) (c := c) Hhp.out Hhpt.out Hhc.out Hhct.out Hh5.out Hh6.out).mono ?_ | with_reducible refine (unlink_any (H4.out.drewN _) (p := p) (c := c) Hhp.out Hhpt.out Hhc.out Hhct.out Hh5.out Hh6.out).mono ?_ | with_reducible refine (unlink_any ((H4.out.drewN _).drewN _) (p := p) (c := c) Hhp.out Hhpt.out Hhc.out Hhct.out Hh5.out Hh6.out).mono ?_
  rintro e w5 ⟨rfl, h5, hp5⟩
  have H5 := Lib.hid h5
  have HP5 : Hid (JP base w w5) := Lib.hid (by first | exact HP4.out.trans hp5 | exact (HP4.out.drewN _).trans hp5)
  have cb0_5 := (HE.out.h.keep HP5.out).cell
  have cb1_5 := (HE.out.l.keep HP5.out).cell
  have cb2_5 := (HE.out.o.keep HP5.out).cell
  have c6_5 := H5.out.hand (i := 6) (by omega)
  rw [show (hm) 6 = jp (ad c) from (by first | exact Hh6.out | (simp [upd]; done) | (simp [upd, Hh6.out]; done))] at c6_5
  have c7_5 := H5.out.hand (i := 7) (by omega)
  have f7_5 := H5.out.hfroz (v * 9 + 7)
  obtain ⟨b0c_5, b1c_5, b2c_5, b3c_5⟩ := H5.out.bead (sz_cut Hhc.out)
  have fmc_5 := H5.out.bfroz (sz_cut Hhc.out) 2
  clear h5 hp5
  go_wp2_with fail
  first | with_reducible refine (free_any (H5.out.mark (x := c) (sz_cut Hhc.out)) (p := p) (c := c) (sz_mc Hhp.out) (sz_mc Hhc.out) Hh5.out Hh6.out).mono ?_ | with_reducible refine (free_any ((H5.out.drewN _).mark (x := c) (sz_cut Hhc.out)) (p := p) (c := c) (sz_mc Hhp.out) (sz_mc Hhc.out) Hh5.out Hh6.out).mono ?_ | with_reducible refine (free_any (((H5.out.drewN _).drewN _).mark (x := c) (sz_cut Hhc.out)) (p := p) (c := c) (sz_mc Hhp.out) (sz_mc Hhc.out) Hh5.out Hh6.out).mono ?_
  rintro e w6 ⟨rfl, h6, hp6⟩
  have H6 := Lib.hid h6
  have HP6 : Hid (JP base w w6) := Lib.hid (by first | exact (HP5.out.trans (H5.out.js.jp_node (x := c) Hhc.out _ _)).trans hp6 | exact (HP5.out.drewN _).trans hp6)
  have cb0_6 := (HE.out.h.keep HP6.out).cell
  have cb1_6 := (HE.out.l.keep HP6.out).cell
  have cb2_6 := (HE.out.o.keep HP6.out).cell
  have c7_6 := H6.out.hand (i := 7) (by omega)
  have f7_6 := H6.out.hfroz (v * 9 + 7)
  clear h6 hp6
  go_wp2_with fail
  first | with_reducible refine (end_any H6.out true).mono ?_ | with_reducible refine (end_any (H6.out.drewN _) true).mono ?_ | with_reducible refine (end_any ((H6.out.drewN _).drewN _) true).mono ?_
  rintro e w7 ⟨rfl, h7, hp7⟩
  have H7 := Lib.hid h7
  have HP7 : Hid (JP base w w7) := Lib.hid (by first | exact HP6.out.trans hp7 | exact (HP6.out.drewN _).trans hp7)
  have cb0_7 := (HE.out.h.keep HP7.out).cell
  have cb1_7 := (HE.out.l.keep HP7.out).cell
  have cb2_7 := (HE.out.o.keep HP7.out).cell
  have c7_7 := H7.out.hand (i := 7) (by omega)
  have f7_7 := H7.out.hfroz (v * 9 + 7)
  clear h7 hp7
  go_wp2
  go_end0
  first | exact ⟨rfl, H7.out, HP7.out⟩ | exact ⟨rfl, (H7.out.drewN _), (HP7.out.drewN _)⟩ | exact ⟨rfl, ((H7.out.drewN _).drewN _), ((HP7.out.drewN _).drewN _)⟩

set_option maxRecDepth 100000 in
set_option maxHeartbeats 4000000 in
theorem cO3_cut_f {hb lb ob p c : Nat} (h : ST base B nh v 2 K ad s lk hs hm w) (he : EnvO w (.pointer (some ⟨B, v * 9, none⟩)) hb lb ob) (h5 : hm 5 = jp (ad p)) (h6 : hm 6 = jp (ad c)) (hp : p < s.sz) (hc : c < s.sz) (hge : ¬ s.key c < K) (hf : decide (s.key c = K) = false) : Calls Try.prog 47 #[jp hb, jp lb] w (RetJ base B nh v 2 K ad s (upd (upd lk p false) c false) hs (upd (upd hm 7 .nilFunc) 8 (.bool false)) w) := by
  have H0 := Lib.hid h
  have HE := Lib.hid he
  have HP0 : Hid (JP base w w) := Lib.hid (JP.refl _ _)
  have Hh5 := Lib.hid h5
  have Hh6 := Lib.hid h6
  have Hhp := Lib.hid hp
  have Hhc := Lib.hid hc
  have Hhge := Lib.hid hge
  have Hhf := Lib.hid hf
  have cb0_0 := (HE.out.h.keep HP0.out).cell
  have cb1_0 := (HE.out.l.keep HP0.out).cell
  have cb2_0 := (HE.out.o.keep HP0.out).cell
  have c5_0 := H0.out.hand (i := 5) (by omega)
  rw [show (hm) 5 = jp (ad p) from (by first | exact Hh5.out | (simp [upd]; done) | (simp [upd, Hh5.out]; done))] at c5_0
  have c6_0 := H0.out.hand (i := 6) (by omega)
  rw [show (hm) 6 = jp (ad c) from (by first | exact Hh6.out | (simp [upd]; done) | (simp [upd, Hh6.out]; done))] at c6_0
  have c7_0 := H0.out.hand (i := 7) (by omega)
  have f7_0 := H0.out.hfroz (v * 9 + 7)
  obtain ⟨b0c_0, b1c_0, b2c_0, b3c_0⟩ := H0.out.bead Hhc.out
  have fmc_0 := H0.out.bfroz Hhc.out 2
  clear h he h5 h6 hp hc hf
  go_enter Try.func47, Try.ntmps47
  have HQ0_1 : Hid (∀ m, Calls Try.prog 48 #[.pointer (some ⟨B, v * 9, none⟩)] (w.drewN m) fun e w' => e = .returned (I K) ∧ ∃ m', w' = (w.drewN m).drewN m') := fun m => key_any (H0.out.drewN m)
  have HR0_1 : Hid (∀ m k, Calls Try.prog 48 #[.pointer (some ⟨B, v * 9, none⟩)] ((w.drewN m).drewN k) fun e w' => e = .returned (I K) ∧ ∃ m', w' = ((w.drewN m).drewN k).drewN m') := fun m k => key_any ((H0.out.drewN m).drewN k)
  go_wp2_with fail
  go_quiet ((first | (go_at_call 48; with_reducible exact Calls.quiet_of (HQ0_1.out _)) | (go_at_call 48; with_reducible exact Calls.quiet_of (HR0_1.out _ _))))
  generalize hw1 : World.drewN w nq = w1
  have h1 := H0.out.drewN nq
  rw [hw1] at h1
  have hp1 := (JP.refl base w).drewN nq
  rw [hw1] at hp1
  clear hw1
  have H1 := Lib.hid h1
  have HP1 : Hid (JP base w w1) := Lib.hid (by first | exact HP0.out.trans hp1 | exact (HP0.out.drewN _).trans hp1)
  have cb0_1 := (HE.out.h.keep HP1.out).cell
  have cb1_1 := (HE.out.l.keep HP1.out).cell
  have cb2_1 := (HE.out.o.keep HP1.out).cell
  have c5_1 := H1.out.hand (i := 5) (by omega)
  rw [show (hm) 5 = jp (ad p) from (by first | exact Hh5.out | (simp [upd]; done) | (simp [upd, Hh5.out]; done))] at c5_1
  have c6_1 := H1.out.hand (i := 6) (by omega)
  rw [show (hm) 6 = jp (ad c) from (by first | exact Hh6.out | (simp [upd]; done) | (simp [upd, Hh6.out]; done))] at c6_1
  have c7_1 := H1.out.hand (i := 7) (by omega)
  have f7_1 := H1.out.hfroz (v * 9 + 7)
  obtain ⟨b0c_1, b1c_1, b2c_1, b3c_1⟩ := H1.out.bead Hhc.out
  have fmc_1 := H1.out.bfroz Hhc.out 2
  clear h1 hp1
  have HQ0_2 : Hid (∀ m, Calls Try.prog 50 #[.pointer (some ⟨B, v * 9, none⟩)] (w1.drewN m) fun e w' => e = .returned (.bool false) ∧ ∃ m', w' = (w1.drewN m).drewN m') := fun m => found_any (H1.out.drewN m) (c := c) Hhc.out Hh6.out (b := false) Hhf.out
  have HR0_2 : Hid (∀ m k, Calls Try.prog 50 #[.pointer (some ⟨B, v * 9, none⟩)] ((w1.drewN m).drewN k) fun e w' => e = .returned (.bool false) ∧ ∃ m', w' = ((w1.drewN m).drewN k).drewN m') := fun m k => found_any ((H1.out.drewN m).drewN k) (c := c) Hhc.out Hh6.out (b := false) Hhf.out
  have HQ1_3 : Hid (∀ m, Calls Try.prog 51 #[.pointer (some ⟨B, v * 9, none⟩)] (w1.drewN m) fun e w' => e = .returned (I 2) ∧ ∃ m', w' = (w1.drewN m).drewN m') := fun m => kind_any (H1.out.drewN m)
  have HR1_3 : Hid (∀ m k, Calls Try.prog 51 #[.pointer (some ⟨B, v * 9, none⟩)] ((w1.drewN m).drewN k) fun e w' => e = .returned (I 2) ∧ ∃ m', w' = ((w1.drewN m).drewN k).drewN m') := fun m k => kind_any ((H1.out.drewN m).drewN k)
  go_wp2_with fail
  go_quiet ((first | (go_at_call 50; with_reducible exact Calls.quiet_of (HQ0_2.out _)) | (go_at_call 50; with_reducible exact Calls.quiet_of (HR0_2.out _ _)) | (go_at_call 51; with_reducible exact Calls.quiet_of (HQ1_3.out _)) | (go_at_call 51; with_reducible exact Calls.quiet_of (HR1_3.out _ _))))
  generalize hw2 : World.drewN w1 nq = w2
  have h2 := H1.out.drewN nq
  rw [hw2] at h2
  have hp2 := (JP.refl base w1).drewN nq
  rw [hw2] at hp2
  clear hw2
  have H2 := Lib.hid h2
  have HP2 : Hid (JP base w w2) := Lib.hid (by first | exact HP1.out.trans hp2 | exact (HP1.out.drewN _).trans hp2)
  have cb0_2 := (HE.out.h.keep HP2.out).cell
  have cb1_2 := (HE.out.l.keep HP2.out).cell
  have cb2_2 := (HE.out.o.keep HP2.out).cell
  have c5_2 := H2.out.hand (i := 5) (by omega)
  rw [show (hm) 5 = jp (ad p) from (by first | exact Hh5.out | (simp [upd]; done) | (simp [upd, Hh5.out]; done))] at c5_2
  have c6_2 := H2.out.hand (i := 6) (by omega)
  rw [show (hm) 6 = jp (ad c) from (by first | exact Hh6.out | (simp [upd]; done) | (simp [upd, Hh6.out]; done))] at c6_2
  have c7_2 := H2.out.hand (i := 7) (by omega)
  have f7_2 := H2.out.hfroz (v * 9 + 7)
  obtain ⟨b0c_2, b1c_2, b2c_2, b3c_2⟩ := H2.out.bead Hhc.out
  have fmc_2 := H2.out.bfroz Hhc.out 2
  clear h2 hp2
  go_wp2_with fail
  first | with_reducible refine (free_any H2.out (p := p) (c := c) Hhp.out Hhc.out Hh5.out Hh6.out).mono ?_ | with_reducible refine (free_any (H2.out.drewN _) (p := p) (c := c) Hhp.out Hhc.out Hh5.out Hh6.out).mono ?_ | with_reducible refine (free_any ((H2.out.drewN _).drewN _) (p := p) (c := c) Hhp.out Hhc.out Hh5.out Hh6.out).mono ?_
  rintro e w3 ⟨rfl, h3, hp3⟩
  have H3 := Lib.hid h3
  have HP3 : Hid (JP base w w3) := Lib.hid (by first | exact HP2.out.trans hp3 | exact (HP2.out.drewN _).trans hp3)
  have cb0_3 := (HE.out.h.keep HP3.out).cell
  have cb1_3 := (HE.out.l.keep HP3.out).cell
  have cb2_3 := (HE.out.o.keep HP3.out).cell
  have c7_3 := H3.out.hand (i := 7) (by omega)
  have f7_3 := H3.out.hfroz (v * 9 + 7)
  clear h3 hp3
  go_wp2_with fail
  first | with_reducible refine (end_any H3.out false).mono ?_ | with_reducible refine (end_any (H3.out.drewN _) false).mono ?_ | with_reducible refine (end_any ((H3.out.drewN _).drewN _) false).mono ?_
  rintro e w4 ⟨rfl, h4, hp4⟩
  have H4 := Lib.hid h4
  have HP4 : Hid (JP base w w4) := Lib.hid (by first | exact HP3.out.trans hp4 | exact (HP3.out.drewN _).trans hp4)
  have cb0_4 := (HE.out.h.keep HP4.out).cell
  have cb1_4 := (HE.out.l.keep HP4.out).cell
  have cb2_4 := (HE.out.o.keep HP4.out).cell
  have c7_4 := H4.out.hand (i := 7) (by omega)
  have f7_4 := H4.out.hfroz (v * 9 + 7)
  clear h4 hp4
  go_wp2
  go_end0
  first | exact ⟨rfl, H4.out, HP4.out⟩ | exact ⟨rfl, (H4.out.drewN _), (HP4.out.drewN _)⟩ | exact ⟨rfl, ((H4.out.drewN _).drewN _), ((HP4.out.drewN _).drewN _)⟩
end

end Go.Proofs.Ytfmdpmebllepeaa

/-
  package hands: hand over hand: one step.
-/
namespace Go.Proofs.Ytfmdpmebllepeaa
open Go.RowKit

section
variable {base B nh v : Nat} {kd K : Int} {ad : Nat → Nat} {s : Bs} {lk : Nat → Bool} {hs : Nat → Nat → Value} {hm : Nat → Value} {w : World} {q : Hd}
theorem next_over (h : ST base B nh v kd K ad s lk hs hm w) (hn : NXO w (.pointer (some ⟨B, v * 9, none⟩)) q.at_ (hm 7)) (h4 : hm 4 = jp (ad 0)) (hpc : q.at_ ≠ 0 → hm 5 = jp (ad q.p) ∧ hm 6 = jp (ad q.c)) (hc : Cor1 s) (hk : KI s q K) (hd : Dee kd K) (hlk : lk s.sz = false) :
    ∃ k caps, hm 7 = .func (.func k) #[] caps ∧ Calls Try.prog k caps w (RetC base B nh v kd K ad s.sz hs hm 1 (overS s lk q kd K) w) := by
  obtain ⟨hb, lb, ob, he, hf⟩ := hn
  have hcr := hc.cor
  have hle := hk.le
  rcases (show q.at_ = 0 ∨ q.at_ = 1 ∨ q.at_ = 2 by omega) with h0 | h0 | h0
  · have hf' : hm 7 = fO1 hb lb := by rw [hf, if_pos h0]
    refine ⟨_, _, hf', ?_⟩
    cases hl : lk 0 with
    | false =>
      refine (cO1_t h he h4 hcr.pos hcr.hd.symm hl).mono fun e w' hr => ?_
      have e1 : overS s lk q kd K = ⟨s, upd lk 0 true, ⟨1, 0, s.nx 0, q.is_⟩, .none, false⟩ := by unfold overS; rw [if_pos h0, if_pos hl]
      rw [e1]
      exact retC_567 hr (NX.of1 ⟨hb, lb, ob, he.keep hr.2.2, rfl⟩) rfl rfl
    | true =>
      refine (cO1_f h he h4 hcr.pos hcr.hd.symm hl).mono fun e w' hr => ?_
      have e1 : overS s lk q kd K = ⟨s, lk, q, .none, false⟩ := by unfold overS; rw [if_pos h0, if_neg (by rw [hl]; decide)]
      rw [e1]
      exact retC_same hr (NX.of1 ⟨hb, lb, ob, he.keep hr.2.2, hf⟩) hpc
  · obtain ⟨h5, h6⟩ := hpc (by omega)
    obtain ⟨p1, p2, p3, p4⟩ := hk.pc (by omega)
    have hpt : q.p ≠ s.tl := key_tl hcr hd.1 (.inl p2)
    have hcs : q.c < s.sz := by rw [← p4]; exact hcr.nlt _ p1 hpt
    have hf' : hm 7 = fO2 hb ob := by rw [hf, if_neg (by omega), if_pos h0]
    refine ⟨_, _, hf', ?_⟩
    cases hl : lk q.c with
    | false =>
      refine (cO2_t h he h6 hcs hl).mono fun e w' hr => ?_
      have e1 : overS s lk q kd K = ⟨s, upd lk q.c true, ⟨2, q.p, q.c, q.is_⟩, .none, false⟩ := by unfold overS; rw [if_neg (by omega), if_pos h0, if_pos hl]
      rw [e1]
      exact retC_7 hr (NX.of1 ⟨hb, lb, ob, he.keep hr.2.2, rfl⟩) (fun _ => ⟨h5, h6⟩)
    | true =>
      refine (cO2_f h he h6 hcs hl).mono fun e w' hr => ?_
      have e1 : overS s lk q kd K = ⟨s, lk, q, .none, false⟩ := by unfold overS; rw [if_neg (by omega), if_pos h0, if_neg (by rw [hl]; decide)]
      rw [e1]
      exact retC_same hr (NX.of1 ⟨hb, lb, ob, he.keep hr.2.2, hf⟩) hpc
  · obtain ⟨h5, h6⟩ := hpc (by omega)
    obtain ⟨p1, p2, p3, p4⟩ := hk.pc (by omega)
    have hpt : q.p ≠ s.tl := key_tl hcr hd.1 (.inl p2)
    have hcs : q.c < s.sz := by rw [← p4]; exact hcr.nlt _ p1 hpt
    have hf' : hm 7 = fO3 hb lb := by rw [hf, if_neg (by omega), if_neg (by omega)]
    refine ⟨_, _, hf', ?_⟩
    have e0 : overS s lk q kd K = if s.key q.c < K then ⟨s, upd lk q.p false, ⟨1, q.c, s.nx q.c, q.is_⟩, .none, false⟩
      else if kd = 3 then ⟨s, fre lk q, ⟨2, q.p, q.c, decide (s.key q.c = K)⟩, .none, true⟩
      else if kd = 2 then (if s.key q.c = K then ⟨(s.mark q.c).cut q.p q.c, fre lk q, ⟨2, q.p, q.c, true⟩, .del K, true⟩ else ⟨s, fre lk q, ⟨2, q.p, q.c, false⟩, .none, true⟩)
      else (if s.key q.c = K then ⟨s, fre lk q, ⟨2, q.p, q.c, false⟩, .none, true⟩ else ⟨s.ins q.p K, fre lk q, ⟨2, q.p, q.c, true⟩, .add K, true⟩) := by unfold overS; rw [if_neg (by omega), if_neg (by omega)]
    by_cases c1 : s.key q.c < K
    · refine (cO3_lt h he h5 h6 p1 hcs (key_tl hcr hd.1 (.inl c1)) c1).mono fun e w' hr => ?_
      rw [e0, if_pos c1]
      exact retC_567 hr (NX.of1 ⟨hb, lb, ob, he.keep hr.2.2, rfl⟩) rfl rfl
    · rw [e0, if_neg c1]
      by_cases c4 : s.key q.c = K
      · have hf := decide_eq_true c4
        have hct : q.c ≠ s.tl := key_tl hcr hd.1 (.inr c4)
        rcases hd.2 with rfl | rfl | rfl
        · refine (cO3_add_f h he h5 h6 p1 hcs c1 hf).mono fun e w' hr => ?_
          rw [if_neg (by decide), if_neg (by decide), if_pos c4]
          exact retC_over hr rfl fun _ _ => rfl
        · refine (cO3_cut_t h he h5 h6 p1 hcs c1 hf hpt hct).mono fun e w' hr => ?_
          rw [if_neg (by decide), if_pos rfl, if_pos c4]
          exact retC_over hr rfl fun _ _ => rfl
        · refine (cO3_has_t h he h5 h6 p1 hcs c1 hf).mono fun e w' hr => ?_
          rw [if_pos rfl]
          exact retC_over hr hf fun _ _ => rfl
      · have hf := decide_eq_false c4
        rcases hd.2 with rfl | rfl | rfl
        · refine (cO3_add_t h he h5 h6 p1 hcs c1 hf hpt hcr.tlt hcr.nlt hlk).mono fun e w' hr => ?_
          obtain ⟨g, hr⟩ := hr
          rw [if_neg (by decide), if_neg (by decide), if_neg c4, ← insc_ins p4]
          exact retC_over hr rfl upd_ad
        · refine (cO3_cut_f h he h5 h6 p1 hcs c1 hf).mono fun e w' hr => ?_
          rw [if_neg (by decide), if_pos rfl, if_neg c4]
          exact retC_over hr rfl fun _ _ => rfl
        · refine (cO3_has_f h he h5 h6 p1 hcs c1 hf).mono fun e w' hr => ?_
          rw [if_pos rfl]
          exact retC_over hr hf fun _ _ => rfl
end

end Go.Proofs.Ytfmdpmebllepeaa

/-
  package hands: looked at twice, function by function. Written by tools/gen_jclos.py.
-/
namespace Go.Proofs.Ytfmdpmebllepeaa
open Go.RowKit

section
variable {base B nh v : Nat} {kd K : Int} {ad : Nat → Nat} {s : Bs} {lk : Nat → Bool} {hs : Nat → Nat → Value} {hm : Nat → Value} {w : World}
set_option maxRecDepth 100000 in
set_option maxHeartbeats 4000000 in
theorem cL1 {hb wb lb ob ub : Nat} (h : ST base B nh v kd K ad s lk hs hm w) (he : EnvL w (.pointer (some ⟨B, v * 9, none⟩)) hb wb lb ob ub) (h4 : hm 4 = jp (ad 0)) (hz : 0 < s.sz) (ht : 0 ≠ s.tl) : Calls Try.prog 56 #[jp hb, jp wb] w (RetJ base B nh v kd K ad s lk hs (upd (upd (upd hm 5 (jp (ad 0))) 6 (jp (ad (s.nx 0)))) 7 (fL2 hb lb)) w) := by
  have H0 := Lib.hid h
  have HE := Lib.hid he
  have HP0 : Hid (JP base w w) := Lib.hid (JP.refl _ _)
  have Hh4 := Lib.hid h4
  have Hhz := Lib.hid hz
  have Hht := Lib.hid ht
  have cb0_0 := (HE.out.h.keep HP0.out).cell
  have cb1_0 := (HE.out.k.keep HP0.out).cell
  have cb2_0 := (HE.out.l.keep HP0.out).cell
  have cb3_0 := (HE.out.o.keep HP0.out).cell
  have cb4_0 := (HE.out.u.keep HP0.out).cell
  have c4_0 := H0.out.hand (i := 4) (by omega)
  rw [show (hm) 4 = jp (ad 0) from (by first | exact Hh4.out | (simp [upd]; done) | (simp [upd, Hh4.out]; done))] at c4_0
  have c7_0 := H0.out.hand (i := 7) (by omega)
  have f7_0 := H0.out.hfroz (v * 9 + 7)
  clear h he h4 hz ht
  go_enter Try.func56, Try.ntmps56
  go_wp2_with fail
  go_region_with (first
    | (go_at_call 45
       first | with_reducible refine (to_any H0.out (x := 0) Hhz.out Hht.out).mono ?_ | with_reducible refine (to_any (H0.out.drewN _) (x := 0) Hhz.out Hht.out).mono ?_ | with_reducible refine (to_any ((H0.out.drewN _).drewN _) (x := 0) Hhz.out Hht.out).mono ?_ | refine (to_any (H0.out.drewN 1) (x := 0) Hhz.out Hht.out).mono ?_
       rintro e w1 ⟨rfl, h1, hp1⟩
       have H1 := Lib.hid h1
       have HP1 : Hid (JP base w w1) := Lib.hid (by first | exact HP0.out.trans hp1 | exact HP0.out.drew.trans hp1 | exact (HP0.out.drewN _).trans hp1 | exact ((HP0.out.drewN _).drewN _).trans hp1)
       have cb0_1 := (HE.out.h.keep HP1.out).cell
       have cb1_1 := (HE.out.k.keep HP1.out).cell
       have cb2_1 := (HE.out.l.keep HP1.out).cell
       have cb3_1 := (HE.out.o.keep HP1.out).cell
       have cb4_1 := (HE.out.u.keep HP1.out).cell
       have c5_1 := H1.out.hand (i := 5) (by omega)
       rw [show (upd (upd hm 5 (jp (ad 0))) 6 (jp (ad (s.nx 0)))) 5 = jp (ad 0) from (by first | exact rfl | (simp [upd]; done) | (simp [upd, rfl]; done))] at c5_1
       have c6_1 := H1.out.hand (i := 6) (by omega)
       rw [show (upd (upd hm 5 (jp (ad 0))) 6 (jp (ad (s.nx 0)))) 6 = jp (ad (s.nx 0)) from (by first | exact rfl | (simp [upd]; done) | (simp [upd, rfl]; done))] at c6_1
       have c7_1 := H1.out.hand (i := 7) (by omega)
       have f7_1 := H1.out.hfroz (v * 9 + 7)
       clear h1 hp1))
  all_goals
   (skip
    go_wp2
    go_end0
    first | exact ⟨rfl, H1.out.fld (i := 7) (by omega) (by omega) _, HP1.out.trans (H1.out.js.jp_fld _ _)⟩ | exact ⟨rfl, (H1.out.drewN _).fld (i := 7) (by omega) (by omega) _, (HP1.out.drewN _).trans ((H1.out.drewN _).js.jp_fld _ _)⟩ | exact ⟨rfl, ((H1.out.drewN _).drewN _).fld (i := 7) (by omega) (by omega) _, ((HP1.out.drewN _).drewN _).trans (((H1.out.drewN _).drewN _).js.jp_fld _ _)⟩)

set_option maxRecDepth 100000 in
set_option maxHeartbeats 4000000 in
theorem cL2_lt {hb wb lb ob ub c : Nat} (h : ST base B nh v kd K ad s lk hs hm w) (he : EnvL w (.pointer (some ⟨B, v * 9, none⟩)) hb wb lb ob ub) (h6 : hm 6 = jp (ad c)) (hc : c < s.sz) (hct : c ≠ s.tl) (hlt : s.key c < K) : Calls Try.prog 57 #[jp hb, jp lb] w (RetJ base B nh v kd K ad s lk hs (upd (upd hm 5 (jp (ad c))) 6 (jp (ad (s.nx c)))) w) := by
  have H0 := Lib.hid h
  have HE := Lib.hid he
  have HP0 : Hid (JP base w w) := Lib.hid (JP.refl _ _)
  have Hh6 := Lib.hid h6
  have Hhc := Lib.hid hc
  have Hhct := Lib.hid hct
  have Hhlt := Lib.hid hlt
  have cb0_0 := (HE.out.h.keep HP0.out).cell
  have cb1_0 := (HE.out.k.keep HP0.out).cell
  have cb2_0 := (HE.out.l.keep HP0.out).cell
  have cb3_0 := (HE.out.o.keep HP0.out).cell
  have cb4_0 := (HE.out.u.keep HP0.out).cell
  have c6_0 := H0.out.hand (i := 6) (by omega)
  rw [show (hm) 6 = jp (ad c) from (by first | exact Hh6.out | (simp [upd]; done) | (simp [upd, Hh6.out]; done))] at c6_0
  have c7_0 := H0.out.hand (i := 7) (by omega)
  have f7_0 := H0.out.hfroz (v * 9 + 7)
  obtain ⟨b0c_0, b1c_0, b2c_0, b3c_0⟩ := H0.out.bead Hhc.out
  have fmc_0 := H0.out.bfroz Hhc.out 2
  clear h he h6 hc hct
  go_enter Try.func57, Try.ntmps57
  have HQ0_1 : Hid (∀ m, Calls Try.prog 48 #[.pointer (some ⟨B, v * 9, none⟩)] (w.drewN m) fun e w' => e = .returned (I K) ∧ ∃ m', w' = (w.drewN m).drewN m') := fun m => key_any (H0.out.drewN m)
  have HR0_1 : Hid (∀ m k, Calls Try.prog 48 #[.pointer (some ⟨B, v * 9, none⟩)] ((w.drewN m).drewN k) fun e w' => e = .returned (I K) ∧ ∃ m', w' = ((w.drewN m).drewN k).drewN m') := fun m k => key_any ((H0.out.drewN m).drewN k)
  go_wp2_with fail
  go_quiet ((first | (go_at_call 48; with_reducible exact Calls.quiet_of (HQ0_1.out _)) | (go_at_call 48; with_reducible exact Calls.quiet_of (HR0_1.out _ _))))
  generalize hw1 : World.drewN w nq = w1
  have h1 := H0.out.drewN nq
  rw [hw1] at h1
  have hp1 := (JP.refl base w).drewN nq
  rw [hw1] at hp1
  clear hw1
  have H1 := Lib.hid h1
  have HP1 : Hid (JP base w w1) := Lib.hid (by first | exact HP0.out.trans hp1 | exact (HP0.out.drewN _).trans hp1)
  have cb0_1 := (HE.out.h.keep HP1.out).cell
  have cb1_1 := (HE.out.k.keep HP1.out).cell
  have cb2_1 := (HE.out.l.keep HP1.out).cell
  have cb3_1 := (HE.out.o.keep HP1.out).cell
  have cb4_1 := (HE.out.u.keep HP1.out).cell
  have c6_1 := H1.out.hand (i := 6) (by omega)
  rw [show (hm) 6 = jp (ad c) from (by first | exact Hh6.out | (simp [upd]; done) | (simp [upd, Hh6.out]; done))] at c6_1
  have c7_1 := H1.out.hand (i := 7) (by omega)
  have f7_1 := H1.out.hfroz (v * 9 + 7)
  obtain ⟨b0c_1, b1c_1, b2c_1, b3c_1⟩ := H1.out.bead Hhc.out
  have fmc_1 := H1.out.bfroz Hhc.out 2
  clear h1 hp1
  go_wp2_with fail
  go_region_with (first
    | (go_at_call 45
       first | with_reducible refine (to_any H1.out (x := c) Hhc.out Hhct.out).mono ?_ | with_reducible refine (to_any (H1.out.drewN _) (x := c) Hhc.out Hhct.out).mono ?_ | with_reducible refine (to_any ((H1.out.drewN _).drewN _) (x := c) Hhc.out Hhct.out).mono ?_ | refine (to_any (H1.out.drewN 1) (x := c) Hhc.out Hhct.out).mono ?_
       rintro e w2 ⟨rfl, h2, hp2⟩
       have H2 := Lib.hid h2
       have HP2 : Hid (JP base w w2) := Lib.hid (by first | exact HP1.out.trans hp2 | exact HP1.out.drew.trans hp2 | exact (HP1.out.drewN _).trans hp2 | exact ((HP1.out.drewN _).drewN _).trans hp2)
       have cb0_2 := (HE.out.h.keep HP2.out).cell
       have cb1_2 := (HE.out.k.keep HP2.out).cell
       have cb2_2 := (HE.out.l.keep HP2.out).cell
       have cb3_2 := (HE.out.o.keep HP2.out).cell
       have cb4_2 := (HE.out.u.keep HP2.out).cell
       have c7_2 := H2.out.hand (i := 7) (by omega)
       have f7_2 := H2.out.hfroz (v * 9 + 7)
       clear h2 hp2))
  all_goals
   (skip
    go_wp2
    go_end0
    first | exact ⟨rfl, H2.out, HP2.out⟩ | exact ⟨rfl, (H2.out.drewN _), (HP2.out.drewN _)⟩ | exact ⟨rfl, ((H2.out.drewN _).drewN _), ((HP2.out.drewN _).drewN _)⟩)

set_option maxRecDepth 100000 in
set_option maxHeartbeats 4000000 in
theorem cL2_has {hb wb lb ob ub c : Nat} (h : ST base B nh v 3 K ad s lk hs hm w) (he : EnvL w (.pointer (some ⟨B, v * 9, none⟩)) hb wb lb ob ub) (h6 : hm 6 = jp (ad c)) (hc : c < s.sz) (hge : ¬ s.key c < K) : Calls Try.prog 57 #[jp hb, jp lb] w (RetJ base B nh v 3 K ad s lk hs (upd (upd hm 7 .nilFunc) 8 (.bool (decide (s.key c = K) && !s.mrk c))) w) := by
  have H0 := Lib.hid h
  have HE := Lib.hid he
  have HP0 : Hid (JP base w w) := Lib.hid (JP.refl _ _)
  have Hh6 := Lib.hid h6
  have Hhc := Lib.hid hc
  have Hhge := Lib.hid hge
  have cb0_0 := (HE.out.h.keep HP0.out).cell
  have cb1_0 := (HE.out.k.keep HP0.out).cell
  have cb2_0 := (HE.out.l.keep HP0.out).cell
  have cb3_0 := (HE.out.o.keep HP0.out).cell
  have cb4_0 := (HE.out.u.keep HP0.out).cell
  have c6_0 := H0.out.hand (i := 6) (by omega)
  rw [show (hm) 6 = jp (ad c) from (by first | exact Hh6.out | (simp [upd]; done) | (simp [upd, Hh6.out]; done))] at c6_0
  have c7_0 := H0.out.hand (i := 7) (by omega)
  have f7_0 := H0.out.hfroz (v * 9 + 7)
  obtain ⟨b0c_0, b1c_0, b2c_0, b3c_0⟩ := H0.out.bead Hhc.out
  have fmc_0 := H0.out.bfroz Hhc.out 2
  clear h he h6 hc
  go_enter Try.func57, Try.ntmps57
  have HQ0_1 : Hid (∀ m, Calls Try.prog 48 #[.pointer (some ⟨B, v * 9, none⟩)] (w.drewN m) fun e w' => e = .returned (I K) ∧ ∃ m', w' = (w.drewN m).drewN m') := fun m => key_any (H0.out.drewN m)
  have HR0_1 : Hid (∀ m k, Calls Try.prog 48 #[.pointer (some ⟨B, v * 9, none⟩)] ((w.drewN m).drewN k) fun e w' => e = .returned (I K) ∧ ∃ m', w' = ((w.drewN m).drewN k).drewN m') := fun m k => key_any ((H0.out.drewN m).drewN k)
  go_wp2_with fail
  go_quiet ((first | (go_at_call 48; with_reducible exact Calls.quiet_of (HQ0_1.out _)) | (go_at_call 48; with_reducible exact Calls.quiet_of (HR0_1.out _ _))))
  generalize hw1 : World.drewN w nq = w1
  have h1 := H0.out.drewN nq
  rw [hw1] at h1
  have hp1 := (JP.refl base w).drewN nq
  rw [hw1] at hp1
  clear hw1
  have H1 := Lib.hid h1
  have HP1 : Hid (JP base w w1) := Lib.hid (by first | exact HP0.out.trans hp1 | exact (HP0.out.drewN _).trans hp1)
  have cb0_1 := (HE.out.h.keep HP1.out).cell
  have cb1_1 := (HE.out.k.keep HP1.out).cell
  have cb2_1 := (HE.out.l.keep HP1.out).cell
  have cb3_1 := (HE.out.o.keep HP1.out).cell
  have cb4_1 := (HE.out.u.keep HP1.out).cell
  have c6_1 := H1.out.hand (i := 6) (by omega)
  rw [show (hm) 6 = jp (ad c) from (by first | exact Hh6.out | (simp [upd]; done) | (simp [upd, Hh6.out]; done))] at c6_1
  have c7_1 := H1.out.hand (i := 7) (by omega)
  have f7_1 := H1.out.hfroz (v * 9 + 7)
  obtain ⟨b0c_1, b1c_1, b2c_1, b3c_1⟩ := H1.out.bead Hhc.out
  have fmc_1 := H1.out.bfroz Hhc.out 2
  clear h1 hp1
  go_wp2_with fail
  with_reducible refine (kind_any H1.out).mono ?_
  rintro e w2 ⟨rfl, m2, hw2⟩
  have h2 := H1.out.drewN m2
  rw [← hw2] at h2
  have hp2 := (JP.refl base w1).drewN m2
  rw [← hw2] at hp2
  clear hw2
  have H2 := Lib.hid h2
  have HP2 : Hid (JP base w w2) := Lib.hid (by first | exact HP1.out.trans hp2 | exact (HP1.out.drewN _).trans hp2)
  have cb0_2 := (HE.out.h.keep HP2.out).cell
  have cb1_2 := (HE.out.k.keep HP2.out).cell
  have cb2_2 := (HE.out.l.keep HP2.out).cell
  have cb3_2 := (HE.out.o.keep HP2.out).cell
  have cb4_2 := (HE.out.u.keep HP2.out).cell
  have c6_2 := H2.out.hand (i := 6) (by omega)
  rw [show (hm) 6 = jp (ad c) from (by first | exact Hh6.out | (simp [upd]; done) | (simp [upd, Hh6.out]; done))] at c6_2
  have c7_2 := H2.out.hand (i := 7) (by omega)
  have f7_2 := H2.out.hfroz (v * 9 + 7)
  obtain ⟨b0c_2, b1c_2, b2c_2, b3c_2⟩ := H2.out.bead Hhc.out
  have fmc_2 := H2.out.bfroz Hhc.out 2
  clear h2 hp2
  go_wp2_with fail
  go_region_with (first
    | (go_at_call 58
       first | with_reducible refine (has_any H2.out (c := c) Hhc.out Hh6.out rfl).mono ?_ | with_reducible refine (has_any (H2.out.drewN 1) (c := c) Hhc.out Hh6.out rfl).mono ?_ | with_reducible refine (has_any (H2.out.drewN _) (c := c) Hhc.out Hh6.out rfl).mono ?_ | with_reducible refine (has_any ((H2.out.drewN _).drewN _) (c := c) Hhc.out Hh6.out rfl).mono ?_ | refine (has_any (H2.out.drewN 1) (c := c) Hhc.out Hh6.out rfl).mono ?_
       rintro e w9 ⟨rfl, m2_2, rfl⟩)
    | (go_at_call 55
       first | with_reducible refine (end_any H2.out (decide (s.key c = K) && !s.mrk c)).mono ?_ | with_reducible refine (end_any (H2.out.drewN _) (decide (s.key c = K) && !s.mrk c)).mono ?_ | with_reducible refine (end_any ((H2.out.drewN _).drewN _) (decide (s.key c = K) && !s.mrk c)).mono ?_ | refine (end_any (H2.out.drewN 1) (decide (s.key c = K) && !s.mrk c)).mono ?_
       rintro e w3 ⟨rfl, h3, hp3⟩
       have H3 := Lib.hid h3
       have HP3 : Hid (JP base w w3) := Lib.hid (by first | exact HP2.out.trans hp3 | exact HP2.out.drew.trans hp3 | exact (HP2.out.drewN _).trans hp3 | exact ((HP2.out.drewN _).drewN _).trans hp3)
       have cb0_3 := (HE.out.h.keep HP3.out).cell
       have cb1_3 := (HE.out.k.keep HP3.out).cell
       have cb2_3 := (HE.out.l.keep HP3.out).cell
       have cb3_3 := (HE.out.o.keep HP3.out).cell
       have cb4_3 := (HE.out.u.keep HP3.out).cell
       have c7_3 := H3.out.hand (i := 7) (by omega)
       have f7_3 := H3.out.hfroz (v * 9 + 7)
       clear h3 hp3))
  all_goals
   (skip
    go_wp2
    go_end0
    first | exact ⟨rfl, H3.out, HP3.out⟩ | exact ⟨rfl, (H3.out.drewN _), (HP3.out.drewN _)⟩ | exact ⟨rfl, ((H3.out.drewN _).drewN _), ((HP3.out.drewN _).drewN _)⟩)

set_option maxRecDepth 100000 in
set_option maxHeartbeats 4000000 in
theorem cL2_take_t {hb wb lb ob ub p c : Nat} (h : ST base B nh v kd K ad s lk hs hm w) (he : EnvL w (.pointer (some ⟨B, v * 9, none⟩)) hb wb lb ob ub) (h5 : hm 5 = jp (ad p)) (h6 : hm 6 = jp (ad c)) (hp : p < s.sz) (hc : c < s.sz) (hge : ¬ s.key c < K) (hk : ¬ kd = 3) (hl : lk p = false) : Calls Try.prog 57 #[jp hb, jp lb] w (RetJ base B nh v kd K ad s (upd lk p true) hs (upd hm 7 (fL3 hb ob)) w) := by
  have H0 := Lib.hid h
  have HE := Lib.hid he
  have HP0 : Hid (JP base w w) := Lib.hid (JP.refl _ _)
  have Hh5 := Lib.hid h5
  have Hh6 := Lib.hid h6
  have Hhp := Lib.hid hp
  have Hhc := Lib.hid hc
  have Hhge := Lib.hid hge
  have Hhk := Lib.hid hk
  have Hhl := Lib.hid hl
  have cb0_0 := (HE.out.h.keep HP0.out).cell
  have cb1_0 := (HE.out.k.keep HP0.out).cell
  have cb2_0 := (HE.out.l.keep HP0.out).cell
  have cb3_0 := (HE.out.o.keep HP0.out).cell
  have cb4_0 := (HE.out.u.keep HP0.out).cell
  have c5_0 := H0.out.hand (i := 5) (by omega)
  rw [show (hm) 5 = jp (ad p) from (by first | exact Hh5.out | (simp [upd]; done) | (simp [upd, Hh5.out]; done))] at c5_0
  have c6_0 := H0.out.hand (i := 6) (by omega)
  rw [show (hm) 6 = jp (ad c) from (by first | exact Hh6.out | (simp [upd]; done) | (simp [upd, Hh6.out]; done))] at c6_0
  have c7_0 := H0.out.hand (i := 7) (by omega)
  have f7_0 := H0.out.hfroz (v * 9 + 7)
  obtain ⟨b0c_0, b1c_0, b2c_0, b3c_0⟩ := H0.out.bead Hhc.out
  have fmc_0 := H0.out.bfroz Hhc.out 2
  clear h he h5 h6 hp hc hl
  go_enter Try.func57, Try.ntmps57
  have HQ0_1 : Hid (∀ m, Calls Try.prog 48 #[.pointer (some ⟨B, v * 9, none⟩)] (w.drewN m) fun e w' => e = .returned (I K) ∧ ∃ m', w' = (w.drewN m).drewN m') := fun m => key_any (H0.out.drewN m)
  have HR0_1 : Hid (∀ m k, Calls Try.prog 48 #[.pointer (some ⟨B, v * 9, none⟩)] ((w.drewN m).drewN k) fun e w' => e = .returned (I K) ∧ ∃ m', w' = ((w.drewN m).drewN k).drewN m') := fun m k => key_any ((H0.out.drewN m).drewN k)
  go_wp2_with fail
  go_quiet ((first | (go_at_call 48; with_reducible exact Calls.quiet_of (HQ0_1.out _)) | (go_at_call 48; with_reducible exact Calls.quiet_of (HR0_1.out _ _))))
  generalize hw1 : World.drewN w nq = w1
  have h1 := H0.out.drewN nq
  rw [hw1] at h1
  have hp1 := (JP.refl base w).drewN nq
  rw [hw1] at hp1
  clear hw1
  have H1 := Lib.hid h1
  have HP1 : Hid (JP base w w1) := Lib.hid (by first | exact HP0.out.trans hp1 | exact (HP0.out.drewN _).trans hp1)
  have cb0_1 := (HE.out.h.keep HP1.out).cell
  have cb1_1 := (HE.out.k.keep HP1.out).cell
  have cb2_1 := (HE.out.l.keep HP1.out).cell
  have cb3_1 := (HE.out.o.keep HP1.out).cell
  have cb4_1 := (HE.out.u.keep HP1.out).cell
  have c5_1 := H1.out.hand (i := 5) (by omega)
  rw [show (hm) 5 = jp (ad p) from (by first | exact Hh5.out | (simp [upd]; done) | (simp [upd, Hh5.out]; done))] at c5_1
  have c6_1 := H1.out.hand (i := 6) (by omega)
  rw [show (hm) 6 = jp (ad c) from (by first | exact Hh6.out | (simp [upd]; done) | (simp [upd, Hh6.out]; done))] at c6_1
  have c7_1 := H1.out.hand (i := 7) (by omega)
  have f7_1 := H1.out.hfroz (v * 9 + 7)
  obtain ⟨b0c_1, b1c_1, b2c_1, b3c_1⟩ := H1.out.bead Hhc.out
  have fmc_1 := H1.out.bfroz Hhc.out 2
  clear h1 hp1
  go_wp2_with fail
  with_reducible refine (kind_any H1.out).mono ?_
  rintro e w2 ⟨rfl, m2, hw2⟩
  have h2 := H1.out.drewN m2
  rw [← hw2] at h2
  have hp2 := (JP.refl base w1).drewN m2
  rw [← hw2] at hp2
  clear hw2
  have H2 := Lib.hid h2
  have HP2 : Hid (JP base w w2) := Lib.hid (by first | exact HP1.out.trans hp2 | exact (HP1.out.drewN _).trans hp2)
  have cb0_2 := (HE.out.h.keep HP2.out).cell
  have cb1_2 := (HE.out.k.keep HP2.out).cell
  have cb2_2 := (HE.out.l.keep HP2.out).cell
  have cb3_2 := (HE.out.o.keep HP2.out).cell
  have cb4_2 := (HE.out.u.keep HP2.out).cell
  have c5_2 := H2.out.hand (i := 5) (by omega)
  rw [show (hm) 5 = jp (ad p) from (by first | exact Hh5.out | (simp [upd]; done) | (simp [upd, Hh5.out]; done))] at c5_2
  have c6_2 := H2.out.hand (i := 6) (by omega)
  rw [show (hm) 6 = jp (ad c) from (by first | exact Hh6.out | (simp [upd]; done) | (simp [upd, Hh6.out]; done))] at c6_2
  have c7_2 := H2.out.hand (i := 7) (by omega)
  have f7_2 := H2.out.hfroz (v * 9 + 7)
  obtain ⟨b0c_2, b1c_2, b2c_2, b3c_2⟩ := H2.out.bead Hhc.out
  have fmc_2 := H2.out.bfroz Hhc.out 2
  clear h2 hp2
  go_wp2_with fail
  first | with_reducible refine (take_t H2.out (x := p) Hhp.out Hhl.out).mono ?_ | with_reducible refine (take_t (H2.out.drewN _) (x := p) Hhp.out Hhl.out).mono ?_ | with_reducible refine (take_t ((H2.out.drewN _).drewN _) (x := p) Hhp.out Hhl.out).mono ?_
  rintro e w3 ⟨rfl, h3, hp3⟩
  have H3 := Lib.hid h3
  have HP3 : Hid (JP base w w3) := Lib.hid (by first | exact HP2.out.trans hp3 | exact (HP2.out.drewN _).trans hp3)
  have cb0_3 := (HE.out.h.keep HP3.out).cell
  have cb1_3 := (HE.out.k.keep HP3.out).cell
  have cb2_3 := (HE.out.l.keep HP3.out).cell
  have cb3_3 := (HE.out.o.keep HP3.out).cell
  have cb4_3 := (HE.out.u.keep HP3.out).cell
  have c5_3 := H3.out.hand (i := 5) (by omega)
  rw [show (hm) 5 = jp (ad p) from (by first | exact Hh5.out | (simp [upd]; done) | (simp [upd, Hh5.out]; done))] at c5_3
  have c6_3 := H3.out.hand (i := 6) (by omega)
  rw [show (hm) 6 = jp (ad c) from (by first | exact Hh6.out | (simp [upd]; done) | (simp [upd, Hh6.out]; done))] at c6_3
  have c7_3 := H3.out.hand (i := 7) (by omega)
  have f7_3 := H3.out.hfroz (v * 9 + 7)
  clear h3 hp3
  go_wp2
  go_end0
  first | exact ⟨rfl, H3.out.fld (i := 7) (by omega) (by omega) _, HP3.out.trans (H3.out.js.jp_fld _ _)⟩ | exact ⟨rfl, (H3.out.drewN _).fld (i := 7) (by omega) (by omega) _, (HP3.out.drewN _).trans ((H3.out.drewN _).js.jp_fld _ _)⟩ | exact ⟨rfl, ((H3.out.drewN _).drewN _).fld (i := 7) (by omega) (by omega) _, ((HP3.out.drewN _).drewN _).trans (((H3.out.drewN _).drewN _).js.jp_fld _ _)⟩

set_option maxRecDepth 100000 in
set_option maxHeartbeats 4000000 in
theorem cL2_take_f {hb wb lb ob ub p c : Nat} (h : ST base B nh v kd K ad s lk hs hm w) (he : EnvL w (.pointer (some ⟨B, v * 9, none⟩)) hb wb lb ob ub) (h5 : hm 5 = jp (ad p)) (h6 : hm 6 = jp (ad c)) (hp : p < s.sz) (hc : c < s.sz) (hge : ¬ s.key c < K) (hk : ¬ kd = 3) (hl : lk p = true) : Calls Try.prog 57 #[jp hb, jp lb] w (RetJ base B nh v kd K ad s lk hs hm w) := by
  have H0 := Lib.hid h
  have HE := Lib.hid he
  have HP0 : Hid (JP base w w) := Lib.hid (JP.refl _ _)
  have Hh5 := Lib.hid h5
  have Hh6 := Lib.hid h6
  have Hhp := Lib.hid hp
  have Hhc := Lib.hid hc
  have Hhge := Lib.hid hge
  have Hhk := Lib.hid hk
  have Hhl := Lib.hid hl
  have cb0_0 := (HE.out.h.keep HP0.out).cell
  have cb1_0 := (HE.out.k.keep HP0.out).cell
  have cb2_0 := (HE.out.l.keep HP0.out).cell
  have cb3_0 := (HE.out.o.keep HP0.out).cell
  have cb4_0 := (HE.out.u.keep HP0.out).cell
  have c5_0 := H0.out.hand (i := 5) (by omega)
  rw [show (hm) 5 = jp (ad p) from (by first | exact Hh5.out | (simp [upd]; done) | (simp [upd, Hh5.out]; done))] at c5_0
  have c6_0 := H0.out.hand (i := 6) (by omega)
  rw [show (hm) 6 = jp (ad c) from (by first | exact Hh6.out | (simp [upd]; done) | (simp [upd, Hh6.out]; done))] at c6_0
  have c7_0 := H0.out.hand (i := 7) (by omega)
  have f7_0 := H0.out.hfroz (v * 9 + 7)
  obtain ⟨b0c_0, b1c_0, b2c_0, b3c_0⟩ := H0.out.bead Hhc.out
  have fmc_0 := H0.out.bfroz Hhc.out 2
  clear h he h5 h6 hp hc hl
  go_enter Try.func57, Try.ntmps57
  have HQ0_1 : Hid (∀ m, Calls Try.prog 48 #[.pointer (some ⟨B, v * 9, none⟩)] (w.drewN m) fun e w' => e = .returned (I K) ∧ ∃ m', w' = (w.drewN m).drewN m') := fun m => key_any (H0.out.drewN m)
  have HR0_1 : Hid (∀ m k, Calls Try.prog 48 #[.pointer (some ⟨B, v * 9, none⟩)] ((w.drewN m).drewN k) fun e w' => e = .returned (I K) ∧ ∃ m', w' = ((w.drewN m).drewN k).drewN m') := fun m k => key_any ((H0.out.drewN m).drewN k)
  go_wp2_with fail
  go_quiet ((first | (go_at_call 48; with_reducible exact Calls.quiet_of (HQ0_1.out _)) | (go_at_call 48; with_reducible exact Calls.quiet_of (HR0_1.out _ _))))
  generalize hw1 : World.drewN w nq = w1
  have h1 := H0.out.drewN nq
  rw [hw1] at h1
  have hp1 := (JP.refl base w).drewN nq
  rw [hw1] at hp1
  clear hw1
  have H1 := Lib.hid h1
  have HP1 : Hid (JP base w w1) := Lib.hid (by first | exact HP0.out.trans hp1 | exact (HP0.out.drewN _).trans hp1)
  have cb0_1 := (HE.out.h.keep HP1.out).cell
  have cb1_1 := (HE.out.k.keep HP1.out).cell
  have cb2_1 := (HE.out.l.keep HP1.out).cell
  have cb3_1 := (HE.out.o.keep HP1.out).cell
  have cb4_1 := (HE.out.u.keep HP1.out).cell
  have c5_1 := H1.out.hand (i := 5) (by omega)
  rw [show (hm) 5 = jp (ad p) from (by first | exact Hh5.out | (simp [upd]; done) | (simp [upd, Hh5.out]; done))] at c5_1
  have c6_1 := H1.out.hand (i := 6) (by omega)
  rw [show (hm) 6 = jp (ad c) from (by first | exact Hh6.out | (simp [upd]; done) | (simp [upd, Hh6.out]; done))] at c6_1
  have c7_1 := H1.out.hand (i := 7) (by omega)
  have f7_1 := H1.out.hfroz (v * 9 + 7)
  obtain ⟨b0c_1, b1c_1, b2c_1, b3c_1⟩ := H1.out.bead Hhc.out
  have fmc_1 := H1.out.bfroz Hhc.out 2
  clear h1 hp1
  go_wp2_with fail
  with_reducible refine (kind_any H1.out).mono ?_
  rintro e w2 ⟨rfl, m2, hw2⟩
  have h2 := H1.out.drewN m2
  rw [← hw2] at h2
  have hp2 := (JP.refl base w1).drewN m2
  rw [← hw2] at hp2
  clear hw2
  have H2 := Lib.hid h2
  have HP2 : Hid (JP base w w2) := Lib.hid (by first | exact HP1.out.trans hp2 | exact (HP1.out.drewN _).trans hp2)
  have cb0_2 := (HE.out.h.keep HP2.out).cell
  have cb1_2 := (HE.out.k.keep HP2.out).cell
  have cb2_2 := (HE.out.l.keep HP2.out).cell
  have cb3_2 := (HE.out.o.keep HP2.out).cell
  have cb4_2 := (HE.out.u.keep HP2.out).cell
  have c5_2 := H2.out.hand (i := 5) (by omega)
  rw [show (hm) 5 = jp (ad p) from (by first | exact Hh5.out | (simp [upd]; done) | (simp [upd, Hh5.out]; done))] at c5_2
  have c6_2 := H2.out.hand (i := 6) (by omega)
  rw [show (hm) 6 = jp (ad c) from (by first | exact Hh6.out | (simp [upd]; done) | (simp [upd, Hh6.out]; done))] at c6_2
  have c7_2 := H2.out.hand (i := 7) (by omega)
  have f7_2 := H2.out.hfroz (v * 9 + 7)
  obtain ⟨b0c_2, b1c_2, b2c_2, b3c_2⟩ := H2.out.bead Hhc.out
  have fmc_2 := H2.out.bfroz Hhc.out 2
  clear h2 hp2
  go_wp2_with fail
  first | with_reducible refine (take_f H2.out (x := p) Hhp.out Hhl.out).mono ?_ | with_reducible refine (take_f (H2.out.drewN _) (x := p) Hhp.out Hhl.out).mono ?_
  rintro e w9 ⟨rfl, rfl⟩
  go_wp2
  go_end0
  first | exact ⟨rfl, H2.out, HP2.out⟩ | exact ⟨rfl, (H2.out.drewN _), (HP2.out.drewN _)⟩ | exact ⟨rfl, ((H2.out.drewN _).drewN _), ((HP2.out.drewN _).drewN _)⟩

set_option maxRecDepth 100000 in
set_option maxHeartbeats 4000000 in
theorem cL3_t {hb wb lb ob ub c : Nat} (h : ST base B nh v kd K ad s lk hs hm w) (he : EnvL w (.pointer (some ⟨B, v * 9, none⟩)) hb wb lb ob ub) (h6 : hm 6 = jp (ad c)) (hc : c < s.sz) (hl : lk c = false) : Calls Try.prog 59 #[jp hb, jp ob] w (RetJ base B nh v kd K ad s (upd lk c true) hs (upd hm 7 (fL4 hb ub)) w) := by
  have H0 := Lib.hid h
  have HE := Lib.hid he
  have HP0 : Hid (JP base w w) := Lib.hid (JP.refl _ _)
  have Hh6 := Lib.hid h6
  have Hhc := Lib.hid hc
  have Hhl := Lib.hid hl
  have cb0_0 := (HE.out.h.keep HP0.out).cell
  have cb1_0 := (HE.out.k.keep HP0.out).cell
  have cb2_0 := (HE.out.l.keep HP0.out).cell
  have cb3_0 := (HE.out.o.keep HP0.out).cell
  have cb4_0 := (HE.out.u.keep HP0.out).cell
  have c6_0 := H0.out.hand (i := 6) (by omega)
  rw [show (hm) 6 = jp (ad c) from (by first | exact Hh6.out | (simp [upd]; done) | (simp [upd, Hh6.out]; done))] at c6_0
  have c7_0 := H0.out.hand (i := 7) (by omega)
  have f7_0 := H0.out.hfroz (v * 9 + 7)
  clear h he h6 hc hl
  go_enter Try.func59, Try.ntmps59
  go_wp2_with fail
  first | with_reducible refine (take_t H0.out (x := c) Hhc.out Hhl.out).mono ?_ | with_reducible refine (take_t (H0.out.drewN _) (x := c) Hhc.out Hhl.out).mono ?_ | with_reducible refine (take_t ((H0.out.drewN _).drewN _) (x := c) Hhc.out Hhl.out).mono ?_
  rintro e w1 ⟨rfl, h1, hp1⟩
  have H1 := Lib.hid h1
  have HP1 : Hid (JP base w w1) := Lib.hid (by first | exact HP0.out.trans hp1 | exact (HP0.out.drewN _).trans hp1)
  have cb0_1 := (HE.out.h.keep HP1.out).cell
  have cb1_1 := (HE.out.k.keep HP1.out).cell
  have cb2_1 := (HE.out.l.keep HP1.out).cell
  have cb3_1 := (HE.out.o.keep HP1.out).cell
  have cb4_1 := (HE.out.u.keep HP1.out).cell
  have c6_1 := H1.out.hand (i := 6) (by omega)
  rw [show (hm) 6 = jp (ad c) from (by first | exact Hh6.out | (simp [upd]; done) | (simp [upd, Hh6.out]; done))] at c6_1
  have c7_1 := H1.out.hand (i := 7) (by omega)
  have f7_1 := H1.out.hfroz (v * 9 + 7)
  clear h1 hp1
  go_wp2
  go_end0
  first | exact ⟨rfl, H1.out.fld (i := 7) (by omega) (by omega) _, HP1.out.trans (H1.out.js.jp_fld _ _)⟩ | exact ⟨rfl, (H1.out.drewN _).fld (i := 7) (by omega) (by omega) _, (HP1.out.drewN _).trans ((H1.out.drewN _).js.jp_fld _ _)⟩ | exact ⟨rfl, ((H1.out.drewN _).drewN _).fld (i := 7) (by omega) (by omega) _, ((HP1.out.drewN _).drewN _).trans (((H1.out.drewN _).drewN _).js.jp_fld _ _)⟩

set_option maxRecDepth 100000 in
set_option maxHeartbeats 4000000 in
theorem cL3_f {hb wb lb ob ub c : Nat} (h : ST base B nh v kd K ad s lk hs hm w) (he : EnvL w (.pointer (some ⟨B, v * 9, none⟩)) hb wb lb ob ub) (h6 : hm 6 = jp (ad c)) (hc : c < s.sz) (hl : lk c = true) : Calls Try.prog 59 #[jp hb, jp ob] w (RetJ base B nh v kd K ad s lk hs hm w) := by
  have H0 := Lib.hid h
  have HE := Lib.hid he
  have HP0 : Hid (JP base w w) := Lib.hid (JP.refl _ _)
  have Hh6 := Lib.hid h6
  have Hhc := Lib.hid hc
  have Hhl := Lib.hid hl
  have cb0_0 := (HE.out.h.keep HP0.out).cell
  have cb1_0 := (HE.out.k.keep HP0.out).cell
  have cb2_0 := (HE.out.l.keep HP0.out).cell
  have cb3_0 := (HE.out.o.keep HP0.out).cell
  have cb4_0 := (HE.out.u.keep HP0.out).cell
  have c6_0 := H0.out.hand (i := 6) (by omega)
  rw [show (hm) 6 = jp (ad c) from (by first | exact Hh6.out | (simp [upd]; done) | (simp [upd, Hh6.out]; done))] at c6_0
  have c7_0 := H0.out.hand (i := 7) (by omega)
  have f7_0 := H0.out.hfroz (v * 9 + 7)
  clear h he h6 hc hl
  go_enter Try.func59, Try.ntmps59
  go_wp2_with fail
  refine (take_f H0.out (x := c) Hhc.out Hhl.out).mono ?_
  rintro e w1 ⟨rfl, rfl⟩
  go_wp2
  go_end0
  first | exact ⟨rfl, H0.out, HP0.out⟩ | exact ⟨rfl, (H0.out.drewN _), (HP0.out.drewN _)⟩ | exact ⟨rfl, ((H0.out.drewN _).drewN _), ((HP0.out.drewN _).drewN _)⟩

set_option maxRecDepth 100000 in
set_option maxHeartbeats 4000000 in
theorem cL4_bad1 {hb wb lb ob ub p c : Nat} (h : ST base B nh v kd K ad s lk hs hm w) (he : EnvL w (.pointer (some ⟨B, v * 9, none⟩)) hb wb lb ob ub) (h5 : hm 5 = jp (ad p)) (h6 : hm 6 = jp (ad c)) (hp : p < s.sz) (hc : c < s.sz) (h3 : hm 3 = fWay 2) (hmk : s.mrk p = true) : Calls Try.prog 60 #[jp hb, jp ub] w (RetB 2 base B nh v kd K ad s (upd (upd lk p false) c false) hs hm w) := by
  have H0 := Lib.hid h
  have HE := Lib.hid he
  have HP0 : Hid (JP base w w) := Lib.hid (JP.refl _ _)
  have Hh5 := Lib.hid h5
  have Hh6 := Lib.hid h6
  have Hhp := Lib.hid hp
  have Hhc := Lib.hid hc
  have Hh3 := Lib.hid h3
  have Hhmk := Lib.hid hmk
  have cb0_0 := (HE.out.h.keep HP0.out).cell
  have cb1_0 := (HE.out.k.keep HP0.out).cell
  have cb2_0 := (HE.out.l.keep HP0.out).cell
  have cb3_0 := (HE.out.o.keep HP0.out).cell
  have cb4_0 := (HE.out.u.keep HP0.out).cell
  have c6_0 := H0.out.hand (i := 6) (by omega)
  rw [show (hm) 6 = jp (ad c) from (by first | exact Hh6.out | (simp [upd]; done) | (simp [upd, Hh6.out]; done))] at c6_0
  have c7_0 := H0.out.hand (i := 7) (by omega)
  have f7_0 := H0.out.hfroz (v * 9 + 7)
  clear h he h5 h6 hp hc h3 hmk
  go_enter Try.func60, Try.ntmps60
  go_wp2_with fail
  with_reducible refine (stands_f H0.out (p := p) Hhp.out Hh5.out Hhmk.out).mono ?_
  rintro e w1 ⟨rfl, m1, hw1⟩
  have h1 := H0.out.drewN m1
  rw [← hw1] at h1
  have hp1 := (JP.refl base w).drewN m1
  rw [← hw1] at hp1
  clear hw1
  have H1 := Lib.hid h1
  have HP1 : Hid (JP base w w1) := Lib.hid (by first | exact HP0.out.trans hp1 | exact (HP0.out.drewN _).trans hp1)
  have cb0_1 := (HE.out.h.keep HP1.out).cell
  have cb1_1 := (HE.out.k.keep HP1.out).cell
  have cb2_1 := (HE.out.l.keep HP1.out).cell
  have cb3_1 := (HE.out.o.keep HP1.out).cell
  have cb4_1 := (HE.out.u.keep HP1.out).cell
  have c6_1 := H1.out.hand (i := 6) (by omega)
  rw [show (hm) 6 = jp (ad c) from (by first | exact Hh6.out | (simp [upd]; done) | (simp [upd, Hh6.out]; done))] at c6_1
  have c7_1 := H1.out.hand (i := 7) (by omega)
  have f7_1 := H1.out.hfroz (v * 9 + 7)
  clear h1 hp1
  go_wp2_with fail
  first | with_reducible refine (free_any H1.out (p := p) (c := c) Hhp.out Hhc.out Hh5.out Hh6.out).mono ?_ | with_reducible refine (free_any (H1.out.drewN _) (p := p) (c := c) Hhp.out Hhc.out Hh5.out Hh6.out).mono ?_ | with_reducible refine (free_any ((H1.out.drewN _).drewN _) (p := p) (c := c) Hhp.out Hhc.out Hh5.out Hh6.out).mono ?_
  rintro e w2 ⟨rfl, h2, hp2⟩
  have H2 := Lib.hid h2
  have HP2 : Hid (JP base w w2) := Lib.hid (by first | exact HP1.out.trans hp2 | exact (HP1.out.drewN _).trans hp2)
  have cb0_2 := (HE.out.h.keep HP2.out).cell
  have cb1_2 := (HE.out.k.keep HP2.out).cell
  have cb2_2 := (HE.out.l.keep HP2.out).cell
  have cb3_2 := (HE.out.o.keep HP2.out).cell
  have cb4_2 := (HE.out.u.keep HP2.out).cell
  have c7_2 := H2.out.hand (i := 7) (by omega)
  have f7_2 := H2.out.hfroz (v * 9 + 7)
  clear h2 hp2
  go_wp2_with fail
  first | with_reducible refine (beginL_any H2.out Hh3.out).mono ?_ | with_reducible refine (beginL_any (H2.out.drewN _) Hh3.out).mono ?_ | with_reducible refine (beginL_any ((H2.out.drewN _).drewN _) Hh3.out).mono ?_
  rintro e w8 ⟨f8, ⟨rfl, h8, hp8⟩, hn8⟩
  have H8 := Lib.hid h8
  have HP8 : Hid (JP base w w8) := Lib.hid (by first | exact HP2.out.trans hp8 | exact (HP2.out.drewN _).trans hp8 | exact ((HP2.out.drewN _).drewN _).trans hp8)
  have HN8 := Lib.hid hn8
  clear h8 hp8 hn8
  go_wp2
  go_end0
  exact ⟨f8, ⟨rfl, H8.out, HP8.out⟩, HN8.out⟩

set_option maxRecDepth 100000 in
set_option maxHeartbeats 4000000 in
theorem cL4_bad2 {hb wb lb ob ub p c : Nat} (h : ST base B nh v kd K ad s lk hs hm w) (he : EnvL w (.pointer (some ⟨B, v * 9, none⟩)) hb wb lb ob ub) (h5 : hm 5 = jp (ad p)) (h6 : hm 6 = jp (ad c)) (hp : p < s.sz) (hc : c < s.sz) (h3 : hm 3 = fWay 2) (hpt : p ≠ s.tl) (hn : s.nx p < s.sz) (hmk : s.mrk p = false) (hq : decide (s.nx p = c) = false) : Calls Try.prog 60 #[jp hb, jp ub] w (RetB 2 base B nh v kd K ad s (upd (upd lk p false) c false) hs hm w) := by
  have H0 := Lib.hid h
  have HE := Lib.hid he
  have HP0 : Hid (JP base w w) := Lib.hid (JP.refl _ _)
  have Hh5 := Lib.hid h5
  have Hh6 := Lib.hid h6
  have Hhp := Lib.hid hp
  have Hhc := Lib.hid hc
  have Hh3 := Lib.hid h3
  have Hhpt := Lib.hid hpt
  have Hhn := Lib.hid hn
  have Hhmk := Lib.hid hmk
  have Hhq := Lib.hid hq
  have cb0_0 := (HE.out.h.keep HP0.out).cell
  have cb1_0 := (HE.out.k.keep HP0.out).cell
  have cb2_0 := (HE.out.l.keep HP0.out).cell
  have cb3_0 := (HE.out.o.keep HP0.out).cell
  have cb4_0 := (HE.out.u.keep HP0.out).cell
  have c6_0 := H0.out.hand (i := 6) (by omega)
  rw [show (hm) 6 = jp (ad c) from (by first | exact Hh6.out | (simp [upd]; done) | (simp [upd, Hh6.out]; done))] at c6_0
  have c7_0 := H0.out.hand (i := 7) (by omega)
  have f7_0 := H0.out.hfroz (v * 9 + 7)
  clear h he h5 h6 hp hc h3 hpt hn hmk hq
  go_enter Try.func60, Try.ntmps60
  go_wp2_with fail
  with_reducible refine (stands_m H0.out (p := p) (c := c) Hhp.out Hhpt.out Hhn.out Hhc.out Hh5.out Hh6.out Hhmk.out (b := false) Hhq.out).mono ?_
  rintro e w1 ⟨rfl, m1, hw1⟩
  have h1 := H0.out.drewN m1
  rw [← hw1] at h1
  have hp1 := (JP.refl base w).drewN m1
  rw [← hw1] at hp1
  clear hw1
  have H1 := Lib.hid h1
  have HP1 : Hid (JP base w w1) := Lib.hid (by first | exact HP0.out.trans hp1 | exact (HP0.out.drewN _).trans hp1)
  have cb0_1 := (HE.out.h.keep HP1.out).cell
  have cb1_1 := (HE.out.k.keep HP1.out).cell
  have cb2_1 := (HE.out.l.keep HP1.out).cell
  have cb3_1 := (HE.out.o.keep HP1.out).cell
  have cb4_1 := (HE.out.u.keep HP1.out).cell
  have c6_1 := H1.out.hand (i := 6) (by omega)
  rw [show (hm) 6 = jp (ad c) from (by first | exact Hh6.out | (simp [upd]; done) | (simp [upd, Hh6.out]; done))] at c6_1
  have c7_1 := H1.out.hand (i := 7) (by omega)
  have f7_1 := H1.out.hfroz (v * 9 + 7)
  clear h1 hp1
  go_wp2_with fail
  first | with_reducible refine (free_any H1.out (p := p) (c := c) Hhp.out Hhc.out Hh5.out Hh6.out).mono ?_ | with_reducible refine (free_any (H1.out.drewN _) (p := p) (c := c) Hhp.out Hhc.out Hh5.out Hh6.out).mono ?_ | with_reducible refine (free_any ((H1.out.drewN _).drewN _) (p := p) (c := c) Hhp.out Hhc.out Hh5.out Hh6.out).mono ?_
  rintro e w2 ⟨rfl, h2, hp2⟩
  have H2 := Lib.hid h2
  have HP2 : Hid (JP base w w2) := Lib.hid (by first | exact HP1.out.trans hp2 | exact (HP1.out.drewN _).trans hp2)
  have cb0_2 := (HE.out.h.keep HP2.out).cell
  have cb1_2 := (HE.out.k.keep HP2.out).cell
  have cb2_2 := (HE.out.l.keep HP2.out).cell
  have cb3_2 := (HE.out.o.keep HP2.out).cell
  have cb4_2 := (HE.out.u.keep HP2.out).cell
  have c7_2 := H2.out.hand (i := 7) (by omega)
  have f7_2 := H2.out.hfroz (v * 9 + 7)
  clear h2 hp2
  go_wp2_with fail
  first | with_reducible refine (beginL_any H2.out Hh3.out).mono ?_ | with_reducible refine (beginL_any (H2.out.drewN _) Hh3.out).mono ?_ | with_reducible refine (beginL_any ((H2.out.drewN _).drewN _) Hh3.out).mono ?_
  rintro e w8 ⟨f8, ⟨rfl, h8, hp8⟩, hn8⟩
  have H8 := Lib.hid h8
  have HP8 : Hid (JP base w w8) := Lib.hid (by first | exact HP2.out.trans hp8 | exact (HP2.out.drewN _).trans hp8 | exact ((HP2.out.drewN _).drewN _).trans hp8)
  have HN8 := Lib.hid hn8
  clear h8 hp8 hn8
  go_wp2
  go_end0
  exact ⟨f8, ⟨rfl, H8.out, HP8.out⟩, HN8.out⟩

set_option maxRecDepth 100000 in
set_option maxHeartbeats 4000000 in
theorem cL4_bad3 {hb wb lb ob ub p c : Nat} (h : ST base B nh v kd K ad s lk hs hm w) (he : EnvL w (.pointer (some ⟨B, v * 9, none⟩)) hb wb lb ob ub) (h5 : hm 5 = jp (ad p)) (h6 : hm 6 = jp (ad c)) (hp : p < s.sz) (hc : c < s.sz) (h3 : hm 3 = fWay 2) (hpt : p ≠ s.tl) (hn : s.nx p < s.sz) (hmk : s.mrk p = false) (hq : decide (s.nx p = c) = true) (hmc : s.mrk c = true) : Calls Try.prog 60 #[jp hb, jp ub] w (RetB 2 base B nh v kd K ad s (upd (upd lk p false) c false) hs hm w) := by
  have H0 := Lib.hid h
  have HE := Lib.hid he
  have HP0 : Hid (JP base w w) := Lib.hid (JP.refl _ _)
  have Hh5 := Lib.hid h5
  have Hh6 := Lib.hid h6
  have Hhp := Lib.hid hp
  have Hhc := Lib.hid hc
  have Hh3 := Lib.hid h3
  have Hhpt := Lib.hid hpt
  have Hhn := Lib.hid hn
  have Hhmk := Lib.hid hmk
  have Hhq := Lib.hid hq
  have Hhmc := Lib.hid hmc
  have cb0_0 := (HE.out.h.keep HP0.out).cell
  have cb1_0 := (HE.out.k.keep HP0.out).cell
  have cb2_0 := (HE.out.l.keep HP0.out).cell
  have cb3_0 := (HE.out.o.keep HP0.out).cell
  have cb4_0 := (HE.out.u.keep HP0.out).cell
  have c6_0 := H0.out.hand (i := 6) (by omega)
  rw [show (hm) 6 = jp (ad c) from (by first | exact Hh6.out | (simp [upd]; done) | (simp [upd, Hh6.out]; done))] at c6_0
  have c7_0 := H0.out.hand (i := 7) (by omega)
  have f7_0 := H0.out.hfroz (v * 9 + 7)
  obtain ⟨b0c_0, b1c_0, b2c_0, b3c_0⟩ := H0.out.bead Hhc.out
  rw [Hhmc.out] at b2c_0
  have fmc_0 := H0.out.bfroz Hhc.out 2
  clear h he h5 h6 hp hc h3 hpt hn hmk hq hmc
  go_enter Try.func60, Try.ntmps60
  go_wp2_with fail
  with_reducible refine (stands_m H0.out (p := p) (c := c) Hhp.out Hhpt.out Hhn.out Hhc.out Hh5.out Hh6.out Hhmk.out (b := true) Hhq.out).mono ?_
  rintro e w1 ⟨rfl, m1, hw1⟩
  have h1 := H0.out.drewN m1
  rw [← hw1] at h1
  have hp1 := (JP.refl base w).drewN m1
  rw [← hw1] at hp1
  clear hw1
  have H1 := Lib.hid h1
  have HP1 : Hid (JP base w w1) := Lib.hid (by first | exact HP0.out.trans hp1 | exact (HP0.out.drewN _).trans hp1)
  have cb0_1 := (HE.out.h.keep HP1.out).cell
  have cb1_1 := (HE.out.k.keep HP1.out).cell
  have cb2_1 := (HE.out.l.keep HP1.out).cell
  have cb3_1 := (HE.out.o.keep HP1.out).cell
  have cb4_1 := (HE.out.u.keep HP1.out).cell
  have c6_1 := H1.out.hand (i := 6) (by omega)
  rw [show (hm) 6 = jp (ad c) from (by first | exact Hh6.out | (simp [upd]; done) | (simp [upd, Hh6.out]; done))] at c6_1
  have c7_1 := H1.out.hand (i := 7) (by omega)
  have f7_1 := H1.out.hfroz (v * 9 + 7)
  obtain ⟨b0c_1, b1c_1, b2c_1, b3c_1⟩ := H1.out.bead Hhc.out
  rw [Hhmc.out] at b2c_1
  have fmc_1 := H1.out.bfroz Hhc.out 2
  clear h1 hp1
  go_wp2_with fail
  first | with_reducible refine (free_any H1.out (p := p) (c := c) Hhp.out Hhc.out Hh5.out Hh6.out).mono ?_ | with_reducible refine (free_any (H1.out.drewN _) (p := p) (c := c) Hhp.out Hhc.out Hh5.out Hh6.out).mono ?_ | with_reducible refine (free_any ((H1.out.drewN _).drewN _) (p := p) (c := c) Hhp.out Hhc.out Hh5.out Hh6.out).mono ?_
  rintro e w2 ⟨rfl, h2, hp2⟩
  have H2 := Lib.hid h2
  have HP2 : Hid (JP base w w2) := Lib.hid (by first | exact HP1.out.trans hp2 | exact (HP1.out.drewN _).trans hp2)
  have cb0_2 := (HE.out.h.keep HP2.out).cell
  have cb1_2 := (HE.out.k.keep HP2.out).cell
  have cb2_2 := (HE.out.l.keep HP2.out).cell
  have cb3_2 := (HE.out.o.keep HP2.out).cell
  have cb4_2 := (HE.out.u.keep HP2.out).cell
  have c7_2 := H2.out.hand (i := 7) (by omega)
  have f7_2 := H2.out.hfroz (v * 9 + 7)
  clear h2 hp2
  go_wp2_with fail
  first | with_reducible refine (beginL_any H2.out Hh3.out).mono ?_ | with_reducible refine (beginL_any (H2.out.drewN _) Hh3.out).mono ?_ | with_reducible refine (beginL_any ((H2.out.drewN _).drewN _) Hh3.out).mono ?_
  rintro e w8 ⟨f8, ⟨rfl, h8, hp8⟩, hn8⟩
  have H8 := Lib.hid h8
  have HP8 : Hid (JP base w w8) := Lib.hid (by first | exact HP2.out.trans hp8 | exact (HP2.out.drewN _).trans hp8 | exact ((HP2.out.drewN _).drewN _).trans hp8)
  have HN8 := Lib.hid hn8
  clear h8 hp8 hn8
  go_wp2
  go_end0
  exact ⟨f8, ⟨rfl, H8.out, HP8.out⟩, HN8.out⟩

set_option maxRecDepth 100000 in
set_option maxHeartbeats 4000000 in
theorem cL4_no1 {hb wb lb ob ub p c : Nat} (h : ST base B nh v 1 K ad s lk hs hm w) (he : EnvL w (.pointer (some ⟨B, v * 9, none⟩)) hb wb lb ob ub) (h5 : hm 5 = jp (ad p)) (h6 : hm 6 = jp (ad c)) (hp : p < s.sz) (hc : c < s.sz) (hpt : p ≠ s.tl) (hn : s.nx p < s.sz) (hmk : s.mrk p = false) (hq : decide (s.nx p = c) = true) (hmc : s.mrk c = false) (hf : decide (s.key c = K) = true) : Calls Try.prog 60 #[jp hb, jp ub] w (RetJ base B nh v 1 K ad s (upd (upd lk p false) c false) hs (upd (upd hm 7 .nilFunc) 8 (.bool false)) w) := by
  have H0 := Lib.hid h
  have HE := Lib.hid he
  have HP0 : Hid (JP base w w) := Lib.hid (JP.refl _ _)
  have Hh5 := Lib.hid h5
  have Hh6 := Lib.hid h6
  have Hhp := Lib.hid hp
  have Hhc := Lib.hid hc
  have Hhpt := Lib.hid hpt
  have Hhn := Lib.hid hn
  have Hhmk := Lib.hid hmk
  have Hhq := Lib.hid hq
  have Hhmc := Lib.hid hmc
  have Hhf := Lib.hid hf
  have cb0_0 := (HE.out.h.keep HP0.out).cell
  have cb1_0 := (HE.out.k.keep HP0.out).cell
  have cb2_0 := (HE.out.l.keep HP0.out).cell
  have cb3_0 := (HE.out.o.keep HP0.out).cell
  have cb4_0 := (HE.out.u.keep HP0.out).cell
  have c6_0 := H0.out.hand (i := 6) (by omega)
  rw [show (hm) 6 = jp (ad c) from (by first | exact Hh6.out | (simp [upd]; done) | (simp [upd, Hh6.out]; done))] at c6_0
  have c7_0 := H0.out.hand (i := 7) (by omega)
  have f7_0 := H0.out.hfroz (v * 9 + 7)
  obtain ⟨b0c_0, b1c_0, b2c_0, b3c_0⟩ := H0.out.bead Hhc.out
  rw [Hhmc.out] at b2c_0
  have fmc_0 := H0.out.bfroz Hhc.out 2
  clear h he h5 h6 hp hc hpt hn hmk hq hmc hf
  go_enter Try.func60, Try.ntmps60
  go_wp2_with fail
  with_reducible refine (stands_m H0.out (p := p) (c := c) Hhp.out Hhpt.out Hhn.out Hhc.out Hh5.out Hh6.out Hhmk.out (b := true) Hhq.out).mono ?_
  rintro e w1 ⟨rfl, m1, hw1⟩
  have h1 := H0.out.drewN m1
  rw [← hw1] at h1
  have hp1 := (JP.refl base w).drewN m1
  rw [← hw1] at hp1
  clear hw1
  have H1 := Lib.hid h1
  have HP1 : Hid (JP base w w1) := Lib.hid (by first | exact HP0.out.trans hp1 | exact (HP0.out.drewN _).trans hp1)
  have cb0_1 := (HE.out.h.keep HP1.out).cell
  have cb1_1 := (HE.out.k.keep HP1.out).cell
  have cb2_1 := (HE.out.l.keep HP1.out).cell
  have cb3_1 := (HE.out.o.keep HP1.out).cell
  have cb4_1 := (HE.out.u.keep HP1.out).cell
  have c6_1 := H1.out.hand (i := 6) (by omega)
  rw [show (hm) 6 = jp (ad c) from (by first | exact Hh6.out | (simp [upd]; done) | (simp [upd, Hh6.out]; done))] at c6_1
  have c7_1 := H1.out.hand (i := 7) (by omega)
  have f7_1 := H1.out.hfroz (v * 9 + 7)
  obtain ⟨b0c_1, b1c_1, b2c_1, b3c_1⟩ := H1.out.bead Hhc.out
  rw [Hhmc.out] at b2c_1
  have fmc_1 := H1.out.bfroz Hhc.out 2
  clear h1 hp1
  have HQ0_1 : Hid (∀ m, Calls Try.prog 50 #[.pointer (some ⟨B, v * 9, none⟩)] (w1.drewN m) fun e w' => e = .returned (.bool true) ∧ ∃ m', w' = (w1.drewN m).drewN m') := fun m => found_any (H1.out.drewN m) (c := c) Hhc.out Hh6.out (b := true) Hhf.out
  have HR0_1 : Hid (∀ m k, Calls Try.prog 50 #[.pointer (some ⟨B, v * 9, none⟩)] ((w1.drewN m).drewN k) fun e w' => e = .returned (.bool true) ∧ ∃ m', w' = ((w1.drewN m).drewN k).drewN m') := fun m k => found_any ((H1.out.drewN m).drewN k) (c := c) Hhc.out Hh6.out (b := true) Hhf.out
  have HQ1_2 : Hid (∀ m, Calls Try.prog 51 #[.pointer (some ⟨B, v * 9, none⟩)] (w1.drewN m) fun e w' => e = .returned (I 1) ∧ ∃ m', w' = (w1.drewN m).drewN m') := fun m => kind_any (H1.out.drewN m)
  have HR1_2 : Hid (∀ m k, Calls Try.prog 51 #[.pointer (some ⟨B, v * 9, none⟩)] ((w1.drewN m).drewN k) fun e w' => e = .returned (I 1) ∧ ∃ m', w' = ((w1.drewN m).drewN k).drewN m') := fun m k => kind_any ((H1.out.drewN m).drewN k)
  go_wp2_with fail
  go_quiet ((first | (go_at_call 50; with_reducible exact Calls.quiet_of (HQ0_1.out _)) | (go_at_call 50; with_reducible exact Calls.quiet_of (HR0_1.out _ _)) | (go_at_call 51; with_reducible exact Calls.quiet_of (HQ1_2.out _)) | (go_at_call 51; with_reducible exact Calls.quiet_of (HR1_2.out _ _))))
  generalize hw2 : World.drewN w1 nq = w2
  have h2 := H1.out.drewN nq
  rw [hw2] at h2
  have hp2 := (JP.refl base w1).drewN nq
  rw [hw2] at hp2
  clear hw2
  have H2 := Lib.hid h2
  have HP2 : Hid (JP base w w2) := Lib.hid (by first | exact HP1.out.trans hp2 | exact (HP1.out.drewN _).trans hp2)
  have cb0_2 := (HE.out.h.keep HP2.out).cell
  have cb1_2 := (HE.out.k.keep HP2.out).cell
  have cb2_2 := (HE.out.l.keep HP2.out).cell
  have cb3_2 := (HE.out.o.keep HP2.out).cell
  have cb4_2 := (HE.out.u.keep HP2.out).cell
  have c6_2 := H2.out.hand (i := 6) (by omega)
  rw [show (hm) 6 = jp (ad c) from (by first | exact Hh6.out | (simp [upd]; done) | (simp [upd, Hh6.out]; done))] at c6_2
  have c7_2 := H2.out.hand (i := 7) (by omega)
  have f7_2 := H2.out.hfroz (v * 9 + 7)
  obtain ⟨b0c_2, b1c_2, b2c_2, b3c_2⟩ := H2.out.bead Hhc.out
  rw [Hhmc.out] at b2c_2
  have fmc_2 := H2.out.bfroz Hhc.out 2
  clear h2 hp2
  go_wp2_with fail
  first | with_reducible refine (free_any H2.out (p := p) (c := c) Hhp.out Hhc.out Hh5.out Hh6.out).mono ?_ | with_reducible refine (free_any (H2.out.drewN _) (p := p) (c := c) Hhp.out Hhc.out Hh5.out Hh6.out).mono ?_ | with_reducible refine (free_any ((H2.out.drewN _).drewN _) (p := p) (c := c) Hhp.out Hhc.out Hh5.out Hh6.out).mono ?_
  rintro e w3 ⟨rfl, h3, hp3⟩
  have H3 := Lib.hid h3
  have HP3 : Hid (JP base w w3) := Lib.hid (by first | exact HP2.out.trans hp3 | exact (HP2.out.drewN _).trans hp3)
  have cb0_3 := (HE.out.h.keep HP3.out).cell
  have cb1_3 := (HE.out.k.keep HP3.out).cell
  have cb2_3 := (HE.out.l.keep HP3.out).cell
  have cb3_3 := (HE.out.o.keep HP3.out).cell
  have cb4_3 := (HE.out.u.keep HP3.out).cell
  have c7_3 := H3.out.hand (i := 7) (by omega)
  have f7_3 := H3.out.hfroz (v * 9 + 7)
  clear h3 hp3
  go_wp2_with fail
  first | with_reducible refine (end_any H3.out false).mono ?_ | with_reducible refine (end_any (H3.out.drewN _) false).mono ?_ | with_reducible refine (end_any ((H3.out.drewN _).drewN _) false).mono ?_
  rintro e w4 ⟨rfl, h4, hp4⟩
  have H4 := Lib.hid h4
  have HP4 : Hid (JP base w w4) := Lib.hid (by first | exact HP3.out.trans hp4 | exact (HP3.out.drewN _).trans hp4)
  have cb0_4 := (HE.out.h.keep HP4.out).cell
  have cb1_4 := (HE.out.k.keep HP4.out).cell
  have cb2_4 := (HE.out.l.keep HP4.out).cell
  have cb3_4 := (HE.out.o.keep HP4.out).cell
  have cb4_4 := (HE.out.u.keep HP4.out).cell
  have c7_4 := H4.out.hand (i := 7) (by omega)
  have f7_4 := H4.out.hfroz (v * 9 + 7)
  clear h4 hp4
  go_wp2
  go_end0
  first | exact ⟨rfl, H4.out, HP4.out⟩ | exact ⟨rfl, (H4.out.drewN _), (HP4.out.drewN _)⟩ | exact ⟨rfl, ((H4.out.drewN _).drewN _), ((HP4.out.drewN _).drewN _)⟩

set_option maxRecDepth 100000 in
set_option maxHeartbeats 4000000 in
theorem cL4_no2 {hb wb lb ob ub p c : Nat} (h : ST base B nh v 2 K ad s lk hs hm w) (he : EnvL w (.pointer (some ⟨B, v * 9, none⟩)) hb wb lb ob ub) (h5 : hm 5 = jp (ad p)) (h6 : hm 6 = jp (ad c)) (hp : p < s.sz) (hc : c < s.sz) (hpt : p ≠ s.tl) (hn : s.nx p < s.sz) (hmk : s.mrk p = false) (hq : decide (s.nx p = c) = true) (hmc : s.mrk c = false) (hf : decide (s.key c = K) = false) : Calls Try.prog 60 #[jp hb, jp ub] w (RetJ base B nh v 2 K ad s (upd (upd lk p false) c false) hs (upd (upd hm 7 .nilFunc) 8 (.bool false)) w) := by
  have H0 := Lib.hid h
  have HE := Lib.hid he
  have HP0 : Hid (JP base w w) := Lib.hid (JP.refl _ _)
  have Hh5 := Lib.hid h5
  have Hh6 := Lib.hid h6
  have Hhp := Lib.hid hp
  have Hhc := Lib.hid hc
  have Hhpt := Lib.hid hpt
  have Hhn := Lib.hid hn
  have Hhmk := Lib.hid hmk
  have Hhq := Lib.hid hq
  have Hhmc := Lib.hid hmc
  have Hhf := Lib.hid hf
  have cb0_0 := (HE.out.h.keep HP0.out).cell
  have cb1_0 := (HE.out.k.keep HP0.out).cell
  have cb2_0 := (HE.out.l.keep HP0.out).cell
  have cb3_0 := (HE.out.o.keep HP0.out).cell
  have cb4_0 := (HE.out.u.keep HP0.out).cell
  have c6_0 := H0.out.hand (i := 6) (by omega)
  rw [show (hm) 6 = jp (ad c) from (by first | exact Hh6.out | (simp [upd]; done) | (simp [upd, Hh6.out]; done))] at c6_0
  have c7_0 := H0.out.hand (i := 7) (by omega)
  have f7_0 := H0.out.hfroz (v * 9 + 7)
  obtain ⟨b0c_0, b1c_0, b2c_0, b3c_0⟩ := H0.out.bead Hhc.out
  rw [Hhmc.out] at b2c_0
  have fmc_0 := H0.out.bfroz Hhc.out 2
  clear h he h5 h6 hp hc hpt hn hmk hq hmc hf
  go_enter Try.func60, Try.ntmps60
  go_wp2_with fail
  with_reducible refine (stands_m H0.out (p := p) (c := c) Hhp.out Hhpt.out Hhn.out Hhc.out Hh5.out Hh6.out Hhmk.out (b := true) Hhq.out).mono ?_
  rintro e w1 ⟨rfl, m1, hw1⟩
  have h1 := H0.out.drewN m1
  rw [← hw1] at h1
  have hp1 := (JP.refl base w).drewN m1
  rw [← hw1] at hp1
  clear hw1
  have H1 := Lib.hid h1
  have HP1 : Hid (JP base w w1) := Lib.hid (by first | exact HP0.out.trans hp1 | exact (HP0.out.drewN _).trans hp1)
  have cb0_1 := (HE.out.h.keep HP1.out).cell
  have cb1_1 := (HE.out.k.keep HP1.out).cell
  have cb2_1 := (HE.out.l.keep HP1.out).cell
  have cb3_1 := (HE.out.o.keep HP1.out).cell
  have cb4_1 := (HE.out.u.keep HP1.out).cell
  have c6_1 := H1.out.hand (i := 6) (by omega)
  rw [show (hm) 6 = jp (ad c) from (by first | exact Hh6.out | (simp [upd]; done) | (simp [upd, Hh6.out]; done))] at c6_1
  have c7_1 := H1.out.hand (i := 7) (by omega)
  have f7_1 := H1.out.hfroz (v * 9 + 7)
  obtain ⟨b0c_1, b1c_1, b2c_1, b3c_1⟩ := H1.out.bead Hhc.out
  rw [Hhmc.out] at b2c_1
  have fmc_1 := H1.out.bfroz Hhc.out 2
  clear h1 hp1
  have HQ0_1 : Hid (∀ m, Calls Try.prog 50 #[.pointer (some ⟨B, v * 9, none⟩)] (w1.drewN m) fun e w' => e = .returned (.bool false) ∧ ∃ m', w' = (w1.drewN m).drewN m') := fun m => found_any (H1.out.drewN m) (c := c) Hhc.out Hh6.out (b := false) Hhf.out
  have HR0_1 : Hid (∀ m k, Calls Try.prog 50 #[.pointer (some ⟨B, v * 9, none⟩)] ((w1.drewN m).drewN k) fun e w' => e = .returned (.bool false) ∧ ∃ m', w' = ((w1.drewN m).drewN k).drewN m') := fun m k => found_any ((H1.out.drewN m).drewN k) (c := c) Hhc.out Hh6.out (b := false) Hhf.out
  have HQ1_2 : Hid (∀ m, Calls Try.prog 51 #[.pointer (some ⟨B, v * 9, none⟩)] (w1.drewN m) fun e w' => e = .returned (I 2) ∧ ∃ m', w' = (w1.drewN m).drewN m') := fun m => kind_any (H1.out.drewN m)
  have HR1_2 : Hid (∀ m k, Calls Try.prog 51 #[.pointer (some ⟨B, v * 9, none⟩)] ((w1.drewN m).drewN k) fun e w' => e = .returned (I 2) ∧ ∃ m', w' = ((w1.drewN m).drewN k).drewN m') := fun m k => kind_any ((H1.out.drewN m).drewN k)
  go_wp2_with fail
  go_quiet ((first | (go_at_call 50; with_reducible exact Calls.quiet_of (HQ0_1.out _)) | (go_at_call 50; with_reducible exact Calls.quiet_of (HR0_1.out _ _)) | (go_at_call 51; with_reducible exact Calls.quiet_of (HQ1_2.out _)) | (go_at_call 51; with_reducible exact Calls.quiet_of (HR1_2.out _ _))))
  generalize hw2 : World.drewN w1 nq = w2
  have h2 := H1.out.drewN nq
  rw [hw2] at h2
  have hp2 := (JP.refl base w1).drewN nq
  rw [hw2] at hp2
  clear hw2
  have H2 := Lib.hid h2
  have HP2 : Hid (JP base w w2) := Lib.hid (by first | exact HP1.out.trans hp2 | exact (HP1.out.drewN _).trans hp2)
  have cb0_2 := (HE.out.h.keep HP2.out).cell
  have cb1_2 := (HE.out.k.keep HP2.out).cell
  have cb2_2 := (HE.out.l.keep HP2.out).cell
  have cb3_2 := (HE.out.o.keep HP2.out).cell
  have cb4_2 := (HE.out.u.keep HP2.out).cell
  have c6_2 := H2.out.hand (i := 6) (by omega)
  rw [show (hm) 6 = jp (ad c) from (by first | exact Hh6.out | (simp [upd]; done) | (simp [upd, Hh6.out]; done))] at c6_2
  have c7_2 := H2.out.hand (i := 7) (by omega)
  have f7_2 := H2.out.hfroz (v * 9 + 7)
  obtain ⟨b0c_2, b1c_2, b2c_2, b3c_2⟩ := H2.out.bead Hhc.out
  rw [Hhmc.out] at b2c_2
  have fmc_2 := H2.out.bfroz Hhc.out 2
  clear h2 hp2
  go_wp2_with fail
  first | with_reducible refine (free_any H2.out (p := p) (c := c) Hhp.out Hhc.out Hh5.out Hh6.out).mono ?_ | with_reducible refine (free_any (H2.out.drewN _) (p := p) (c := c) Hhp.out Hhc.out Hh5.out Hh6.out).mono ?_ | with_reducible refine (free_any ((H2.out.drewN _).drewN _) (p := p) (c := c) Hhp.out Hhc.out Hh5.out Hh6.out).mono ?_
  rintro e w3 ⟨rfl, h3, hp3⟩
  have H3 := Lib.hid h3
  have HP3 : Hid (JP base w w3) := Lib.hid (by first | exact HP2.out.trans hp3 | exact (HP2.out.drewN _).trans hp3)
  have cb0_3 := (HE.out.h.keep HP3.out).cell
  have cb1_3 := (HE.out.k.keep HP3.out).cell
  have cb2_3 := (HE.out.l.keep HP3.out).cell
  have cb3_3 := (HE.out.o.keep HP3.out).cell
  have cb4_3 := (HE.out.u.keep HP3.out).cell
  have c7_3 := H3.out.hand (i := 7) (by omega)
  have f7_3 := H3.out.hfroz (v * 9 + 7)
  clear h3 hp3
  go_wp2_with fail
  first | with_reducible refine (end_any H3.out false).mono ?_ | with_reducible refine (end_any (H3.out.drewN _) false).mono ?_ | with_reducible refine (end_any ((H3.out.drewN _).drewN _) false).mono ?_
  rintro e w4 ⟨rfl, h4, hp4⟩
  have H4 := Lib.hid h4
  have HP4 : Hid (JP base w w4) := Lib.hid (by first | exact HP3.out.trans hp4 | exact (HP3.out.drewN _).trans hp4)
  have cb0_4 := (HE.out.h.keep HP4.out).cell
  have cb1_4 := (HE.out.k.keep HP4.out).cell
  have cb2_4 := (HE.out.l.keep HP4.out).cell
  have cb3_4 := (HE.out.o.keep HP4.out).cell
  have cb4_4 := (HE.out.u.keep HP4.out).cell
  have c7_4 := H4.out.hand (i := 7) (by omega)
  have f7_4 := H4.out.hfroz (v * 9 + 7)
  clear h4 hp4
  go_wp2
  go_end0
  first | exact ⟨rfl, H4.out, HP4.out⟩ | exact ⟨rfl, (H4.out.drewN _), (HP4.out.drewN _)⟩ | exact ⟨rfl, ((H4.out.drewN _).drewN _), ((HP4.out.drewN _).drewN _)⟩

set_option maxRecDepth 100000 in
set_option maxHeartbeats 4000000 in
theorem cL4_add {hb wb lb ob ub p c : Nat} (h : ST base B nh v 1 K ad s lk hs hm w) (he : EnvL w (.pointer (some ⟨B, v * 9, none⟩)) hb wb lb ob ub) (h5 : hm 5 = jp (ad p)) (h6 : hm 6 = jp (ad c)) (hp : p < s.sz) (hc : c < s.sz) (hpt : p ≠ s.tl) (hn : s.nx p < s.sz) (hmk : s.mrk p = false) (hq : decide (s.nx p = c) = true) (hmc : s.mrk c = false) (hf : decide (s.key c = K) = false) (htl : s.tl < s.sz) (hnl : ∀ i, i < s.sz → i ≠ s.tl → s.nx i < s.sz) (hlk : lk s.sz = false) : Calls Try.prog 60 #[jp hb, jp ub] w (fun e w' => ∃ g, RetJ base B nh v 1 K (upd ad s.sz g) (s.insc p c K) (upd (upd lk p false) c false) hs (upd (upd hm 7 .nilFunc) 8 (.bool true)) w e w') := by
  have H0 := Lib.hid h
  have HE := Lib.hid he
  have HP0 : Hid (JP base w w) := Lib.hid (JP.refl _ _)
  have Hh5 := Lib.hid h5
  have Hh6 := Lib.hid h6
  have Hhp := Lib.hid hp
  have Hhc := Lib.hid hc
  have Hhpt := Lib.hid hpt
  have Hhn := Lib.hid hn
  have Hhmk := Lib.hid hmk
  have Hhq := Lib.hid hq
  have Hhmc := Lib.hid hmc
  have Hhf := Lib.hid hf
  have Hhtl := Lib.hid htl
  have Hhnl := Lib.hid hnl
  have Hhlk := Lib.hid hlk
  have cb0_0 := (HE.out.h.keep HP0.out).cell
  have cb1_0 := (HE.out.k.keep HP0.out).cell
  have cb2_0 := (HE.out.l.keep HP0.out).cell
  have cb3_0 := (HE.out.o.keep HP0.out).cell
  have cb4_0 := (HE.out.u.keep HP0.out).cell
  have c6_0 := H0.out.hand (i := 6) (by omega)
  rw [show (hm) 6 = jp (ad c) from (by first | exact Hh6.out | (simp [upd]; done) | (simp [upd, Hh6.out]; done))] at c6_0
  have c7_0 := H0.out.hand (i := 7) (by omega)
  have f7_0 := H0.out.hfroz (v * 9 + 7)
  obtain ⟨b0c_0, b1c_0, b2c_0, b3c_0⟩ := H0.out.bead Hhc.out
  rw [Hhmc.out] at b2c_0
  have fmc_0 := H0.out.bfroz Hhc.out 2
  clear h he h5 h6 hp hc hpt hn hmk hq hmc hf htl hnl hlk
  go_enter Try.func60, Try.ntmps60
  go_wp2_with fail
  with_reducible refine (stands_m H0.out (p := p) (c := c) Hhp.out Hhpt.out Hhn.out Hhc.out Hh5.out Hh6.out Hhmk.out (b := true) Hhq.out).mono ?_
  rintro e w1 ⟨rfl, m1, hw1⟩
  have h1 := H0.out.drewN m1
  rw [← hw1] at h1
  have hp1 := (JP.refl base w).drewN m1
  rw [← hw1] at hp1
  clear hw1
  have H1 := Lib.hid h1
  have HP1 : Hid (JP base w w1) := Lib.hid (by first | exact HP0.out.trans hp1 | exact (HP0.out.drewN _).trans hp1)
  have cb0_1 := (HE.out.h.keep HP1.out).cell
  have cb1_1 := (HE.out.k.keep HP1.out).cell
  have cb2_1 := (HE.out.l.keep HP1.out).cell
  have cb3_1 := (HE.out.o.keep HP1.out).cell
  have cb4_1 := (HE.out.u.keep HP1.out).cell
  have c6_1 := H1.out.hand (i := 6) (by omega)
  rw [show (hm) 6 = jp (ad c) from (by first | exact Hh6.out | (simp [upd]; done) | (simp [upd, Hh6.out]; done))] at c6_1
  have c7_1 := H1.out.hand (i := 7) (by omega)
  have f7_1 := H1.out.hfroz (v * 9 + 7)
  obtain ⟨b0c_1, b1c_1, b2c_1, b3c_1⟩ := H1.out.bead Hhc.out
  rw [Hhmc.out] at b2c_1
  have fmc_1 := H1.out.bfroz Hhc.out 2
  clear h1 hp1
  have HQ0_1 : Hid (∀ m, Calls Try.prog 50 #[.pointer (some ⟨B, v * 9, none⟩)] (w1.drewN m) fun e w' => e = .returned (.bool false) ∧ ∃ m', w' = (w1.drewN m).drewN m') := fun m => found_any (H1.out.drewN m) (c := c) Hhc.out Hh6.out (b := false) Hhf.out
  have HR0_1 : Hid (∀ m k, Calls Try.prog 50 #[.pointer (some ⟨B, v * 9, none⟩)] ((w1.drewN m).drewN k) fun e w' => e = .returned (.bool false) ∧ ∃ m', w' = ((w1.drewN m).drewN k).drewN m') := fun m k => found_any ((H1.out.drewN m).drewN k) (c := c) Hhc.out Hh6.out (b := false) Hhf.out
  have HQ1_2 : Hid (∀ m, Calls Try.prog 51 #[.pointer (some ⟨B, v * 9, none⟩)] (w1.drewN m) fun e w' => e = .returned (I 1) ∧ ∃ m', w' = (w1.drewN m).drewN m') := fun m => kind_any (H1.out.drewN m)
  have HR1_2 : Hid (∀ m k, Calls Try.prog 51 #[.pointer (some ⟨B, v * 9, none⟩)] ((w1.drewN m).drewN k) fun e w' => e = .returned (I 1) ∧ ∃ m', w' = ((w1.drewN m).drewN k).drewN m') := fun m k => kind_any ((H1.out.drewN m).drewN k)
  go_wp2_with fail
  go_quiet ((first | (go_at_call 50; with_reducible exact Calls.quiet_of (HQ0_1.out _)) | (go_at_call 50; with_reducible exact Calls.quiet_of (HR0_1.out _ _)) | (go_at_call 51; with_reducible exact Calls.quiet_of (HQ1_2.out _)) | (go_at_call 51; with_reducible exact Calls.quiet_of (HR1_2.out _ _))))
  generalize hw2 : World.drewN w1 nq = w2
  have h2 := H1.out.drewN nq
  rw [hw2] at h2
  have hp2 := (JP.refl base w1).drewN nq
  rw [hw2] at hp2
  clear hw2
  have H2 := Lib.hid h2
  have HP2 : Hid (JP base w w2) := Lib.hid (by first | exact HP1.out.trans hp2 | exact (HP1.out.drewN _).trans hp2)
  have cb0_2 := (HE.out.h.keep HP2.out).cell
  have cb1_2 := (HE.out.k.keep HP2.out).cell
  have cb2_2 := (HE.out.l.keep HP2.out).cell
  have cb3_2 := (HE.out.o.keep HP2.out).cell
  have cb4_2 := (HE.out.u.keep HP2.out).cell
  have c6_2 := H2.out.hand (i := 6) (by omega)
  rw [show (hm) 6 = jp (ad c) from (by first | exact Hh6.out | (simp [upd]; done) | (simp [upd, Hh6.out]; done))] at c6_2
  have c7_2 := H2.out.hand (i := 7) (by omega)
  have f7_2 := H2.out.hfroz (v * 9 + 7)
  obtain ⟨b0c_2, b1c_2, b2c_2, b3c_2⟩ := H2.out.bead Hhc.out
  rw [Hhmc.out] at b2c_2
  have fmc_2 := H2.out.bfroz Hhc.out 2
  clear h2 hp2
  go_wp2_with fail
  with_reducible refine (kind_any H2.out).mono ?_
  rintro e w3 ⟨rfl, m3, hw3⟩
  have h3 := H2.out.drewN m3
  rw [← hw3] at h3
  have hp3 := (JP.refl base w2).drewN m3
  rw [← hw3] at hp3
  clear hw3
  have H3 := Lib.hid h3
  have HP3 : Hid (JP base w w3) := Lib.hid (by first | exact HP2.out.trans hp3 | exact (HP2.out.drewN _).trans hp3)
  have cb0_3 := (HE.out.h.keep HP3.out).cell
  have cb1_3 := (HE.out.k.keep HP3.out).cell
  have cb2_3 := (HE.out.l.keep HP3.out).cell
  have cb3_3 := (HE.out.o.keep HP3.out).cell
  have cb4_3 := (HE.out.u.keep HP3.out).cell
  have c6_3 := H3.out.hand (i := 6) (by omega)
  rw [show (hm) 6 = jp (ad c) from (by first | exact Hh6.out | (simp [upd]; done) | (simp [upd, Hh6.out]; done))] at c6_3
  have c7_3 := H3.out.hand (i := 7) (by omega)
  have f7_3 := H3.out.hfroz (v * 9 + 7)
  obtain ⟨b0c_3, b1c_3, b2c_3, b3c_3⟩ := H3.out.bead Hhc.out
  rw [Hhmc.out] at b2c_3
  have fmc_3 := H3.out.bfroz Hhc.out 2
  clear h3 hp3
  go_wp2_with fail
  first | with_reducible refine (add_any H3.out (p := p) (c := c) Hhp.out Hhpt.out Hhc.out Hhtl.out Hhnl.out Hhlk.out Hh5.out Hh6.out).mono ?_ | with_reducible refine (add_any (H3.out.drewN _) (p := p) (c := c) Hhp.out Hhpt.out Hhc.out Hhtl.out Hhnl.out Hhlk.out Hh5.out Hh6.out).mono ?_ | with_reducible refine (add_any ((H3.out.drewN _).drewN _) (p := p) (c := c) Hhp.out Hhpt.out Hhc.out Hhtl.out Hhnl.out Hhlk.out Hh5.out Hh6.out).mono ?_
  rintro e w4 ⟨g, rfl, h4, hp4⟩
  have H4 := Lib.hid h4
  have HP4 : Hid (JP base w w4) := Lib.hid (by first | exact HP3.out.trans hp4 | exact (HP3.out.drewN _).trans hp4)
  have cb0_4 := (HE.out.h.keep HP4.out).cell
  have cb1_4 := (HE.out.k.keep HP4.out).cell
  have cb2_4 := (HE.out.l.keep HP4.out).cell
  have cb3_4 := (HE.out.o.keep HP4.out).cell
  have cb4_4 := (HE.out.u.keep HP4.out).cell
  have c7_4 := H4.out.hand (i := 7) (by omega)
  have f7_4 := H4.out.hfroz (v * 9 + 7)
  clear h4 hp4
  go_wp2_with fail
  first | with_reducible refine (free_any H4.out (p := p) (c := c) (sz_ins Hhp.out) (sz_ins Hhc.out) (Hh5.out.trans (by rw [upd_other _ _ (Nat.ne_of_lt Hhp.out)])) (Hh6.out.trans (by rw [upd_other _ _ (Nat.ne_of_lt Hhc.out)]))).mono ?_ | with_reducible refine (free_any (H4.out.drewN _) (p := p) (c := c) (sz_ins Hhp.out) (sz_ins Hhc.out) (Hh5.out.trans (by rw [upd_other _ _ (Nat.ne_of_lt Hhp.out)])) (Hh6.out.trans (by rw [upd_other _ _ (Nat.ne_of_lt Hhc.out)]))).mono ?_ | with_reducible refine (free_any ((H4.out.drewN _).drewN _) (p := p) (c := c) (sz_ins Hhp.out) (sz_ins Hhc.out) (Hh5.out.trans (by rw [upd_other _ _ (Nat.ne_of_lt Hhp.out)])) (Hh6.out.trans (by rw [upd_other _ _ (Nat.ne_of_lt Hhc.out)]))).mono ?_
  rintro e w5 ⟨rfl, h5, hp5⟩
  have H5 := Lib.hid h5
  have HP5 : Hid (JP base w w5) := Lib.hid (by first | exact HP4.out.trans hp5 | exact (HP4.out.drewN _).trans hp5)
  have cb0_5 := (HE.out.h.keep HP5.out).cell
  have cb1_5 := (HE.out.k.keep HP5.out).cell
  have cb2_5 := (HE.out.l.keep HP5.out).cell
  have cb3_5 := (HE.out.o.keep HP5.out).cell
  have cb4_5 := (HE.out.u.keep HP5.out).cell
  have c7_5 := H5.out.hand (i := 7) (by omega)
  have f7_5 := H5.out.hfroz (v * 9 + 7)
  clear h5 hp5
  go_wp2_with fail
  first | with_reducible refine (end_any H5.out true).mono ?_ | with_reducible refine (end_any (H5.out.drewN _) true).mono ?_ | with_reducible refine (end_any ((H5.out.drewN _).drewN _) true).mono ?_
  rintro e w6 ⟨rfl, h6, hp6⟩
  have H6 := Lib.hid h6
  have HP6 : Hid (JP base w w6) := Lib.hid (by first | exact HP5.out.trans hp6 | exact (HP5.out.drewN _).trans hp6)
  have cb0_6 := (HE.out.h.keep HP6.out).cell
  have cb1_6 := (HE.out.k.keep HP6.out).cell
  have cb2_6 := (HE.out.l.keep HP6.out).cell
  have cb3_6 := (HE.out.o.keep HP6.out).cell
  have cb4_6 := (HE.out.u.keep HP6.out).cell
  have c7_6 := H6.out.hand (i := 7) (by omega)
  have f7_6 := H6.out.hfroz (v * 9 + 7)
  clear h6 hp6
  go_wp2
  go_end0
  first | exact ⟨g, rfl, H6.out, HP6.out⟩ | exact ⟨g, rfl, (H6.out.drewN _), (HP6.out.drewN _)⟩ | exact ⟨g, rfl, ((H6.out.drewN _).drewN _), ((HP6.out.drewN _).drewN _)⟩

set_option maxRecDepth 100000 in
set_option maxHeartbeats 4000000 in
theorem cL4_cut {hb wb lb ob ub p c : Nat} (h : ST base B nh v 2 K ad s lk hs hm w) (he : EnvL w (.pointer (some ⟨B, v * 9, none⟩)) hb wb lb ob ub) (h5 : hm 5 = jp (ad p)) (h6 : hm 6 = jp (ad c)) (hp : p < s.sz) (hc : c < s.sz) (hpt : p ≠ s.tl) (hn : s.nx p < s.sz) (hmk : s.mrk p = false) (hq : decide (s.nx p = c) = true) (hmc : s.mrk c = false) (hf : decide (s.key c = K) = true) : Calls Try.prog 60 #[jp hb, jp ub] w (RetJ base B nh v 2 K ad (s.mark c) lk hs (upd hm 7 (fL5 hb)) w) := by
  have H0 := Lib.hid h
  have HE := Lib.hid he
  have HP0 : Hid (JP base w w) := Lib.hid (JP.refl _ _)
  have Hh5 := Lib.hid h5
  have Hh6 := Lib.hid h6
  have Hhp := Lib.hid hp
  have Hhc := Lib.hid hc
  have Hhpt := Lib.hid hpt
  have Hhn := Lib.hid hn
  have Hhmk := Lib.hid hmk
  have Hhq := Lib.hid hq
  have Hhmc := Lib.hid hmc
  have Hhf := Lib.hid hf
  have cb0_0 := (HE.out.h.keep HP0.out).cell
  have cb1_0 := (HE.out.k.keep HP0.out).cell
  have cb2_0 := (HE.out.l.keep HP0.out).cell
  have cb3_0 := (HE.out.o.keep HP0.out).cell
  have cb4_0 := (HE.out.u.keep HP0.out).cell
  have c6_0 := H0.out.hand (i := 6) (by omega)
  rw [show (hm) 6 = jp (ad c) from (by first | exact Hh6.out | (simp [upd]; done) | (simp [upd, Hh6.out]; done))] at c6_0
  have c7_0 := H0.out.hand (i := 7) (by omega)
  have f7_0 := H0.out.hfroz (v * 9 + 7)
  obtain ⟨b0c_0, b1c_0, b2c_0, b3c_0⟩ := H0.out.bead Hhc.out
  rw [Hhmc.out] at b2c_0
  have fmc_0 := H0.out.bfroz Hhc.out 2
  clear h he h5 h6 hp hc hpt hn hmk hq hmc hf
  go_enter Try.func60, Try.ntmps60
  go_wp2_with fail
  with_reducible refine (stands_m H0.out (p := p) (c := c) Hhp.out Hhpt.out Hhn.out Hhc.out Hh5.out Hh6.out Hhmk.out (b := true) Hhq.out).mono ?_
  rintro e w1 ⟨rfl, m1, hw1⟩
  have h1 := H0.out.drewN m1
  rw [← hw1] at h1
  have hp1 := (JP.refl base w).drewN m1
  rw [← hw1] at hp1
  clear hw1
  have H1 := Lib.hid h1
  have HP1 : Hid (JP base w w1) := Lib.hid (by first | exact HP0.out.trans hp1 | exact (HP0.out.drewN _).trans hp1)
  have cb0_1 := (HE.out.h.keep HP1.out).cell
  have cb1_1 := (HE.out.k.keep HP1.out).cell
  have cb2_1 := (HE.out.l.keep HP1.out).cell
  have cb3_1 := (HE.out.o.keep HP1.out).cell
  have cb4_1 := (HE.out.u.keep HP1.out).cell
  have c6_1 := H1.out.hand (i := 6) (by omega)
  rw [show (hm) 6 = jp (ad c) from (by first | exact Hh6.out | (simp [upd]; done) | (simp [upd, Hh6.out]; done))] at c6_1
  have c7_1 := H1.out.hand (i := 7) (by omega)
  have f7_1 := H1.out.hfroz (v * 9 + 7)
  obtain ⟨b0c_1, b1c_1, b2c_1, b3c_1⟩ := H1.out.bead Hhc.out
  rw [Hhmc.out] at b2c_1
  have fmc_1 := H1.out.bfroz Hhc.out 2
  clear h1 hp1
  have HQ0_1 : Hid (∀ m, Calls Try.prog 50 #[.pointer (some ⟨B, v * 9, none⟩)] (w1.drewN m) fun e w' => e = .returned (.bool true) ∧ ∃ m', w' = (w1.drewN m).drewN m') := fun m => found_any (H1.out.drewN m) (c := c) Hhc.out Hh6.out (b := true) Hhf.out
  have HR0_1 : Hid (∀ m k, Calls Try.prog 50 #[.pointer (some ⟨B, v * 9, none⟩)] ((w1.drewN m).drewN k) fun e w' => e = .returned (.bool true) ∧ ∃ m', w' = ((w1.drewN m).drewN k).drewN m') := fun m k => found_any ((H1.out.drewN m).drewN k) (c := c) Hhc.out Hh6.out (b := true) Hhf.out
  have HQ1_2 : Hid (∀ m, Calls Try.prog 51 #[.pointer (some ⟨B, v * 9, none⟩)] (w1.drewN m) fun e w' => e = .returned (I 2) ∧ ∃ m', w' = (w1.drewN m).drewN m') := fun m => kind_any (H1.out.drewN m)
  have HR1_2 : Hid (∀ m k, Calls Try.prog 51 #[.pointer (some ⟨B, v * 9, none⟩)] ((w1.drewN m).drewN k) fun e w' => e = .returned (I 2) ∧ ∃ m', w' = ((w1.drewN m).drewN k).drewN m') := fun m k => kind_any ((H1.out.drewN m).drewN k)
  go_wp2_with fail
  go_quiet ((first | (go_at_call 50; with_reducible exact Calls.quiet_of (HQ0_1.out _)) | (go_at_call 50; with_reducible exact Calls.quiet_of (HR0_1.out _ _)) | (go_at_call 51; with_reducible exact Calls.quiet_of (HQ1_2.out _)) | (go_at_call 51; with_reducible exact Calls.quiet_of (HR1_2.out _ _))))
  generalize hw2 : World.drewN w1 nq = w2
  have h2 := H1.out.drewN nq
  rw [hw2] at h2
  have hp2 := (JP.refl base w1).drewN nq
  rw [hw2] at hp2
  clear hw2
  have H2 := Lib.hid h2
  have HP2 : Hid (JP base w w2) := Lib.hid (by first | exact HP1.out.trans hp2 | exact (HP1.out.drewN _).trans hp2)
  have cb0_2 := (HE.out.h.keep HP2.out).cell
  have cb1_2 := (HE.out.k.keep HP2.out).cell
  have cb2_2 := (HE.out.l.keep HP2.out).cell
  have cb3_2 := (HE.out.o.keep HP2.out).cell
  have cb4_2 := (HE.out.u.keep HP2.out).cell
  have c6_2 := H2.out.hand (i := 6) (by omega)
  rw [show (hm) 6 = jp (ad c) from (by first | exact Hh6.out | (simp [upd]; done) | (simp [upd, Hh6.out]; done))] at c6_2
  have c7_2 := H2.out.hand (i := 7) (by omega)
  have f7_2 := H2.out.hfroz (v * 9 + 7)
  obtain ⟨b0c_2, b1c_2, b2c_2, b3c_2⟩ := H2.out.bead Hhc.out
  rw [Hhmc.out] at b2c_2
  have fmc_2 := H2.out.bfroz Hhc.out 2
  clear h2 hp2
  go_wp2_with fail
  with_reducible refine (kind_any H2.out).mono ?_
  rintro e w3 ⟨rfl, m3, hw3⟩
  have h3 := H2.out.drewN m3
  rw [← hw3] at h3
  have hp3 := (JP.refl base w2).drewN m3
  rw [← hw3] at hp3
  clear hw3
  have H3 := Lib.hid h3
  have HP3 : Hid (JP base w w3) := Lib.hid (by first | exact HP2.out.trans hp3 | exact (HP2.out.drewN _).trans hp3)
  have cb0_3 := (HE.out.h.keep HP3.out).cell
  have cb1_3 := (HE.out.k.keep HP3.out).cell
  have cb2_3 := (HE.out.l.keep HP3.out).cell
  have cb3_3 := (HE.out.o.keep HP3.out).cell
  have cb4_3 := (HE.out.u.keep HP3.out).cell
  have c6_3 := H3.out.hand (i := 6) (by omega)
  rw [show (hm) 6 = jp (ad c) from (by first | exact Hh6.out | (simp [upd]; done) | (simp [upd, Hh6.out]; done))] at c6_3
  have c7_3 := H3.out.hand (i := 7) (by omega)
  have f7_3 := H3.out.hfroz (v * 9 + 7)
  obtain ⟨b0c_3, b1c_3, b2c_3, b3c_3⟩ := H3.out.bead Hhc.out
  rw [Hhmc.out] at b2c_3
  have fmc_3 := H3.out.bfroz Hhc.out 2
  clear h3 hp3
  go_wp2
  go_end0
  first | exact ⟨rfl, (H3.out.mark (x := c) Hhc.out).fld (i := 7) (by omega) (by omega) _, (HP3.out.trans (H3.out.js.jp_node (x := c) Hhc.out _ _)).trans ((H3.out.mark (x := c) Hhc.out).js.jp_fld _ _)⟩ | exact ⟨rfl, ((H3.out.drewN _).mark (x := c) Hhc.out).fld (i := 7) (by omega) (by omega) _, ((HP3.out.drewN _).trans ((H3.out.drewN _).js.jp_node (x := c) Hhc.out _ _)).trans (((H3.out.drewN _).mark (x := c) Hhc.out).js.jp_fld _ _)⟩ | exact ⟨rfl, (((H3.out.drewN _).drewN _).mark (x := c) Hhc.out).fld (i := 7) (by omega) (by omega) _, (((HP3.out.drewN _).drewN _).trans (((H3.out.drewN _).drewN _).js.jp_node (x := c) Hhc.out _ _)).trans ((((H3.out.drewN _).drewN _).mark (x := c) Hhc.out).js.jp_fld _ _)⟩

set_option maxRecDepth 100000 in
set_option maxHeartbeats 4000000 in
theorem cL5 {hb wb lb ob ub p c : Nat} (h : ST base B nh v kd K ad s lk hs hm w) (he : EnvL w (.pointer (some ⟨B, v * 9, none⟩)) hb wb lb ob ub) (h5 : hm 5 = jp (ad p)) (h6 : hm 6 = jp (ad c)) (hp : p < s.sz) (hc : c < s.sz) (hpt : p ≠ s.tl) (hct : c ≠ s.tl) : Calls Try.prog 63 #[jp hb] w (RetJ base B nh v kd K ad (s.cut p c) (upd (upd lk p false) c false) hs (upd (upd hm 7 .nilFunc) 8 (.bool true)) w) := by
  have H0 := Lib.hid h
  have HE := Lib.hid he
  have HP0 : Hid (JP base w w) := Lib.hid (JP.refl _ _)
  have Hh5 := Lib.hid h5
  have Hh6 := Lib.hid h6
  have Hhp := Lib.hid hp
  have Hhc := Lib.hid hc
  have Hhpt := Lib.hid hpt
  have Hhct := Lib.hid hct
  have cb0_0 := (HE.out.h.keep HP0.out).cell
  have cb1_0 := (HE.out.k.keep HP0.out).cell
  have cb2_0 := (HE.out.l.keep HP0.out).cell
  have cb3_0 := (HE.out.o.keep HP0.out).cell
  have cb4_0 := (HE.out.u.keep HP0.out).cell
  have c7_0 := H0.out.hand (i := 7) (by omega)
  have f7_0 := H0.out.hfroz (v * 9 + 7)
  clear h he h5 h6 hp hc hpt hct
  go_enter Try.func63, Try.ntmps63
  go_wp2_with fail
  first | with_reducible refine (unlink_any H0.out (p := p) (c := c) Hhp.out Hhpt.out Hhc.out Hhct.out Hh5.out Hh6.out).mono ?_ | with_reducible refine (unlink_any (H0.out.drewN _) (p := p) (c := c) Hhp.out Hhpt.out Hhc.out Hhct.out Hh5.out Hh6.out).mono ?_ | with_reducible refine (unlink_any ((H0.out.drewN _).drewN _) (p := p) (c := c) Hhp.out Hhpt.out Hhc.out Hhct.out Hh5.out Hh6.out).mono ?_
  rintro e w1 ⟨rfl, h1, hp1⟩
  have H1 := Lib.hid h1
  have HP1 : Hid (JP base w w1) := Lib.hid (by first | exact HP0.out.trans hp1 | exact (HP0.out.drewN _).trans hp1)
  have cb0_1 := (HE.out.h.keep HP1.out).cell
  have cb1_1 := (HE.out.k.keep HP1.out).cell
  have cb2_1 := (HE.out.l.keep HP1.out).cell
  have cb3_1 := (HE.out.o.keep HP1.out).cell
  have cb4_1 := (HE.out.u.keep HP1.out).cell
  have c7_1 := H1.out.hand (i := 7) (by omega)
  have f7_1 := H1.out.hfroz (v * 9 + 7)
  clear h1 hp1
  go_wp2_with fail
  first | with_reducible refine (free_any H1.out (p := p) (c := c) (sz_cut Hhp.out) (sz_cut Hhc.out) Hh5.out Hh6.out).mono ?_ | with_reducible refine (free_any (H1.out.drewN _) (p := p) (c := c) (sz_cut Hhp.out) (sz_cut Hhc.out) Hh5.out Hh6.out).mono ?_ | with_reducible refine (free_any ((H1.out.drewN _).drewN _) (p := p) (c := c) (sz_cut Hhp.out) (sz_cut Hhc.out) Hh5.out Hh6.out).mono ?_
  rintro e w2 ⟨rfl, h2, hp2⟩
  have H2 := Lib.hid h2
  have HP2 : Hid (JP base w w2) := Lib.hid (by first | exact HP1.out.trans hp2 | exact (HP1.out.drewN _).trans hp2)
  have cb0_2 := (HE.out.h.keep HP2.out).cell
  have cb1_2 := (HE.out.k.keep HP2.out).cell
  have cb2_2 := (HE.out.l.keep HP2.out).cell
  have cb3_2 := (HE.out.o.keep HP2.out).cell
  have cb4_2 := (HE.out.u.keep HP2.out).cell
  have c7_2 := H2.out.hand (i := 7) (by omega)
  have f7_2 := H2.out.hfroz (v * 9 + 7)
  clear h2 hp2
  go_wp2_with fail
  first | with_reducible refine (end_any H2.out true).mono ?_ | with_reducible refine (end_any (H2.out.drewN _) true).mono ?_ | with_reducible refine (end_any ((H2.out.drewN _).drewN _) true).mono ?_
  rintro e w3 ⟨rfl, h3, hp3⟩
  have H3 := Lib.hid h3
  have HP3 : Hid (JP base w w3) := Lib.hid (by first | exact HP2.out.trans hp3 | exact (HP2.out.drewN _).trans hp3)
  have cb0_3 := (HE.out.h.keep HP3.out).cell
  have cb1_3 := (HE.out.k.keep HP3.out).cell
  have cb2_3 := (HE.out.l.keep HP3.out).cell
  have cb3_3 := (HE.out.o.keep HP3.out).cell
  have cb4_3 := (HE.out.u.keep HP3.out).cell
  have c7_3 := H3.out.hand (i := 7) (by omega)
  have f7_3 := H3.out.hfroz (v * 9 + 7)
  clear h3 hp3
  go_wp2
  go_end0
  first | exact ⟨rfl, H3.out, HP3.out⟩ | exact ⟨rfl, (H3.out.drewN _), (HP3.out.drewN _)⟩ | exact ⟨rfl, ((H3.out.drewN _).drewN _), ((HP3.out.drewN _).drewN _)⟩
end

end Go.Proofs.Ytfmdpmebllepeaa

/-
  package hands: looked at twice: one step.
-/
namespace Go.Proofs.Ytfmdpmebllepeaa
open Go.RowKit

section
variable {base B nh v : Nat} {kd K : Int} {ad : Nat → Nat} {s : Bs} {lk : Nat → Bool} {hs : Nat → Nat → Value} {hm : Nat → Value} {w : World} {q : Hd}
theorem next_lazy {g : Prop} (h : ST base B nh v kd K ad s lk hs hm w) (hn : NXL w (.pointer (some ⟨B, v * 9, none⟩)) q.at_ (hm 7)) (h3 : hm 3 = fWay 2) (h4 : hm 4 = jp (ad 0)) (hpc : q.at_ ≠ 0 → hm 5 = jp (ad q.p) ∧ hm 6 = jp (ad q.c)) (hc : Cor s) (hk : LI s q kd K g) (hd : Dee kd K) (hlk : lk s.sz = false) :
    ∃ k caps, hm 7 = .func (.func k) #[] caps ∧ Calls Try.prog k caps w (RetC base B nh v kd K ad s.sz hs hm 2 (lazyS s lk q kd K) w) := by
  obtain ⟨hb, wb, lb, ob, ub, he, hf⟩ := hn
  have hle := hk.le
  rcases (show q.at_ = 0 ∨ (q.at_ = 1 ∨ q.at_ = 2) ∨ q.at_ = 3 ∨ q.at_ = 4 ∨ q.at_ = 5 by omega) with h0 | h0 | h0 | h0 | h0
  · have hf' : hm 7 = fL1 hb wb := by rw [hf, if_pos h0]
    refine ⟨_, _, hf', ?_⟩
    refine (cL1 h he h4 hc.pos hc.hd.symm).mono fun e w' hr => ?_
    have e1 : lazyS s lk q kd K = ⟨s, lk, ⟨1, 0, s.nx 0, q.is_⟩, .none, false⟩ := by unfold lazyS; rw [if_pos h0]
    rw [e1]
    exact retC_567 hr (NX.of2 ⟨hb, wb, lb, ob, ub, he.keep hr.2.2, rfl⟩) rfl rfl
  · obtain ⟨h5, h6⟩ := hpc (by omega)
    obtain ⟨p1, p2, p3⟩ := hk.pc (by omega)
    have hf' : hm 7 = fL2 hb lb := by rw [hf, if_neg (by omega), if_pos (by omega)]
    refine ⟨_, _, hf', ?_⟩
    by_cases c1 : s.key q.c < K
    · have h01 : q.at_ = 1 := by
        rcases h0 with h0 | h0
        · exact h0
        · have := (hk.two (by omega)).1; omega
      refine (cL2_lt h he h6 p2 (key_tl hc hd.1 (.inl c1)) c1).mono fun e w' hr => ?_
      have e1 : lazyS s lk q kd K = ⟨s, lk, ⟨1, q.c, s.nx q.c, q.is_⟩, .none, false⟩ := by unfold lazyS; rw [if_neg (by omega), if_pos h01, if_pos c1]
      rw [e1]
      exact retC_56 hr (NX.of2 ⟨hb, wb, lb, ob, ub, he.keep hr.2.2, hf'⟩) rfl rfl
    · by_cases c2 : kd = 3
      · have h01 : q.at_ = 1 := by
          rcases h0 with h0 | h0
          · exact h0
          · exact absurd c2 (hk.two (by omega)).2
        subst c2
        refine (cL2_has h he h6 p2 c1).mono fun e w' hr => ?_
        have e1 : lazyS s lk q 3 K = ⟨s, lk, ⟨1, q.p, q.c, decide (s.key q.c = K) && !s.mrk q.c⟩, .none, true⟩ := by unfold lazyS; rw [if_neg (by omega), if_pos h01, if_neg c1, if_pos rfl]
        rw [e1]
        exact retC_over hr rfl fun _ _ => rfl
      · cases hl : lk q.p with
        | false =>
          refine (cL2_take_t h he h5 h6 p1 p2 c1 c2 hl).mono fun e w' hr => ?_
          have e1 : lazyS s lk q kd K = ⟨s, upd lk q.p true, ⟨3, q.p, q.c, q.is_⟩, .none, false⟩ := by
            unfold lazyS
            rw [if_neg (by omega)]
            rcases h0 with h0 | h0
            · rw [if_pos h0, if_neg c1, if_neg c2, if_pos hl]
            · rw [if_neg (by omega), if_pos h0, if_pos hl]
          rw [e1]
          exact retC_7 hr (NX.of2 ⟨hb, wb, lb, ob, ub, he.keep hr.2.2, rfl⟩) (fun _ => ⟨h5, h6⟩)
        | true =>
          refine (cL2_take_f h he h5 h6 p1 p2 c1 c2 hl).mono fun e w' hr => ?_
          have hne : ¬ lk q.p = false := by rw [hl]; decide
          rcases h0 with h0 | h0
          · have e1 : lazyS s lk q kd K = ⟨s, lk, ⟨2, q.p, q.c, q.is_⟩, .none, false⟩ := by unfold lazyS; rw [if_neg (by omega), if_pos h0, if_neg c1, if_neg c2, if_neg hne]
            rw [e1]
            exact retC_same hr (NX.of2 ⟨hb, wb, lb, ob, ub, he.keep hr.2.2, hf'⟩) (fun _ => ⟨h5, h6⟩)
          · have e1 : lazyS s lk q kd K = ⟨s, lk, q, .none, false⟩ := by unfold lazyS; rw [if_neg (by omega), if_neg (by omega), if_pos h0, if_neg hne]
            rw [e1]
            exact retC_same hr (NX.of2 ⟨hb, wb, lb, ob, ub, he.keep hr.2.2, hf⟩) hpc
  · obtain ⟨h5, h6⟩ := hpc (by omega)
    obtain ⟨p1, p2, p3⟩ := hk.pc (by omega)
    have hf' : hm 7 = fL3 hb ob := by rw [hf, if_neg (by omega), if_neg (by omega), if_pos h0]
    refine ⟨_, _, hf', ?_⟩
    cases hl : lk q.c with
    | false =>
      refine (cL3_t h he h6 p2 hl).mono fun e w' hr => ?_
      have e1 : lazyS s lk q kd K = ⟨s, upd lk q.c true, ⟨4, q.p, q.c, q.is_⟩, .none, false⟩ := by unfold lazyS; rw [if_neg (by omega), if_neg (by omega), if_neg (by omega), if_pos h0, if_pos hl]
      rw [e1]
      exact retC_7 hr (NX.of2 ⟨hb, wb, lb, ob, ub, he.keep hr.2.2, rfl⟩) (fun _ => ⟨h5, h6⟩)
    | true =>
      refine (cL3_f h he h6 p2 hl).mono fun e w' hr => ?_
      have e1 : lazyS s lk q kd K = ⟨s, lk, q, .none, false⟩ := by unfold lazyS; rw [if_neg (by omega), if_neg (by omega), if_neg (by omega), if_pos h0, if_neg (by rw [hl]; decide)]
      rw [e1]
      exact retC_same hr (NX.of2 ⟨hb, wb, lb, ob, ub, he.keep hr.2.2, hf⟩) hpc
  · obtain ⟨h5, h6⟩ := hpc (by omega)
    obtain ⟨p1, p2, p3⟩ := hk.pc (by omega)
    obtain ⟨k1, k2⟩ := hk.two (by omega)
    have hpt : q.p ≠ s.tl := key_tl hc hd.1 (.inl p3)
    have hnp := hc.nlt _ p1 hpt
    have hf' : hm 7 = fL4 hb ub := by rw [hf, if_neg (by omega), if_neg (by omega), if_neg (by omega), if_pos h0]
    refine ⟨_, _, hf', ?_⟩
    have e0 : lazyS s lk q kd K = if s.mrk q.p = true ∨ s.mrk q.c = true ∨ s.nx q.p ≠ q.c then ⟨s, fre lk q, ⟨0, q.p, q.c, q.is_⟩, .none, false⟩
     else if kd = 2 then
       (if s.key q.c = K then ⟨s.mark q.c, lk, ⟨5, q.p, q.c, true⟩, .del K, false⟩ else ⟨s, fre lk q, ⟨4, q.p, q.c, false⟩, .none, true⟩)
     else (if s.key q.c = K then ⟨s, fre lk q, ⟨4, q.p, q.c, false⟩, .none, true⟩ else ⟨s.ins q.p K, fre lk q, ⟨4, q.p, q.c, true⟩, .add K, true⟩) := by
      unfold lazyS; rw [if_neg (by omega), if_neg (by omega), if_neg (by omega), if_neg (by omega), if_pos h0]
    cases c1 : s.mrk q.p with
    | true =>
      refine (cL4_bad1 h he h5 h6 p1 p2 h3 c1).mono fun e w' hr => ?_
      rw [e0, if_pos (.inl c1)]
      exact retC_begin hr rfl
    | false =>
      by_cases c2 : s.nx q.p = q.c
      · cases c3 : s.mrk q.c with
        | true =>
          refine (cL4_bad3 h he h5 h6 p1 p2 h3 hpt hnp c1 (decide_eq_true c2) c3).mono fun e w' hr => ?_
          rw [e0, if_pos (.inr (.inl c3))]
          exact retC_begin hr rfl
        | false =>
          rw [e0, if_neg (by rw [c1, c3]; simp [c2])]
          by_cases c4 : s.key q.c = K
          · rcases hd.2 with rfl | rfl | rfl
            · refine (cL4_no1 h he h5 h6 p1 p2 hpt hnp c1 (decide_eq_true c2) c3 (decide_eq_true c4)).mono fun e w' hr => ?_
              rw [if_neg (by decide), if_pos c4]
              exact retC_over hr rfl fun _ _ => rfl
            · refine (cL4_cut h he h5 h6 p1 p2 hpt hnp c1 (decide_eq_true c2) c3 (decide_eq_true c4)).mono fun e w' hr => ?_
              rw [if_pos rfl, if_pos c4]
              exact retC_7 hr (NX.of2 ⟨hb, wb, lb, ob, ub, he.keep hr.2.2, rfl⟩) (fun _ => ⟨h5, h6⟩)
            · exact absurd rfl k2
          · rcases hd.2 with rfl | rfl | rfl
            · refine (cL4_add h he h5 h6 p1 p2 hpt hnp c1 (decide_eq_true c2) c3 (decide_eq_false c4) hc.tlt hc.nlt hlk).mono fun e w' hr => ?_
              obtain ⟨g, hr⟩ := hr
              rw [if_neg (by decide), if_neg c4, ← insc_ins c2]
              exact retC_over hr rfl upd_ad
            · refine (cL4_no2 h he h5 h6 p1 p2 hpt hnp c1 (decide_eq_true c2) c3 (decide_eq_false c4)).mono fun e w' hr => ?_
              rw [if_pos rfl, if_neg c4]
              exact retC_over hr rfl fun _ _ => rfl
            · exact absurd rfl k2
      · refine (cL4_bad2 h he h5 h6 p1 p2 h3 hpt hnp c1 (decide_eq_false c2)).mono fun e w' hr => ?_
        rw [e0, if_pos (.inr (.inr c2))]
        exact retC_begin hr rfl
  · obtain ⟨h5, h6⟩ := hpc (by omega)
    obtain ⟨p1, p2, p3⟩ := hk.pc (by omega)
    obtain ⟨k1, k2, k3, k4, k5, k6⟩ := hk.five h0
    have hpt : q.p ≠ s.tl := key_tl hc hd.1 (.inl p3)
    have hf' : hm 7 = fL5 hb := by rw [hf, if_neg (by omega), if_neg (by omega), if_neg (by omega), if_neg (by omega)]
    refine ⟨_, _, hf', ?_⟩
    refine (cL5 h he h5 h6 p1 p2 hpt (key_tl hc hd.1 (.inr k2))).mono fun e w' hr => ?_
    rw [lazyS_pend h0]
    exact retC_over hr k6 fun _ _ => rfl
end

end Go.Proofs.Ytfmdpmebllepeaa
