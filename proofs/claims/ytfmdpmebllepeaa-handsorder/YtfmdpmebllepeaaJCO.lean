/-
  package hands: hand over hand, function by function. Written by tools/gen_jclos.py.
-/
import Derived.Test.YtfmdpmebllepeaaJBegin
import Derived.Deep.QuietTactic
namespace Go.Proofs.Ytfmdpmebllepeaa
open Go.RowKit

section
variable {base B nh v : Nat} {kd K : Int} {ad : Nat → Nat} {s : Bs} {lk : Nat → Bool} {hs : Nat → Nat → Value} {hm : Nat → Value} {w : World}
set_option maxRecDepth 100000 in
set_option maxHeartbeats 4000000 in
theorem cO1_t {hb lb ob : Nat} (h : ST base B nh v kd K ad s lk hs hm w) (he : EnvO w (.pointer (some ⟨B, v * 9, none⟩)) hb lb ob) (h4 : hm 4 = jp (ad 0)) (hz : 0 < s.sz) (ht : 0 ≠ s.tl) (hl : lk 0 = false) : Calls Try.prog 43 #[jp hb, jp lb] w (RetJ base B nh v kd K ad s (upd lk 0 true) hs (upd (upd (upd hm 5 (jp (ad 0))) 6 (jp (ad (s.nx 0)))) 7 (fO2 hb ob)) w) := by
  have H0 := Lib.hid h
  have HE := Lib.hid he
  have HP0 : Hid (JP base w w) := Lib.hid (JP.refl _ _)
  have Hh4 := Lib.hid h4
  have Hhz := Lib.hid hz
  have Hht := Lib.hid ht
  have Hhl := Lib.hid hl
  have cb0_0 := (HE.out.h.keep HP0.out).cell
  have cb1_0 := (HE.out.l.keep HP0.out).cell
  have cb2_0 := (HE.out.o.keep HP0.out).cell
  have c4_0 := H0.out.hand (i := 4) (by omega)
  rw [show (hm) 4 = jp (ad 0) from (by first | exact Hh4.out | (simp [upd]; done) | (simp [upd, Hh4.out]; done))] at c4_0
  have c7_0 := H0.out.hand (i := 7) (by omega)
  have f7_0 := H0.out.hfroz (v * 9 + 7)
  clear h he h4 hz ht hl
  go_enter Try.func43, Try.ntmps43
  go_wp2_with fail
  first | with_reducible refine (take_t H0.out (x := 0) Hhz.out Hhl.out).mono ?_ | with_reducible refine (take_t (H0.out.drewN _) (x := 0) Hhz.out Hhl.out).mono ?_ | with_reducible refine (take_t ((H0.out.drewN _).drewN _) (x := 0) Hhz.out Hhl.out).mono ?_
  rintro e w1 ⟨rfl, h1, hp1⟩
  have H1 := Lib.hid h1
  have HP1 : Hid (JP base w w1) := Lib.hid (by first | exact HP0.out.trans hp1 | exact (HP0.out.drewN _).trans hp1)
  have cb0_1 := (HE.out.h.keep HP1.out).cell
  have cb1_1 := (HE.out.l.keep HP1.out).cell
  have cb2_1 := (HE.out.o.keep HP1.out).cell
  have c4_1 := H1.out.hand (i := 4) (by omega)
  rw [show (hm) 4 = jp (ad 0) from (by first | exact Hh4.out | (simp [upd]; done) | (simp [upd, Hh4.out]; done))] at c4_1
  have c7_1 := H1.out.hand (i := 7) (by omega)
  have f7_1 := H1.out.hfroz (v * 9 + 7)
  clear h1 hp1
  go_wp2_with fail
  go_region_with (first
    | (go_at_call 45
       first | with_reducible refine (to_any H1.out (x := 0) Hhz.out Hht.out).mono ?_ | with_reducible refine (to_any (H1.out.drewN _) (x := 0) Hhz.out Hht.out).mono ?_ | with_reducible refine (to_any ((H1.out.drewN _).drewN _) (x := 0) Hhz.out Hht.out).mono ?_ | refine (to_any (H1.out.drewN 1) (x := 0) Hhz.out Hht.out).mono ?_
       rintro e w2 ⟨rfl, h2, hp2⟩
       have H2 := Lib.hid h2
       have HP2 : Hid (JP base w w2) := Lib.hid (by first | exact HP1.out.trans hp2 | exact HP1.out.drew.trans hp2 | exact (HP1.out.drewN _).trans hp2 | exact ((HP1.out.drewN _).drewN _).trans hp2)
       have cb0_2 := (HE.out.h.keep HP2.out).cell
       have cb1_2 := (HE.out.l.keep HP2.out).cell
       have cb2_2 := (HE.out.o.keep HP2.out).cell
       have c5_2 := H2.out.hand (i := 5) (by omega)
       rw [show (upd (upd hm 5 (jp (ad 0))) 6 (jp (ad (s.nx 0)))) 5 = jp (ad 0) from (by first | exact rfl | (simp [upd]; done) | (simp [upd, rfl]; done))] at c5_2
       have c6_2 := H2.out.hand (i := 6) (by omega)
       rw [show (upd (upd hm 5 (jp (ad 0))) 6 (jp (ad (s.nx 0)))) 6 = jp (ad (s.nx 0)) from (by first | exact rfl | (simp [upd]; done) | (simp [upd, rfl]; done))] at c6_2
       have c7_2 := H2.out.hand (i := 7) (by omega)
       have f7_2 := H2.out.hfroz (v * 9 + 7)
       clear h2 hp2))
  all_goals
   (skip
    go_wp2
    go_end0
    first | exact ⟨rfl, H2.out.fld (i := 7) (by omega) (by omega) _, HP2.out.trans (H2.out.js.jp_fld _ _)⟩ | exact ⟨rfl, (H2.out.drewN _).fld (i := 7) (by omega) (by omega) _, (HP2.out.drewN _).trans ((H2.out.drewN _).js.jp_fld _ _)⟩ | exact ⟨rfl, ((H2.out.drewN _).drewN _).fld (i := 7) (by omega) (by omega) _, ((HP2.out.drewN _).drewN _).trans (((H2.out.drewN _).drewN _).js.jp_fld _ _)⟩)

set_option maxRecDepth 100000 in
set_option maxHeartbeats 4000000 in
theorem cO1_f {hb lb ob : Nat} (h : ST base B nh v kd K ad s lk hs hm w) (he : EnvO w (.pointer (some ⟨B, v * 9, none⟩)) hb lb ob) (h4 : hm 4 = jp (ad 0)) (hz : 0 < s.sz) (ht : 0 ≠ s.tl) (hl : lk 0 = true) : Calls Try.prog 43 #[jp hb, jp lb] w (RetJ base B nh v kd K ad s lk hs hm w) := by
  have H0 := Lib.hid h
  have HE := Lib.hid he
  have HP0 : Hid (JP base w w) := Lib.hid (JP.refl _ _)
  have Hh4 := Lib.hid h4
  have Hhz := Lib.hid hz
  have Hht := Lib.hid ht
  have Hhl := Lib.hid hl
  have cb0_0 := (HE.out.h.keep HP0.out).cell
  have cb1_0 := (HE.out.l.keep HP0.out).cell
  have cb2_0 := (HE.out.o.keep HP0.out).cell
  have c4_0 := H0.out.hand (i := 4) (by omega)
  rw [show (hm) 4 = jp (ad 0) from (by first | exact Hh4.out | (simp [upd]; done) | (simp [upd, Hh4.out]; done))] at c4_0
  have c7_0 := H0.out.hand (i := 7) (by omega)
  have f7_0 := H0.out.hfroz (v * 9 + 7)
  clear h he h4 hz ht hl
  go_enter Try.func43, Try.ntmps43
  go_wp2_with fail
  refine (take_f H0.out (x := 0) Hhz.out Hhl.out).mono ?_
  rintro e w1 ⟨rfl, rfl⟩
  go_wp2
  go_end0
  first | exact ⟨rfl, H0.out, HP0.out⟩ | exact ⟨rfl, (H0.out.drewN _), (HP0.out.drewN _)⟩ | exact ⟨rfl, ((H0.out.drewN _).drewN _), ((HP0.out.drewN _).drewN _)⟩

set_option maxRecDepth 100000 in
set_option maxHeartbeats 4000000 in
theorem cO2_t {hb lb ob c : Nat} (h : ST base B nh v kd K ad s lk hs hm w) (he : EnvO w (.pointer (some ⟨B, v * 9, none⟩)) hb lb ob) (h6 : hm 6 = jp (ad c)) (hc : c < s.sz) (hl : lk c = false) : Calls Try.prog 46 #[jp hb, jp ob] w (RetJ base B nh v kd K ad s (upd lk c true) hs (upd hm 7 (fO3 hb lb)) w) := by
  have H0 := Lib.hid h
  have HE := Lib.hid he
  have HP0 : Hid (JP base w w) := Lib.hid (JP.refl _ _)
  have Hh6 := Lib.hid h6
  have Hhc := Lib.hid hc
  have Hhl := Lib.hid hl
  have cb0_0 := (HE.out.h.keep HP0.out).cell
  have cb1_0 := (HE.out.l.keep HP0.out).cell
  have cb2_0 := (HE.out.o.keep HP0.out).cell
  have c6_0 := H0.out.hand (i := 6) (by omega)
  rw [show (hm) 6 = jp (ad c) from (by first | exact Hh6.out | (simp [upd]; done) | (simp [upd, Hh6.out]; done))] at c6_0
  have c7_0 := H0.out.hand (i := 7) (by omega)
  have f7_0 := H0.out.hfroz (v * 9 + 7)
  clear h he h6 hc hl
  go_enter Try.func46, Try.ntmps46
  go_wp2_with fail
  first | with_reducible refine (take_t H0.out (x := c) Hhc.out Hhl.out).mono ?_ | with_reducible refine (take_t (H0.out.drewN _) (x := c) Hhc.out Hhl.out).mono ?_ | with_reducible refine (take_t ((H0.out.drewN _).drewN _) (x := c) Hhc.out Hhl.out).mono ?_
  rintro e w1 ⟨rfl, h1, hp1⟩
  have H1 := Lib.hid h1
  have HP1 : Hid (JP base w w1) := Lib.hid (by first | exact HP0.out.trans hp1 | exact (HP0.out.drewN _).trans hp1)
  have cb0_1 := (HE.out.h.keep HP1.out).cell
  have cb1_1 := (HE.out.l.keep HP1.out).cell
  have cb2_1 := (HE.out.o.keep HP1.out).cell
  have c6_1 := H1.out.hand (i := 6) (by omega)
  rw [show (hm) 6 = jp (ad c) from (by first | exact Hh6.out | (simp [upd]; done) | (simp [upd, Hh6.out]; done))] at c6_1
  have c7_1 := H1.out.hand (i := 7) (by omega)
  have f7_1 := H1.out.hfroz (v * 9 + 7)
  clear h1 hp1
  go_wp2
  go_end0
  first | exact ⟨rfl, H1.out.fld (i := 7) (by omega) (by omega) _, HP1.out.trans (H1.out.js.jp_fld _ _)⟩ | exact ⟨rfl, (H1.out.drewN _).fld (i := 7) (by omega) (by omega) _, (HP1.out.drewN _).trans ((H1.out.drewN _).js.jp_fld _ _)⟩ | exact ⟨rfl, ((H1.out.drewN _).drewN _).fld (i := 7) (by omega) (by omega) _, ((HP1.out.drewN _).drewN _).trans (((H1.out.drewN _).drewN _).js.jp_fld _ _)⟩

set_option maxRecDepth 100000 in
set_option maxHeartbeats 4000000 in
theorem cO2_f {hb lb ob c : Nat} (h : ST base B nh v kd K ad s lk hs hm w) (he : EnvO w (.pointer (some ⟨B, v * 9, none⟩)) hb lb ob) (h6 : hm 6 = jp (ad c)) (hc : c < s.sz) (hl : lk c = true) : Calls Try.prog 46 #[jp hb, jp ob] w (RetJ base B nh v kd K ad s lk hs hm w) := by
  have H0 := Lib.hid h
  have HE := Lib.hid he
  have HP0 : Hid (JP base w w) := Lib.hid (JP.refl _ _)
  have Hh6 := Lib.hid h6
  have Hhc := Lib.hid hc
  have Hhl := Lib.hid hl
  have cb0_0 := (HE.out.h.keep HP0.out).cell
  have cb1_0 := (HE.out.l.keep HP0.out).cell
  have cb2_0 := (HE.out.o.keep HP0.out).cell
  have c6_0 := H0.out.hand (i := 6) (by omega)
  rw [show (hm) 6 = jp (ad c) from (by first | exact Hh6.out | (simp [upd]; done) | (simp [upd, Hh6.out]; done))] at c6_0
  have c7_0 := H0.out.hand (i := 7) (by omega)
  have f7_0 := H0.out.hfroz (v * 9 + 7)
  clear h he h6 hc hl
  go_enter Try.func46, Try.ntmps46
  go_wp2_with fail
  refine (take_f H0.out (x := c) Hhc.out Hhl.out).mono ?_
  rintro e w1 ⟨rfl, rfl⟩
  go_wp2
  go_end0
  first | exact ⟨rfl, H0.out, HP0.out⟩ | exact ⟨rfl, (H0.out.drewN _), (HP0.out.drewN _)⟩ | exact ⟨rfl, ((H0.out.drewN _).drewN _), ((HP0.out.drewN _).drewN _)⟩

set_option maxRecDepth 100000 in
set_option maxHeartbeats 4000000 in
theorem cO3_lt {hb lb ob p c : Nat} (h : ST base B nh v kd K ad s lk hs hm w) (he : EnvO w (.pointer (some ⟨B, v * 9, none⟩)) hb lb ob) (h5 : hm 5 = jp (ad p)) (h6 : hm 6 = jp (ad c)) (hp : p < s.sz) (hc : c < s.sz) (hct : c ≠ s.tl) (hlt : s.key c < K) : Calls Try.prog 47 #[jp hb, jp lb] w (RetJ base B nh v kd K ad s (upd lk p false) hs (upd (upd (upd hm 5 (jp (ad c))) 6 (jp (ad (s.nx c)))) 7 (fO2 hb ob)) w) := by
  have H0 := Lib.hid h
  have HE := Lib.hid he
  have HP0 : Hid (JP base w w) := Lib.hid (JP.refl _ _)
  have Hh5 := Lib.hid h5
  have Hh6 := Lib.hid h6
  have Hhp := Lib.hid hp
  have Hhc := Lib.hid hc
  have Hhct := Lib.hid hct
  have Hhlt := Lib.hid hlt
  have cb0_0 := (HE.out.h.keep HP0.out).cell
  have cb1_0 := (HE.out.l.keep HP0.out).cell
  have cb2_0 := (HE.out.o.keep HP0.out).cell
  have c5_0 := H0.out.hand (i := 5) (by omega)
  rw [show (hm) 5 = jp (ad p) from (by first | exact Hh5.out | (simp [upd]; done) | (simp [upd, Hh5.out]; done))] at c5_0
  have c6_0 := H0.out.hand (i := 6) (by omega)
  rw [show (hm) 6 = jp (ad c) from (by first | exact Hh6.out | (simp [upd]; done) | (simp [upd, Hh6.out]; done))] at c6_0
  have c7_0 := H0.out.hand (i := 7) (by omega)
  have f7_0 := H0.out.hfroz (v * 9 + 7)
  obtain ⟨b0c_0, b1c_0, b2c_0, b3c_0⟩ := H0.out.bead Hhc.out
  have fmc_0 := H0.out.bfroz Hhc.out 2
  clear h he h5 h6 hp hc hct
  go_enter Try.func47, Try.ntmps47
  have HQ0_1 : Hid (∀ m, Calls Try.prog 48 #[.pointer (some ⟨B, v * 9, none⟩)] (w.drewN m) fun e w' => e = .returned (I K) ∧ ∃ m', w' = (w.drewN m).drewN m') := fun m => key_any (H0.out.drewN m)
  have HR0_1 : Hid (∀ m k, Calls Try.prog 48 #[.pointer (some ⟨B, v * 9, none⟩)] ((w.drewN m).drewN k) fun e w' => e = .returned (I K) ∧ ∃ m', w' = ((w.drewN m).drewN k).drewN m') := fun m k => key_any ((H0.out.drewN m).drewN k)
  go_wp2_with fail
  go_quiet ((first | (go_at_call 48; with_reducible exact Calls.quiet_of (HQ0_1.out _)) | (go_at_call 48; with_reducible exact Calls.quiet_of (HR0_1.out _ _))))
  generalize hw1 : World.drewN w nq = w1
  have h1 := H0.out.drewN nq
  rw [hw1] at h1
  have hp1 := (JP.refl base w).drewN nq
  rw [hw1] at hp1
  clear hw1
  have H1 := Lib.hid h1
  have HP1 : Hid (JP base w w1) := Lib.hid (by first | exact HP0.out.trans hp1 | exact (HP0.out.drewN _).trans hp1)
  have cb0_1 := (HE.out.h.keep HP1.out).cell
  have cb1_1 := (HE.out.l.keep HP1.out).cell
  have cb2_1 := (HE.out.o.keep HP1.out).cell
  have c5_1 := H1.out.hand (i := 5) (by omega)
  rw [show (hm) 5 = jp (ad p) from (by first | exact Hh5.out | (simp [upd]; done) | (simp [upd, Hh5.out]; done))] at c5_1
  have c6_1 := H1.out.hand (i := 6) (by omega)
  rw [show (hm) 6 = jp (ad c) from (by first | exact Hh6.out | (simp [upd]; done) | (simp [upd, Hh6.out]; done))] at c6_1
  have c7_1 := H1.out.hand (i := 7) (by omega)
  have f7_1 := H1.out.hfroz (v * 9 + 7)
  obtain ⟨b0c_1, b1c_1, b2c_1, b3c_1⟩ := H1.out.bead Hhc.out
  have fmc_1 := H1.out.bfroz Hhc.out 2
  clear h1 hp1
  go_wp2_with fail
  first | with_reducible refine (nfree_any H1.out (x := p) Hhp.out).mono ?_ | with_reducible refine (nfree_any (H1.out.drewN _) (x := p) Hhp.out).mono ?_ | with_reducible refine (nfree_any ((H1.out.drewN _).drewN _) (x := p) Hhp.out).mono ?_
  rintro e w2 ⟨rfl, h2, hp2⟩
  have H2 := Lib.hid h2
  have HP2 : Hid (JP base w w2) := Lib.hid (by first | exact HP1.out.trans hp2 | exact (HP1.out.drewN _).trans hp2)
  have cb0_2 := (HE.out.h.keep HP2.out).cell
  have cb1_2 := (HE.out.l.keep HP2.out).cell
  have cb2_2 := (HE.out.o.keep HP2.out).cell
  have c5_2 := H2.out.hand (i := 5) (by omega)
  rw [show (hm) 5 = jp (ad p) from (by first | exact Hh5.out | (simp [upd]; done) | (simp [upd, Hh5.out]; done))] at c5_2
  have c6_2 := H2.out.hand (i := 6) (by omega)
  rw [show (hm) 6 = jp (ad c) from (by first | exact Hh6.out | (simp [upd]; done) | (simp [upd, Hh6.out]; done))] at c6_2
  have c7_2 := H2.out.hand (i := 7) (by omega)
  have f7_2 := H2.out.hfroz (v * 9 + 7)
  clear h2 hp2
  go_wp2_with fail
  go_region_with (first
    | (go_at_call 45
       first | with_reducible refine (to_any H2.out (x := c) Hhc.out Hhct.out).mono ?_ | with_reducible refine (to_any (H2.out.drewN _) (x := c) Hhc.out Hhct.out).mono ?_ | with_reducible refine (to_any ((H2.out.drewN _).drewN _) (x := c) Hhc.out Hhct.out).mono ?_ | refine (to_any (H2.out.drewN 1) (x := c) Hhc.out Hhct.out).mono ?_
       rintro e w3 ⟨rfl, h3, hp3⟩
       have H3 := Lib.hid h3
       have HP3 : Hid (JP base w w3) := Lib.hid (by first | exact HP2.out.trans hp3 | exact HP2.out.drew.trans hp3 | exact (HP2.out.drewN _).trans hp3 | exact ((HP2.out.drewN _).drewN _).trans hp3)
       have cb0_3 := (HE.out.h.keep HP3.out).cell
       have cb1_3 := (HE.out.l.keep HP3.out).cell
       have cb2_3 := (HE.out.o.keep HP3.out).cell
       have c5_3 := H3.out.hand (i := 5) (by omega)
       rw [show (upd (upd hm 5 (jp (ad c))) 6 (jp (ad (s.nx c)))) 5 = jp (ad c) from (by first | exact rfl | (simp [upd]; done) | (simp [upd, rfl]; done))] at c5_3
       have c6_3 := H3.out.hand (i := 6) (by omega)
       rw [show (upd (upd hm 5 (jp (ad c))) 6 (jp (ad (s.nx c)))) 6 = jp (ad (s.nx c)) from (by first | exact rfl | (simp [upd]; done) | (simp [upd, rfl]; done))] at c6_3
       have c7_3 := H3.out.hand (i := 7) (by omega)
       have f7_3 := H3.out.hfroz (v * 9 + 7)
       clear h3 hp3))
  all_goals
   (skip
    go_wp2
    go_end0
    first | exact ⟨rfl, H3.out.fld (i := 7) (by omega) (by omega) _, HP3.out.trans (H3.out.js.jp_fld _ _)⟩ | exact ⟨rfl, (H3.out.drewN _).fld (i := 7) (by omega) (by omega) _, (HP3.out.drewN _).trans ((H3.out.drewN _).js.jp_fld _ _)⟩ | exact ⟨rfl, ((H3.out.drewN _).drewN _).fld (i := 7) (by omega) (by omega) _, ((HP3.out.drewN _).drewN _).trans (((H3.out.drewN _).drewN _).js.jp_fld _ _)⟩)

set_option maxRecDepth 100000 in
set_option maxHeartbeats 4000000 in
theorem cO3_has_t {hb lb ob p c : Nat} (h : ST base B nh v 3 K ad s lk hs hm w) (he : EnvO w (.pointer (some ⟨B, v * 9, none⟩)) hb lb ob) (h5 : hm 5 = jp (ad p)) (h6 : hm 6 = jp (ad c)) (hp : p < s.sz) (hc : c < s.sz) (hge : ¬ s.key c < K) (hf : decide (s.key c = K) = true) : Calls Try.prog 47 #[jp hb, jp lb] w (RetJ base B nh v 3 K ad s (upd (upd lk p false) c false) hs (upd (upd hm 7 .nilFunc) 8 (.bool true)) w) := by
  have H0 := Lib.hid h
  have HE := Lib.hid he
  have HP0 : Hid (JP base w w) := Lib.hid (JP.refl _ _)
  have Hh5 := Lib.hid h5
  have Hh6 := Lib.hid h6
  have Hhp := Lib.hid hp
  have Hhc := Lib.hid hc
  have Hhge := Lib.hid hge
  have Hhf := Lib.hid hf
  have cb0_0 := (HE.out.h.keep HP0.out).cell
  have cb1_0 := (HE.out.l.keep HP0.out).cell
  have cb2_0 := (HE.out.o.keep HP0.out).cell
  have c5_0 := H0.out.hand (i := 5) (by omega)
  rw [show (hm) 5 = jp (ad p) from (by first | exact Hh5.out | (simp [upd]; done) | (simp [upd, Hh5.out]; done))] at c5_0
  have c6_0 := H0.out.hand (i := 6) (by omega)
  rw [show (hm) 6 = jp (ad c) from (by first | exact Hh6.out | (simp [upd]; done) | (simp [upd, Hh6.out]; done))] at c6_0
  have c7_0 := H0.out.hand (i := 7) (by omega)
  have f7_0 := H0.out.hfroz (v * 9 + 7)
  obtain ⟨b0c_0, b1c_0, b2c_0, b3c_0⟩ := H0.out.bead Hhc.out
  have fmc_0 := H0.out.bfroz Hhc.out 2
  clear h he h5 h6 hp hc hf
  go_enter Try.func47, Try.ntmps47
  have HQ0_1 : Hid (∀ m, Calls Try.prog 48 #[.pointer (some ⟨B, v * 9, none⟩)] (w.drewN m) fun e w' => e = .returned (I K) ∧ ∃ m', w' = (w.drewN m).drewN m') := fun m => key_any (H0.out.drewN m)
  have HR0_1 : Hid (∀ m k, Calls Try.prog 48 #[.pointer (some ⟨B, v * 9, none⟩)] ((w.drewN m).drewN k) fun e w' => e = .returned (I K) ∧ ∃ m', w' = ((w.drewN m).drewN k).drewN m') := fun m k => key_any ((H0.out.drewN m).drewN k)
  go_wp2_with fail
  go_quiet ((first | (go_at_call 48; with_reducible exact Calls.quiet_of (HQ0_1.out _)) | (go_at_call 48; with_reducible exact Calls.quiet_of (HR0_1.out _ _))))
  generalize hw1 : World.drewN w nq = w1
  have h1 := H0.out.drewN nq
  rw [hw1] at h1
  have hp1 := (JP.refl base w).drewN nq
  rw [hw1] at hp1
  clear hw1
  have H1 := Lib.hid h1
  have HP1 : Hid (JP base w w1) := Lib.hid (by first | exact HP0.out.trans hp1 | exact (HP0.out.drewN _).trans hp1)
  have cb0_1 := (HE.out.h.keep HP1.out).cell
  have cb1_1 := (HE.out.l.keep HP1.out).cell
  have cb2_1 := (HE.out.o.keep HP1.out).cell
  have c5_1 := H1.out.hand (i := 5) (by omega)
  rw [show (hm) 5 = jp (ad p) from (by first | exact Hh5.out | (simp [upd]; done) | (simp [upd, Hh5.out]; done))] at c5_1
  have c6_1 := H1.out.hand (i := 6) (by omega)
  rw [show (hm) 6 = jp (ad c) from (by first | exact Hh6.out | (simp [upd]; done) | (simp [upd, Hh6.out]; done))] at c6_1
  have c7_1 := H1.out.hand (i := 7) (by omega)
  have f7_1 := H1.out.hfroz (v * 9 + 7)
  obtain ⟨b0c_1, b1c_1, b2c_1, b3c_1⟩ := H1.out.bead Hhc.out
  have fmc_1 := H1.out.bfroz Hhc.out 2
  clear h1 hp1
  have HQ0_2 : Hid (∀ m, Calls Try.prog 50 #[.pointer (some ⟨B, v * 9, none⟩)] (w1.drewN m) fun e w' => e = .returned (.bool true) ∧ ∃ m', w' = (w1.drewN m).drewN m') := fun m => found_any (H1.out.drewN m) (c := c) Hhc.out Hh6.out (b := true) Hhf.out
  have HR0_2 : Hid (∀ m k, Calls Try.prog 50 #[.pointer (some ⟨B, v * 9, none⟩)] ((w1.drewN m).drewN k) fun e w' => e = .returned (.bool true) ∧ ∃ m', w' = ((w1.drewN m).drewN k).drewN m') := fun m k => found_any ((H1.out.drewN m).drewN k) (c := c) Hhc.out Hh6.out (b := true) Hhf.out
  have HQ1_3 : Hid (∀ m, Calls Try.prog 51 #[.pointer (some ⟨B, v * 9, none⟩)] (w1.drewN m) fun e w' => e = .returned (I 3) ∧ ∃ m', w' = (w1.drewN m).drewN m') := fun m => kind_any (H1.out.drewN m)
  have HR1_3 : Hid (∀ m k, Calls Try.prog 51 #[.pointer (some ⟨B, v * 9, none⟩)] ((w1.drewN m).drewN k) fun e w' => e = .returned (I 3) ∧ ∃ m', w' = ((w1.drewN m).drewN k).drewN m') := fun m k => kind_any ((H1.out.drewN m).drewN k)
  go_wp2_with fail
  go_quiet ((first | (go_at_call 50; with_reducible exact Calls.quiet_of (HQ0_2.out _)) | (go_at_call 50; with_reducible exact Calls.quiet_of (HR0_2.out _ _)) | (go_at_call 51; with_reducible exact Calls.quiet_of (HQ1_3.out _)) | (go_at_call 51; with_reducible exact Calls.quiet_of (HR1_3.out _ _))))
  generalize hw2 : World.drewN w1 nq = w2
  have h2 := H1.out.drewN nq
  rw [hw2] at h2
  have hp2 := (JP.refl base w1).drewN nq
  rw [hw2] at hp2
  clear hw2
  have H2 := Lib.hid h2
  have HP2 : Hid (JP base w w2) := Lib.hid (by first | exact HP1.out.trans hp2 | exact (HP1.out.drewN _).trans hp2)
  have cb0_2 := (HE.out.h.keep HP2.out).cell
  have cb1_2 := (HE.out.l.keep HP2.out).cell
  have cb2_2 := (HE.out.o.keep HP2.out).cell
  have c5_2 := H2.out.hand (i := 5) (by omega)
  rw [show (hm) 5 = jp (ad p) from (by first | exact Hh5.out | (simp [upd]; done) | (simp [upd, Hh5.out]; done))] at c5_2
  have c6_2 := H2.out.hand (i := 6) (by omega)
  rw [show (hm) 6 = jp (ad c) from (by first | exact Hh6.out | (simp [upd]; done) | (simp [upd, Hh6.out]; done))] at c6_2
  have c7_2 := H2.out.hand (i := 7) (by omega)
  have f7_2 := H2.out.hfroz (v * 9 + 7)
  obtain ⟨b0c_2, b1c_2, b2c_2, b3c_2⟩ := H2.out.bead Hhc.out
  have fmc_2 := H2.out.bfroz Hhc.out 2
  clear h2 hp2
  go_wp2_with fail
  with_reducible refine (kind_any H2.out).mono ?_
  rintro e w3 ⟨rfl, m3, hw3⟩
  have h3 := H2.out.drewN m3
  rw [← hw3] at h3
  have hp3 := (JP.refl base w2).drewN m3
  rw [← hw3] at hp3
  clear hw3
  have H3 := Lib.hid h3
  have HP3 : Hid (JP base w w3) := Lib.hid (by first | exact HP2.out.trans hp3 | exact (HP2.out.drewN _).trans hp3)
  have cb0_3 := (HE.out.h.keep HP3.out).cell
  have cb1_3 := (HE.out.l.keep HP3.out).cell
  have cb2_3 := (HE.out.o.keep HP3.out).cell
  have c5_3 := H3.out.hand (i := 5) (by omega)
  rw [show (hm) 5 = jp (ad p) from (by first | exact Hh5.out | (simp [upd]; done) | (simp [upd, Hh5.out]; done))] at c5_3
  have c6_3 := H3.out.hand (i := 6) (by omega)
  rw [show (hm) 6 = jp (ad c) from (by first | exact Hh6.out | (simp [upd]; done) | (simp [upd, Hh6.out]; done))] at c6_3
  have c7_3 := H3.out.hand (i := 7) (by omega)
  have f7_3 := H3.out.hfroz (v * 9 + 7)
  obtain ⟨b0c_3, b1c_3, b2c_3, b3c_3⟩ := H3.out.bead Hhc.out
  have fmc_3 := H3.out.bfroz Hhc.out 2
  clear h3 hp3
  go_wp2_with fail
  with_reducible refine (kind_any H3.out).mono ?_
  rintro e w4 ⟨rfl, m4, hw4⟩
  have h4 := H3.out.drewN m4
  rw [← hw4] at h4
  have hp4 := (JP.refl base w3).drewN m4
  rw [← hw4] at hp4
  clear hw4
  have H4 := Lib.hid h4
  have HP4 : Hid (JP base w w4) := Lib.hid (by first | exact HP3.out.trans hp4 | exact (HP3.out.drewN _).trans hp4)
  have cb0_4 := (HE.out.h.keep HP4.out).cell
  have cb1_4 := (HE.out.l.keep HP4.out).cell
  have cb2_4 := (HE.out.o.keep HP4.out).cell
  have c5_4 := H4.out.hand (i := 5) (by omega)
  rw [show (hm) 5 = jp (ad p) from (by first | exact Hh5.out | (simp [upd]; done) | (simp [upd, Hh5.out]; done))] at c5_4
  have c6_4 := H4.out.hand (i := 6) (by omega)
  rw [show (hm) 6 = jp (ad c) from (by first | exact Hh6.out | (simp [upd]; done) | (simp [upd, Hh6.out]; done))] at c6_4
  have c7_4 := H4.out.hand (i := 7) (by omega)
  have f7_4 := H4.out.hfroz (v * 9 + 7)
  obtain ⟨b0c_4, b1c_4, b2c_4, b3c_4⟩ := H4.out.bead Hhc.out
  have fmc_4 := H4.out.bfroz Hhc.out 2
  clear h4 hp4
  go_wp2_with fail
  first | with_reducible refine (free_any H4.out (p := p) (c := c) Hhp.out Hhc.out Hh5.out Hh6.out).mono ?_ | with_reducible refine (free_any (H4.out.drewN _) (p := p) (c := c) Hhp.out Hhc.out Hh5.out Hh6.out).mono ?_ | with_reducible refine (free_any ((H4.out.drewN _).drewN _) (p := p) (c := c) Hhp.out Hhc.out Hh5.out Hh6.out).mono ?_
  rintro e w5 ⟨rfl, h5, hp5⟩
  have H5 := Lib.hid h5
  have HP5 : Hid (JP base w w5) := Lib.hid (by first | exact HP4.out.trans hp5 | exact (HP4.out.drewN _).trans hp5)
  have cb0_5 := (HE.out.h.keep HP5.out).cell
  have cb1_5 := (HE.out.l.keep HP5.out).cell
  have cb2_5 := (HE.out.o.keep HP5.out).cell
  have c7_5 := H5.out.hand (i := 7) (by omega)
  have f7_5 := H5.out.hfroz (v * 9 + 7)
  clear h5 hp5
  go_wp2_with fail
  first | with_reducible refine (end_any H5.out true).mono ?_ | with_reducible refine (end_any (H5.out.drewN _) true).mono ?_ | with_reducible refine (end_any ((H5.out.drewN _).drewN _) true).mono ?_
  rintro e w6 ⟨rfl, h6, hp6⟩
  have H6 := Lib.hid h6
  have HP6 : Hid (JP base w w6) := Lib.hid (by first | exact HP5.out.trans hp6 | exact (HP5.out.drewN _).trans hp6)
  have cb0_6 := (HE.out.h.keep HP6.out).cell
  have cb1_6 := (HE.out.l.keep HP6.out).cell
  have cb2_6 := (HE.out.o.keep HP6.out).cell
  have c7_6 := H6.out.hand (i := 7) (by omega)
  have f7_6 := H6.out.hfroz (v * 9 + 7)
  clear h6 hp6
  go_wp2
  go_end0
  first | exact ⟨rfl, H6.out, HP6.out⟩ | exact ⟨rfl, (H6.out.drewN _), (HP6.out.drewN _)⟩ | exact ⟨rfl, ((H6.out.drewN _).drewN _), ((HP6.out.drewN _).drewN _)⟩

set_option maxRecDepth 100000 in
set_option maxHeartbeats 4000000 in
theorem cO3_has_f {hb lb ob p c : Nat} (h : ST base B nh v 3 K ad s lk hs hm w) (he : EnvO w (.pointer (some ⟨B, v * 9, none⟩)) hb lb ob) (h5 : hm 5 = jp (ad p)) (h6 : hm 6 = jp (ad c)) (hp : p < s.sz) (hc : c < s.sz) (hge : ¬ s.key c < K) (hf : decide (s.key c = K) = false) : Calls Try.prog 47 #[jp hb, jp lb] w (RetJ base B nh v 3 K ad s (upd (upd lk p false) c false) hs (upd (upd hm 7 .nilFunc) 8 (.bool false)) w) := by
  have H0 := Lib.hid h
  have HE := Lib.hid he
  have HP0 : Hid (JP base w w) := Lib.hid (JP.refl _ _)
  have Hh5 := Lib.hid h5
  have Hh6 := Lib.hid h6
  have Hhp := Lib.hid hp
  have Hhc := Lib.hid hc
  have Hhge := Lib.hid hge
  have Hhf := Lib.hid hf
  have cb0_0 := (HE.out.h.keep HP0.out).cell
  have cb1_0 := (HE.out.l.keep HP0.out).cell
  have cb2_0 := (HE.out.o.keep HP0.out).cell
  have c5_0 := H0.out.hand (i := 5) (by omega)
  rw [show (hm) 5 = jp (ad p) from (by first | exact Hh5.out | (simp [upd]; done) | (simp [upd, Hh5.out]; done))] at c5_0
  have c6_0 := H0.out.hand (i := 6) (by omega)
  rw [show (hm) 6 = jp (ad c) from (by first | exact Hh6.out | (simp [upd]; done) | (simp [upd, Hh6.out]; done))] at c6_0
  have c7_0 := H0.out.hand (i := 7) (by omega)
  have f7_0 := H0.out.hfroz (v * 9 + 7)
  obtain ⟨b0c_0, b1c_0, b2c_0, b3c_0⟩ := H0.out.bead Hhc.out
  have fmc_0 := H0.out.bfroz Hhc.out 2
  clear h he h5 h6 hp hc hf
  go_enter Try.func47, Try.ntmps47
  have HQ0_1 : Hid (∀ m, Calls Try.prog 48 #[.pointer (some ⟨B, v * 9, none⟩)] (w.drewN m) fun e w' => e = .returned (I K) ∧ ∃ m', w' = (w.drewN m).drewN m') := fun m => key_any (H0.out.drewN m)
  have HR0_1 : Hid (∀ m k, Calls Try.prog 48 #[.pointer (some ⟨B, v * 9, none⟩)] ((w.drewN m).drewN k) fun e w' => e = .returned (I K) ∧ ∃ m', w' = ((w.drewN m).drewN k).drewN m') := fun m k => key_any ((H0.out.drewN m).drewN k)
  go_wp2_with fail
  go_quiet ((first | (go_at_call 48; with_reducible exact Calls.quiet_of (HQ0_1.out _)) | (go_at_call 48; with_reducible exact Calls.quiet_of (HR0_1.out _ _))))
  generalize hw1 : World.drewN w nq = w1
  have h1 := H0.out.drewN nq
  rw [hw1] at h1
  have hp1 := (JP.refl base w).drewN nq
  rw [hw1] at hp1
  clear hw1
  have H1 := Lib.hid h1
  have HP1 : Hid (JP base w w1) := Lib.hid (by first | exact HP0.out.trans hp1 | exact (HP0.out.drewN _).trans hp1)
  have cb0_1 := (HE.out.h.keep HP1.out).cell
  have cb1_1 := (HE.out.l.keep HP1.out).cell
  have cb2_1 := (HE.out.o.keep HP1.out).cell
  have c5_1 := H1.out.hand (i := 5) (by omega)
  rw [show (hm) 5 = jp (ad p) from (by first | exact Hh5.out | (simp [upd]; done) | (simp [upd, Hh5.out]; done))] at c5_1
  have c6_1 := H1.out.hand (i := 6) (by omega)
  rw [show (hm) 6 = jp (ad c) from (by first | exact Hh6.out | (simp [upd]; done) | (simp [upd, Hh6.out]; done))] at c6_1
  have c7_1 := H1.out.hand (i := 7) (by omega)
  have f7_1 := H1.out.hfroz (v * 9 + 7)
  obtain ⟨b0c_1, b1c_1, b2c_1, b3c_1⟩ := H1.out.bead Hhc.out
  have fmc_1 := H1.out.bfroz Hhc.out 2
  clear h1 hp1
  have HQ0_2 : Hid (∀ m, Calls Try.prog 50 #[.pointer (some ⟨B, v * 9, none⟩)] (w1.drewN m) fun e w' => e = .returned (.bool false) ∧ ∃ m', w' = (w1.drewN m).drewN m') := fun m => found_any (H1.out.drewN m) (c := c) Hhc.out Hh6.out (b := false) Hhf.out
  have HR0_2 : Hid (∀ m k, Calls Try.prog 50 #[.pointer (some ⟨B, v * 9, none⟩)] ((w1.drewN m).drewN k) fun e w' => e = .returned (.bool false) ∧ ∃ m', w' = ((w1.drewN m).drewN k).drewN m') := fun m k => found_any ((H1.out.drewN m).drewN k) (c := c) Hhc.out Hh6.out (b := false) Hhf.out
  have HQ1_3 : Hid (∀ m, Calls Try.prog 51 #[.pointer (some ⟨B, v * 9, none⟩)] (w1.drewN m) fun e w' => e = .returned (I 3) ∧ ∃ m', w' = (w1.drewN m).drewN m') := fun m => kind_any (H1.out.drewN m)
  have HR1_3 : Hid (∀ m k, Calls Try.prog 51 #[.pointer (some ⟨B, v * 9, none⟩)] ((w1.drewN m).drewN k) fun e w' => e = .returned (I 3) ∧ ∃ m', w' = ((w1.drewN m).drewN k).drewN m') := fun m k => kind_any ((H1.out.drewN m).drewN k)
  go_wp2_with fail
  go_quiet ((first | (go_at_call 50; with_reducible exact Calls.quiet_of (HQ0_2.out _)) | (go_at_call 50; with_reducible exact Calls.quiet_of (HR0_2.out _ _)) | (go_at_call 51; with_reducible exact Calls.quiet_of (HQ1_3.out _)) | (go_at_call 51; with_reducible exact Calls.quiet_of (HR1_3.out _ _))))
  generalize hw2 : World.drewN w1 nq = w2
  have h2 := H1.out.drewN nq
  rw [hw2] at h2
  have hp2 := (JP.refl base w1).drewN nq
  rw [hw2] at hp2
  clear hw2
  have H2 := Lib.hid h2
  have HP2 : Hid (JP base w w2) := Lib.hid (by first | exact HP1.out.trans hp2 | exact (HP1.out.drewN _).trans hp2)
  have cb0_2 := (HE.out.h.keep HP2.out).cell
  have cb1_2 := (HE.out.l.keep HP2.out).cell
  have cb2_2 := (HE.out.o.keep HP2.out).cell
  have c5_2 := H2.out.hand (i := 5) (by omega)
  rw [show (hm) 5 = jp (ad p) from (by first | exact Hh5.out | (simp [upd]; done) | (simp [upd, Hh5.out]; done))] at c5_2
  have c6_2 := H2.out.hand (i := 6) (by omega)
  rw [show (hm) 6 = jp (ad c) from (by first | exact Hh6.out | (simp [upd]; done) | (simp [upd, Hh6.out]; done))] at c6_2
  have c7_2 := H2.out.hand (i := 7) (by omega)
  have f7_2 := H2.out.hfroz (v * 9 + 7)
  obtain ⟨b0c_2, b1c_2, b2c_2, b3c_2⟩ := H2.out.bead Hhc.out
  have fmc_2 := H2.out.bfroz Hhc.out 2
  clear h2 hp2
  go_wp2_with fail
  first | with_reducible refine (free_any H2.out (p := p) (c := c) Hhp.out Hhc.out Hh5.out Hh6.out).mono ?_ | with_reducible refine (free_any (H2.out.drewN _) (p := p) (c := c) Hhp.out Hhc.out Hh5.out Hh6.out).mono ?_ | with_reducible refine (free_any ((H2.out.drewN _).drewN _) (p := p) (c := c) Hhp.out Hhc.out Hh5.out Hh6.out).mono ?_
  rintro e w3 ⟨rfl, h3, hp3⟩
  have H3 := Lib.hid h3
  have HP3 : Hid (JP base w w3) := Lib.hid (by first | exact HP2.out.trans hp3 | exact (HP2.out.drewN _).trans hp3)
  have cb0_3 := (HE.out.h.keep HP3.out).cell
  have cb1_3 := (HE.out.l.keep HP3.out).cell
  have cb2_3 := (HE.out.o.keep HP3.out).cell
  have c7_3 := H3.out.hand (i := 7) (by omega)
  have f7_3 := H3.out.hfroz (v * 9 + 7)
  clear h3 hp3
  go_wp2_with fail
  first | with_reducible refine (end_any H3.out false).mono ?_ | with_reducible refine (end_any (H3.out.drewN _) false).mono ?_ | with_reducible refine (end_any ((H3.out.drewN _).drewN _) false).mono ?_
  rintro e w4 ⟨rfl, h4, hp4⟩
  have H4 := Lib.hid h4
  have HP4 : Hid (JP base w w4) := Lib.hid (by first | exact HP3.out.trans hp4 | exact (HP3.out.drewN _).trans hp4)
  have cb0_4 := (HE.out.h.keep HP4.out).cell
  have cb1_4 := (HE.out.l.keep HP4.out).cell
  have cb2_4 := (HE.out.o.keep HP4.out).cell
  have c7_4 := H4.out.hand (i := 7) (by omega)
  have f7_4 := H4.out.hfroz (v * 9 + 7)
  clear h4 hp4
  go_wp2
  go_end0
  first | exact ⟨rfl, H4.out, HP4.out⟩ | exact ⟨rfl, (H4.out.drewN _), (HP4.out.drewN _)⟩ | exact ⟨rfl, ((H4.out.drewN _).drewN _), ((HP4.out.drewN _).drewN _)⟩

set_option maxRecDepth 100000 in
set_option maxHeartbeats 4000000 in
theorem cO3_add_f {hb lb ob p c : Nat} (h : ST base B nh v 1 K ad s lk hs hm w) (he : EnvO w (.pointer (some ⟨B, v * 9, none⟩)) hb lb ob) (h5 : hm 5 = jp (ad p)) (h6 : hm 6 = jp (ad c)) (hp : p < s.sz) (hc : c < s.sz) (hge : ¬ s.key c < K) (hf : decide (s.key c = K) = true) : Calls Try.prog 47 #[jp hb, jp lb] w (RetJ base B nh v 1 K ad s (upd (upd lk p false) c false) hs (upd (upd hm 7 .nilFunc) 8 (.bool false)) w) := by
  have H0 := Lib.hid h
  have HE := Lib.hid he
  have HP0 : Hid (JP base w w) := Lib.hid (JP.refl _ _)
  have Hh5 := Lib.hid h5
  have Hh6 := Lib.hid h6
  have Hhp := Lib.hid hp
  have Hhc := Lib.hid hc
  have Hhge := Lib.hid hge
  have Hhf := Lib.hid hf
  have cb0_0 := (HE.out.h.keep HP0.out).cell
  have cb1_0 := (HE.out.l.keep HP0.out).cell
  have cb2_0 := (HE.out.o.keep HP0.out).cell
  have c5_0 := H0.out.hand (i := 5) (by omega)
  rw [show (hm) 5 = jp (ad p) from (by first | exact Hh5.out | (simp [upd]; done) | (simp [upd, Hh5.out]; done))] at c5_0
  have c6_0 := H0.out.hand (i := 6) (by omega)
  rw [show (hm) 6 = jp (ad c) from (by first | exact Hh6.out | (simp [upd]; done) | (simp [upd, Hh6.out]; done))] at c6_0
  have c7_0 := H0.out.hand (i := 7) (by omega)
  have f7_0 := H0.out.hfroz (v * 9 + 7)
  obtain ⟨b0c_0, b1c_0, b2c_0, b3c_0⟩ := H0.out.bead Hhc.out
  have fmc_0 := H0.out.bfroz Hhc.out 2
  clear h he h5 h6 hp hc hf
  go_enter Try.func47, Try.ntmps47
  have HQ0_1 : Hid (∀ m, Calls Try.prog 48 #[.pointer (some ⟨B, v * 9, none⟩)] (w.drewN m) fun e w' => e = .returned (I K) ∧ ∃ m', w' = (w.drewN m).drewN m') := fun m => key_any (H0.out.drewN m)
  have HR0_1 : Hid (∀ m k, Calls Try.prog 48 #[.pointer (some ⟨B, v * 9, none⟩)] ((w.drewN m).drewN k) fun e w' => e = .returned (I K) ∧ ∃ m', w' = ((w.drewN m).drewN k).drewN m') := fun m k => key_any ((H0.out.drewN m).drewN k)
  go_wp2_with fail
  go_quiet ((first | (go_at_call 48; with_reducible exact Calls.quiet_of (HQ0_1.out _)) | (go_at_call 48; with_reducible exact Calls.quiet_of (HR0_1.out _ _))))
  generalize hw1 : World.drewN w nq = w1
  have h1 := H0.out.drewN nq
  rw [hw1] at h1
  have hp1 := (JP.refl base w).drewN nq
  rw [hw1] at hp1
  clear hw1
  have H1 := Lib.hid h1
  have HP1 : Hid (JP base w w1) := Lib.hid (by first | exact HP0.out.trans hp1 | exact (HP0.out.drewN _).trans hp1)
  have cb0_1 := (HE.out.h.keep HP1.out).cell
  have cb1_1 := (HE.out.l.keep HP1.out).cell
  have cb2_1 := (HE.out.o.keep HP1.out).cell
  have c5_1 := H1.out.hand (i := 5) (by omega)
  rw [show (hm) 5 = jp (ad p) from (by first | exact Hh5.out | (simp [upd]; done) | (simp [upd, Hh5.out]; done))] at c5_1
  have c6_1 := H1.out.hand (i := 6) (by omega)
  rw [show (hm) 6 = jp (ad c) from (by first | exact Hh6.out | (simp [upd]; done) | (simp [upd, Hh6.out]; done))] at c6_1
  have c7_1 := H1.out.hand (i := 7) (by omega)
  have f7_1 := H1.out.hfroz (v * 9 + 7)
  obtain ⟨b0c_1, b1c_1, b2c_1, b3c_1⟩ := H1.out.bead Hhc.out
  have fmc_1 := H1.out.bfroz Hhc.out 2
  clear h1 hp1
  have HQ0_2 : Hid (∀ m, Calls Try.prog 50 #[.pointer (some ⟨B, v * 9, none⟩)] (w1.drewN m) fun e w' => e = .returned (.bool true) ∧ ∃ m', w' = (w1.drewN m).drewN m') := fun m => found_any (H1.out.drewN m) (c := c) Hhc.out Hh6.out (b := true) Hhf.out
  have HR0_2 : Hid (∀ m k, Calls Try.prog 50 #[.pointer (some ⟨B, v * 9, none⟩)] ((w1.drewN m).drewN k) fun e w' => e = .returned (.bool true) ∧ ∃ m', w' = ((w1.drewN m).drewN k).drewN m') := fun m k => found_any ((H1.out.drewN m).drewN k) (c := c) Hhc.out Hh6.out (b := true) Hhf.out
  have HQ1_3 : Hid (∀ m, Calls Try.prog 51 #[.pointer (some ⟨B, v * 9, none⟩)] (w1.drewN m) fun e w' => e = .returned (I 1) ∧ ∃ m', w' = (w1.drewN m).drewN m') := fun m => kind_any (H1.out.drewN m)
  have HR1_3 : Hid (∀ m k, Calls Try.prog 51 #[.pointer (some ⟨B, v * 9, none⟩)] ((w1.drewN m).drewN k) fun e w' => e = .returned (I 1) ∧ ∃ m', w' = ((w1.drewN m).drewN k).drewN m') := fun m k => kind_any ((H1.out.drewN m).drewN k)
  go_wp2_with fail
  go_quiet ((first | (go_at_call 50; with_reducible exact Calls.quiet_of (HQ0_2.out _)) | (go_at_call 50; with_reducible exact Calls.quiet_of (HR0_2.out _ _)) | (go_at_call 51; with_reducible exact Calls.quiet_of (HQ1_3.out _)) | (go_at_call 51; with_reducible exact Calls.quiet_of (HR1_3.out _ _))))
  generalize hw2 : World.drewN w1 nq = w2
  have h2 := H1.out.drewN nq
  rw [hw2] at h2
  have hp2 := (JP.refl base w1).drewN nq
  rw [hw2] at hp2
  clear hw2
  have H2 := Lib.hid h2
  have HP2 : Hid (JP base w w2) := Lib.hid (by first | exact HP1.out.trans hp2 | exact (HP1.out.drewN _).trans hp2)
  have cb0_2 := (HE.out.h.keep HP2.out).cell
  have cb1_2 := (HE.out.l.keep HP2.out).cell
  have cb2_2 := (HE.out.o.keep HP2.out).cell
  have c5_2 := H2.out.hand (i := 5) (by omega)
  rw [show (hm) 5 = jp (ad p) from (by first | exact Hh5.out | (simp [upd]; done) | (simp [upd, Hh5.out]; done))] at c5_2
  have c6_2 := H2.out.hand (i := 6) (by omega)
  rw [show (hm) 6 = jp (ad c) from (by first | exact Hh6.out | (simp [upd]; done) | (simp [upd, Hh6.out]; done))] at c6_2
  have c7_2 := H2.out.hand (i := 7) (by omega)
  have f7_2 := H2.out.hfroz (v * 9 + 7)
  obtain ⟨b0c_2, b1c_2, b2c_2, b3c_2⟩ := H2.out.bead Hhc.out
  have fmc_2 := H2.out.bfroz Hhc.out 2
  clear h2 hp2
  go_wp2_with fail
  first | with_reducible refine (free_any H2.out (p := p) (c := c) Hhp.out Hhc.out Hh5.out Hh6.out).mono ?_ | with_reducible refine (free_any (H2.out.drewN _) (p := p) (c := c) Hhp.out Hhc.out Hh5.out Hh6.out).mono ?_ | with_reducible refine (free_any ((H2.out.drewN _).drewN _) (p := p) (c := c) Hhp.out Hhc.out Hh5.out Hh6.out).mono ?_
  rintro e w3 ⟨rfl, h3, hp3⟩
  have H3 := Lib.hid h3
  have HP3 : Hid (JP base w w3) := Lib.hid (by first | exact HP2.out.trans hp3 | exact (HP2.out.drewN _).trans hp3)
  have cb0_3 := (HE.out.h.keep HP3.out).cell
  have cb1_3 := (HE.out.l.keep HP3.out).cell
  have cb2_3 := (HE.out.o.keep HP3.out).cell
  have c7_3 := H3.out.hand (i := 7) (by omega)
  have f7_3 := H3.out.hfroz (v * 9 + 7)
  clear h3 hp3
  go_wp2_with fail
  first | with_reducible refine (end_any H3.out false).mono ?_ | with_reducible refine (end_any (H3.out.drewN _) false).mono ?_ | with_reducible refine (end_any ((H3.out.drewN _).drewN _) false).mono ?_
  rintro e w4 ⟨rfl, h4, hp4⟩
  have H4 := Lib.hid h4
  have HP4 : Hid (JP base w w4) := Lib.hid (by first | exact HP3.out.trans hp4 | exact (HP3.out.drewN _).trans hp4)
  have cb0_4 := (HE.out.h.keep HP4.out).cell
  have cb1_4 := (HE.out.l.keep HP4.out).cell
  have cb2_4 := (HE.out.o.keep HP4.out).cell
  have c7_4 := H4.out.hand (i := 7) (by omega)
  have f7_4 := H4.out.hfroz (v * 9 + 7)
  clear h4 hp4
  go_wp2
  go_end0
  first | exact ⟨rfl, H4.out, HP4.out⟩ | exact ⟨rfl, (H4.out.drewN _), (HP4.out.drewN _)⟩ | exact ⟨rfl, ((H4.out.drewN _).drewN _), ((HP4.out.drewN _).drewN _)⟩

set_option maxRecDepth 100000 in
set_option maxHeartbeats 4000000 in
theorem cO3_add_t {hb lb ob p c : Nat} (h : ST base B nh v 1 K ad s lk hs hm w) (he : EnvO w (.pointer (some ⟨B, v * 9, none⟩)) hb lb ob) (h5 : hm 5 = jp (ad p)) (h6 : hm 6 = jp (ad c)) (hp : p < s.sz) (hc : c < s.sz) (hge : ¬ s.key c < K) (hf : decide (s.key c = K) = false) (hpt : p ≠ s.tl) (htl : s.tl < s.sz) (hnl : ∀ i, i < s.sz → i ≠ s.tl → s.nx i < s.sz) (hlk : lk s.sz = false) : Calls Try.prog 47 #[jp hb, jp lb] w (fun e w' => ∃ g, RetJ base B nh v 1 K (upd ad s.sz g) (s.insc p c K) (upd (upd lk p false) c false) hs (upd (upd hm 7 .nilFunc) 8 (.bool true)) w e w') := by
  have H0 := Lib.hid h
  have HE := Lib.hid he
  have HP0 : Hid (JP base w w) := Lib.hid (JP.refl _ _)
  have Hh5 := Lib.hid h5
  have Hh6 := Lib.hid h6
  have Hhp := Lib.hid hp
  have Hhc := Lib.hid hc
  have Hhge := Lib.hid hge
  have Hhf := Lib.hid hf
  have Hhpt := Lib.hid hpt
  have Hhtl := Lib.hid htl
  have Hhnl := Lib.hid hnl
  have Hhlk := Lib.hid hlk
  have cb0_0 := (HE.out.h.keep HP0.out).cell
  have cb1_0 := (HE.out.l.keep HP0.out).cell
  have cb2_0 := (HE.out.o.keep HP0.out).cell
  have c5_0 := H0.out.hand (i := 5) (by omega)
  rw [show (hm) 5 = jp (ad p) from (by first | exact Hh5.out | (simp [upd]; done) | (simp [upd, Hh5.out]; done))] at c5_0
  have c6_0 := H0.out.hand (i := 6) (by omega)
  rw [show (hm) 6 = jp (ad c) from (by first | exact Hh6.out | (simp [upd]; done) | (simp [upd, Hh6.out]; done))] at c6_0
  have c7_0 := H0.out.hand (i := 7) (by omega)
  have f7_0 := H0.out.hfroz (v * 9 + 7)
  obtain ⟨b0c_0, b1c_0, b2c_0, b3c_0⟩ := H0.out.bead Hhc.out
  have fmc_0 := H0.out.bfroz Hhc.out 2
  clear h he h5 h6 hp hc hf hpt htl hnl hlk
  go_enter Try.func47, Try.ntmps47
  have HQ0_1 : Hid (∀ m, Calls Try.prog 48 #[.pointer (some ⟨B, v * 9, none⟩)] (w.drewN m) fun e w' => e = .returned (I K) ∧ ∃ m', w' = (w.drewN m).drewN m') := fun m => key_any (H0.out.drewN m)
  have HR0_1 : Hid (∀ m k, Calls Try.prog 48 #[.pointer (some ⟨B, v * 9, none⟩)] ((w.drewN m).drewN k) fun e w' => e = .returned (I K) ∧ ∃ m', w' = ((w.drewN m).drewN k).drewN m') := fun m k => key_any ((H0.out.drewN m).drewN k)
  go_wp2_with fail
  go_quiet ((first | (go_at_call 48; with_reducible exact Calls.quiet_of (HQ0_1.out _)) | (go_at_call 48; with_reducible exact Calls.quiet_of (HR0_1.out _ _))))
  generalize hw1 : World.drewN w nq = w1
  have h1 := H0.out.drewN nq
  rw [hw1] at h1
  have hp1 := (JP.refl base w).drewN nq
  rw [hw1] at hp1
  clear hw1
  have H1 := Lib.hid h1
  have HP1 : Hid (JP base w w1) := Lib.hid (by first | exact HP0.out.trans hp1 | exact (HP0.out.drewN _).trans hp1)
  have cb0_1 := (HE.out.h.keep HP1.out).cell
  have cb1_1 := (HE.out.l.keep HP1.out).cell
  have cb2_1 := (HE.out.o.keep HP1.out).cell
  have c5_1 := H1.out.hand (i := 5) (by omega)
  rw [show (hm) 5 = jp (ad p) from (by first | exact Hh5.out | (simp [upd]; done) | (simp [upd, Hh5.out]; done))] at c5_1
  have c6_1 := H1.out.hand (i := 6) (by omega)
  rw [show (hm) 6 = jp (ad c) from (by first | exact Hh6.out | (simp [upd]; done) | (simp [upd, Hh6.out]; done))] at c6_1
  have c7_1 := H1.out.hand (i := 7) (by omega)
  have f7_1 := H1.out.hfroz (v * 9 + 7)
  obtain ⟨b0c_1, b1c_1, b2c_1, b3c_1⟩ := H1.out.bead Hhc.out
  have fmc_1 := H1.out.bfroz Hhc.out 2
  clear h1 hp1
  have HQ0_2 : Hid (∀ m, Calls Try.prog 50 #[.pointer (some ⟨B, v * 9, none⟩)] (w1.drewN m) fun e w' => e = .returned (.bool false) ∧ ∃ m', w' = (w1.drewN m).drewN m') := fun m => found_any (H1.out.drewN m) (c := c) Hhc.out Hh6.out (b := false) Hhf.out
  have HR0_2 : Hid (∀ m k, Calls Try.prog 50 #[.pointer (some ⟨B, v * 9, none⟩)] ((w1.drewN m).drewN k) fun e w' => e = .returned (.bool false) ∧ ∃ m', w' = ((w1.drewN m).drewN k).drewN m') := fun m k => found_any ((H1.out.drewN m).drewN k) (c := c) Hhc.out Hh6.out (b := false) Hhf.out
  have HQ1_3 : Hid (∀ m, Calls Try.prog 51 #[.pointer (some ⟨B, v * 9, none⟩)] (w1.drewN m) fun e w' => e = .returned (I 1) ∧ ∃ m', w' = (w1.drewN m).drewN m') := fun m => kind_any (H1.out.drewN m)
  have HR1_3 : Hid (∀ m k, Calls Try.prog 51 #[.pointer (some ⟨B, v * 9, none⟩)] ((w1.drewN m).drewN k) fun e w' => e = .returned (I 1) ∧ ∃ m', w' = ((w1.drewN m).drewN k).drewN m') := fun m k => kind_any ((H1.out.drewN m).drewN k)
  go_wp2_with fail
  go_quiet ((first | (go_at_call 50; with_reducible exact Calls.quiet_of (HQ0_2.out _)) | (go_at_call 50; with_reducible exact Calls.quiet_of (HR0_2.out _ _)) | (go_at_call 51; with_reducible exact Calls.quiet_of (HQ1_3.out _)) | (go_at_call 51; with_reducible exact Calls.quiet_of (HR1_3.out _ _))))
  generalize hw2 : World.drewN w1 nq = w2
  have h2 := H1.out.drewN nq
  rw [hw2] at h2
  have hp2 := (JP.refl base w1).drewN nq
  rw [hw2] at hp2
  clear hw2
  have H2 := Lib.hid h2
  have HP2 : Hid (JP base w w2) := Lib.hid (by first | exact HP1.out.trans hp2 | exact (HP1.out.drewN _).trans hp2)
  have cb0_2 := (HE.out.h.keep HP2.out).cell
  have cb1_2 := (HE.out.l.keep HP2.out).cell
  have cb2_2 := (HE.out.o.keep HP2.out).cell
  have c5_2 := H2.out.hand (i := 5) (by omega)
  rw [show (hm) 5 = jp (ad p) from (by first | exact Hh5.out | (simp [upd]; done) | (simp [upd, Hh5.out]; done))] at c5_2
  have c6_2 := H2.out.hand (i := 6) (by omega)
  rw [show (hm) 6 = jp (ad c) from (by first | exact Hh6.out | (simp [upd]; done) | (simp [upd, Hh6.out]; done))] at c6_2
  have c7_2 := H2.out.hand (i := 7) (by omega)
  have f7_2 := H2.out.hfroz (v * 9 + 7)
  obtain ⟨b0c_2, b1c_2, b2c_2, b3c_2⟩ := H2.out.bead Hhc.out
  have fmc_2 := H2.out.bfroz Hhc.out 2
  clear h2 hp2
  go_wp2_with fail
  with_reducible refine (kind_any H2.out).mono ?_
  rintro e w3 ⟨rfl, m3, hw3⟩
  have h3 := H2.out.drewN m3
  rw [← hw3] at h3
  have hp3 := (JP.refl base w2).drewN m3
  rw [← hw3] at hp3
  clear hw3
  have H3 := Lib.hid h3
  have HP3 : Hid (JP base w w3) := Lib.hid (by first | exact HP2.out.trans hp3 | exact (HP2.out.drewN _).trans hp3)
  have cb0_3 := (HE.out.h.keep HP3.out).cell
  have cb1_3 := (HE.out.l.keep HP3.out).cell
  have cb2_3 := (HE.out.o.keep HP3.out).cell
  have c5_3 := H3.out.hand (i := 5) (by omega)
  rw [show (hm) 5 = jp (ad p) from (by first | exact Hh5.out | (simp [upd]; done) | (simp [upd, Hh5.out]; done))] at c5_3
  have c6_3 := H3.out.hand (i := 6) (by omega)
  rw [show (hm) 6 = jp (ad c) from (by first | exact Hh6.out | (simp [upd]; done) | (simp [upd, Hh6.out]; done))] at c6_3
  have c7_3 := H3.out.hand (i := 7) (by omega)
  have f7_3 := H3.out.hfroz (v * 9 + 7)
  obtain ⟨b0c_3, b1c_3, b2c_3, b3c_3⟩ := H3.out.bead Hhc.out
  have fmc_3 := H3.out.bfroz Hhc.out 2
  clear h3 hp3
  go_wp2_with fail
  first | with_reducible refine (add_any H3.out (p := p) (c := c) Hhp.out Hhpt.out Hhc.out Hhtl.out Hhnl.out Hhlk.out Hh5.out Hh6.out).mono ?_ | with_reducible refine (add_any (H3.out.drewN _) (p := p) (c := c) Hhp.out Hhpt.out Hhc.out Hhtl.out Hhnl.out Hhlk.out Hh5.out Hh6.out).mono ?_ | with_reducible refine (add_any ((H3.out.drewN _).drewN _) (p := p) (c := c) Hhp.out Hhpt.out Hhc.out Hhtl.out Hhnl.out Hhlk.out Hh5.out Hh6.out).mono ?_
  rintro e w4 ⟨g, rfl, h4, hp4⟩
  have H4 := Lib.hid h4
  have HP4 : Hid (JP base w w4) := Lib.hid (by first | exact HP3.out.trans hp4 | exact (HP3.out.drewN _).trans hp4)
  have cb0_4 := (HE.out.h.keep HP4.out).cell
  have cb1_4 := (HE.out.l.keep HP4.out).cell
  have cb2_4 := (HE.out.o.keep HP4.out).cell
  have c7_4 := H4.out.hand (i := 7) (by omega)
  have f7_4 := H4.out.hfroz (v * 9 + 7)
  clear h4 hp4
  go_wp2_with fail
  first | with_reducible refine (free_any H4.out (p := p) (c := c) (sz_ins Hhp.out) (sz_ins Hhc.out) (Hh5.out.trans (by rw [upd_other _ _ (Nat.ne_of_lt Hhp.out)])) (Hh6.out.trans (by rw [upd_other _ _ (Nat.ne_of_lt Hhc.out)]))).mono ?_ | with_reducible refine (free_any (H4.out.drewN _) (p := p) (c := c) (sz_ins Hhp.out) (sz_ins Hhc.out) (Hh5.out.trans (by rw [upd_other _ _ (Nat.ne_of_lt Hhp.out)])) (Hh6.out.trans (by rw [upd_other _ _ (Nat.ne_of_lt Hhc.out)]))).mono ?_ | with_reducible refine (free_any ((H4.out.drewN _).drewN _) (p := p) (c := c) (sz_ins Hhp.out) (sz_ins Hhc.out) (Hh5.out.trans (by rw [upd_other _ _ (Nat.ne_of_lt Hhp.out)])) (Hh6.out.trans (by rw [upd_other _ _ (Nat.ne_of_lt Hhc.out)]))).mono ?_
  rintro e w5 ⟨rfl, h5, hp5⟩
  have H5 := Lib.hid h5
  have HP5 : Hid (JP base w w5) := Lib.hid (by first | exact HP4.out.trans hp5 | exact (HP4.out.drewN _).trans hp5)
  have cb0_5 := (HE.out.h.keep HP5.out).cell
  have cb1_5 := (HE.out.l.keep HP5.out).cell
  have cb2_5 := (HE.out.o.keep HP5.out).cell
  have c7_5 := H5.out.hand (i := 7) (by omega)
  have f7_5 := H5.out.hfroz (v * 9 + 7)
  clear h5 hp5
  go_wp2_with fail
  first | with_reducible refine (end_any H5.out true).mono ?_ | with_reducible refine (end_any (H5.out.drewN _) true).mono ?_ | with_reducible refine (end_any ((H5.out.drewN _).drewN _) true).mono ?_
  rintro e w6 ⟨rfl, h6, hp6⟩
  have H6 := Lib.hid h6
  have HP6 : Hid (JP base w w6) := Lib.hid (by first | exact HP5.out.trans hp6 | exact (HP5.out.drewN _).trans hp6)
  have cb0_6 := (HE.out.h.keep HP6.out).cell
  have cb1_6 := (HE.out.l.keep HP6.out).cell
  have cb2_6 := (HE.out.o.keep HP6.out).cell
  have c7_6 := H6.out.hand (i := 7) (by omega)
  have f7_6 := H6.out.hfroz (v * 9 + 7)
  clear h6 hp6
  go_wp2
  go_end0
  first | exact ⟨g, rfl, H6.out, HP6.out⟩ | exact ⟨g, rfl, (H6.out.drewN _), (HP6.out.drewN _)⟩ | exact ⟨g, rfl, ((H6.out.drewN _).drewN _), ((HP6.out.drewN _).drewN _)⟩

set_option maxRecDepth 100000 in
set_option maxHeartbeats 4000000 in
theorem cO3_cut_t {hb lb ob p c : Nat} (h : ST base B nh v 2 K ad s lk hs hm w) (he : EnvO w (.pointer (some ⟨B, v * 9, none⟩)) hb lb ob) (h5 : hm 5 = jp (ad p)) (h6 : hm 6 = jp (ad c)) (hp : p < s.sz) (hc : c < s.sz) (hge : ¬ s.key c < K) (hf : decide (s.key c = K) = true) (hpt : p ≠ s.tl) (hct : c ≠ s.tl) : Calls Try.prog 47 #[jp hb, jp lb] w (RetJ base B nh v 2 K ad ((s.cut p c).mark c) (upd (upd lk p false) c false) hs (upd (upd hm 7 .nilFunc) 8 (.bool true)) w) := by
  have H0 := Lib.hid h
  have HE := Lib.hid he
  have HP0 : Hid (JP base w w) := Lib.hid (JP.refl _ _)
  have Hh5 := Lib.hid h5
  have Hh6 := Lib.hid h6
  have Hhp := Lib.hid hp
  have Hhc := Lib.hid hc
  have Hhge := Lib.hid hge
  have Hhf := Lib.hid hf
  have Hhpt := Lib.hid hpt
  have Hhct := Lib.hid hct
  have cb0_0 := (HE.out.h.keep HP0.out).cell
  have cb1_0 := (HE.out.l.keep HP0.out).cell
  have cb2_0 := (HE.out.o.keep HP0.out).cell
  have c5_0 := H0.out.hand (i := 5) (by omega)
  rw [show (hm) 5 = jp (ad p) from (by first | exact Hh5.out | (simp [upd]; done) | (simp [upd, Hh5.out]; done))] at c5_0
  have c6_0 := H0.out.hand (i := 6) (by omega)
  rw [show (hm) 6 = jp (ad c) from (by first | exact Hh6.out | (simp [upd]; done) | (simp [upd, Hh6.out]; done))] at c6_0
  have c7_0 := H0.out.hand (i := 7) (by omega)
  have f7_0 := H0.out.hfroz (v * 9 + 7)
  obtain ⟨b0c_0, b1c_0, b2c_0, b3c_0⟩ := H0.out.bead Hhc.out
  have fmc_0 := H0.out.bfroz Hhc.out 2
  clear h he h5 h6 hp hc hf hpt hct
  go_enter Try.func47, Try.ntmps47
  have HQ0_1 : Hid (∀ m, Calls Try.prog 48 #[.pointer (some ⟨B, v * 9, none⟩)] (w.drewN m) fun e w' => e = .returned (I K) ∧ ∃ m', w' = (w.drewN m).drewN m') := fun m => key_any (H0.out.drewN m)
  have HR0_1 : Hid (∀ m k, Calls Try.prog 48 #[.pointer (some ⟨B, v * 9, none⟩)] ((w.drewN m).drewN k) fun e w' => e = .returned (I K) ∧ ∃ m', w' = ((w.drewN m).drewN k).drewN m') := fun m k => key_any ((H0.out.drewN m).drewN k)
  go_wp2_with fail
  go_quiet ((first | (go_at_call 48; with_reducible exact Calls.quiet_of (HQ0_1.out _)) | (go_at_call 48; with_reducible exact Calls.quiet_of (HR0_1.out _ _))))
  generalize hw1 : World.drewN w nq = w1
  have h1 := H0.out.drewN nq
  rw [hw1] at h1
  have hp1 := (JP.refl base w).drewN nq
  rw [hw1] at hp1
  clear hw1
  have H1 := Lib.hid h1
  have HP1 : Hid (JP base w w1) := Lib.hid (by first | exact HP0.out.trans hp1 | exact (HP0.out.drewN _).trans hp1)
  have cb0_1 := (HE.out.h.keep HP1.out).cell
  have cb1_1 := (HE.out.l.keep HP1.out).cell
  have cb2_1 := (HE.out.o.keep HP1.out).cell
  have c5_1 := H1.out.hand (i := 5) (by omega)
  rw [show (hm) 5 = jp (ad p) from (by first | exact Hh5.out | (simp [upd]; done) | (simp [upd, Hh5.out]; done))] at c5_1
  have c6_1 := H1.out.hand (i := 6) (by omega)
  rw [show (hm) 6 = jp (ad c) from (by first | exact Hh6.out | (simp [upd]; done) | (simp [upd, Hh6.out]; done))] at c6_1
  have c7_1 := H1.out.hand (i := 7) (by omega)
  have f7_1 := H1.out.hfroz (v * 9 + 7)
  obtain ⟨b0c_1, b1c_1, b2c_1, b3c_1⟩ := H1.out.bead Hhc.out
  have fmc_1 := H1.out.bfroz Hhc.out 2
  clear h1 hp1
  have HQ0_2 : Hid (∀ m, Calls Try.prog 50 #[.pointer (some ⟨B, v * 9, none⟩)] (w1.drewN m) fun e w' => e = .returned (.bool true) ∧ ∃ m', w' = (w1.drewN m).drewN m') := fun m => found_any (H1.out.drewN m) (c := c) Hhc.out Hh6.out (b := true) Hhf.out
  have HR0_2 : Hid (∀ m k, Calls Try.prog 50 #[.pointer (some ⟨B, v * 9, none⟩)] ((w1.drewN m).drewN k) fun e w' => e = .returned (.bool true) ∧ ∃ m', w' = ((w1.drewN m).drewN k).drewN m') := fun m k => found_any ((H1.out.drewN m).drewN k) (c := c) Hhc.out Hh6.out (b := true) Hhf.out
  have HQ1_3 : Hid (∀ m, Calls Try.prog 51 #[.pointer (some ⟨B, v * 9, none⟩)] (w1.drewN m) fun e w' => e = .returned (I 2) ∧ ∃ m', w' = (w1.drewN m).drewN m') := fun m => kind_any (H1.out.drewN m)
  have HR1_3 : Hid (∀ m k, Calls Try.prog 51 #[.pointer (some ⟨B, v * 9, none⟩)] ((w1.drewN m).drewN k) fun e w' => e = .returned (I 2) ∧ ∃ m', w' = ((w1.drewN m).drewN k).drewN m') := fun m k => kind_any ((H1.out.drewN m).drewN k)
  go_wp2_with fail
  go_quiet ((first | (go_at_call 50; with_reducible exact Calls.quiet_of (HQ0_2.out _)) | (go_at_call 50; with_reducible exact Calls.quiet_of (HR0_2.out _ _)) | (go_at_call 51; with_reducible exact Calls.quiet_of (HQ1_3.out _)) | (go_at_call 51; with_reducible exact Calls.quiet_of (HR1_3.out _ _))))
  generalize hw2 : World.drewN w1 nq = w2
  have h2 := H1.out.drewN nq
  rw [hw2] at h2
  have hp2 := (JP.refl base w1).drewN nq
  rw [hw2] at hp2
  clear hw2
  have H2 := Lib.hid h2
  have HP2 : Hid (JP base w w2) := Lib.hid (by first | exact HP1.out.trans hp2 | exact (HP1.out.drewN _).trans hp2)
  have cb0_2 := (HE.out.h.keep HP2.out).cell
  have cb1_2 := (HE.out.l.keep HP2.out).cell
  have cb2_2 := (HE.out.o.keep HP2.out).cell
  have c5_2 := H2.out.hand (i := 5) (by omega)
  rw [show (hm) 5 = jp (ad p) from (by first | exact Hh5.out | (simp [upd]; done) | (simp [upd, Hh5.out]; done))] at c5_2
  have c6_2 := H2.out.hand (i := 6) (by omega)
  rw [show (hm) 6 = jp (ad c) from (by first | exact Hh6.out | (simp [upd]; done) | (simp [upd, Hh6.out]; done))] at c6_2
  have c7_2 := H2.out.hand (i := 7) (by omega)
  have f7_2 := H2.out.hfroz (v * 9 + 7)
  obtain ⟨b0c_2, b1c_2, b2c_2, b3c_2⟩ := H2.out.bead Hhc.out
  have fmc_2 := H2.out.bfroz Hhc.out 2
  clear h2 hp2
  go_wp2_with fail
  with_reducible refine (kind_any H2.out).mono ?_
  rintro e w3 ⟨rfl, m3, hw3⟩
  have h3 := H2.out.drewN m3
  rw [← hw3] at h3
  have hp3 := (JP.refl base w2).drewN m3
  rw [← hw3] at hp3
  clear hw3
  have H3 := Lib.hid h3
  have HP3 : Hid (JP base w w3) := Lib.hid (by first | exact HP2.out.trans hp3 | exact (HP2.out.drewN _).trans hp3)
  have cb0_3 := (HE.out.h.keep HP3.out).cell
  have cb1_3 := (HE.out.l.keep HP3.out).cell
  have cb2_3 := (HE.out.o.keep HP3.out).cell
  have c5_3 := H3.out.hand (i := 5) (by omega)
  rw [show (hm) 5 = jp (ad p) from (by first | exact Hh5.out | (simp [upd]; done) | (simp [upd, Hh5.out]; done))] at c5_3
  have c6_3 := H3.out.hand (i := 6) (by omega)
  rw [show (hm) 6 = jp (ad c) from (by first | exact Hh6.out | (simp [upd]; done) | (simp [upd, Hh6.out]; done))] at c6_3
  have c7_3 := H3.out.hand (i := 7) (by omega)
  have f7_3 := H3.out.hfroz (v * 9 + 7)
  obtain ⟨b0c_3, b1c_3, b2c_3, b3c_3⟩ := H3.out.bead Hhc.out
  have fmc_3 := H3.out.bfroz Hhc.out 2
  clear h3 hp3
  go_wp2_with fail
  with_reducible refine (kind_any H3.out).mono ?_
  rintro e w4 ⟨rfl, m4, hw4⟩
  have h4 := H3.out.drewN m4
  rw [← hw4] at h4
  have hp4 := (JP.refl base w3).drewN m4
  rw [← hw4] at hp4
  clear hw4
  have H4 := Lib.hid h4
  have HP4 : Hid (JP base w w4) := Lib.hid (by first | exact HP3.out.trans hp4 | exact (HP3.out.drewN _).trans hp4)
  have cb0_4 := (HE.out.h.keep HP4.out).cell
  have cb1_4 := (HE.out.l.keep HP4.out).cell
  have cb2_4 := (HE.out.o.keep HP4.out).cell
  have c5_4 := H4.out.hand (i := 5) (by omega)
  rw [show (hm) 5 = jp (ad p) from (by first | exact Hh5.out | (simp [upd]; done) | (simp [upd, Hh5.out]; done))] at c5_4
  have c6_4 := H4.out.hand (i := 6) (by omega)
  rw [show (hm) 6 = jp (ad c) from (by first | exact Hh6.out | (simp [upd]; done) | (simp [upd, Hh6.out]; done))] at c6_4
  have c7_4 := H4.out.hand (i := 7) (by omega)
  have f7_4 := H4.out.hfroz (v * 9 + 7)
  obtain ⟨b0c_4, b1c_4, b2c_4, b3c_4⟩ := H4.out.bead Hhc.out
  have fmc_4 := H4.out.bfroz Hhc.out 2
  clear h4 hp4
  go_wp2_with fail
  first | with_reducible refine (unlink_any H4.out (p := p) (c := c) Hhp.out Hhpt.out Hhc.out Hhct.out Hh5.out Hh6.out).mono ?_ | with_reducible refine (unlink_any (H4.out.drewN _) (p := p) (c := c) Hhp.out Hhpt.out Hhc.out Hhct.out Hh5.out Hh6.out).mono ?_ | with_reducible refine (unlink_any ((H4.out.drewN _).drewN _) (p := p) (c := c) Hhp.out Hhpt.out Hhc.out Hhct.out Hh5.out Hh6.out).mono ?_
  rintro e w5 ⟨rfl, h5, hp5⟩
  have H5 := Lib.hid h5
  have HP5 : Hid (JP base w w5) := Lib.hid (by first | exact HP4.out.trans hp5 | exact (HP4.out.drewN _).trans hp5)
  have cb0_5 := (HE.out.h.keep HP5.out).cell
  have cb1_5 := (HE.out.l.keep HP5.out).cell
  have cb2_5 := (HE.out.o.keep HP5.out).cell
  have c6_5 := H5.out.hand (i := 6) (by omega)
  rw [show (hm) 6 = jp (ad c) from (by first | exact Hh6.out | (simp [upd]; done) | (simp [upd, Hh6.out]; done))] at c6_5
  have c7_5 := H5.out.hand (i := 7) (by omega)
  have f7_5 := H5.out.hfroz (v * 9 + 7)
  obtain ⟨b0c_5, b1c_5, b2c_5, b3c_5⟩ := H5.out.bead (sz_cut Hhc.out)
  have fmc_5 := H5.out.bfroz (sz_cut Hhc.out) 2
  clear h5 hp5
  go_wp2_with fail
  first | with_reducible refine (free_any (H5.out.mark (x := c) (sz_cut Hhc.out)) (p := p) (c := c) (sz_mc Hhp.out) (sz_mc Hhc.out) Hh5.out Hh6.out).mono ?_ | with_reducible refine (free_any ((H5.out.drewN _).mark (x := c) (sz_cut Hhc.out)) (p := p) (c := c) (sz_mc Hhp.out) (sz_mc Hhc.out) Hh5.out Hh6.out).mono ?_ | with_reducible refine (free_any (((H5.out.drewN _).drewN _).mark (x := c) (sz_cut Hhc.out)) (p := p) (c := c) (sz_mc Hhp.out) (sz_mc Hhc.out) Hh5.out Hh6.out).mono ?_
  rintro e w6 ⟨rfl, h6, hp6⟩
  have H6 := Lib.hid h6
  have HP6 : Hid (JP base w w6) := Lib.hid (by first | exact (HP5.out.trans (H5.out.js.jp_node (x := c) Hhc.out _ _)).trans hp6 | exact (HP5.out.drewN _).trans hp6)
  have cb0_6 := (HE.out.h.keep HP6.out).cell
  have cb1_6 := (HE.out.l.keep HP6.out).cell
  have cb2_6 := (HE.out.o.keep HP6.out).cell
  have c7_6 := H6.out.hand (i := 7) (by omega)
  have f7_6 := H6.out.hfroz (v * 9 + 7)
  clear h6 hp6
  go_wp2_with fail
  first | with_reducible refine (end_any H6.out true).mono ?_ | with_reducible refine (end_any (H6.out.drewN _) true).mono ?_ | with_reducible refine (end_any ((H6.out.drewN _).drewN _) true).mono ?_
  rintro e w7 ⟨rfl, h7, hp7⟩
  have H7 := Lib.hid h7
  have HP7 : Hid (JP base w w7) := Lib.hid (by first | exact HP6.out.trans hp7 | exact (HP6.out.drewN _).trans hp7)
  have cb0_7 := (HE.out.h.keep HP7.out).cell
  have cb1_7 := (HE.out.l.keep HP7.out).cell
  have cb2_7 := (HE.out.o.keep HP7.out).cell
  have c7_7 := H7.out.hand (i := 7) (by omega)
  have f7_7 := H7.out.hfroz (v * 9 + 7)
  clear h7 hp7
  go_wp2
  go_end0
  first | exact ⟨rfl, H7.out, HP7.out⟩ | exact ⟨rfl, (H7.out.drewN _), (HP7.out.drewN _)⟩ | exact ⟨rfl, ((H7.out.drewN _).drewN _), ((HP7.out.drewN _).drewN _)⟩

set_option maxRecDepth 100000 in
set_option maxHeartbeats 4000000 in
theorem cO3_cut_f {hb lb ob p c : Nat} (h : ST base B nh v 2 K ad s lk hs hm w) (he : EnvO w (.pointer (some ⟨B, v * 9, none⟩)) hb lb ob) (h5 : hm 5 = jp (ad p)) (h6 : hm 6 = jp (ad c)) (hp : p < s.sz) (hc : c < s.sz) (hge : ¬ s.key c < K) (hf : decide (s.key c = K) = false) : Calls Try.prog 47 #[jp hb, jp lb] w (RetJ base B nh v 2 K ad s (upd (upd lk p false) c false) hs (upd (upd hm 7 .nilFunc) 8 (.bool false)) w) := by
  have H0 := Lib.hid h
  have HE := Lib.hid he
  have HP0 : Hid (JP base w w) := Lib.hid (JP.refl _ _)
  have Hh5 := Lib.hid h5
  have Hh6 := Lib.hid h6
  have Hhp := Lib.hid hp
  have Hhc := Lib.hid hc
  have Hhge := Lib.hid hge
  have Hhf := Lib.hid hf
  have cb0_0 := (HE.out.h.keep HP0.out).cell
  have cb1_0 := (HE.out.l.keep HP0.out).cell
  have cb2_0 := (HE.out.o.keep HP0.out).cell
  have c5_0 := H0.out.hand (i := 5) (by omega)
  rw [show (hm) 5 = jp (ad p) from (by first | exact Hh5.out | (simp [upd]; done) | (simp [upd, Hh5.out]; done))] at c5_0
  have c6_0 := H0.out.hand (i := 6) (by omega)
  rw [show (hm) 6 = jp (ad c) from (by first | exact Hh6.out | (simp [upd]; done) | (simp [upd, Hh6.out]; done))] at c6_0
  have c7_0 := H0.out.hand (i := 7) (by omega)
  have f7_0 := H0.out.hfroz (v * 9 + 7)
  obtain ⟨b0c_0, b1c_0, b2c_0, b3c_0⟩ := H0.out.bead Hhc.out
  have fmc_0 := H0.out.bfroz Hhc.out 2
  clear h he h5 h6 hp hc hf
  go_enter Try.func47, Try.ntmps47
  have HQ0_1 : Hid (∀ m, Calls Try.prog 48 #[.pointer (some ⟨B, v * 9, none⟩)] (w.drewN m) fun e w' => e = .returned (I K) ∧ ∃ m', w' = (w.drewN m).drewN m') := fun m => key_any (H0.out.drewN m)
  have HR0_1 : Hid (∀ m k, Calls Try.prog 48 #[.pointer (some ⟨B, v * 9, none⟩)] ((w.drewN m).drewN k) fun e w' => e = .returned (I K) ∧ ∃ m', w' = ((w.drewN m).drewN k).drewN m') := fun m k => key_any ((H0.out.drewN m).drewN k)
  go_wp2_with fail
  go_quiet ((first | (go_at_call 48; with_reducible exact Calls.quiet_of (HQ0_1.out _)) | (go_at_call 48; with_reducible exact Calls.quiet_of (HR0_1.out _ _))))
  generalize hw1 : World.drewN w nq = w1
  have h1 := H0.out.drewN nq
  rw [hw1] at h1
  have hp1 := (JP.refl base w).drewN nq
  rw [hw1] at hp1
  clear hw1
  have H1 := Lib.hid h1
  have HP1 : Hid (JP base w w1) := Lib.hid (by first | exact HP0.out.trans hp1 | exact (HP0.out.drewN _).trans hp1)
  have cb0_1 := (HE.out.h.keep HP1.out).cell
  have cb1_1 := (HE.out.l.keep HP1.out).cell
  have cb2_1 := (HE.out.o.keep HP1.out).cell
  have c5_1 := H1.out.hand (i := 5) (by omega)
  rw [show (hm) 5 = jp (ad p) from (by first | exact Hh5.out | (simp [upd]; done) | (simp [upd, Hh5.out]; done))] at c5_1
  have c6_1 := H1.out.hand (i := 6) (by omega)
  rw [show (hm) 6 = jp (ad c) from (by first | exact Hh6.out | (simp [upd]; done) | (simp [upd, Hh6.out]; done))] at c6_1
  have c7_1 := H1.out.hand (i := 7) (by omega)
  have f7_1 := H1.out.hfroz (v * 9 + 7)
  obtain ⟨b0c_1, b1c_1, b2c_1, b3c_1⟩ := H1.out.bead Hhc.out
  have fmc_1 := H1.out.bfroz Hhc.out 2
  clear h1 hp1
  have HQ0_2 : Hid (∀ m, Calls Try.prog 50 #[.pointer (some ⟨B, v * 9, none⟩)] (w1.drewN m) fun e w' => e = .returned (.bool false) ∧ ∃ m', w' = (w1.drewN m).drewN m') := fun m => found_any (H1.out.drewN m) (c := c) Hhc.out Hh6.out (b := false) Hhf.out
  have HR0_2 : Hid (∀ m k, Calls Try.prog 50 #[.pointer (some ⟨B, v * 9, none⟩)] ((w1.drewN m).drewN k) fun e w' => e = .returned (.bool false) ∧ ∃ m', w' = ((w1.drewN m).drewN k).drewN m') := fun m k => found_any ((H1.out.drewN m).drewN k) (c := c) Hhc.out Hh6.out (b := false) Hhf.out
  have HQ1_3 : Hid (∀ m, Calls Try.prog 51 #[.pointer (some ⟨B, v * 9, none⟩)] (w1.drewN m) fun e w' => e = .returned (I 2) ∧ ∃ m', w' = (w1.drewN m).drewN m') := fun m => kind_any (H1.out.drewN m)
  have HR1_3 : Hid (∀ m k, Calls Try.prog 51 #[.pointer (some ⟨B, v * 9, none⟩)] ((w1.drewN m).drewN k) fun e w' => e = .returned (I 2) ∧ ∃ m', w' = ((w1.drewN m).drewN k).drewN m') := fun m k => kind_any ((H1.out.drewN m).drewN k)
  go_wp2_with fail
  go_quiet ((first | (go_at_call 50; with_reducible exact Calls.quiet_of (HQ0_2.out _)) | (go_at_call 50; with_reducible exact Calls.quiet_of (HR0_2.out _ _)) | (go_at_call 51; with_reducible exact Calls.quiet_of (HQ1_3.out _)) | (go_at_call 51; with_reducible exact Calls.quiet_of (HR1_3.out _ _))))
  generalize hw2 : World.drewN w1 nq = w2
  have h2 := H1.out.drewN nq
  rw [hw2] at h2
  have hp2 := (JP.refl base w1).drewN nq
  rw [hw2] at hp2
  clear hw2
  have H2 := Lib.hid h2
  have HP2 : Hid (JP base w w2) := Lib.hid (by first | exact HP1.out.trans hp2 | exact (HP1.out.drewN _).trans hp2)
  have cb0_2 := (HE.out.h.keep HP2.out).cell
  have cb1_2 := (HE.out.l.keep HP2.out).cell
  have cb2_2 := (HE.out.o.keep HP2.out).cell
  have c5_2 := H2.out.hand (i := 5) (by omega)
  rw [show (hm) 5 = jp (ad p) from (by first | exact Hh5.out | (simp [upd]; done) | (simp [upd, Hh5.out]; done))] at c5_2
  have c6_2 := H2.out.hand (i := 6) (by omega)
  rw [show (hm) 6 = jp (ad c) from (by first | exact Hh6.out | (simp [upd]; done) | (simp [upd, Hh6.out]; done))] at c6_2
  have c7_2 := H2.out.hand (i := 7) (by omega)
  have f7_2 := H2.out.hfroz (v * 9 + 7)
  obtain ⟨b0c_2, b1c_2, b2c_2, b3c_2⟩ := H2.out.bead Hhc.out
  have fmc_2 := H2.out.bfroz Hhc.out 2
  clear h2 hp2
  go_wp2_with fail
  first | with_reducible refine (free_any H2.out (p := p) (c := c) Hhp.out Hhc.out Hh5.out Hh6.out).mono ?_ | with_reducible refine (free_any (H2.out.drewN _) (p := p) (c := c) Hhp.out Hhc.out Hh5.out Hh6.out).mono ?_ | with_reducible refine (free_any ((H2.out.drewN _).drewN _) (p := p) (c := c) Hhp.out Hhc.out Hh5.out Hh6.out).mono ?_
  rintro e w3 ⟨rfl, h3, hp3⟩
  have H3 := Lib.hid h3
  have HP3 : Hid (JP base w w3) := Lib.hid (by first | exact HP2.out.trans hp3 | exact (HP2.out.drewN _).trans hp3)
  have cb0_3 := (HE.out.h.keep HP3.out).cell
  have cb1_3 := (HE.out.l.keep HP3.out).cell
  have cb2_3 := (HE.out.o.keep HP3.out).cell
  have c7_3 := H3.out.hand (i := 7) (by omega)
  have f7_3 := H3.out.hfroz (v * 9 + 7)
  clear h3 hp3
  go_wp2_with fail
  first | with_reducible refine (end_any H3.out false).mono ?_ | with_reducible refine (end_any (H3.out.drewN _) false).mono ?_ | with_reducible refine (end_any ((H3.out.drewN _).drewN _) false).mono ?_
  rintro e w4 ⟨rfl, h4, hp4⟩
  have H4 := Lib.hid h4
  have HP4 : Hid (JP base w w4) := Lib.hid (by first | exact HP3.out.trans hp4 | exact (HP3.out.drewN _).trans hp4)
  have cb0_4 := (HE.out.h.keep HP4.out).cell
  have cb1_4 := (HE.out.l.keep HP4.out).cell
  have cb2_4 := (HE.out.o.keep HP4.out).cell
  have c7_4 := H4.out.hand (i := 7) (by omega)
  have f7_4 := H4.out.hfroz (v * 9 + 7)
  clear h4 hp4
  go_wp2
  go_end0
  first | exact ⟨rfl, H4.out, HP4.out⟩ | exact ⟨rfl, (H4.out.drewN _), (HP4.out.drewN _)⟩ | exact ⟨rfl, ((H4.out.drewN _).drewN _), ((HP4.out.drewN _).drewN _)⟩
end

end Go.Proofs.Ytfmdpmebllepeaa
