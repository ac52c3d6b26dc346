/-
  package hands: what changes the list without locks, function by function. Written by tools/gen_jclos.py.
-/
import Derived.Test.YtfmdpmebllepeaaJBegin
import Derived.Deep.QuietTactic
namespace Go.Proofs.Ytfmdpmebllepeaa
open Go.RowKit

section
variable {base B nh v : Nat} {kd K : Int} {ad : Nat → Nat} {s : Bs} {lk : Nat → Bool} {hs : Nat → Nat → Value} {hm : Nat → Value} {w : World}
set_option maxRecDepth 100000 in
set_option maxHeartbeats 4000000 in
theorem cM1_bad1 {gb ub hb ab cb lb p c : Nat} (h : ST base B nh v kd K ad s lk hs hm w) (he : EnvM w (.pointer (some ⟨B, v * 9, none⟩)) gb ub hb ab cb lb) (h5 : hm 5 = jp (ad p)) (h6 : hm 6 = jp (ad c)) (hp : p < s.sz) (hc : c < s.sz) (hmk : s.mrk p = true) (h3 : hm 3 = fWay 3) : Calls Try.prog 64 #[jp gb] w (RetB 3 base B nh v kd K ad s lk hs hm w) := by
  have H0 := Lib.hid h
  have HE := Lib.hid he
  have HP0 : Hid (JP base w w) := Lib.hid (JP.refl _ _)
  have Hh5 := Lib.hid h5
  have Hh6 := Lib.hid h6
  have Hhp := Lib.hid hp
  have Hhc := Lib.hid hc
  have Hhmk := Lib.hid hmk
  have Hh3 := Lib.hid h3
  have cb0_0 := (HE.out.g.keep HP0.out).cell
  have cb1_0 := (HE.out.u.keep HP0.out).cell
  have c7_0 := H0.out.hand (i := 7) (by omega)
  have f7_0 := H0.out.hfroz (v * 9 + 7)
  clear h he h5 h6 hp hc hmk h3
  go_enter Try.func64, Try.ntmps64
  go_wp2_with fail
  with_reducible refine (stands_f H0.out (p := p) Hhp.out Hh5.out Hhmk.out).mono ?_
  rintro e w1 ⟨rfl, m1, hw1⟩
  have h1 := H0.out.drewN m1
  rw [← hw1] at h1
  have hp1 := (JP.refl base w).drewN m1
  rw [← hw1] at hp1
  clear hw1
  have H1 := Lib.hid h1
  have HP1 : Hid (JP base w w1) := Lib.hid (by first | exact HP0.out.trans hp1 | exact (HP0.out.drewN _).trans hp1)
  have cb0_1 := (HE.out.g.keep HP1.out).cell
  have cb1_1 := (HE.out.u.keep HP1.out).cell
  have c7_1 := H1.out.hand (i := 7) (by omega)
  have f7_1 := H1.out.hfroz (v * 9 + 7)
  clear h1 hp1
  go_wp2_with fail
  first | with_reducible refine (beginM_any H1.out Hh3.out).mono ?_ | with_reducible refine (beginM_any (H1.out.drewN _) Hh3.out).mono ?_ | with_reducible refine (beginM_any ((H1.out.drewN _).drewN _) Hh3.out).mono ?_
  rintro e w8 ⟨f8, ⟨rfl, h8, hp8⟩, hn8⟩
  have H8 := Lib.hid h8
  have HP8 : Hid (JP base w w8) := Lib.hid (by first | exact HP1.out.trans hp8 | exact (HP1.out.drewN _).trans hp8 | exact ((HP1.out.drewN _).drewN _).trans hp8)
  have HN8 := Lib.hid hn8
  clear h8 hp8 hn8
  go_wp2
  go_end0
  exact ⟨f8, ⟨rfl, H8.out, HP8.out⟩, HN8.out⟩

set_option maxRecDepth 100000 in
set_option maxHeartbeats 4000000 in
theorem cM1_bad2 {gb ub hb ab cb lb p c : Nat} (h : ST base B nh v kd K ad s lk hs hm w) (he : EnvM w (.pointer (some ⟨B, v * 9, none⟩)) gb ub hb ab cb lb) (h5 : hm 5 = jp (ad p)) (h6 : hm 6 = jp (ad c)) (hp : p < s.sz) (hc : c < s.sz) (hpt : p ≠ s.tl) (hn : s.nx p < s.sz) (hmk : s.mrk p = false) (hq : decide (s.nx p = c) = false) (h3 : hm 3 = fWay 3) : Calls Try.prog 64 #[jp gb] w (RetB 3 base B nh v kd K ad s lk hs hm w) := by
  have H0 := Lib.hid h
  have HE := Lib.hid he
  have HP0 : Hid (JP base w w) := Lib.hid (JP.refl _ _)
  have Hh5 := Lib.hid h5
  have Hh6 := Lib.hid h6
  have Hhp := Lib.hid hp
  have Hhc := Lib.hid hc
  have Hhpt := Lib.hid hpt
  have Hhn := Lib.hid hn
  have Hhmk := Lib.hid hmk
  have Hhq := Lib.hid hq
  have Hh3 := Lib.hid h3
  have cb0_0 := (HE.out.g.keep HP0.out).cell
  have cb1_0 := (HE.out.u.keep HP0.out).cell
  have c7_0 := H0.out.hand (i := 7) (by omega)
  have f7_0 := H0.out.hfroz (v * 9 + 7)
  clear h he h5 h6 hp hc hpt hn hmk hq h3
  go_enter Try.func64, Try.ntmps64
  go_wp2_with fail
  with_reducible refine (stands_m H0.out (p := p) (c := c) Hhp.out Hhpt.out Hhn.out Hhc.out Hh5.out Hh6.out Hhmk.out (b := false) Hhq.out).mono ?_
  rintro e w1 ⟨rfl, m1, hw1⟩
  have h1 := H0.out.drewN m1
  rw [← hw1] at h1
  have hp1 := (JP.refl base w).drewN m1
  rw [← hw1] at hp1
  clear hw1
  have H1 := Lib.hid h1
  have HP1 : Hid (JP base w w1) := Lib.hid (by first | exact HP0.out.trans hp1 | exact (HP0.out.drewN _).trans hp1)
  have cb0_1 := (HE.out.g.keep HP1.out).cell
  have cb1_1 := (HE.out.u.keep HP1.out).cell
  have c7_1 := H1.out.hand (i := 7) (by omega)
  have f7_1 := H1.out.hfroz (v * 9 + 7)
  clear h1 hp1
  go_wp2_with fail
  first | with_reducible refine (beginM_any H1.out Hh3.out).mono ?_ | with_reducible refine (beginM_any (H1.out.drewN _) Hh3.out).mono ?_ | with_reducible refine (beginM_any ((H1.out.drewN _).drewN _) Hh3.out).mono ?_
  rintro e w8 ⟨f8, ⟨rfl, h8, hp8⟩, hn8⟩
  have H8 := Lib.hid h8
  have HP8 : Hid (JP base w w8) := Lib.hid (by first | exact HP1.out.trans hp8 | exact (HP1.out.drewN _).trans hp8 | exact ((HP1.out.drewN _).drewN _).trans hp8)
  have HN8 := Lib.hid hn8
  clear h8 hp8 hn8
  go_wp2
  go_end0
  exact ⟨f8, ⟨rfl, H8.out, HP8.out⟩, HN8.out⟩

set_option maxRecDepth 100000 in
set_option maxHeartbeats 4000000 in
theorem cM1_ok {gb ub hb ab cb lb p c : Nat} (h : ST base B nh v kd K ad s lk hs hm w) (he : EnvM w (.pointer (some ⟨B, v * 9, none⟩)) gb ub hb ab cb lb) (h5 : hm 5 = jp (ad p)) (h6 : hm 6 = jp (ad c)) (hp : p < s.sz) (hc : c < s.sz) (hpt : p ≠ s.tl) (hn : s.nx p < s.sz) (hmk : s.mrk p = false) (hq : decide (s.nx p = c) = true) (htl : s.tl < s.sz) (hnl : ∀ i, i < s.sz → i ≠ s.tl → s.nx i < s.sz) (hlk : lk s.sz = false) : Calls Try.prog 64 #[jp gb] w (fun e w' => ∃ g, RetJ base B nh v kd K (upd ad s.sz g) (s.insc p c K) lk hs (upd (upd hm 7 .nilFunc) 8 (.bool true)) w e w') := by
  have H0 := Lib.hid h
  have HE := Lib.hid he
  have HP0 : Hid (JP base w w) := Lib.hid (JP.refl _ _)
  have Hh5 := Lib.hid h5
  have Hh6 := Lib.hid h6
  have Hhp := Lib.hid hp
  have Hhc := Lib.hid hc
  have Hhpt := Lib.hid hpt
  have Hhn := Lib.hid hn
  have Hhmk := Lib.hid hmk
  have Hhq := Lib.hid hq
  have Hhtl := Lib.hid htl
  have Hhnl := Lib.hid hnl
  have Hhlk := Lib.hid hlk
  have cb0_0 := (HE.out.g.keep HP0.out).cell
  have cb1_0 := (HE.out.u.keep HP0.out).cell
  have c7_0 := H0.out.hand (i := 7) (by omega)
  have f7_0 := H0.out.hfroz (v * 9 + 7)
  clear h he h5 h6 hp hc hpt hn hmk hq htl hnl hlk
  go_enter Try.func64, Try.ntmps64
  go_wp2_with fail
  with_reducible refine (stands_m H0.out (p := p) (c := c) Hhp.out Hhpt.out Hhn.out Hhc.out Hh5.out Hh6.out Hhmk.out (b := true) Hhq.out).mono ?_
  rintro e w1 ⟨rfl, m1, hw1⟩
  have h1 := H0.out.drewN m1
  rw [← hw1] at h1
  have hp1 := (JP.refl base w).drewN m1
  rw [← hw1] at hp1
  clear hw1
  have H1 := Lib.hid h1
  have HP1 : Hid (JP base w w1) := Lib.hid (by first | exact HP0.out.trans hp1 | exact (HP0.out.drewN _).trans hp1)
  have cb0_1 := (HE.out.g.keep HP1.out).cell
  have cb1_1 := (HE.out.u.keep HP1.out).cell
  have c7_1 := H1.out.hand (i := 7) (by omega)
  have f7_1 := H1.out.hfroz (v * 9 + 7)
  clear h1 hp1
  go_wp2_with fail
  first | with_reducible refine (add_any H1.out (p := p) (c := c) Hhp.out Hhpt.out Hhc.out Hhtl.out Hhnl.out Hhlk.out Hh5.out Hh6.out).mono ?_ | with_reducible refine (add_any (H1.out.drewN _) (p := p) (c := c) Hhp.out Hhpt.out Hhc.out Hhtl.out Hhnl.out Hhlk.out Hh5.out Hh6.out).mono ?_ | with_reducible refine (add_any ((H1.out.drewN _).drewN _) (p := p) (c := c) Hhp.out Hhpt.out Hhc.out Hhtl.out Hhnl.out Hhlk.out Hh5.out Hh6.out).mono ?_
  rintro e w2 ⟨g, rfl, h2, hp2⟩
  have H2 := Lib.hid h2
  have HP2 : Hid (JP base w w2) := Lib.hid (by first | exact HP1.out.trans hp2 | exact (HP1.out.drewN _).trans hp2)
  have cb0_2 := (HE.out.g.keep HP2.out).cell
  have cb1_2 := (HE.out.u.keep HP2.out).cell
  have c7_2 := H2.out.hand (i := 7) (by omega)
  have f7_2 := H2.out.hfroz (v * 9 + 7)
  clear h2 hp2
  go_wp2_with fail
  first | with_reducible refine (end_any H2.out true).mono ?_ | with_reducible refine (end_any (H2.out.drewN _) true).mono ?_ | with_reducible refine (end_any ((H2.out.drewN _).drewN _) true).mono ?_
  rintro e w3 ⟨rfl, h3, hp3⟩
  have H3 := Lib.hid h3
  have HP3 : Hid (JP base w w3) := Lib.hid (by first | exact HP2.out.trans hp3 | exact (HP2.out.drewN _).trans hp3)
  have cb0_3 := (HE.out.g.keep HP3.out).cell
  have cb1_3 := (HE.out.u.keep HP3.out).cell
  have c7_3 := H3.out.hand (i := 7) (by omega)
  have f7_3 := H3.out.hfroz (v * 9 + 7)
  clear h3 hp3
  go_wp2
  go_end0
  first | exact ⟨g, rfl, H3.out, HP3.out⟩ | exact ⟨g, rfl, (H3.out.drewN _), (HP3.out.drewN _)⟩ | exact ⟨g, rfl, ((H3.out.drewN _).drewN _), ((HP3.out.drewN _).drewN _)⟩

set_option maxRecDepth 100000 in
set_option maxHeartbeats 4000000 in
theorem cM2_bad1 {gb ub hb ab cb lb p c : Nat} (h : ST base B nh v kd K ad s lk hs hm w) (he : EnvM w (.pointer (some ⟨B, v * 9, none⟩)) gb ub hb ab cb lb) (h5 : hm 5 = jp (ad p)) (h6 : hm 6 = jp (ad c)) (hp : p < s.sz) (hc : c < s.sz) (hmk : s.mrk p = true) : Calls Try.prog 65 #[jp gb] w (RetJ base B nh v kd K ad s lk hs (upd (upd hm 7 .nilFunc) 8 (.bool true)) w) := by
  have H0 := Lib.hid h
  have HE := Lib.hid he
  have HP0 : Hid (JP base w w) := Lib.hid (JP.refl _ _)
  have Hh5 := Lib.hid h5
  have Hh6 := Lib.hid h6
  have Hhp := Lib.hid hp
  have Hhc := Lib.hid hc
  have Hhmk := Lib.hid hmk
  have cb0_0 := (HE.out.g.keep HP0.out).cell
  have cb1_0 := (HE.out.u.keep HP0.out).cell
  have c7_0 := H0.out.hand (i := 7) (by omega)
  have f7_0 := H0.out.hfroz (v * 9 + 7)
  clear h he h5 h6 hp hc hmk
  go_enter Try.func65, Try.ntmps65
  go_wp2_with fail
  with_reducible refine (stands_f H0.out (p := p) Hhp.out Hh5.out Hhmk.out).mono ?_
  rintro e w1 ⟨rfl, m1, hw1⟩
  have h1 := H0.out.drewN m1
  rw [← hw1] at h1
  have hp1 := (JP.refl base w).drewN m1
  rw [← hw1] at hp1
  clear hw1
  have H1 := Lib.hid h1
  have HP1 : Hid (JP base w w1) := Lib.hid (by first | exact HP0.out.trans hp1 | exact (HP0.out.drewN _).trans hp1)
  have cb0_1 := (HE.out.g.keep HP1.out).cell
  have cb1_1 := (HE.out.u.keep HP1.out).cell
  have c7_1 := H1.out.hand (i := 7) (by omega)
  have f7_1 := H1.out.hfroz (v * 9 + 7)
  clear h1 hp1
  go_wp2_with fail
  first | with_reducible refine (end_any H1.out true).mono ?_ | with_reducible refine (end_any (H1.out.drewN _) true).mono ?_ | with_reducible refine (end_any ((H1.out.drewN _).drewN _) true).mono ?_
  rintro e w2 ⟨rfl, h2, hp2⟩
  have H2 := Lib.hid h2
  have HP2 : Hid (JP base w w2) := Lib.hid (by first | exact HP1.out.trans hp2 | exact (HP1.out.drewN _).trans hp2)
  have cb0_2 := (HE.out.g.keep HP2.out).cell
  have cb1_2 := (HE.out.u.keep HP2.out).cell
  have c7_2 := H2.out.hand (i := 7) (by omega)
  have f7_2 := H2.out.hfroz (v * 9 + 7)
  clear h2 hp2
  go_wp2
  go_end0
  first | exact ⟨rfl, H2.out, HP2.out⟩ | exact ⟨rfl, (H2.out.drewN _), (HP2.out.drewN _)⟩ | exact ⟨rfl, ((H2.out.drewN _).drewN _), ((HP2.out.drewN _).drewN _)⟩

set_option maxRecDepth 100000 in
set_option maxHeartbeats 4000000 in
theorem cM2_bad2 {gb ub hb ab cb lb p c : Nat} (h : ST base B nh v kd K ad s lk hs hm w) (he : EnvM w (.pointer (some ⟨B, v * 9, none⟩)) gb ub hb ab cb lb) (h5 : hm 5 = jp (ad p)) (h6 : hm 6 = jp (ad c)) (hp : p < s.sz) (hc : c < s.sz) (hpt : p ≠ s.tl) (hn : s.nx p < s.sz) (hmk : s.mrk p = false) (hq : decide (s.nx p = c) = false) : Calls Try.prog 65 #[jp gb] w (RetJ base B nh v kd K ad s lk hs (upd (upd hm 7 .nilFunc) 8 (.bool true)) w) := by
  have H0 := Lib.hid h
  have HE := Lib.hid he
  have HP0 : Hid (JP base w w) := Lib.hid (JP.refl _ _)
  have Hh5 := Lib.hid h5
  have Hh6 := Lib.hid h6
  have Hhp := Lib.hid hp
  have Hhc := Lib.hid hc
  have Hhpt := Lib.hid hpt
  have Hhn := Lib.hid hn
  have Hhmk := Lib.hid hmk
  have Hhq := Lib.hid hq
  have cb0_0 := (HE.out.g.keep HP0.out).cell
  have cb1_0 := (HE.out.u.keep HP0.out).cell
  have c7_0 := H0.out.hand (i := 7) (by omega)
  have f7_0 := H0.out.hfroz (v * 9 + 7)
  clear h he h5 h6 hp hc hpt hn hmk hq
  go_enter Try.func65, Try.ntmps65
  go_wp2_with fail
  with_reducible refine (stands_m H0.out (p := p) (c := c) Hhp.out Hhpt.out Hhn.out Hhc.out Hh5.out Hh6.out Hhmk.out (b := false) Hhq.out).mono ?_
  rintro e w1 ⟨rfl, m1, hw1⟩
  have h1 := H0.out.drewN m1
  rw [← hw1] at h1
  have hp1 := (JP.refl base w).drewN m1
  rw [← hw1] at hp1
  clear hw1
  have H1 := Lib.hid h1
  have HP1 : Hid (JP base w w1) := Lib.hid (by first | exact HP0.out.trans hp1 | exact (HP0.out.drewN _).trans hp1)
  have cb0_1 := (HE.out.g.keep HP1.out).cell
  have cb1_1 := (HE.out.u.keep HP1.out).cell
  have c7_1 := H1.out.hand (i := 7) (by omega)
  have f7_1 := H1.out.hfroz (v * 9 + 7)
  clear h1 hp1
  go_wp2_with fail
  first | with_reducible refine (end_any H1.out true).mono ?_ | with_reducible refine (end_any (H1.out.drewN _) true).mono ?_ | with_reducible refine (end_any ((H1.out.drewN _).drewN _) true).mono ?_
  rintro e w2 ⟨rfl, h2, hp2⟩
  have H2 := Lib.hid h2
  have HP2 : Hid (JP base w w2) := Lib.hid (by first | exact HP1.out.trans hp2 | exact (HP1.out.drewN _).trans hp2)
  have cb0_2 := (HE.out.g.keep HP2.out).cell
  have cb1_2 := (HE.out.u.keep HP2.out).cell
  have c7_2 := H2.out.hand (i := 7) (by omega)
  have f7_2 := H2.out.hfroz (v * 9 + 7)
  clear h2 hp2
  go_wp2
  go_end0
  first | exact ⟨rfl, H2.out, HP2.out⟩ | exact ⟨rfl, (H2.out.drewN _), (HP2.out.drewN _)⟩ | exact ⟨rfl, ((H2.out.drewN _).drewN _), ((HP2.out.drewN _).drewN _)⟩

set_option maxRecDepth 100000 in
set_option maxHeartbeats 4000000 in
theorem cM2_ok {gb ub hb ab cb lb p c : Nat} (h : ST base B nh v kd K ad s lk hs hm w) (he : EnvM w (.pointer (some ⟨B, v * 9, none⟩)) gb ub hb ab cb lb) (h5 : hm 5 = jp (ad p)) (h6 : hm 6 = jp (ad c)) (hp : p < s.sz) (hc : c < s.sz) (hpt : p ≠ s.tl) (hn : s.nx p < s.sz) (hmk : s.mrk p = false) (hq : decide (s.nx p = c) = true) (hct : c ≠ s.tl) : Calls Try.prog 65 #[jp gb] w (RetJ base B nh v kd K ad (s.cut p c) lk hs (upd (upd hm 7 .nilFunc) 8 (.bool true)) w) := by
  have H0 := Lib.hid h
  have HE := Lib.hid he
  have HP0 : Hid (JP base w w) := Lib.hid (JP.refl _ _)
  have Hh5 := Lib.hid h5
  have Hh6 := Lib.hid h6
  have Hhp := Lib.hid hp
  have Hhc := Lib.hid hc
  have Hhpt := Lib.hid hpt
  have Hhn := Lib.hid hn
  have Hhmk := Lib.hid hmk
  have Hhq := Lib.hid hq
  have Hhct := Lib.hid hct
  have cb0_0 := (HE.out.g.keep HP0.out).cell
  have cb1_0 := (HE.out.u.keep HP0.out).cell
  have c7_0 := H0.out.hand (i := 7) (by omega)
  have f7_0 := H0.out.hfroz (v * 9 + 7)
  clear h he h5 h6 hp hc hpt hn hmk hq hct
  go_enter Try.func65, Try.ntmps65
  go_wp2_with fail
  with_reducible refine (stands_m H0.out (p := p) (c := c) Hhp.out Hhpt.out Hhn.out Hhc.out Hh5.out Hh6.out Hhmk.out (b := true) Hhq.out).mono ?_
  rintro e w1 ⟨rfl, m1, hw1⟩
  have h1 := H0.out.drewN m1
  rw [← hw1] at h1
  have hp1 := (JP.refl base w).drewN m1
  rw [← hw1] at hp1
  clear hw1
  have H1 := Lib.hid h1
  have HP1 : Hid (JP base w w1) := Lib.hid (by first | exact HP0.out.trans hp1 | exact (HP0.out.drewN _).trans hp1)
  have cb0_1 := (HE.out.g.keep HP1.out).cell
  have cb1_1 := (HE.out.u.keep HP1.out).cell
  have c7_1 := H1.out.hand (i := 7) (by omega)
  have f7_1 := H1.out.hfroz (v * 9 + 7)
  clear h1 hp1
  go_wp2_with fail
  first | with_reducible refine (unlink_any H1.out (p := p) (c := c) Hhp.out Hhpt.out Hhc.out Hhct.out Hh5.out Hh6.out).mono ?_ | with_reducible refine (unlink_any (H1.out.drewN _) (p := p) (c := c) Hhp.out Hhpt.out Hhc.out Hhct.out Hh5.out Hh6.out).mono ?_ | with_reducible refine (unlink_any ((H1.out.drewN _).drewN _) (p := p) (c := c) Hhp.out Hhpt.out Hhc.out Hhct.out Hh5.out Hh6.out).mono ?_
  rintro e w2 ⟨rfl, h2, hp2⟩
  have H2 := Lib.hid h2
  have HP2 : Hid (JP base w w2) := Lib.hid (by first | exact HP1.out.trans hp2 | exact (HP1.out.drewN _).trans hp2)
  have cb0_2 := (HE.out.g.keep HP2.out).cell
  have cb1_2 := (HE.out.u.keep HP2.out).cell
  have c7_2 := H2.out.hand (i := 7) (by omega)
  have f7_2 := H2.out.hfroz (v * 9 + 7)
  clear h2 hp2
  go_wp2_with fail
  first | with_reducible refine (end_any H2.out true).mono ?_ | with_reducible refine (end_any (H2.out.drewN _) true).mono ?_ | with_reducible refine (end_any ((H2.out.drewN _).drewN _) true).mono ?_
  rintro e w3 ⟨rfl, h3, hp3⟩
  have H3 := Lib.hid h3
  have HP3 : Hid (JP base w w3) := Lib.hid (by first | exact HP2.out.trans hp3 | exact (HP2.out.drewN _).trans hp3)
  have cb0_3 := (HE.out.g.keep HP3.out).cell
  have cb1_3 := (HE.out.u.keep HP3.out).cell
  have c7_3 := H3.out.hand (i := 7) (by omega)
  have f7_3 := H3.out.hfroz (v * 9 + 7)
  clear h3 hp3
  go_wp2
  go_end0
  first | exact ⟨rfl, H3.out, HP3.out⟩ | exact ⟨rfl, (H3.out.drewN _), (HP3.out.drewN _)⟩ | exact ⟨rfl, ((H3.out.drewN _).drewN _), ((HP3.out.drewN _).drewN _)⟩

set_option maxRecDepth 100000 in
set_option maxHeartbeats 4000000 in
theorem cM3_bad {gb ub hb ab cb lb c : Nat} (h : ST base B nh v kd K ad s lk hs hm w) (he : EnvM w (.pointer (some ⟨B, v * 9, none⟩)) gb ub hb ab cb lb) (h6 : hm 6 = jp (ad c)) (hc : c < s.sz) (hmc : s.mrk c = true) (h3 : hm 3 = fWay 3) : Calls Try.prog 66 #[jp gb, jp ub] w (RetB 3 base B nh v kd K ad s lk hs hm w) := by
  have H0 := Lib.hid h
  have HE := Lib.hid he
  have HP0 : Hid (JP base w w) := Lib.hid (JP.refl _ _)
  have Hh6 := Lib.hid h6
  have Hhc := Lib.hid hc
  have Hhmc := Lib.hid hmc
  have Hh3 := Lib.hid h3
  have cb0_0 := (HE.out.g.keep HP0.out).cell
  have cb1_0 := (HE.out.u.keep HP0.out).cell
  have c6_0 := H0.out.hand (i := 6) (by omega)
  rw [show (hm) 6 = jp (ad c) from (by first | exact Hh6.out | (simp [upd]; done) | (simp [upd, Hh6.out]; done))] at c6_0
  have c7_0 := H0.out.hand (i := 7) (by omega)
  have f7_0 := H0.out.hfroz (v * 9 + 7)
  obtain ⟨b0c_0, b1c_0, b2c_0, b3c_0⟩ := H0.out.bead Hhc.out
  rw [Hhmc.out] at b2c_0
  have fmc_0 := H0.out.bfroz Hhc.out 2
  clear h he h6 hc hmc h3
  go_enter Try.func66, Try.ntmps66
  go_wp2_with fail
  first | with_reducible refine (beginM_any H0.out Hh3.out).mono ?_ | with_reducible refine (beginM_any (H0.out.drewN _) Hh3.out).mono ?_ | with_reducible refine (beginM_any ((H0.out.drewN _).drewN _) Hh3.out).mono ?_
  rintro e w8 ⟨f8, ⟨rfl, h8, hp8⟩, hn8⟩
  have H8 := Lib.hid h8
  have HP8 : Hid (JP base w w8) := Lib.hid (by first | exact HP0.out.trans hp8 | exact (HP0.out.drewN _).trans hp8 | exact ((HP0.out.drewN _).drewN _).trans hp8)
  have HN8 := Lib.hid hn8
  clear h8 hp8 hn8
  go_wp2
  go_end0
  exact ⟨f8, ⟨rfl, H8.out, HP8.out⟩, HN8.out⟩

set_option maxRecDepth 100000 in
set_option maxHeartbeats 4000000 in
theorem cM3_ok {gb ub hb ab cb lb c : Nat} (h : ST base B nh v kd K ad s lk hs hm w) (he : EnvM w (.pointer (some ⟨B, v * 9, none⟩)) gb ub hb ab cb lb) (h6 : hm 6 = jp (ad c)) (hc : c < s.sz) (hmc : s.mrk c = false) : Calls Try.prog 66 #[jp gb, jp ub] w (RetJ base B nh v kd K ad (s.mark c) lk hs (upd hm 7 (fM2 gb)) w) := by
  have H0 := Lib.hid h
  have HE := Lib.hid he
  have HP0 : Hid (JP base w w) := Lib.hid (JP.refl _ _)
  have Hh6 := Lib.hid h6
  have Hhc := Lib.hid hc
  have Hhmc := Lib.hid hmc
  have cb0_0 := (HE.out.g.keep HP0.out).cell
  have cb1_0 := (HE.out.u.keep HP0.out).cell
  have c6_0 := H0.out.hand (i := 6) (by omega)
  rw [show (hm) 6 = jp (ad c) from (by first | exact Hh6.out | (simp [upd]; done) | (simp [upd, Hh6.out]; done))] at c6_0
  have c7_0 := H0.out.hand (i := 7) (by omega)
  have f7_0 := H0.out.hfroz (v * 9 + 7)
  obtain ⟨b0c_0, b1c_0, b2c_0, b3c_0⟩ := H0.out.bead Hhc.out
  rw [Hhmc.out] at b2c_0
  have fmc_0 := H0.out.bfroz Hhc.out 2
  clear h he h6 hc hmc
  go_enter Try.func66, Try.ntmps66
  go_wp2
  go_end0
  first | exact ⟨rfl, (H0.out.mark (x := c) Hhc.out).fld (i := 7) (by omega) (by omega) _, (HP0.out.trans (H0.out.js.jp_node (x := c) Hhc.out _ _)).trans ((H0.out.mark (x := c) Hhc.out).js.jp_fld _ _)⟩ | exact ⟨rfl, ((H0.out.drewN _).mark (x := c) Hhc.out).fld (i := 7) (by omega) (by omega) _, ((HP0.out.drewN _).trans ((H0.out.drewN _).js.jp_node (x := c) Hhc.out _ _)).trans (((H0.out.drewN _).mark (x := c) Hhc.out).js.jp_fld _ _)⟩ | exact ⟨rfl, (((H0.out.drewN _).drewN _).mark (x := c) Hhc.out).fld (i := 7) (by omega) (by omega) _, (((HP0.out.drewN _).drewN _).trans (((H0.out.drewN _).drewN _).js.jp_node (x := c) Hhc.out _ _)).trans ((((H0.out.drewN _).drewN _).mark (x := c) Hhc.out).js.jp_fld _ _)⟩

set_option maxRecDepth 100000 in
set_option maxHeartbeats 4000000 in
theorem cN1 {gb hb ab cb lb p c : Nat} (h : ST base B nh v kd K ad s lk hs hm w) (he : EnvN w (.pointer (some ⟨B, v * 9, none⟩)) gb hb ab cb lb) (h5 : hm 5 = jp (ad p)) (h6 : hm 6 = jp (ad c)) (hp : p < s.sz) (hc : c < s.sz) (hpt : p ≠ s.tl) (htl : s.tl < s.sz) (hnl : ∀ i, i < s.sz → i ≠ s.tl → s.nx i < s.sz) (hlk : lk s.sz = false) : Calls Try.prog 68 #[jp gb] w (fun e w' => ∃ g, RetJ base B nh v kd K (upd ad s.sz g) (s.insc p c K) lk hs (upd (upd hm 7 .nilFunc) 8 (.bool true)) w e w') := by
  have H0 := Lib.hid h
  have HE := Lib.hid he
  have HP0 : Hid (JP base w w) := Lib.hid (JP.refl _ _)
  have Hh5 := Lib.hid h5
  have Hh6 := Lib.hid h6
  have Hhp := Lib.hid hp
  have Hhc := Lib.hid hc
  have Hhpt := Lib.hid hpt
  have Hhtl := Lib.hid htl
  have Hhnl := Lib.hid hnl
  have Hhlk := Lib.hid hlk
  have cb0_0 := (HE.out.g.keep HP0.out).cell
  have c7_0 := H0.out.hand (i := 7) (by omega)
  have f7_0 := H0.out.hfroz (v * 9 + 7)
  clear h he h5 h6 hp hc hpt htl hnl hlk
  go_enter Try.func68, Try.ntmps68
  go_wp2_with fail
  first | with_reducible refine (add_any H0.out (p := p) (c := c) Hhp.out Hhpt.out Hhc.out Hhtl.out Hhnl.out Hhlk.out Hh5.out Hh6.out).mono ?_ | with_reducible refine (add_any (H0.out.drewN _) (p := p) (c := c) Hhp.out Hhpt.out Hhc.out Hhtl.out Hhnl.out Hhlk.out Hh5.out Hh6.out).mono ?_ | with_reducible refine (add_any ((H0.out.drewN _).drewN _) (p := p) (c := c) Hhp.out Hhpt.out Hhc.out Hhtl.out Hhnl.out Hhlk.out Hh5.out Hh6.out).mono ?_
  rintro e w1 ⟨g, rfl, h1, hp1⟩
  have H1 := Lib.hid h1
  have HP1 : Hid (JP base w w1) := Lib.hid (by first | exact HP0.out.trans hp1 | exact (HP0.out.drewN _).trans hp1)
  have cb0_1 := (HE.out.g.keep HP1.out).cell
  have c7_1 := H1.out.hand (i := 7) (by omega)
  have f7_1 := H1.out.hfroz (v * 9 + 7)
  clear h1 hp1
  go_wp2_with fail
  first | with_reducible refine (end_any H1.out true).mono ?_ | with_reducible refine (end_any (H1.out.drewN _) true).mono ?_ | with_reducible refine (end_any ((H1.out.drewN _).drewN _) true).mono ?_
  rintro e w2 ⟨rfl, h2, hp2⟩
  have H2 := Lib.hid h2
  have HP2 : Hid (JP base w w2) := Lib.hid (by first | exact HP1.out.trans hp2 | exact (HP1.out.drewN _).trans hp2)
  have cb0_2 := (HE.out.g.keep HP2.out).cell
  have c7_2 := H2.out.hand (i := 7) (by omega)
  have f7_2 := H2.out.hfroz (v * 9 + 7)
  clear h2 hp2
  go_wp2
  go_end0
  first | exact ⟨g, rfl, H2.out, HP2.out⟩ | exact ⟨g, rfl, (H2.out.drewN _), (HP2.out.drewN _)⟩ | exact ⟨g, rfl, ((H2.out.drewN _).drewN _), ((HP2.out.drewN _).drewN _)⟩

set_option maxRecDepth 100000 in
set_option maxHeartbeats 4000000 in
theorem cN2 {gb hb ab cb lb p c : Nat} (h : ST base B nh v kd K ad s lk hs hm w) (he : EnvN w (.pointer (some ⟨B, v * 9, none⟩)) gb hb ab cb lb) (h5 : hm 5 = jp (ad p)) (h6 : hm 6 = jp (ad c)) (hp : p < s.sz) (hc : c < s.sz) (hpt : p ≠ s.tl) (hct : c ≠ s.tl) : Calls Try.prog 69 #[jp gb] w (RetJ base B nh v kd K ad (s.cut p c) lk hs (upd (upd hm 7 .nilFunc) 8 (.bool true)) w) := by
  have H0 := Lib.hid h
  have HE := Lib.hid he
  have HP0 : Hid (JP base w w) := Lib.hid (JP.refl _ _)
  have Hh5 := Lib.hid h5
  have Hh6 := Lib.hid h6
  have Hhp := Lib.hid hp
  have Hhc := Lib.hid hc
  have Hhpt := Lib.hid hpt
  have Hhct := Lib.hid hct
  have cb0_0 := (HE.out.g.keep HP0.out).cell
  have c7_0 := H0.out.hand (i := 7) (by omega)
  have f7_0 := H0.out.hfroz (v * 9 + 7)
  clear h he h5 h6 hp hc hpt hct
  go_enter Try.func69, Try.ntmps69
  go_wp2_with fail
  first | with_reducible refine (unlink_any H0.out (p := p) (c := c) Hhp.out Hhpt.out Hhc.out Hhct.out Hh5.out Hh6.out).mono ?_ | with_reducible refine (unlink_any (H0.out.drewN _) (p := p) (c := c) Hhp.out Hhpt.out Hhc.out Hhct.out Hh5.out Hh6.out).mono ?_ | with_reducible refine (unlink_any ((H0.out.drewN _).drewN _) (p := p) (c := c) Hhp.out Hhpt.out Hhc.out Hhct.out Hh5.out Hh6.out).mono ?_
  rintro e w1 ⟨rfl, h1, hp1⟩
  have H1 := Lib.hid h1
  have HP1 : Hid (JP base w w1) := Lib.hid (by first | exact HP0.out.trans hp1 | exact (HP0.out.drewN _).trans hp1)
  have cb0_1 := (HE.out.g.keep HP1.out).cell
  have c7_1 := H1.out.hand (i := 7) (by omega)
  have f7_1 := H1.out.hfroz (v * 9 + 7)
  clear h1 hp1
  go_wp2_with fail
  first | with_reducible refine (end_any H1.out true).mono ?_ | with_reducible refine (end_any (H1.out.drewN _) true).mono ?_ | with_reducible refine (end_any ((H1.out.drewN _).drewN _) true).mono ?_
  rintro e w2 ⟨rfl, h2, hp2⟩
  have H2 := Lib.hid h2
  have HP2 : Hid (JP base w w2) := Lib.hid (by first | exact HP1.out.trans hp2 | exact (HP1.out.drewN _).trans hp2)
  have cb0_2 := (HE.out.g.keep HP2.out).cell
  have c7_2 := H2.out.hand (i := 7) (by omega)
  have f7_2 := H2.out.hfroz (v * 9 + 7)
  clear h2 hp2
  go_wp2
  go_end0
  first | exact ⟨rfl, H2.out, HP2.out⟩ | exact ⟨rfl, (H2.out.drewN _), (HP2.out.drewN _)⟩ | exact ⟨rfl, ((H2.out.drewN _).drewN _), ((HP2.out.drewN _).drewN _)⟩
end

end Go.Proofs.Ytfmdpmebllepeaa
