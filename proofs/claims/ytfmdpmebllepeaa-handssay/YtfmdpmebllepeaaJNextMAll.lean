/-
  Joined texts: YtfmdpmebllepeaaJCM, YtfmdpmebllepeaaJCW, YtfmdpmebllepeaaJNextM.
-/
import Derived.Test.YtfmdpmebllepeaaJRetCAll
import Derived.Deep.QuietTactic
/-
  package hands: what changes the list without locks, function by function. Written by tools/gen_jclos.py.
-/
namespace Go.Proofs.Ytfmdpmebllepeaa
open Go.RowKit

section
variable {base B nh v : Nat} {kd K : Int} {ad : Nat → Nat} {s : Bs} {lk : Nat → Bool} {hs : Nat → Nat → Value} {hm : Nat → Value} {w : World}
set_option maxRecDepth 100000 in
set_option maxHeartbeats 4000000 in
theorem cM1_bad1 {gb ub hb ab cb lb p c : Nat} (h : ST base B nh v kd K ad s lk hs hm w) (he : EnvM w (.pointer (some ⟨B, v * 9, none⟩)) gb ub hb ab cb lb) (h5 : hm 5 = jp (ad p)) (h6 : hm 6 = jp (ad c)) (hp : p < s.sz) (hc : c < s.sz) (hmk : s.mrk p = true) (h3 : hm 3 = fWay 3) : Calls Try.prog 64 #[jp gb] w (RetB 3 base B nh v kd K ad s lk hs hm w) := by
  have H0 := Lib.hid h
  have HE := Lib.hid he
  have HP0 : Hid (JP base w w) := Lib.hid (JP.refl _ _)
  have Hh5 := Lib.hid h5
  have Hh6 := Lib.hid h6
  have Hhp := Lib.hid hp
  have Hhc := Lib.hid hc
  have Hhmk := Lib.hid hmk
  have Hh3 := Lib.hid h3
  have cb0_0 := (HE.out.g.keep HP0.out).cell
  have cb1_0 := (HE.out.u.keep HP0.out).cell
  have c7_0 := H0.out.hand (i := 7) (by omega)
  have f7_0 := H0.out.hfroz (v * 9 + 7)
  clear h he h5 h6 hp hc hmk h3
  go_enter Try.func64, Try.ntmps64
  go_wp2_with fail
  with_reducible refine (stands_f H0.out (p := p) Hhp.out Hh5.out Hhmk.out).mono ?_
  rintro e w1 ⟨rfl, m1, hw1⟩
  have h1 := H0.out.drewN m1
  rw [← hw1] at h1
  have hp1 := (JP.refl base w).drewN m1
  rw [← hw1] at hp1
  clear hw1
  have H1 := Lib.hid h1
  have HP1 : Hid (JP base w w1) := Lib.hid (by first | exact HP0.out.trans hp1 | exact (HP0.out.drewN _).trans hp1)
  have cb0_1 := (HE.out.g.keep HP1.out).cell
  have cb1_1 := (HE.out.u.keep HP1.out).cell
  have c7_1 := H1.out.hand (i := 7) (by omega)
  have f7_1 := H1.out.hfroz (v * 9 + 7)
  clear h1 hp1
  go_wp2_with fail
  first | with_reducible refine (beginM_any H1.out Hh3.out).mono ?_ | with_reducible refine (beginM_any (H1.out.drewN _) Hh3.out).mono ?_ | with_reducible refine (beginM_any ((H1.out.drewN _).drewN _) Hh3.out).mono ?_
  rintro e w8 ⟨f8, ⟨rfl, h8, hp8⟩, hn8⟩
  have H8 := Lib.hid h8
  have HP8 : Hid (JP base w w8) := Lib.hid (by first | exact HP1.out.trans hp8 | exact (HP1.out.drewN _).trans hp8 | exact ((HP1.out.drewN _).drewN _).trans hp8)
  have HN8 := Lib.hid hn8
  clear h8 hp8 hn8
  go_wp2
  go_end0
  exact ⟨f8, ⟨rfl, H8.out, HP8.out⟩, HN8.out⟩

set_option maxRecDepth 100000 in
set_option maxHeartbeats 4000000 in
theorem cM1_bad2 {gb ub hb ab cb lb p c : Nat} (h : ST base B nh v kd K ad s lk hs hm w) (he : EnvM w (.pointer (some ⟨B, v * 9, none⟩)) gb ub hb ab cb lb) (h5 : hm 5 = jp (ad p)) (h6 : hm 6 = jp (ad c)) (hp : p < s.sz) (hc : c < s.sz) (hpt : p ≠ s.tl) (hn : s.nx p < s.sz) (hmk : s.mrk p = false) (hq : decide (s.nx p = c) = false) (h3 : hm 3 = fWay 3) : Calls Try.prog 64 #[jp gb] w (RetB 3 base B nh v kd K ad s lk hs hm w) := by
  have H0 := Lib.hid h
  have HE := Lib.hid he
  have HP0 : Hid (JP base w w) := Lib.hid (JP.refl _ _)
  have Hh5 := Lib.hid h5
  have Hh6 := Lib.hid h6
  have Hhp := Lib.hid hp
  have Hhc := Lib.hid hc
  have Hhpt := Lib.hid hpt
  have Hhn := Lib.hid hn
  have Hhmk := Lib.hid hmk
  have Hhq := Lib.hid hq
  have Hh3 := Lib.hid h3
  have cb0_0 := (HE.out.g.keep HP0.out).cell
  have cb1_0 := (HE.out.u.keep HP0.out).cell
  have c7_0 := H0.out.hand (i := 7) (by omega)
  have f7_0 := H0.out.hfroz (v * 9 + 7)
  clear h he h5 h6 hp hc hpt hn hmk hq h3
  go_enter Try.func64, Try.ntmps64
  go_wp2_with fail
  with_reducible refine (stands_m H0.out (p := p) (c := c) Hhp.out Hhpt.out Hhn.out Hhc.out Hh5.out Hh6.out Hhmk.out (b := false) Hhq.out).mono ?_
  rintro e w1 ⟨rfl, m1, hw1⟩
  have h1 := H0.out.drewN m1
  rw [← hw1] at h1
  have hp1 := (JP.refl base w).drewN m1
  rw [← hw1] at hp1
  clear hw1
  have H1 := Lib.hid h1
  have HP1 : Hid (JP base w w1) := Lib.hid (by first | exact HP0.out.trans hp1 | exact (HP0.out.drewN _).trans hp1)
  have cb0_1 := (HE.out.g.keep HP1.out).cell
  have cb1_1 := (HE.out.u.keep HP1.out).cell
  have c7_1 := H1.out.hand (i := 7) (by omega)
  have f7_1 := H1.out.hfroz (v * 9 + 7)
  clear h1 hp1
  go_wp2_with fail
  first | with_reducible refine (beginM_any H1.out Hh3.out).mono ?_ | with_reducible refine (beginM_any (H1.out.drewN _) Hh3.out).mono ?_ | with_reducible refine (beginM_any ((H1.out.drewN _).drewN _) Hh3.out).mono ?_
  rintro e w8 ⟨f8, ⟨rfl, h8, hp8⟩, hn8⟩
  have H8 := Lib.hid h8
  have HP8 : Hid (JP base w w8) := Lib.hid (by first | exact HP1.out.trans hp8 | exact (HP1.out.drewN _).trans hp8 | exact ((HP1.out.drewN _).drewN _).trans hp8)
  have HN8 := Lib.hid hn8
  clear h8 hp8 hn8
  go_wp2
  go_end0
  exact ⟨f8, ⟨rfl, H8.out, HP8.out⟩, HN8.out⟩

set_option maxRecDepth 100000 in
set_option maxHeartbeats 4000000 in
theorem cM1_ok {gb ub hb ab cb lb p c : Nat} (h : ST base B nh v kd K ad s lk hs hm w) (he : EnvM w (.pointer (some ⟨B, v * 9, none⟩)) gb ub hb ab cb lb) (h5 : hm 5 = jp (ad p)) (h6 : hm 6 = jp (ad c)) (hp : p < s.sz) (hc : c < s.sz) (hpt : p ≠ s.tl) (hn : s.nx p < s.sz) (hmk : s.mrk p = false) (hq : decide (s.nx p = c) = true) (htl : s.tl < s.sz) (hnl : ∀ i, i < s.sz → i ≠ s.tl → s.nx i < s.sz) (hlk : lk s.sz = false) : Calls Try.prog 64 #[jp gb] w (fun e w' => ∃ g, RetJ base B nh v kd K (upd ad s.sz g) (s.insc p c K) lk hs (upd (upd hm 7 .nilFunc) 8 (.bool true)) w e w') := by
  have H0 := Lib.hid h
  have HE := Lib.hid he
  have HP0 : Hid (JP base w w) := Lib.hid (JP.refl _ _)
  have Hh5 := Lib.hid h5
  have Hh6 := Lib.hid h6
  have Hhp := Lib.hid hp
  have Hhc := Lib.hid hc
  have Hhpt := Lib.hid hpt
  have Hhn := Lib.hid hn
  have Hhmk := Lib.hid hmk
  have Hhq := Lib.hid hq
  have Hhtl := Lib.hid htl
  have Hhnl := Lib.hid hnl
  have Hhlk := Lib.hid hlk
  have cb0_0 := (HE.out.g.keep HP0.out).cell
  have cb1_0 := (HE.out.u.keep HP0.out).cell
  have c7_0 := H0.out.hand (i := 7) (by omega)
  have f7_0 := H0.out.hfroz (v * 9 + 7)
  clear h he h5 h6 hp hc hpt hn hmk hq htl hnl hlk
  go_enter Try.func64, Try.ntmps64
  go_wp2_with fail
  with_reducible refine (stands_m H0.out (p := p) (c := c) Hhp.out Hhpt.out Hhn.out Hhc.out Hh5.out Hh6.out Hhmk.out (b := true) Hhq.out).mono ?_
  rintro e w1 ⟨rfl, m1, hw1⟩
  have h1 := H0.out.drewN m1
  rw [← hw1] at h1
  have hp1 := (JP.refl base w).drewN m1
  rw [← hw1] at hp1
  clear hw1
  have H1 := Lib.hid h1
  have HP1 : Hid (JP base w w1) := Lib.hid (by first | exact HP0.out.trans hp1 | exact (HP0.out.drewN _).trans hp1)
  have cb0_1 := (HE.out.g.keep HP1.out).cell
  have cb1_1 := (HE.out.u.keep HP1.out).cell
  have c7_1 := H1.out.hand (i := 7) (by omega)
  have f7_1 := H1.out.hfroz (v * 9 + 7)
  clear h1 hp1
  go_wp2_with fail
  first | with_reducible refine (add_any H1.out (p := p) (c := c) Hhp.out Hhpt.out Hhc.out Hhtl.out Hhnl.out Hhlk.out Hh5.out Hh6.out).mono ?_ | with_reducible refine (add_any (H1.out.drewN _) (p := p) (c := c) Hhp.out Hhpt.out Hhc.out Hhtl.out Hhnl.out Hhlk.out Hh5.out Hh6.out).mono ?_ | with_reducible refine (add_any ((H1.out.drewN _).drewN _) (p := p) (c := c) Hhp.out Hhpt.out Hhc.out Hhtl.out Hhnl.out Hhlk.out Hh5.out Hh6.out).mono ?_
  rintro e w2 ⟨g, rfl, h2, hp2⟩
  have H2 := Lib.hid h2
  have HP2 : Hid (JP base w w2) := Lib.hid (by first | exact HP1.out.trans hp2 | exact (HP1.out.drewN _).trans hp2)
  have cb0_2 := (HE.out.g.keep HP2.out).cell
  have cb1_2 := (HE.out.u.keep HP2.out).cell
  have c7_2 := H2.out.hand (i := 7) (by omega)
  have f7_2 := H2.out.hfroz (v * 9 + 7)
  clear h2 hp2
  go_wp2_with fail
  first | with_reducible refine (end_any H2.out true).mono ?_ | with_reducible refine (end_any (H2.out.drewN _) true).mono ?_ | with_reducible refine (end_any ((H2.out.drewN _).drewN _) true).mono ?_
  rintro e w3 ⟨rfl, h3, hp3⟩
  have H3 := Lib.hid h3
  have HP3 : Hid (JP base w w3) := Lib.hid (by first | exact HP2.out.trans hp3 | exact (HP2.out.drewN _).trans hp3)
  have cb0_3 := (HE.out.g.keep HP3.out).cell
  have cb1_3 := (HE.out.u.keep HP3.out).cell
  have c7_3 := H3.out.hand (i := 7) (by omega)
  have f7_3 := H3.out.hfroz (v * 9 + 7)
  clear h3 hp3
  go_wp2
  go_end0
  first | exact ⟨g, rfl, H3.out, HP3.out⟩ | exact ⟨g, rfl, (H3.out.drewN _), (HP3.out.drewN _)⟩ | exact ⟨g, rfl, ((H3.out.drewN _).drewN _), ((HP3.out.drewN _).drewN _)⟩

set_option maxRecDepth 100000 in
set_option maxHeartbeats 4000000 in
theorem cM2_bad1 {gb ub hb ab cb lb p c : Nat} (h : ST base B nh v kd K ad s lk hs hm w) (he : EnvM w (.pointer (some ⟨B, v * 9, none⟩)) gb ub hb ab cb lb) (h5 : hm 5 = jp (ad p)) (h6 : hm 6 = jp (ad c)) (hp : p < s.sz) (hc : c < s.sz) (hmk : s.mrk p = true) : Calls Try.prog 65 #[jp gb] w (RetJ base B nh v kd K ad s lk hs (upd (upd hm 7 .nilFunc) 8 (.bool true)) w) := by
  have H0 := Lib.hid h
  have HE := Lib.hid he
  have HP0 : Hid (JP base w w) := Lib.hid (JP.refl _ _)
  have Hh5 := Lib.hid h5
  have Hh6 := Lib.hid h6
  have Hhp := Lib.hid hp
  have Hhc := Lib.hid hc
  have Hhmk := Lib.hid hmk
  have cb0_0 := (HE.out.g.keep HP0.out).cell
  have cb1_0 := (HE.out.u.keep HP0.out).cell
  have c7_0 := H0.out.hand (i := 7) (by omega)
  have f7_0 := H0.out.hfroz (v * 9 + 7)
  clear h he h5 h6 hp hc hmk
  go_enter Try.func65, Try.ntmps65
  go_wp2_with fail
  with_reducible refine (stands_f H0.out (p := p) Hhp.out Hh5.out Hhmk.out).mono ?_
  rintro e w1 ⟨rfl, m1, hw1⟩
  have h1 := H0.out.drewN m1
  rw [← hw1] at h1
  have hp1 := (JP.refl base w).drewN m1
  rw [← hw1] at hp1
  clear hw1
  have H1 := Lib.hid h1
  have HP1 : Hid (JP base w w1) := Lib.hid (by first | exact HP0.out.trans hp1 | exact (HP0.out.drewN _).trans hp1)
  have cb0_1 := (HE.out.g.keep HP1.out).cell
  have cb1_1 := (HE.out.u.keep HP1.out).cell
  have c7_1 := H1.out.hand (i := 7) (by omega)
  have f7_1 := H1.out.hfroz (v * 9 + 7)
  clear h1 hp1
  go_wp2_with fail
  first | with_reducible refine (end_any H1.out true).mono ?_ | with_reducible refine (end_any (H1.out.drewN _) true).mono ?_ | with_reducible refine (end_any ((H1.out.drewN _).drewN _) true).mono ?_
  rintro e w2 ⟨rfl, h2, hp2⟩
  have H2 := Lib.hid h2
  have HP2 : Hid (JP base w w2) := Lib.hid (by first | exact HP1.out.trans hp2 | exact (HP1.out.drewN _).trans hp2)
  have cb0_2 := (HE.out.g.keep HP2.out).cell
  have cb1_2 := (HE.out.u.keep HP2.out).cell
  have c7_2 := H2.out.hand (i := 7) (by omega)
  have f7_2 := H2.out.hfroz (v * 9 + 7)
  clear h2 hp2
  go_wp2
  go_end0
  first | exact ⟨rfl, H2.out, HP2.out⟩ | exact ⟨rfl, (H2.out.drewN _), (HP2.out.drewN _)⟩ | exact ⟨rfl, ((H2.out.drewN _).drewN _), ((HP2.out.drewN _).drewN _)⟩

set_option maxRecDepth 100000 in
set_option maxHeartbeats 4000000 in
theorem cM2_bad2 {gb ub hb ab cb lb p c : Nat} (h : ST base B nh v kd K ad s lk hs hm w) (he : EnvM w (.pointer (some ⟨B, v * 9, none⟩)) gb ub hb ab cb lb) (h5 : hm 5 = jp (ad p)) (h6 : hm 6 = jp (ad c)) (hp : p < s.sz) (hc : c < s.sz) (hpt : p ≠ s.tl) (hn : s.nx p < s.sz) (hmk : s.mrk p = false) (hq : decide (s.nx p = c) = false) : Calls Try.prog 65 #[jp gb] w (RetJ base B nh v kd K ad s lk hs (upd (upd hm 7 .nilFunc) 8 (.bool true)) w) := by
  have H0 := Lib.hid h
  have HE := Lib.hid he
  have HP0 : Hid (JP base w w) := Lib.hid (JP.refl _ _)
  have Hh5 := Lib.hid h5
  have Hh6 := Lib.hid h6
  have Hhp := Lib.hid hp
  have Hhc := Lib.hid hc
  have Hhpt := Lib.hid hpt
  have Hhn := Lib.hid hn
  have Hhmk := Lib.hid hmk
  have Hhq := Lib.hid hq
  have cb0_0 := (HE.out.g.keep HP0.out).cell
  have cb1_0 := (HE.out.u.keep HP0.out).cell
  have c7_0 := H0.out.hand (i := 7) (by omega)
  have f7_0 := H0.out.hfroz (v * 9 + 7)
  clear h he h5 h6 hp hc hpt hn hmk hq
  go_enter Try.func65, Try.ntmps65
  go_wp2_with fail
  with_reducible refine (stands_m H0.out (p := p) (c := c) Hhp.out Hhpt.out Hhn.out Hhc.out Hh5.out Hh6.out Hhmk.out (b := false) Hhq.out).mono ?_
  rintro e w1 ⟨rfl, m1, hw1⟩
  have h1 := H0.out.drewN m1
  rw [← hw1] at h1
  have hp1 := (JP.refl base w).drewN m1
  rw [← hw1] at hp1
  clear hw1
  have H1 := Lib.hid h1
  have HP1 : Hid (JP base w w1) := Lib.hid (by first | exact HP0.out.trans hp1 | exact (HP0.out.drewN _).trans hp1)
  have cb0_1 := (HE.out.g.keep HP1.out).cell
  have cb1_1 := (HE.out.u.keep HP1.out).cell
  have c7_1 := H1.out.hand (i := 7) (by omega)
  have f7_1 := H1.out.hfroz (v * 9 + 7)
  clear h1 hp1
  go_wp2_with fail
  first | with_reducible refine (end_any H1.out true).mono ?_ | with_reducible refine (end_any (H1.out.drewN _) true).mono ?_ | with_reducible refine (end_any ((H1.out.drewN _).drewN _) true).mono ?_
  rintro e w2 ⟨rfl, h2, hp2⟩
  have H2 := Lib.hid h2
  have HP2 : Hid (JP base w w2) := Lib.hid (by first | exact HP1.out.trans hp2 | exact (HP1.out.drewN _).trans hp2)
  have cb0_2 := (HE.out.g.keep HP2.out).cell
  have cb1_2 := (HE.out.u.keep HP2.out).cell
  have c7_2 := H2.out.hand (i := 7) (by omega)
  have f7_2 := H2.out.hfroz (v * 9 + 7)
  clear h2 hp2
  go_wp2
  go_end0
  first | exact ⟨rfl, H2.out, HP2.out⟩ | exact ⟨rfl, (H2.out.drewN _), (HP2.out.drewN _)⟩ | exact ⟨rfl, ((H2.out.drewN _).drewN _), ((HP2.out.drewN _).drewN _)⟩

set_option maxRecDepth 100000 in
set_option maxHeartbeats 4000000 in
theorem cM2_ok {gb ub hb ab cb lb p c : Nat} (h : ST base B nh v kd K ad s lk hs hm w) (he : EnvM w (.pointer (some ⟨B, v * 9, none⟩)) gb ub hb ab cb lb) (h5 : hm 5 = jp (ad p)) (h6 : hm 6 = jp (ad c)) (hp : p < s.sz) (hc : c < s.sz) (hpt : p ≠ s.tl) (hn : s.nx p < s.sz) (hmk : s.mrk p = false) (hq : decide (s.nx p = c) = true) (hct : c ≠ s.tl) : Calls Try.prog 65 #[jp gb] w (RetJ base B nh v kd K ad (s.cut p c) lk hs (upd (upd hm 7 .nilFunc) 8 (.bool true)) w) := by
  have H0 := Lib.hid h
  have HE := Lib.hid he
  have HP0 : Hid (JP base w w) := Lib.hid (JP.refl _ _)
  have Hh5 := Lib.hid h5
  have Hh6 := Lib.hid h6
  have Hhp := Lib.hid hp
  have Hhc := Lib.hid hc
  have Hhpt := Lib.hid hpt
  have Hhn := Lib.hid hn
  have Hhmk := Lib.hid hmk
  have Hhq := Lib.hid hq
  have Hhct := Lib.hid hct
  have cb0_0 := (HE.out.g.keep HP0.out).cell
  have cb1_0 := (HE.out.u.keep HP0.out).cell
  have c7_0 := H0.out.hand (i := 7) (by omega)
  have f7_0 := H0.out.hfroz (v * 9 + 7)
  clear h he h5 h6 hp hc hpt hn hmk hq hct
  go_enter Try.func65, Try.ntmps65
  go_wp2_with fail
  with_reducible refine (stands_m H0.out (p := p) (c := c) Hhp.out Hhpt.out Hhn.out Hhc.out Hh5.out Hh6.out Hhmk.out (b := true) Hhq.out).mono ?_
  rintro e w1 ⟨rfl, m1, hw1⟩
  have h1 := H0.out.drewN m1
  rw [← hw1] at h1
  have hp1 := (JP.refl base w).drewN m1
  rw [← hw1] at hp1
  clear hw1
  have H1 := Lib.hid h1
  have HP1 : Hid (JP base w w1) := Lib.hid (by first | exact HP0.out.trans hp1 | exact (HP0.out.drewN _).trans hp1)
  have cb0_1 := (HE.out.g.keep HP1.out).cell
  have cb1_1 := (HE.out.u.keep HP1.out).cell
  have c7_1 := H1.out.hand (i := 7) (by omega)
  have f7_1 := H1.out.hfroz (v * 9 + 7)
  clear h1 hp1
  go_wp2_with fail
  first | with_reducible refine (unlink_any H1.out (p := p) (c := c) Hhp.out Hhpt.out Hhc.out Hhct.out Hh5.out Hh6.out).mono ?_ | with_reducible refine (unlink_any (H1.out.drewN _) (p := p) (c := c) Hhp.out Hhpt.out Hhc.out Hhct.out Hh5.out Hh6.out).mono ?_ | with_reducible refine (unlink_any ((H1.out.drewN _).drewN _) (p := p) (c := c) Hhp.out Hhpt.out Hhc.out Hhct.out Hh5.out Hh6.out).mono ?_
  rintro e w2 ⟨rfl, h2, hp2⟩
  have H2 := Lib.hid h2
  have HP2 : Hid (JP base w w2) := Lib.hid (by first | exact HP1.out.trans hp2 | exact (HP1.out.drewN _).trans hp2)
  have cb0_2 := (HE.out.g.keep HP2.out).cell
  have cb1_2 := (HE.out.u.keep HP2.out).cell
  have c7_2 := H2.out.hand (i := 7) (by omega)
  have f7_2 := H2.out.hfroz (v * 9 + 7)
  clear h2 hp2
  go_wp2_with fail
  first | with_reducible refine (end_any H2.out true).mono ?_ | with_reducible refine (end_any (H2.out.drewN _) true).mono ?_ | with_reducible refine (end_any ((H2.out.drewN _).drewN _) true).mono ?_
  rintro e w3 ⟨rfl, h3, hp3⟩
  have H3 := Lib.hid h3
  have HP3 : Hid (JP base w w3) := Lib.hid (by first | exact HP2.out.trans hp3 | exact (HP2.out.drewN _).trans hp3)
  have cb0_3 := (HE.out.g.keep HP3.out).cell
  have cb1_3 := (HE.out.u.keep HP3.out).cell
  have c7_3 := H3.out.hand (i := 7) (by omega)
  have f7_3 := H3.out.hfroz (v * 9 + 7)
  clear h3 hp3
  go_wp2
  go_end0
  first | exact ⟨rfl, H3.out, HP3.out⟩ | exact ⟨rfl, (H3.out.drewN _), (HP3.out.drewN _)⟩ | exact ⟨rfl, ((H3.out.drewN _).drewN _), ((HP3.out.drewN _).drewN _)⟩

set_option maxRecDepth 100000 in
set_option maxHeartbeats 4000000 in
theorem cM3_bad {gb ub hb ab cb lb c : Nat} (h : ST base B nh v kd K ad s lk hs hm w) (he : EnvM w (.pointer (some ⟨B, v * 9, none⟩)) gb ub hb ab cb lb) (h6 : hm 6 = jp (ad c)) (hc : c < s.sz) (hmc : s.mrk c = true) (h3 : hm 3 = fWay 3) : Calls Try.prog 66 #[jp gb, jp ub] w (RetB 3 base B nh v kd K ad s lk hs hm w) := by
  have H0 := Lib.hid h
  have HE := Lib.hid he
  have HP0 : Hid (JP base w w) := Lib.hid (JP.refl _ _)
  have Hh6 := Lib.hid h6
  have Hhc := Lib.hid hc
  have Hhmc := Lib.hid hmc
  have Hh3 := Lib.hid h3
  have cb0_0 := (HE.out.g.keep HP0.out).cell
  have cb1_0 := (HE.out.u.keep HP0.out).cell
  have c6_0 := H0.out.hand (i := 6) (by omega)
  rw [show (hm) 6 = jp (ad c) from (by first | exact Hh6.out | (simp [upd]; done) | (simp [upd, Hh6.out]; done))] at c6_0
  have c7_0 := H0.out.hand (i := 7) (by omega)
  have f7_0 := H0.out.hfroz (v * 9 + 7)
  obtain ⟨b0c_0, b1c_0, b2c_0, b3c_0⟩ := H0.out.bead Hhc.out
  rw [Hhmc.out] at b2c_0
  have fmc_0 := H0.out.bfroz Hhc.out 2
  clear h he h6 hc hmc h3
  go_enter Try.func66, Try.ntmps66
  go_wp2_with fail
  first | with_reducible refine (beginM_any H0.out Hh3.out).mono ?_ | with_reducible refine (beginM_any (H0.out.drewN _) Hh3.out).mono ?_ | with_reducible refine (beginM_any ((H0.out.drewN _).drewN _) Hh3.out).mono ?_
  rintro e w8 ⟨f8, ⟨rfl, h8, hp8⟩, hn8⟩
  have H8 := Lib.hid h8
  have HP8 : Hid (JP base w w8) := Lib.hid (by first | exact HP0.out.trans hp8 | exact (HP0.out.drewN _).trans hp8 | exact ((HP0.out.drewN _).drewN _).trans hp8)
  have HN8 := Lib.hid hn8
  clear h8 hp8 hn8
  go_wp2
  go_end0
  exact ⟨f8, ⟨rfl, H8.out, HP8.out⟩, HN8.out⟩

set_option maxRecDepth 100000 in
set_option maxHeartbeats 4000000 in
theorem cM3_ok {gb ub hb ab cb lb c : Nat} (h : ST base B nh v kd K ad s lk hs hm w) (he : EnvM w (.pointer (some ⟨B, v * 9, none⟩)) gb ub hb ab cb lb) (h6 : hm 6 = jp (ad c)) (hc : c < s.sz) (hmc : s.mrk c = false) : Calls Try.prog 66 #[jp gb, jp ub] w (RetJ base B nh v kd K ad (s.mark c) lk hs (upd hm 7 (fM2 gb)) w) := by
  have H0 := Lib.hid h
  have HE := Lib.hid he
  have HP0 : Hid (JP base w w) := Lib.hid (JP.refl _ _)
  have Hh6 := Lib.hid h6
  have Hhc := Lib.hid hc
  have Hhmc := Lib.hid hmc
  have cb0_0 := (HE.out.g.keep HP0.out).cell
  have cb1_0 := (HE.out.u.keep HP0.out).cell
  have c6_0 := H0.out.hand (i := 6) (by omega)
  rw [show (hm) 6 = jp (ad c) from (by first | exact Hh6.out | (simp [upd]; done) | (simp [upd, Hh6.out]; done))] at c6_0
  have c7_0 := H0.out.hand (i := 7) (by omega)
  have f7_0 := H0.out.hfroz (v * 9 + 7)
  obtain ⟨b0c_0, b1c_0, b2c_0, b3c_0⟩ := H0.out.bead Hhc.out
  rw [Hhmc.out] at b2c_0
  have fmc_0 := H0.out.bfroz Hhc.out 2
  clear h he h6 hc hmc
  go_enter Try.func66, Try.ntmps66
  go_wp2
  go_end0
  first | exact ⟨rfl, (H0.out.mark (x := c) Hhc.out).fld (i := 7) (by omega) (by omega) _, (HP0.out.trans (H0.out.js.jp_node (x := c) Hhc.out _ _)).trans ((H0.out.mark (x := c) Hhc.out).js.jp_fld _ _)⟩ | exact ⟨rfl, ((H0.out.drewN _).mark (x := c) Hhc.out).fld (i := 7) (by omega) (by omega) _, ((HP0.out.drewN _).trans ((H0.out.drewN _).js.jp_node (x := c) Hhc.out _ _)).trans (((H0.out.drewN _).mark (x := c) Hhc.out).js.jp_fld _ _)⟩ | exact ⟨rfl, (((H0.out.drewN _).drewN _).mark (x := c) Hhc.out).fld (i := 7) (by omega) (by omega) _, (((HP0.out.drewN _).drewN _).trans (((H0.out.drewN _).drewN _).js.jp_node (x := c) Hhc.out _ _)).trans ((((H0.out.drewN _).drewN _).mark (x := c) Hhc.out).js.jp_fld _ _)⟩

set_option maxRecDepth 100000 in
set_option maxHeartbeats 4000000 in
theorem cN1 {gb hb ab cb lb p c : Nat} (h : ST base B nh v kd K ad s lk hs hm w) (he : EnvN w (.pointer (some ⟨B, v * 9, none⟩)) gb hb ab cb lb) (h5 : hm 5 = jp (ad p)) (h6 : hm 6 = jp (ad c)) (hp : p < s.sz) (hc : c < s.sz) (hpt : p ≠ s.tl) (htl : s.tl < s.sz) (hnl : ∀ i, i < s.sz → i ≠ s.tl → s.nx i < s.sz) (hlk : lk s.sz = false) : Calls Try.prog 68 #[jp gb] w (fun e w' => ∃ g, RetJ base B nh v kd K (upd ad s.sz g) (s.insc p c K) lk hs (upd (upd hm 7 .nilFunc) 8 (.bool true)) w e w') := by
  have H0 := Lib.hid h
  have HE := Lib.hid he
  have HP0 : Hid (JP base w w) := Lib.hid (JP.refl _ _)
  have Hh5 := Lib.hid h5
  have Hh6 := Lib.hid h6
  have Hhp := Lib.hid hp
  have Hhc := Lib.hid hc
  have Hhpt := Lib.hid hpt
  have Hhtl := Lib.hid htl
  have Hhnl := Lib.hid hnl
  have Hhlk := Lib.hid hlk
  have cb0_0 := (HE.out.g.keep HP0.out).cell
  have c7_0 := H0.out.hand (i := 7) (by omega)
  have f7_0 := H0.out.hfroz (v * 9 + 7)
  clear h he h5 h6 hp hc hpt htl hnl hlk
  go_enter Try.func68, Try.ntmps68
  go_wp2_with fail
  first | with_reducible refine (add_any H0.out (p := p) (c := c) Hhp.out Hhpt.out Hhc.out Hhtl.out Hhnl.out Hhlk.out Hh5.out Hh6.out).mono ?_ | with_reducible refine (add_any (H0.out.drewN _) (p := p) (c := c) Hhp.out Hhpt.out Hhc.out Hhtl.out Hhnl.out Hhlk.out Hh5.out Hh6.out).mono ?_ | with_reducible refine (add_any ((H0.out.drewN _).drewN _) (p := p) (c := c) Hhp.out Hhpt.out Hhc.out Hhtl.out Hhnl.out Hhlk.out Hh5.out Hh6.out).mono ?_
  rintro e w1 ⟨g, rfl, h1, hp1⟩
  have H1 := Lib.hid h1
  have HP1 : Hid (JP base w w1) := Lib.hid (by first | exact HP0.out.trans hp1 | exact (HP0.out.drewN _).trans hp1)
  have cb0_1 := (HE.out.g.keep HP1.out).cell
  have c7_1 := H1.out.hand (i := 7) (by omega)
  have f7_1 := H1.out.hfroz (v * 9 + 7)
  clear h1 hp1
  go_wp2_with fail
  first | with_reducible refine (end_any H1.out true).mono ?_ | with_reducible refine (end_any (H1.out.drewN _) true).mono ?_ | with_reducible refine (end_any ((H1.out.drewN _).drewN _) true).mono ?_
  rintro e w2 ⟨rfl, h2, hp2⟩
  have H2 := Lib.hid h2
  have HP2 : Hid (JP base w w2) := Lib.hid (by first | exact HP1.out.trans hp2 | exact (HP1.out.drewN _).trans hp2)
  have cb0_2 := (HE.out.g.keep HP2.out).cell
  have c7_2 := H2.out.hand (i := 7) (by omega)
  have f7_2 := H2.out.hfroz (v * 9 + 7)
  clear h2 hp2
  go_wp2
  go_end0
  first | exact ⟨g, rfl, H2.out, HP2.out⟩ | exact ⟨g, rfl, (H2.out.drewN _), (HP2.out.drewN _)⟩ | exact ⟨g, rfl, ((H2.out.drewN _).drewN _), ((HP2.out.drewN _).drewN _)⟩

set_option maxRecDepth 100000 in
set_option maxHeartbeats 4000000 in
theorem cN2 {gb hb ab cb lb p c : Nat} (h : ST base B nh v kd K ad s lk hs hm w) (he : EnvN w (.pointer (some ⟨B, v * 9, none⟩)) gb hb ab cb lb) (h5 : hm 5 = jp (ad p)) (h6 : hm 6 = jp (ad c)) (hp : p < s.sz) (hc : c < s.sz) (hpt : p ≠ s.tl) (hct : c ≠ s.tl) : Calls Try.prog 69 #[jp gb] w (RetJ base B nh v kd K ad (s.cut p c) lk hs (upd (upd hm 7 .nilFunc) 8 (.bool true)) w) := by
  have H0 := Lib.hid h
  have HE := Lib.hid he
  have HP0 : Hid (JP base w w) := Lib.hid (JP.refl _ _)
  have Hh5 := Lib.hid h5
  have Hh6 := Lib.hid h6
  have Hhp := Lib.hid hp
  have Hhc := Lib.hid hc
  have Hhpt := Lib.hid hpt
  have Hhct := Lib.hid hct
  have cb0_0 := (HE.out.g.keep HP0.out).cell
  have c7_0 := H0.out.hand (i := 7) (by omega)
  have f7_0 := H0.out.hfroz (v * 9 + 7)
  clear h he h5 h6 hp hc hpt hct
  go_enter Try.func69, Try.ntmps69
  go_wp2_with fail
  first | with_reducible refine (unlink_any H0.out (p := p) (c := c) Hhp.out Hhpt.out Hhc.out Hhct.out Hh5.out Hh6.out).mono ?_ | with_reducible refine (unlink_any (H0.out.drewN _) (p := p) (c := c) Hhp.out Hhpt.out Hhc.out Hhct.out Hh5.out Hh6.out).mono ?_ | with_reducible refine (unlink_any ((H0.out.drewN _).drewN _) (p := p) (c := c) Hhp.out Hhpt.out Hhc.out Hhct.out Hh5.out Hh6.out).mono ?_
  rintro e w1 ⟨rfl, h1, hp1⟩
  have H1 := Lib.hid h1
  have HP1 : Hid (JP base w w1) := Lib.hid (by first | exact HP0.out.trans hp1 | exact (HP0.out.drewN _).trans hp1)
  have cb0_1 := (HE.out.g.keep HP1.out).cell
  have c7_1 := H1.out.hand (i := 7) (by omega)
  have f7_1 := H1.out.hfroz (v * 9 + 7)
  clear h1 hp1
  go_wp2_with fail
  first | with_reducible refine (end_any H1.out true).mono ?_ | with_reducible refine (end_any (H1.out.drewN _) true).mono ?_ | with_reducible refine (end_any ((H1.out.drewN _).drewN _) true).mono ?_
  rintro e w2 ⟨rfl, h2, hp2⟩
  have H2 := Lib.hid h2
  have HP2 : Hid (JP base w w2) := Lib.hid (by first | exact HP1.out.trans hp2 | exact (HP1.out.drewN _).trans hp2)
  have cb0_2 := (HE.out.g.keep HP2.out).cell
  have c7_2 := H2.out.hand (i := 7) (by omega)
  have f7_2 := H2.out.hfroz (v * 9 + 7)
  clear h2 hp2
  go_wp2
  go_end0
  first | exact ⟨rfl, H2.out, HP2.out⟩ | exact ⟨rfl, (H2.out.drewN _), (HP2.out.drewN _)⟩ | exact ⟨rfl, ((H2.out.drewN _).drewN _), ((HP2.out.drewN _).drewN _)⟩
end

end Go.Proofs.Ytfmdpmebllepeaa

/-
  package hands: the way to the place without locks, function by function. Written by tools/gen_jclos.py.
-/
namespace Go.Proofs.Ytfmdpmebllepeaa
open Go.RowKit

section
variable {base B nh v : Nat} {kd K : Int} {ad : Nat → Nat} {s : Bs} {lk : Nat → Bool} {hs : Nat → Nat → Value} {hm : Nat → Value} {w : World}
set_option maxRecDepth 100000 in
set_option maxHeartbeats 4000000 in
theorem cW2 {hb ab cb lb na nc : Nat} {ca cc : Array Value} (h : ST base B nh v kd K ad s lk hs hm w) (he : EnvW w (.pointer (some ⟨B, v * 9, none⟩)) hb ab cb lb (.func (.func na) #[] ca) (.func (.func nc) #[] cc)) (h4 : hm 4 = jp (ad 0)) (hz : 0 < s.sz) (ht : 0 ≠ s.tl) : Calls Try.prog 79 #[jp hb, jp lb] w (RetJ base B nh v kd K ad s lk hs (upd (upd (upd hm 5 (jp (ad 0))) 6 (jp (ad (s.nx 0)))) 7 (fW1 hb ab cb)) w) := by
  have H0 := Lib.hid h
  have HE := Lib.hid he
  have HP0 : Hid (JP base w w) := Lib.hid (JP.refl _ _)
  have Hh4 := Lib.hid h4
  have Hhz := Lib.hid hz
  have Hht := Lib.hid ht
  have cb0_0 := (HE.out.h.keep HP0.out).cell
  have cb1_0 := (HE.out.a.keep HP0.out).cell
  have cb2_0 := (HE.out.c.keep HP0.out).cell
  have cb3_0 := (HE.out.l.keep HP0.out).cell
  have c4_0 := H0.out.hand (i := 4) (by omega)
  rw [show (hm) 4 = jp (ad 0) from (by first | exact Hh4.out | (simp [upd]; done) | (simp [upd, Hh4.out]; done))] at c4_0
  have c7_0 := H0.out.hand (i := 7) (by omega)
  have f7_0 := H0.out.hfroz (v * 9 + 7)
  clear h he h4 hz ht
  go_enter Try.func79, Try.ntmps79
  go_wp2_with fail
  go_region_with (first
    | (go_at_call 45
       first | with_reducible refine (to_any H0.out (x := 0) Hhz.out Hht.out).mono ?_ | with_reducible refine (to_any (H0.out.drewN _) (x := 0) Hhz.out Hht.out).mono ?_ | with_reducible refine (to_any ((H0.out.drewN _).drewN _) (x := 0) Hhz.out Hht.out).mono ?_ | refine (to_any (H0.out.drewN 1) (x := 0) Hhz.out Hht.out).mono ?_
       rintro e w1 ⟨rfl, h1, hp1⟩
       have H1 := Lib.hid h1
       have HP1 : Hid (JP base w w1) := Lib.hid (by first | exact HP0.out.trans hp1 | exact HP0.out.drew.trans hp1 | exact (HP0.out.drewN _).trans hp1 | exact ((HP0.out.drewN _).drewN _).trans hp1)
       have cb0_1 := (HE.out.h.keep HP1.out).cell
       have cb1_1 := (HE.out.a.keep HP1.out).cell
       have cb2_1 := (HE.out.c.keep HP1.out).cell
       have cb3_1 := (HE.out.l.keep HP1.out).cell
       have c5_1 := H1.out.hand (i := 5) (by omega)
       rw [show (upd (upd hm 5 (jp (ad 0))) 6 (jp (ad (s.nx 0)))) 5 = jp (ad 0) from (by first | exact rfl | (simp [upd]; done) | (simp [upd, rfl]; done))] at c5_1
       have c6_1 := H1.out.hand (i := 6) (by omega)
       rw [show (upd (upd hm 5 (jp (ad 0))) 6 (jp (ad (s.nx 0)))) 6 = jp (ad (s.nx 0)) from (by first | exact rfl | (simp [upd]; done) | (simp [upd, rfl]; done))] at c6_1
       have c7_1 := H1.out.hand (i := 7) (by omega)
       have f7_1 := H1.out.hfroz (v * 9 + 7)
       clear h1 hp1))
  all_goals
   (skip
    go_wp2
    go_end0
    first | exact ⟨rfl, H1.out.fld (i := 7) (by omega) (by omega) _, HP1.out.trans (H1.out.js.jp_fld _ _)⟩ | exact ⟨rfl, (H1.out.drewN _).fld (i := 7) (by omega) (by omega) _, (HP1.out.drewN _).trans ((H1.out.drewN _).js.jp_fld _ _)⟩ | exact ⟨rfl, ((H1.out.drewN _).drewN _).fld (i := 7) (by omega) (by omega) _, ((HP1.out.drewN _).drewN _).trans (((H1.out.drewN _).drewN _).js.jp_fld _ _)⟩)

set_option maxRecDepth 100000 in
set_option maxHeartbeats 4000000 in
theorem cW1_bad1 {hb ab cb lb na nc p c : Nat} {ca cc : Array Value} (h : ST base B nh v kd K ad s lk hs hm w) (he : EnvW w (.pointer (some ⟨B, v * 9, none⟩)) hb ab cb lb (.func (.func na) #[] ca) (.func (.func nc) #[] cc)) (h5 : hm 5 = jp (ad p)) (h6 : hm 6 = jp (ad c)) (hp : p < s.sz) (hc : c < s.sz) (hmc : s.mrk c = true) (hk : ¬ kd = 3) (hmk : s.mrk p = true) (h3 : hm 3 = fWay 3) : Calls Try.prog 78 #[jp hb, jp ab, jp cb] w (RetB 3 base B nh v kd K ad s lk hs hm w) := by
  have H0 := Lib.hid h
  have HE := Lib.hid he
  have HP0 : Hid (JP base w w) := Lib.hid (JP.refl _ _)
  have Hh5 := Lib.hid h5
  have Hh6 := Lib.hid h6
  have Hhp := Lib.hid hp
  have Hhc := Lib.hid hc
  have Hhmc := Lib.hid hmc
  have Hhk := Lib.hid hk
  have Hhmk := Lib.hid hmk
  have Hh3 := Lib.hid h3
  have cb0_0 := (HE.out.h.keep HP0.out).cell
  have cb1_0 := (HE.out.a.keep HP0.out).cell
  have cb2_0 := (HE.out.c.keep HP0.out).cell
  have cb3_0 := (HE.out.l.keep HP0.out).cell
  have c5_0 := H0.out.hand (i := 5) (by omega)
  rw [show (hm) 5 = jp (ad p) from (by first | exact Hh5.out | (simp [upd]; done) | (simp [upd, Hh5.out]; done))] at c5_0
  have c6_0 := H0.out.hand (i := 6) (by omega)
  rw [show (hm) 6 = jp (ad c) from (by first | exact Hh6.out | (simp [upd]; done) | (simp [upd, Hh6.out]; done))] at c6_0
  have c7_0 := H0.out.hand (i := 7) (by omega)
  have f7_0 := H0.out.hfroz (v * 9 + 7)
  obtain ⟨b0c_0, b1c_0, b2c_0, b3c_0⟩ := H0.out.bead Hhc.out
  rw [Hhmc.out] at b2c_0
  have fmc_0 := H0.out.bfroz Hhc.out 2
  clear h he h5 h6 hp hc hmc hmk h3
  go_enter Try.func78, Try.ntmps78
  go_wp2_with fail
  with_reducible refine (kind_any H0.out).mono ?_
  rintro e w1 ⟨rfl, m1, hw1⟩
  have h1 := H0.out.drewN m1
  rw [← hw1] at h1
  have hp1 := (JP.refl base w).drewN m1
  rw [← hw1] at hp1
  clear hw1
  have H1 := Lib.hid h1
  have HP1 : Hid (JP base w w1) := Lib.hid (by first | exact HP0.out.trans hp1 | exact (HP0.out.drewN _).trans hp1)
  have cb0_1 := (HE.out.h.keep HP1.out).cell
  have cb1_1 := (HE.out.a.keep HP1.out).cell
  have cb2_1 := (HE.out.c.keep HP1.out).cell
  have cb3_1 := (HE.out.l.keep HP1.out).cell
  have c5_1 := H1.out.hand (i := 5) (by omega)
  rw [show (hm) 5 = jp (ad p) from (by first | exact Hh5.out | (simp [upd]; done) | (simp [upd, Hh5.out]; done))] at c5_1
  have c6_1 := H1.out.hand (i := 6) (by omega)
  rw [show (hm) 6 = jp (ad c) from (by first | exact Hh6.out | (simp [upd]; done) | (simp [upd, Hh6.out]; done))] at c6_1
  have c7_1 := H1.out.hand (i := 7) (by omega)
  have f7_1 := H1.out.hfroz (v * 9 + 7)
  obtain ⟨b0c_1, b1c_1, b2c_1, b3c_1⟩ := H1.out.bead Hhc.out
  rw [Hhmc.out] at b2c_1
  have fmc_1 := H1.out.bfroz Hhc.out 2
  clear h1 hp1
  go_wp2_with fail
  with_reducible refine (stands_f H1.out (p := p) Hhp.out Hh5.out Hhmk.out).mono ?_
  rintro e w2 ⟨rfl, m2, hw2⟩
  have h2 := H1.out.drewN m2
  rw [← hw2] at h2
  have hp2 := (JP.refl base w1).drewN m2
  rw [← hw2] at hp2
  clear hw2
  have H2 := Lib.hid h2
  have HP2 : Hid (JP base w w2) := Lib.hid (by first | exact HP1.out.trans hp2 | exact (HP1.out.drewN _).trans hp2)
  have cb0_2 := (HE.out.h.keep HP2.out).cell
  have cb1_2 := (HE.out.a.keep HP2.out).cell
  have cb2_2 := (HE.out.c.keep HP2.out).cell
  have cb3_2 := (HE.out.l.keep HP2.out).cell
  have c5_2 := H2.out.hand (i := 5) (by omega)
  rw [show (hm) 5 = jp (ad p) from (by first | exact Hh5.out | (simp [upd]; done) | (simp [upd, Hh5.out]; done))] at c5_2
  have c6_2 := H2.out.hand (i := 6) (by omega)
  rw [show (hm) 6 = jp (ad c) from (by first | exact Hh6.out | (simp [upd]; done) | (simp [upd, Hh6.out]; done))] at c6_2
  have c7_2 := H2.out.hand (i := 7) (by omega)
  have f7_2 := H2.out.hfroz (v * 9 + 7)
  obtain ⟨b0c_2, b1c_2, b2c_2, b3c_2⟩ := H2.out.bead Hhc.out
  rw [Hhmc.out] at b2c_2
  have fmc_2 := H2.out.bfroz Hhc.out 2
  clear h2 hp2
  go_wp2_with fail
  first | with_reducible refine (beginM_any H2.out Hh3.out).mono ?_ | with_reducible refine (beginM_any (H2.out.drewN _) Hh3.out).mono ?_ | with_reducible refine (beginM_any ((H2.out.drewN _).drewN _) Hh3.out).mono ?_
  rintro e w8 ⟨f8, ⟨rfl, h8, hp8⟩, hn8⟩
  have H8 := Lib.hid h8
  have HP8 : Hid (JP base w w8) := Lib.hid (by first | exact HP2.out.trans hp8 | exact (HP2.out.drewN _).trans hp8 | exact ((HP2.out.drewN _).drewN _).trans hp8)
  have HN8 := Lib.hid hn8
  clear h8 hp8 hn8
  go_wp2
  go_end0
  exact ⟨f8, ⟨rfl, H8.out, HP8.out⟩, HN8.out⟩

set_option maxRecDepth 100000 in
set_option maxHeartbeats 4000000 in
theorem cW1_bad2 {hb ab cb lb na nc p c : Nat} {ca cc : Array Value} (h : ST base B nh v kd K ad s lk hs hm w) (he : EnvW w (.pointer (some ⟨B, v * 9, none⟩)) hb ab cb lb (.func (.func na) #[] ca) (.func (.func nc) #[] cc)) (h5 : hm 5 = jp (ad p)) (h6 : hm 6 = jp (ad c)) (hp : p < s.sz) (hc : c < s.sz) (hmc : s.mrk c = true) (hk : ¬ kd = 3) (hpt : p ≠ s.tl) (hn : s.nx p < s.sz) (hmk : s.mrk p = false) (hq : decide (s.nx p = c) = false) (h3 : hm 3 = fWay 3) : Calls Try.prog 78 #[jp hb, jp ab, jp cb] w (RetB 3 base B nh v kd K ad s lk hs hm w) := by
  have H0 := Lib.hid h
  have HE := Lib.hid he
  have HP0 : Hid (JP base w w) := Lib.hid (JP.refl _ _)
  have Hh5 := Lib.hid h5
  have Hh6 := Lib.hid h6
  have Hhp := Lib.hid hp
  have Hhc := Lib.hid hc
  have Hhmc := Lib.hid hmc
  have Hhk := Lib.hid hk
  have Hhpt := Lib.hid hpt
  have Hhn := Lib.hid hn
  have Hhmk := Lib.hid hmk
  have Hhq := Lib.hid hq
  have Hh3 := Lib.hid h3
  have cb0_0 := (HE.out.h.keep HP0.out).cell
  have cb1_0 := (HE.out.a.keep HP0.out).cell
  have cb2_0 := (HE.out.c.keep HP0.out).cell
  have cb3_0 := (HE.out.l.keep HP0.out).cell
  have c5_0 := H0.out.hand (i := 5) (by omega)
  rw [show (hm) 5 = jp (ad p) from (by first | exact Hh5.out | (simp [upd]; done) | (simp [upd, Hh5.out]; done))] at c5_0
  have c6_0 := H0.out.hand (i := 6) (by omega)
  rw [show (hm) 6 = jp (ad c) from (by first | exact Hh6.out | (simp [upd]; done) | (simp [upd, Hh6.out]; done))] at c6_0
  have c7_0 := H0.out.hand (i := 7) (by omega)
  have f7_0 := H0.out.hfroz (v * 9 + 7)
  obtain ⟨b0c_0, b1c_0, b2c_0, b3c_0⟩ := H0.out.bead Hhc.out
  rw [Hhmc.out] at b2c_0
  have fmc_0 := H0.out.bfroz Hhc.out 2
  clear h he h5 h6 hp hc hmc hpt hn hmk hq h3
  go_enter Try.func78, Try.ntmps78
  go_wp2_with fail
  with_reducible refine (kind_any H0.out).mono ?_
  rintro e w1 ⟨rfl, m1, hw1⟩
  have h1 := H0.out.drewN m1
  rw [← hw1] at h1
  have hp1 := (JP.refl base w).drewN m1
  rw [← hw1] at hp1
  clear hw1
  have H1 := Lib.hid h1
  have HP1 : Hid (JP base w w1) := Lib.hid (by first | exact HP0.out.trans hp1 | exact (HP0.out.drewN _).trans hp1)
  have cb0_1 := (HE.out.h.keep HP1.out).cell
  have cb1_1 := (HE.out.a.keep HP1.out).cell
  have cb2_1 := (HE.out.c.keep HP1.out).cell
  have cb3_1 := (HE.out.l.keep HP1.out).cell
  have c5_1 := H1.out.hand (i := 5) (by omega)
  rw [show (hm) 5 = jp (ad p) from (by first | exact Hh5.out | (simp [upd]; done) | (simp [upd, Hh5.out]; done))] at c5_1
  have c6_1 := H1.out.hand (i := 6) (by omega)
  rw [show (hm) 6 = jp (ad c) from (by first | exact Hh6.out | (simp [upd]; done) | (simp [upd, Hh6.out]; done))] at c6_1
  have c7_1 := H1.out.hand (i := 7) (by omega)
  have f7_1 := H1.out.hfroz (v * 9 + 7)
  obtain ⟨b0c_1, b1c_1, b2c_1, b3c_1⟩ := H1.out.bead Hhc.out
  rw [Hhmc.out] at b2c_1
  have fmc_1 := H1.out.bfroz Hhc.out 2
  clear h1 hp1
  go_wp2_with fail
  with_reducible refine (stands_m H1.out (p := p) (c := c) Hhp.out Hhpt.out Hhn.out Hhc.out Hh5.out Hh6.out Hhmk.out (b := false) Hhq.out).mono ?_
  rintro e w2 ⟨rfl, m2, hw2⟩
  have h2 := H1.out.drewN m2
  rw [← hw2] at h2
  have hp2 := (JP.refl base w1).drewN m2
  rw [← hw2] at hp2
  clear hw2
  have H2 := Lib.hid h2
  have HP2 : Hid (JP base w w2) := Lib.hid (by first | exact HP1.out.trans hp2 | exact (HP1.out.drewN _).trans hp2)
  have cb0_2 := (HE.out.h.keep HP2.out).cell
  have cb1_2 := (HE.out.a.keep HP2.out).cell
  have cb2_2 := (HE.out.c.keep HP2.out).cell
  have cb3_2 := (HE.out.l.keep HP2.out).cell
  have c5_2 := H2.out.hand (i := 5) (by omega)
  rw [show (hm) 5 = jp (ad p) from (by first | exact Hh5.out | (simp [upd]; done) | (simp [upd, Hh5.out]; done))] at c5_2
  have c6_2 := H2.out.hand (i := 6) (by omega)
  rw [show (hm) 6 = jp (ad c) from (by first | exact Hh6.out | (simp [upd]; done) | (simp [upd, Hh6.out]; done))] at c6_2
  have c7_2 := H2.out.hand (i := 7) (by omega)
  have f7_2 := H2.out.hfroz (v * 9 + 7)
  obtain ⟨b0c_2, b1c_2, b2c_2, b3c_2⟩ := H2.out.bead Hhc.out
  rw [Hhmc.out] at b2c_2
  have fmc_2 := H2.out.bfroz Hhc.out 2
  clear h2 hp2
  go_wp2_with fail
  first | with_reducible refine (beginM_any H2.out Hh3.out).mono ?_ | with_reducible refine (beginM_any (H2.out.drewN _) Hh3.out).mono ?_ | with_reducible refine (beginM_any ((H2.out.drewN _).drewN _) Hh3.out).mono ?_
  rintro e w8 ⟨f8, ⟨rfl, h8, hp8⟩, hn8⟩
  have H8 := Lib.hid h8
  have HP8 : Hid (JP base w w8) := Lib.hid (by first | exact HP2.out.trans hp8 | exact (HP2.out.drewN _).trans hp8 | exact ((HP2.out.drewN _).drewN _).trans hp8)
  have HN8 := Lib.hid hn8
  clear h8 hp8 hn8
  go_wp2
  go_end0
  exact ⟨f8, ⟨rfl, H8.out, HP8.out⟩, HN8.out⟩

set_option maxRecDepth 100000 in
set_option maxHeartbeats 4000000 in
theorem cW1_ok {hb ab cb lb na nc p c : Nat} {ca cc : Array Value} (h : ST base B nh v kd K ad s lk hs hm w) (he : EnvW w (.pointer (some ⟨B, v * 9, none⟩)) hb ab cb lb (.func (.func na) #[] ca) (.func (.func nc) #[] cc)) (h5 : hm 5 = jp (ad p)) (h6 : hm 6 = jp (ad c)) (hp : p < s.sz) (hc : c < s.sz) (hmc : s.mrk c = true) (hk : ¬ kd = 3) (hpt : p ≠ s.tl) (hn : s.nx p < s.sz) (hmk : s.mrk p = false) (hq : decide (s.nx p = c) = true) (hct : c ≠ s.tl) : Calls Try.prog 78 #[jp hb, jp ab, jp cb] w (RetJ base B nh v kd K ad (s.cut p c) lk hs (upd hm 6 (jp (ad (s.nx c)))) w) := by
  have H0 := Lib.hid h
  have HE := Lib.hid he
  have HP0 : Hid (JP base w w) := Lib.hid (JP.refl _ _)
  have Hh5 := Lib.hid h5
  have Hh6 := Lib.hid h6
  have Hhp := Lib.hid hp
  have Hhc := Lib.hid hc
  have Hhmc := Lib.hid hmc
  have Hhk := Lib.hid hk
  have Hhpt := Lib.hid hpt
  have Hhn := Lib.hid hn
  have Hhmk := Lib.hid hmk
  have Hhq := Lib.hid hq
  have Hhct := Lib.hid hct
  have cb0_0 := (HE.out.h.keep HP0.out).cell
  have cb1_0 := (HE.out.a.keep HP0.out).cell
  have cb2_0 := (HE.out.c.keep HP0.out).cell
  have cb3_0 := (HE.out.l.keep HP0.out).cell
  have c5_0 := H0.out.hand (i := 5) (by omega)
  rw [show (hm) 5 = jp (ad p) from (by first | exact Hh5.out | (simp [upd]; done) | (simp [upd, Hh5.out]; done))] at c5_0
  have c6_0 := H0.out.hand (i := 6) (by omega)
  rw [show (hm) 6 = jp (ad c) from (by first | exact Hh6.out | (simp [upd]; done) | (simp [upd, Hh6.out]; done))] at c6_0
  have c7_0 := H0.out.hand (i := 7) (by omega)
  have f7_0 := H0.out.hfroz (v * 9 + 7)
  obtain ⟨b0c_0, b1c_0, b2c_0, b3c_0⟩ := H0.out.bead Hhc.out
  rw [Hhmc.out] at b2c_0
  have fmc_0 := H0.out.bfroz Hhc.out 2
  clear h he h5 h6 hp hc hmc hpt hn hmk hq hct
  go_enter Try.func78, Try.ntmps78
  go_wp2_with fail
  with_reducible refine (kind_any H0.out).mono ?_
  rintro e w1 ⟨rfl, m1, hw1⟩
  have h1 := H0.out.drewN m1
  rw [← hw1] at h1
  have hp1 := (JP.refl base w).drewN m1
  rw [← hw1] at hp1
  clear hw1
  have H1 := Lib.hid h1
  have HP1 : Hid (JP base w w1) := Lib.hid (by first | exact HP0.out.trans hp1 | exact (HP0.out.drewN _).trans hp1)
  have cb0_1 := (HE.out.h.keep HP1.out).cell
  have cb1_1 := (HE.out.a.keep HP1.out).cell
  have cb2_1 := (HE.out.c.keep HP1.out).cell
  have cb3_1 := (HE.out.l.keep HP1.out).cell
  have c5_1 := H1.out.hand (i := 5) (by omega)
  rw [show (hm) 5 = jp (ad p) from (by first | exact Hh5.out | (simp [upd]; done) | (simp [upd, Hh5.out]; done))] at c5_1
  have c6_1 := H1.out.hand (i := 6) (by omega)
  rw [show (hm) 6 = jp (ad c) from (by first | exact Hh6.out | (simp [upd]; done) | (simp [upd, Hh6.out]; done))] at c6_1
  have c7_1 := H1.out.hand (i := 7) (by omega)
  have f7_1 := H1.out.hfroz (v * 9 + 7)
  obtain ⟨b0c_1, b1c_1, b2c_1, b3c_1⟩ := H1.out.bead Hhc.out
  rw [Hhmc.out] at b2c_1
  have fmc_1 := H1.out.bfroz Hhc.out 2
  clear h1 hp1
  go_wp2_with fail
  with_reducible refine (stands_m H1.out (p := p) (c := c) Hhp.out Hhpt.out Hhn.out Hhc.out Hh5.out Hh6.out Hhmk.out (b := true) Hhq.out).mono ?_
  rintro e w2 ⟨rfl, m2, hw2⟩
  have h2 := H1.out.drewN m2
  rw [← hw2] at h2
  have hp2 := (JP.refl base w1).drewN m2
  rw [← hw2] at hp2
  clear hw2
  have H2 := Lib.hid h2
  have HP2 : Hid (JP base w w2) := Lib.hid (by first | exact HP1.out.trans hp2 | exact (HP1.out.drewN _).trans hp2)
  have cb0_2 := (HE.out.h.keep HP2.out).cell
  have cb1_2 := (HE.out.a.keep HP2.out).cell
  have cb2_2 := (HE.out.c.keep HP2.out).cell
  have cb3_2 := (HE.out.l.keep HP2.out).cell
  have c5_2 := H2.out.hand (i := 5) (by omega)
  rw [show (hm) 5 = jp (ad p) from (by first | exact Hh5.out | (simp [upd]; done) | (simp [upd, Hh5.out]; done))] at c5_2
  have c6_2 := H2.out.hand (i := 6) (by omega)
  rw [show (hm) 6 = jp (ad c) from (by first | exact Hh6.out | (simp [upd]; done) | (simp [upd, Hh6.out]; done))] at c6_2
  have c7_2 := H2.out.hand (i := 7) (by omega)
  have f7_2 := H2.out.hfroz (v * 9 + 7)
  obtain ⟨b0c_2, b1c_2, b2c_2, b3c_2⟩ := H2.out.bead Hhc.out
  rw [Hhmc.out] at b2c_2
  have fmc_2 := H2.out.bfroz Hhc.out 2
  clear h2 hp2
  go_wp2_with fail
  first | with_reducible refine (unlink_any H2.out (p := p) (c := c) Hhp.out Hhpt.out Hhc.out Hhct.out Hh5.out Hh6.out).mono ?_ | with_reducible refine (unlink_any (H2.out.drewN _) (p := p) (c := c) Hhp.out Hhpt.out Hhc.out Hhct.out Hh5.out Hh6.out).mono ?_ | with_reducible refine (unlink_any ((H2.out.drewN _).drewN _) (p := p) (c := c) Hhp.out Hhpt.out Hhc.out Hhct.out Hh5.out Hh6.out).mono ?_
  rintro e w3 ⟨rfl, h3, hp3⟩
  have H3 := Lib.hid h3
  have HP3 : Hid (JP base w w3) := Lib.hid (by first | exact HP2.out.trans hp3 | exact (HP2.out.drewN _).trans hp3)
  have cb0_3 := (HE.out.h.keep HP3.out).cell
  have cb1_3 := (HE.out.a.keep HP3.out).cell
  have cb2_3 := (HE.out.c.keep HP3.out).cell
  have cb3_3 := (HE.out.l.keep HP3.out).cell
  have c5_3 := H3.out.hand (i := 5) (by omega)
  rw [show (hm) 5 = jp (ad p) from (by first | exact Hh5.out | (simp [upd]; done) | (simp [upd, Hh5.out]; done))] at c5_3
  have c7_3 := H3.out.hand (i := 7) (by omega)
  have f7_3 := H3.out.hfroz (v * 9 + 7)
  clear h3 hp3
  have f6_1 := H3.out.hfroz (v * 9 + 6)
  have c6_1 := H3.out.hand (i := 6) (by omega)
  obtain ⟨-, b1p_1, -, -⟩ := H3.out.bead (i := p) Hhp.out
  rw [show jnx (s.cut p c) ad p = jp (ad (s.nx c)) from (by rw [jnx_ne (show p ≠ (s.cut p c).tl from Hhpt.out)]; show jp (ad (upd s.nx p (s.nx c) p)) = _; rw [upd_same])] at b1p_1
  go_wp2_with fail
  go_region
  all_goals
   (skip
    go_wp2
    go_end0
    first | exact ⟨rfl, (H3.out.fld (i := 6) (by omega) (by omega) _), HP3.out.trans (H3.out.js.jp_fld _ _)⟩ | exact ⟨rfl, ((H3.out.drewN _).fld (i := 6) (by omega) (by omega) _), (HP3.out.drewN _).trans ((H3.out.drewN _).js.jp_fld _ _)⟩ | exact ⟨rfl, (((H3.out.drewN _).drewN _).fld (i := 6) (by omega) (by omega) _), ((HP3.out.drewN _).drewN _).trans (((H3.out.drewN _).drewN _).js.jp_fld _ _)⟩)

set_option maxRecDepth 100000 in
set_option maxHeartbeats 4000000 in
theorem cW1_lt {hb ab cb lb na nc c : Nat} {ca cc : Array Value} (h : ST base B nh v kd K ad s lk hs hm w) (he : EnvW w (.pointer (some ⟨B, v * 9, none⟩)) hb ab cb lb (.func (.func na) #[] ca) (.func (.func nc) #[] cc)) (h6 : hm 6 = jp (ad c)) (hc : c < s.sz) (hmc : s.mrk c = false) (hct : c ≠ s.tl) (hlt : s.key c < K) : Calls Try.prog 78 #[jp hb, jp ab, jp cb] w (RetJ base B nh v kd K ad s lk hs (upd (upd hm 5 (jp (ad c))) 6 (jp (ad (s.nx c)))) w) := by
  have H0 := Lib.hid h
  have HE := Lib.hid he
  have HP0 : Hid (JP base w w) := Lib.hid (JP.refl _ _)
  have Hh6 := Lib.hid h6
  have Hhc := Lib.hid hc
  have Hhmc := Lib.hid hmc
  have Hhct := Lib.hid hct
  have Hhlt := Lib.hid hlt
  have cb0_0 := (HE.out.h.keep HP0.out).cell
  have cb1_0 := (HE.out.a.keep HP0.out).cell
  have cb2_0 := (HE.out.c.keep HP0.out).cell
  have cb3_0 := (HE.out.l.keep HP0.out).cell
  have c6_0 := H0.out.hand (i := 6) (by omega)
  rw [show (hm) 6 = jp (ad c) from (by first | exact Hh6.out | (simp [upd]; done) | (simp [upd, Hh6.out]; done))] at c6_0
  have c7_0 := H0.out.hand (i := 7) (by omega)
  have f7_0 := H0.out.hfroz (v * 9 + 7)
  obtain ⟨b0c_0, b1c_0, b2c_0, b3c_0⟩ := H0.out.bead Hhc.out
  rw [Hhmc.out] at b2c_0
  have fmc_0 := H0.out.bfroz Hhc.out 2
  clear h he h6 hc hmc hct
  go_enter Try.func78, Try.ntmps78
  have HQ0_1 : Hid (∀ m, Calls Try.prog 48 #[.pointer (some ⟨B, v * 9, none⟩)] (w.drewN m) fun e w' => e = .returned (I K) ∧ ∃ m', w' = (w.drewN m).drewN m') := fun m => key_any (H0.out.drewN m)
  have HR0_1 : Hid (∀ m k, Calls Try.prog 48 #[.pointer (some ⟨B, v * 9, none⟩)] ((w.drewN m).drewN k) fun e w' => e = .returned (I K) ∧ ∃ m', w' = ((w.drewN m).drewN k).drewN m') := fun m k => key_any ((H0.out.drewN m).drewN k)
  go_wp2_with fail
  go_quiet ((first | (go_at_call 48; with_reducible exact Calls.quiet_of (HQ0_1.out _)) | (go_at_call 48; with_reducible exact Calls.quiet_of (HR0_1.out _ _))))
  generalize hw1 : World.drewN w nq = w1
  have h1 := H0.out.drewN nq
  rw [hw1] at h1
  have hp1 := (JP.refl base w).drewN nq
  rw [hw1] at hp1
  clear hw1
  have H1 := Lib.hid h1
  have HP1 : Hid (JP base w w1) := Lib.hid (by first | exact HP0.out.trans hp1 | exact (HP0.out.drewN _).trans hp1)
  have cb0_1 := (HE.out.h.keep HP1.out).cell
  have cb1_1 := (HE.out.a.keep HP1.out).cell
  have cb2_1 := (HE.out.c.keep HP1.out).cell
  have cb3_1 := (HE.out.l.keep HP1.out).cell
  have c6_1 := H1.out.hand (i := 6) (by omega)
  rw [show (hm) 6 = jp (ad c) from (by first | exact Hh6.out | (simp [upd]; done) | (simp [upd, Hh6.out]; done))] at c6_1
  have c7_1 := H1.out.hand (i := 7) (by omega)
  have f7_1 := H1.out.hfroz (v * 9 + 7)
  obtain ⟨b0c_1, b1c_1, b2c_1, b3c_1⟩ := H1.out.bead Hhc.out
  rw [Hhmc.out] at b2c_1
  have fmc_1 := H1.out.bfroz Hhc.out 2
  clear h1 hp1
  go_wp2_with fail
  go_region_with (first
    | (go_at_call 45
       first | with_reducible refine (to_any H1.out (x := c) Hhc.out Hhct.out).mono ?_ | with_reducible refine (to_any (H1.out.drewN _) (x := c) Hhc.out Hhct.out).mono ?_ | with_reducible refine (to_any ((H1.out.drewN _).drewN _) (x := c) Hhc.out Hhct.out).mono ?_ | refine (to_any (H1.out.drewN 1) (x := c) Hhc.out Hhct.out).mono ?_
       rintro e w2 ⟨rfl, h2, hp2⟩
       have H2 := Lib.hid h2
       have HP2 : Hid (JP base w w2) := Lib.hid (by first | exact HP1.out.trans hp2 | exact HP1.out.drew.trans hp2 | exact (HP1.out.drewN _).trans hp2 | exact ((HP1.out.drewN _).drewN _).trans hp2)
       have cb0_2 := (HE.out.h.keep HP2.out).cell
       have cb1_2 := (HE.out.a.keep HP2.out).cell
       have cb2_2 := (HE.out.c.keep HP2.out).cell
       have cb3_2 := (HE.out.l.keep HP2.out).cell
       have c7_2 := H2.out.hand (i := 7) (by omega)
       have f7_2 := H2.out.hfroz (v * 9 + 7)
       clear h2 hp2))
  all_goals
   (skip
    go_wp2
    go_end0
    first | exact ⟨rfl, H2.out, HP2.out⟩ | exact ⟨rfl, (H2.out.drewN _), (HP2.out.drewN _)⟩ | exact ⟨rfl, ((H2.out.drewN _).drewN _), ((HP2.out.drewN _).drewN _)⟩)

set_option maxRecDepth 100000 in
set_option maxHeartbeats 4000000 in
theorem cW1_has {hb ab cb lb na nc c : Nat} {ca cc : Array Value} (h : ST base B nh v 3 K ad s lk hs hm w) (he : EnvW w (.pointer (some ⟨B, v * 9, none⟩)) hb ab cb lb (.func (.func na) #[] ca) (.func (.func nc) #[] cc)) (h6 : hm 6 = jp (ad c)) (hc : c < s.sz) (hmc : s.mrk c = false) (hge : ¬ s.key c < K) : Calls Try.prog 78 #[jp hb, jp ab, jp cb] w (RetJ base B nh v 3 K ad s lk hs (upd (upd hm 7 .nilFunc) 8 (.bool (decide (s.key c = K) && !s.mrk c))) w) := by
  have H0 := Lib.hid h
  have HE := Lib.hid he
  have HP0 : Hid (JP base w w) := Lib.hid (JP.refl _ _)
  have Hh6 := Lib.hid h6
  have Hhc := Lib.hid hc
  have Hhmc := Lib.hid hmc
  have Hhge := Lib.hid hge
  have cb0_0 := (HE.out.h.keep HP0.out).cell
  have cb1_0 := (HE.out.a.keep HP0.out).cell
  have cb2_0 := (HE.out.c.keep HP0.out).cell
  have cb3_0 := (HE.out.l.keep HP0.out).cell
  have c6_0 := H0.out.hand (i := 6) (by omega)
  rw [show (hm) 6 = jp (ad c) from (by first | exact Hh6.out | (simp [upd]; done) | (simp [upd, Hh6.out]; done))] at c6_0
  have c7_0 := H0.out.hand (i := 7) (by omega)
  have f7_0 := H0.out.hfroz (v * 9 + 7)
  obtain ⟨b0c_0, b1c_0, b2c_0, b3c_0⟩ := H0.out.bead Hhc.out
  rw [Hhmc.out] at b2c_0
  have fmc_0 := H0.out.bfroz Hhc.out 2
  clear h he h6 hc hmc
  go_enter Try.func78, Try.ntmps78
  have HQ0_1 : Hid (∀ m, Calls Try.prog 48 #[.pointer (some ⟨B, v * 9, none⟩)] (w.drewN m) fun e w' => e = .returned (I K) ∧ ∃ m', w' = (w.drewN m).drewN m') := fun m => key_any (H0.out.drewN m)
  have HR0_1 : Hid (∀ m k, Calls Try.prog 48 #[.pointer (some ⟨B, v * 9, none⟩)] ((w.drewN m).drewN k) fun e w' => e = .returned (I K) ∧ ∃ m', w' = ((w.drewN m).drewN k).drewN m') := fun m k => key_any ((H0.out.drewN m).drewN k)
  go_wp2_with fail
  go_quiet ((first | (go_at_call 48; with_reducible exact Calls.quiet_of (HQ0_1.out _)) | (go_at_call 48; with_reducible exact Calls.quiet_of (HR0_1.out _ _))))
  generalize hw1 : World.drewN w nq = w1
  have h1 := H0.out.drewN nq
  rw [hw1] at h1
  have hp1 := (JP.refl base w).drewN nq
  rw [hw1] at hp1
  clear hw1
  have H1 := Lib.hid h1
  have HP1 : Hid (JP base w w1) := Lib.hid (by first | exact HP0.out.trans hp1 | exact (HP0.out.drewN _).trans hp1)
  have cb0_1 := (HE.out.h.keep HP1.out).cell
  have cb1_1 := (HE.out.a.keep HP1.out).cell
  have cb2_1 := (HE.out.c.keep HP1.out).cell
  have cb3_1 := (HE.out.l.keep HP1.out).cell
  have c6_1 := H1.out.hand (i := 6) (by omega)
  rw [show (hm) 6 = jp (ad c) from (by first | exact Hh6.out | (simp [upd]; done) | (simp [upd, Hh6.out]; done))] at c6_1
  have c7_1 := H1.out.hand (i := 7) (by omega)
  have f7_1 := H1.out.hfroz (v * 9 + 7)
  obtain ⟨b0c_1, b1c_1, b2c_1, b3c_1⟩ := H1.out.bead Hhc.out
  rw [Hhmc.out] at b2c_1
  have fmc_1 := H1.out.bfroz Hhc.out 2
  clear h1 hp1
  go_wp2_with fail
  with_reducible refine (kind_any H1.out).mono ?_
  rintro e w2 ⟨rfl, m2, hw2⟩
  have h2 := H1.out.drewN m2
  rw [← hw2] at h2
  have hp2 := (JP.refl base w1).drewN m2
  rw [← hw2] at hp2
  clear hw2
  have H2 := Lib.hid h2
  have HP2 : Hid (JP base w w2) := Lib.hid (by first | exact HP1.out.trans hp2 | exact (HP1.out.drewN _).trans hp2)
  have cb0_2 := (HE.out.h.keep HP2.out).cell
  have cb1_2 := (HE.out.a.keep HP2.out).cell
  have cb2_2 := (HE.out.c.keep HP2.out).cell
  have cb3_2 := (HE.out.l.keep HP2.out).cell
  have c6_2 := H2.out.hand (i := 6) (by omega)
  rw [show (hm) 6 = jp (ad c) from (by first | exact Hh6.out | (simp [upd]; done) | (simp [upd, Hh6.out]; done))] at c6_2
  have c7_2 := H2.out.hand (i := 7) (by omega)
  have f7_2 := H2.out.hfroz (v * 9 + 7)
  obtain ⟨b0c_2, b1c_2, b2c_2, b3c_2⟩ := H2.out.bead Hhc.out
  rw [Hhmc.out] at b2c_2
  have fmc_2 := H2.out.bfroz Hhc.out 2
  clear h2 hp2
  go_wp2_with fail
  go_region_with (first
    | (go_at_call 58
       first | with_reducible refine (has_any H2.out (c := c) Hhc.out Hh6.out rfl).mono ?_ | with_reducible refine (has_any (H2.out.drewN 1) (c := c) Hhc.out Hh6.out rfl).mono ?_ | with_reducible refine (has_any (H2.out.drewN _) (c := c) Hhc.out Hh6.out rfl).mono ?_ | with_reducible refine (has_any ((H2.out.drewN _).drewN _) (c := c) Hhc.out Hh6.out rfl).mono ?_ | refine (has_any (H2.out.drewN 1) (c := c) Hhc.out Hh6.out rfl).mono ?_
       rintro e w9 ⟨rfl, m2_2, rfl⟩)
    | (go_at_call 55
       first | with_reducible refine (end_any H2.out (decide (s.key c = K) && !s.mrk c)).mono ?_ | with_reducible refine (end_any (H2.out.drewN _) (decide (s.key c = K) && !s.mrk c)).mono ?_ | with_reducible refine (end_any ((H2.out.drewN _).drewN _) (decide (s.key c = K) && !s.mrk c)).mono ?_ | refine (end_any (H2.out.drewN 1) (decide (s.key c = K) && !s.mrk c)).mono ?_
       rintro e w3 ⟨rfl, h3, hp3⟩
       have H3 := Lib.hid h3
       have HP3 : Hid (JP base w w3) := Lib.hid (by first | exact HP2.out.trans hp3 | exact HP2.out.drew.trans hp3 | exact (HP2.out.drewN _).trans hp3 | exact ((HP2.out.drewN _).drewN _).trans hp3)
       have cb0_3 := (HE.out.h.keep HP3.out).cell
       have cb1_3 := (HE.out.a.keep HP3.out).cell
       have cb2_3 := (HE.out.c.keep HP3.out).cell
       have cb3_3 := (HE.out.l.keep HP3.out).cell
       have c7_3 := H3.out.hand (i := 7) (by omega)
       have f7_3 := H3.out.hfroz (v * 9 + 7)
       clear h3 hp3))
  all_goals
   (skip
    go_wp2
    go_end0
    first | exact ⟨rfl, H3.out, HP3.out⟩ | exact ⟨rfl, (H3.out.drewN _), (HP3.out.drewN _)⟩ | exact ⟨rfl, ((H3.out.drewN _).drewN _), ((HP3.out.drewN _).drewN _)⟩)

set_option maxRecDepth 100000 in
set_option maxHeartbeats 4000000 in
theorem cW1_ltm {hb ab cb lb na nc c : Nat} {ca cc : Array Value} (h : ST base B nh v 3 K ad s lk hs hm w) (he : EnvW w (.pointer (some ⟨B, v * 9, none⟩)) hb ab cb lb (.func (.func na) #[] ca) (.func (.func nc) #[] cc)) (h6 : hm 6 = jp (ad c)) (hc : c < s.sz) (hmc : s.mrk c = true) (hct : c ≠ s.tl) (hlt : s.key c < K) : Calls Try.prog 78 #[jp hb, jp ab, jp cb] w (RetJ base B nh v 3 K ad s lk hs (upd (upd hm 5 (jp (ad c))) 6 (jp (ad (s.nx c)))) w) := by
  have H0 := Lib.hid h
  have HE := Lib.hid he
  have HP0 : Hid (JP base w w) := Lib.hid (JP.refl _ _)
  have Hh6 := Lib.hid h6
  have Hhc := Lib.hid hc
  have Hhmc := Lib.hid hmc
  have Hhct := Lib.hid hct
  have Hhlt := Lib.hid hlt
  have cb0_0 := (HE.out.h.keep HP0.out).cell
  have cb1_0 := (HE.out.a.keep HP0.out).cell
  have cb2_0 := (HE.out.c.keep HP0.out).cell
  have cb3_0 := (HE.out.l.keep HP0.out).cell
  have c6_0 := H0.out.hand (i := 6) (by omega)
  rw [show (hm) 6 = jp (ad c) from (by first | exact Hh6.out | (simp [upd]; done) | (simp [upd, Hh6.out]; done))] at c6_0
  have c7_0 := H0.out.hand (i := 7) (by omega)
  have f7_0 := H0.out.hfroz (v * 9 + 7)
  obtain ⟨b0c_0, b1c_0, b2c_0, b3c_0⟩ := H0.out.bead Hhc.out
  rw [Hhmc.out] at b2c_0
  have fmc_0 := H0.out.bfroz Hhc.out 2
  clear h he h6 hc hmc hct
  go_enter Try.func78, Try.ntmps78
  go_wp2_with fail
  with_reducible refine (kind_any H0.out).mono ?_
  rintro e w1 ⟨rfl, m1, hw1⟩
  have h1 := H0.out.drewN m1
  rw [← hw1] at h1
  have hp1 := (JP.refl base w).drewN m1
  rw [← hw1] at hp1
  clear hw1
  have H1 := Lib.hid h1
  have HP1 : Hid (JP base w w1) := Lib.hid (by first | exact HP0.out.trans hp1 | exact (HP0.out.drewN _).trans hp1)
  have cb0_1 := (HE.out.h.keep HP1.out).cell
  have cb1_1 := (HE.out.a.keep HP1.out).cell
  have cb2_1 := (HE.out.c.keep HP1.out).cell
  have cb3_1 := (HE.out.l.keep HP1.out).cell
  have c6_1 := H1.out.hand (i := 6) (by omega)
  rw [show (hm) 6 = jp (ad c) from (by first | exact Hh6.out | (simp [upd]; done) | (simp [upd, Hh6.out]; done))] at c6_1
  have c7_1 := H1.out.hand (i := 7) (by omega)
  have f7_1 := H1.out.hfroz (v * 9 + 7)
  obtain ⟨b0c_1, b1c_1, b2c_1, b3c_1⟩ := H1.out.bead Hhc.out
  rw [Hhmc.out] at b2c_1
  have fmc_1 := H1.out.bfroz Hhc.out 2
  clear h1 hp1
  have HQ0_1 : Hid (∀ m, Calls Try.prog 48 #[.pointer (some ⟨B, v * 9, none⟩)] (w1.drewN m) fun e w' => e = .returned (I K) ∧ ∃ m', w' = (w1.drewN m).drewN m') := fun m => key_any (H1.out.drewN m)
  have HR0_1 : Hid (∀ m k, Calls Try.prog 48 #[.pointer (some ⟨B, v * 9, none⟩)] ((w1.drewN m).drewN k) fun e w' => e = .returned (I K) ∧ ∃ m', w' = ((w1.drewN m).drewN k).drewN m') := fun m k => key_any ((H1.out.drewN m).drewN k)
  go_wp2_with fail
  go_quiet ((first | (go_at_call 48; with_reducible exact Calls.quiet_of (HQ0_1.out _)) | (go_at_call 48; with_reducible exact Calls.quiet_of (HR0_1.out _ _))))
  generalize hw2 : World.drewN w1 nq = w2
  have h2 := H1.out.drewN nq
  rw [hw2] at h2
  have hp2 := (JP.refl base w1).drewN nq
  rw [hw2] at hp2
  clear hw2
  have H2 := Lib.hid h2
  have HP2 : Hid (JP base w w2) := Lib.hid (by first | exact HP1.out.trans hp2 | exact (HP1.out.drewN _).trans hp2)
  have cb0_2 := (HE.out.h.keep HP2.out).cell
  have cb1_2 := (HE.out.a.keep HP2.out).cell
  have cb2_2 := (HE.out.c.keep HP2.out).cell
  have cb3_2 := (HE.out.l.keep HP2.out).cell
  have c6_2 := H2.out.hand (i := 6) (by omega)
  rw [show (hm) 6 = jp (ad c) from (by first | exact Hh6.out | (simp [upd]; done) | (simp [upd, Hh6.out]; done))] at c6_2
  have c7_2 := H2.out.hand (i := 7) (by omega)
  have f7_2 := H2.out.hfroz (v * 9 + 7)
  obtain ⟨b0c_2, b1c_2, b2c_2, b3c_2⟩ := H2.out.bead Hhc.out
  rw [Hhmc.out] at b2c_2
  have fmc_2 := H2.out.bfroz Hhc.out 2
  clear h2 hp2
  go_wp2_with fail
  go_region_with (first
    | (go_at_call 45
       first | with_reducible refine (to_any H2.out (x := c) Hhc.out Hhct.out).mono ?_ | with_reducible refine (to_any (H2.out.drewN _) (x := c) Hhc.out Hhct.out).mono ?_ | with_reducible refine (to_any ((H2.out.drewN _).drewN _) (x := c) Hhc.out Hhct.out).mono ?_ | refine (to_any (H2.out.drewN 1) (x := c) Hhc.out Hhct.out).mono ?_
       rintro e w3 ⟨rfl, h3, hp3⟩
       have H3 := Lib.hid h3
       have HP3 : Hid (JP base w w3) := Lib.hid (by first | exact HP2.out.trans hp3 | exact HP2.out.drew.trans hp3 | exact (HP2.out.drewN _).trans hp3 | exact ((HP2.out.drewN _).drewN _).trans hp3)
       have cb0_3 := (HE.out.h.keep HP3.out).cell
       have cb1_3 := (HE.out.a.keep HP3.out).cell
       have cb2_3 := (HE.out.c.keep HP3.out).cell
       have cb3_3 := (HE.out.l.keep HP3.out).cell
       have c7_3 := H3.out.hand (i := 7) (by omega)
       have f7_3 := H3.out.hfroz (v * 9 + 7)
       clear h3 hp3))
  all_goals
   (skip
    go_wp2
    go_end0
    first | exact ⟨rfl, H3.out, HP3.out⟩ | exact ⟨rfl, (H3.out.drewN _), (HP3.out.drewN _)⟩ | exact ⟨rfl, ((H3.out.drewN _).drewN _), ((HP3.out.drewN _).drewN _)⟩)

set_option maxRecDepth 100000 in
set_option maxHeartbeats 4000000 in
theorem cW1_hasm {hb ab cb lb na nc c : Nat} {ca cc : Array Value} (h : ST base B nh v 3 K ad s lk hs hm w) (he : EnvW w (.pointer (some ⟨B, v * 9, none⟩)) hb ab cb lb (.func (.func na) #[] ca) (.func (.func nc) #[] cc)) (h6 : hm 6 = jp (ad c)) (hc : c < s.sz) (hmc : s.mrk c = true) (hge : ¬ s.key c < K) : Calls Try.prog 78 #[jp hb, jp ab, jp cb] w (RetJ base B nh v 3 K ad s lk hs (upd (upd hm 7 .nilFunc) 8 (.bool (decide (s.key c = K) && !s.mrk c))) w) := by
  have H0 := Lib.hid h
  have HE := Lib.hid he
  have HP0 : Hid (JP base w w) := Lib.hid (JP.refl _ _)
  have Hh6 := Lib.hid h6
  have Hhc := Lib.hid hc
  have Hhmc := Lib.hid hmc
  have Hhge := Lib.hid hge
  have cb0_0 := (HE.out.h.keep HP0.out).cell
  have cb1_0 := (HE.out.a.keep HP0.out).cell
  have cb2_0 := (HE.out.c.keep HP0.out).cell
  have cb3_0 := (HE.out.l.keep HP0.out).cell
  have c6_0 := H0.out.hand (i := 6) (by omega)
  rw [show (hm) 6 = jp (ad c) from (by first | exact Hh6.out | (simp [upd]; done) | (simp [upd, Hh6.out]; done))] at c6_0
  have c7_0 := H0.out.hand (i := 7) (by omega)
  have f7_0 := H0.out.hfroz (v * 9 + 7)
  obtain ⟨b0c_0, b1c_0, b2c_0, b3c_0⟩ := H0.out.bead Hhc.out
  rw [Hhmc.out] at b2c_0
  have fmc_0 := H0.out.bfroz Hhc.out 2
  clear h he h6 hc hmc
  go_enter Try.func78, Try.ntmps78
  go_wp2_with fail
  with_reducible refine (kind_any H0.out).mono ?_
  rintro e w1 ⟨rfl, m1, hw1⟩
  have h1 := H0.out.drewN m1
  rw [← hw1] at h1
  have hp1 := (JP.refl base w).drewN m1
  rw [← hw1] at hp1
  clear hw1
  have H1 := Lib.hid h1
  have HP1 : Hid (JP base w w1) := Lib.hid (by first | exact HP0.out.trans hp1 | exact (HP0.out.drewN _).trans hp1)
  have cb0_1 := (HE.out.h.keep HP1.out).cell
  have cb1_1 := (HE.out.a.keep HP1.out).cell
  have cb2_1 := (HE.out.c.keep HP1.out).cell
  have cb3_1 := (HE.out.l.keep HP1.out).cell
  have c6_1 := H1.out.hand (i := 6) (by omega)
  rw [show (hm) 6 = jp (ad c) from (by first | exact Hh6.out | (simp [upd]; done) | (simp [upd, Hh6.out]; done))] at c6_1
  have c7_1 := H1.out.hand (i := 7) (by omega)
  have f7_1 := H1.out.hfroz (v * 9 + 7)
  obtain ⟨b0c_1, b1c_1, b2c_1, b3c_1⟩ := H1.out.bead Hhc.out
  rw [Hhmc.out] at b2c_1
  have fmc_1 := H1.out.bfroz Hhc.out 2
  clear h1 hp1
  have HQ0_1 : Hid (∀ m, Calls Try.prog 48 #[.pointer (some ⟨B, v * 9, none⟩)] (w1.drewN m) fun e w' => e = .returned (I K) ∧ ∃ m', w' = (w1.drewN m).drewN m') := fun m => key_any (H1.out.drewN m)
  have HR0_1 : Hid (∀ m k, Calls Try.prog 48 #[.pointer (some ⟨B, v * 9, none⟩)] ((w1.drewN m).drewN k) fun e w' => e = .returned (I K) ∧ ∃ m', w' = ((w1.drewN m).drewN k).drewN m') := fun m k => key_any ((H1.out.drewN m).drewN k)
  go_wp2_with fail
  go_quiet ((first | (go_at_call 48; with_reducible exact Calls.quiet_of (HQ0_1.out _)) | (go_at_call 48; with_reducible exact Calls.quiet_of (HR0_1.out _ _))))
  generalize hw2 : World.drewN w1 nq = w2
  have h2 := H1.out.drewN nq
  rw [hw2] at h2
  have hp2 := (JP.refl base w1).drewN nq
  rw [hw2] at hp2
  clear hw2
  have H2 := Lib.hid h2
  have HP2 : Hid (JP base w w2) := Lib.hid (by first | exact HP1.out.trans hp2 | exact (HP1.out.drewN _).trans hp2)
  have cb0_2 := (HE.out.h.keep HP2.out).cell
  have cb1_2 := (HE.out.a.keep HP2.out).cell
  have cb2_2 := (HE.out.c.keep HP2.out).cell
  have cb3_2 := (HE.out.l.keep HP2.out).cell
  have c6_2 := H2.out.hand (i := 6) (by omega)
  rw [show (hm) 6 = jp (ad c) from (by first | exact Hh6.out | (simp [upd]; done) | (simp [upd, Hh6.out]; done))] at c6_2
  have c7_2 := H2.out.hand (i := 7) (by omega)
  have f7_2 := H2.out.hfroz (v * 9 + 7)
  obtain ⟨b0c_2, b1c_2, b2c_2, b3c_2⟩ := H2.out.bead Hhc.out
  rw [Hhmc.out] at b2c_2
  have fmc_2 := H2.out.bfroz Hhc.out 2
  clear h2 hp2
  go_wp2_with fail
  with_reducible refine (kind_any H2.out).mono ?_
  rintro e w3 ⟨rfl, m3, hw3⟩
  have h3 := H2.out.drewN m3
  rw [← hw3] at h3
  have hp3 := (JP.refl base w2).drewN m3
  rw [← hw3] at hp3
  clear hw3
  have H3 := Lib.hid h3
  have HP3 : Hid (JP base w w3) := Lib.hid (by first | exact HP2.out.trans hp3 | exact (HP2.out.drewN _).trans hp3)
  have cb0_3 := (HE.out.h.keep HP3.out).cell
  have cb1_3 := (HE.out.a.keep HP3.out).cell
  have cb2_3 := (HE.out.c.keep HP3.out).cell
  have cb3_3 := (HE.out.l.keep HP3.out).cell
  have c6_3 := H3.out.hand (i := 6) (by omega)
  rw [show (hm) 6 = jp (ad c) from (by first | exact Hh6.out | (simp [upd]; done) | (simp [upd, Hh6.out]; done))] at c6_3
  have c7_3 := H3.out.hand (i := 7) (by omega)
  have f7_3 := H3.out.hfroz (v * 9 + 7)
  obtain ⟨b0c_3, b1c_3, b2c_3, b3c_3⟩ := H3.out.bead Hhc.out
  rw [Hhmc.out] at b2c_3
  have fmc_3 := H3.out.bfroz Hhc.out 2
  clear h3 hp3
  go_wp2_with fail
  go_region_with (first
    | (go_at_call 58
       first | with_reducible refine (has_any H3.out (c := c) Hhc.out Hh6.out rfl).mono ?_ | with_reducible refine (has_any (H3.out.drewN 1) (c := c) Hhc.out Hh6.out rfl).mono ?_ | with_reducible refine (has_any (H3.out.drewN _) (c := c) Hhc.out Hh6.out rfl).mono ?_ | with_reducible refine (has_any ((H3.out.drewN _).drewN _) (c := c) Hhc.out Hh6.out rfl).mono ?_ | refine (has_any (H3.out.drewN 1) (c := c) Hhc.out Hh6.out rfl).mono ?_
       rintro e w9 ⟨rfl, m3_2, rfl⟩)
    | (go_at_call 55
       first | with_reducible refine (end_any H3.out (decide (s.key c = K) && !s.mrk c)).mono ?_ | with_reducible refine (end_any (H3.out.drewN _) (decide (s.key c = K) && !s.mrk c)).mono ?_ | with_reducible refine (end_any ((H3.out.drewN _).drewN _) (decide (s.key c = K) && !s.mrk c)).mono ?_ | refine (end_any (H3.out.drewN 1) (decide (s.key c = K) && !s.mrk c)).mono ?_
       rintro e w4 ⟨rfl, h4, hp4⟩
       have H4 := Lib.hid h4
       have HP4 : Hid (JP base w w4) := Lib.hid (by first | exact HP3.out.trans hp4 | exact HP3.out.drew.trans hp4 | exact (HP3.out.drewN _).trans hp4 | exact ((HP3.out.drewN _).drewN _).trans hp4)
       have cb0_4 := (HE.out.h.keep HP4.out).cell
       have cb1_4 := (HE.out.a.keep HP4.out).cell
       have cb2_4 := (HE.out.c.keep HP4.out).cell
       have cb3_4 := (HE.out.l.keep HP4.out).cell
       have c7_4 := H4.out.hand (i := 7) (by omega)
       have f7_4 := H4.out.hfroz (v * 9 + 7)
       clear h4 hp4))
  all_goals
   (skip
    go_wp2
    go_end0
    first | exact ⟨rfl, H4.out, HP4.out⟩ | exact ⟨rfl, (H4.out.drewN _), (HP4.out.drewN _)⟩ | exact ⟨rfl, ((H4.out.drewN _).drewN _), ((HP4.out.drewN _).drewN _)⟩)

set_option maxRecDepth 100000 in
set_option maxHeartbeats 4000000 in
theorem cW1_no1 {hb ab cb lb na nc c : Nat} {ca cc : Array Value} (h : ST base B nh v 1 K ad s lk hs hm w) (he : EnvW w (.pointer (some ⟨B, v * 9, none⟩)) hb ab cb lb (.func (.func na) #[] ca) (.func (.func nc) #[] cc)) (h6 : hm 6 = jp (ad c)) (hc : c < s.sz) (hmc : s.mrk c = false) (hge : ¬ s.key c < K) (hf : decide (s.key c = K) = true) : Calls Try.prog 78 #[jp hb, jp ab, jp cb] w (RetJ base B nh v 1 K ad s lk hs (upd (upd hm 7 .nilFunc) 8 (.bool false)) w) := by
  have H0 := Lib.hid h
  have HE := Lib.hid he
  have HP0 : Hid (JP base w w) := Lib.hid (JP.refl _ _)
  have Hh6 := Lib.hid h6
  have Hhc := Lib.hid hc
  have Hhmc := Lib.hid hmc
  have Hhge := Lib.hid hge
  have Hhf := Lib.hid hf
  have cb0_0 := (HE.out.h.keep HP0.out).cell
  have cb1_0 := (HE.out.a.keep HP0.out).cell
  have cb2_0 := (HE.out.c.keep HP0.out).cell
  have cb3_0 := (HE.out.l.keep HP0.out).cell
  have c6_0 := H0.out.hand (i := 6) (by omega)
  rw [show (hm) 6 = jp (ad c) from (by first | exact Hh6.out | (simp [upd]; done) | (simp [upd, Hh6.out]; done))] at c6_0
  have c7_0 := H0.out.hand (i := 7) (by omega)
  have f7_0 := H0.out.hfroz (v * 9 + 7)
  obtain ⟨b0c_0, b1c_0, b2c_0, b3c_0⟩ := H0.out.bead Hhc.out
  rw [Hhmc.out] at b2c_0
  have fmc_0 := H0.out.bfroz Hhc.out 2
  clear h he h6 hc hmc hf
  go_enter Try.func78, Try.ntmps78
  have HQ0_1 : Hid (∀ m, Calls Try.prog 48 #[.pointer (some ⟨B, v * 9, none⟩)] (w.drewN m) fun e w' => e = .returned (I K) ∧ ∃ m', w' = (w.drewN m).drewN m') := fun m => key_any (H0.out.drewN m)
  have HR0_1 : Hid (∀ m k, Calls Try.prog 48 #[.pointer (some ⟨B, v * 9, none⟩)] ((w.drewN m).drewN k) fun e w' => e = .returned (I K) ∧ ∃ m', w' = ((w.drewN m).drewN k).drewN m') := fun m k => key_any ((H0.out.drewN m).drewN k)
  go_wp2_with fail
  go_quiet ((first | (go_at_call 48; with_reducible exact Calls.quiet_of (HQ0_1.out _)) | (go_at_call 48; with_reducible exact Calls.quiet_of (HR0_1.out _ _))))
  generalize hw1 : World.drewN w nq = w1
  have h1 := H0.out.drewN nq
  rw [hw1] at h1
  have hp1 := (JP.refl base w).drewN nq
  rw [hw1] at hp1
  clear hw1
  have H1 := Lib.hid h1
  have HP1 : Hid (JP base w w1) := Lib.hid (by first | exact HP0.out.trans hp1 | exact (HP0.out.drewN _).trans hp1)
  have cb0_1 := (HE.out.h.keep HP1.out).cell
  have cb1_1 := (HE.out.a.keep HP1.out).cell
  have cb2_1 := (HE.out.c.keep HP1.out).cell
  have cb3_1 := (HE.out.l.keep HP1.out).cell
  have c6_1 := H1.out.hand (i := 6) (by omega)
  rw [show (hm) 6 = jp (ad c) from (by first | exact Hh6.out | (simp [upd]; done) | (simp [upd, Hh6.out]; done))] at c6_1
  have c7_1 := H1.out.hand (i := 7) (by omega)
  have f7_1 := H1.out.hfroz (v * 9 + 7)
  obtain ⟨b0c_1, b1c_1, b2c_1, b3c_1⟩ := H1.out.bead Hhc.out
  rw [Hhmc.out] at b2c_1
  have fmc_1 := H1.out.bfroz Hhc.out 2
  clear h1 hp1
  go_wp2_with fail
  with_reducible refine (kind_any H1.out).mono ?_
  rintro e w2 ⟨rfl, m2, hw2⟩
  have h2 := H1.out.drewN m2
  rw [← hw2] at h2
  have hp2 := (JP.refl base w1).drewN m2
  rw [← hw2] at hp2
  clear hw2
  have H2 := Lib.hid h2
  have HP2 : Hid (JP base w w2) := Lib.hid (by first | exact HP1.out.trans hp2 | exact (HP1.out.drewN _).trans hp2)
  have cb0_2 := (HE.out.h.keep HP2.out).cell
  have cb1_2 := (HE.out.a.keep HP2.out).cell
  have cb2_2 := (HE.out.c.keep HP2.out).cell
  have cb3_2 := (HE.out.l.keep HP2.out).cell
  have c6_2 := H2.out.hand (i := 6) (by omega)
  rw [show (hm) 6 = jp (ad c) from (by first | exact Hh6.out | (simp [upd]; done) | (simp [upd, Hh6.out]; done))] at c6_2
  have c7_2 := H2.out.hand (i := 7) (by omega)
  have f7_2 := H2.out.hfroz (v * 9 + 7)
  obtain ⟨b0c_2, b1c_2, b2c_2, b3c_2⟩ := H2.out.bead Hhc.out
  rw [Hhmc.out] at b2c_2
  have fmc_2 := H2.out.bfroz Hhc.out 2
  clear h2 hp2
  have HQ0_2 : Hid (∀ m, Calls Try.prog 50 #[.pointer (some ⟨B, v * 9, none⟩)] (w2.drewN m) fun e w' => e = .returned (.bool true) ∧ ∃ m', w' = (w2.drewN m).drewN m') := fun m => found_any (H2.out.drewN m) (c := c) Hhc.out Hh6.out (b := true) Hhf.out
  have HR0_2 : Hid (∀ m k, Calls Try.prog 50 #[.pointer (some ⟨B, v * 9, none⟩)] ((w2.drewN m).drewN k) fun e w' => e = .returned (.bool true) ∧ ∃ m', w' = ((w2.drewN m).drewN k).drewN m') := fun m k => found_any ((H2.out.drewN m).drewN k) (c := c) Hhc.out Hh6.out (b := true) Hhf.out
  have HQ1_3 : Hid (∀ m, Calls Try.prog 51 #[.pointer (some ⟨B, v * 9, none⟩)] (w2.drewN m) fun e w' => e = .returned (I 1) ∧ ∃ m', w' = (w2.drewN m).drewN m') := fun m => kind_any (H2.out.drewN m)
  have HR1_3 : Hid (∀ m k, Calls Try.prog 51 #[.pointer (some ⟨B, v * 9, none⟩)] ((w2.drewN m).drewN k) fun e w' => e = .returned (I 1) ∧ ∃ m', w' = ((w2.drewN m).drewN k).drewN m') := fun m k => kind_any ((H2.out.drewN m).drewN k)
  go_wp2_with fail
  go_quiet ((first | (go_at_call 50; with_reducible exact Calls.quiet_of (HQ0_2.out _)) | (go_at_call 50; with_reducible exact Calls.quiet_of (HR0_2.out _ _)) | (go_at_call 51; with_reducible exact Calls.quiet_of (HQ1_3.out _)) | (go_at_call 51; with_reducible exact Calls.quiet_of (HR1_3.out _ _))))
  generalize hw3 : World.drewN w2 nq = w3
  have h3 := H2.out.drewN nq
  rw [hw3] at h3
  have hp3 := (JP.refl base w2).drewN nq
  rw [hw3] at hp3
  clear hw3
  have H3 := Lib.hid h3
  have HP3 : Hid (JP base w w3) := Lib.hid (by first | exact HP2.out.trans hp3 | exact (HP2.out.drewN _).trans hp3)
  have cb0_3 := (HE.out.h.keep HP3.out).cell
  have cb1_3 := (HE.out.a.keep HP3.out).cell
  have cb2_3 := (HE.out.c.keep HP3.out).cell
  have cb3_3 := (HE.out.l.keep HP3.out).cell
  have c6_3 := H3.out.hand (i := 6) (by omega)
  rw [show (hm) 6 = jp (ad c) from (by first | exact Hh6.out | (simp [upd]; done) | (simp [upd, Hh6.out]; done))] at c6_3
  have c7_3 := H3.out.hand (i := 7) (by omega)
  have f7_3 := H3.out.hfroz (v * 9 + 7)
  obtain ⟨b0c_3, b1c_3, b2c_3, b3c_3⟩ := H3.out.bead Hhc.out
  rw [Hhmc.out] at b2c_3
  have fmc_3 := H3.out.bfroz Hhc.out 2
  clear h3 hp3
  go_wp2_with fail
  first | with_reducible refine (end_any H3.out false).mono ?_ | with_reducible refine (end_any (H3.out.drewN _) false).mono ?_ | with_reducible refine (end_any ((H3.out.drewN _).drewN _) false).mono ?_
  rintro e w4 ⟨rfl, h4, hp4⟩
  have H4 := Lib.hid h4
  have HP4 : Hid (JP base w w4) := Lib.hid (by first | exact HP3.out.trans hp4 | exact (HP3.out.drewN _).trans hp4)
  have cb0_4 := (HE.out.h.keep HP4.out).cell
  have cb1_4 := (HE.out.a.keep HP4.out).cell
  have cb2_4 := (HE.out.c.keep HP4.out).cell
  have cb3_4 := (HE.out.l.keep HP4.out).cell
  have c7_4 := H4.out.hand (i := 7) (by omega)
  have f7_4 := H4.out.hfroz (v * 9 + 7)
  clear h4 hp4
  go_wp2
  go_end0
  first | exact ⟨rfl, H4.out, HP4.out⟩ | exact ⟨rfl, (H4.out.drewN _), (HP4.out.drewN _)⟩ | exact ⟨rfl, ((H4.out.drewN _).drewN _), ((HP4.out.drewN _).drewN _)⟩

set_option maxRecDepth 100000 in
set_option maxHeartbeats 4000000 in
theorem cW1_no2 {hb ab cb lb na nc c : Nat} {ca cc : Array Value} (h : ST base B nh v 2 K ad s lk hs hm w) (he : EnvW w (.pointer (some ⟨B, v * 9, none⟩)) hb ab cb lb (.func (.func na) #[] ca) (.func (.func nc) #[] cc)) (h6 : hm 6 = jp (ad c)) (hc : c < s.sz) (hmc : s.mrk c = false) (hge : ¬ s.key c < K) (hf : decide (s.key c = K) = false) : Calls Try.prog 78 #[jp hb, jp ab, jp cb] w (RetJ base B nh v 2 K ad s lk hs (upd (upd hm 7 .nilFunc) 8 (.bool false)) w) := by
  have H0 := Lib.hid h
  have HE := Lib.hid he
  have HP0 : Hid (JP base w w) := Lib.hid (JP.refl _ _)
  have Hh6 := Lib.hid h6
  have Hhc := Lib.hid hc
  have Hhmc := Lib.hid hmc
  have Hhge := Lib.hid hge
  have Hhf := Lib.hid hf
  have cb0_0 := (HE.out.h.keep HP0.out).cell
  have cb1_0 := (HE.out.a.keep HP0.out).cell
  have cb2_0 := (HE.out.c.keep HP0.out).cell
  have cb3_0 := (HE.out.l.keep HP0.out).cell
  have c6_0 := H0.out.hand (i := 6) (by omega)
  rw [show (hm) 6 = jp (ad c) from (by first | exact Hh6.out | (simp [upd]; done) | (simp [upd, Hh6.out]; done))] at c6_0
  have c7_0 := H0.out.hand (i := 7) (by omega)
  have f7_0 := H0.out.hfroz (v * 9 + 7)
  obtain ⟨b0c_0, b1c_0, b2c_0, b3c_0⟩ := H0.out.bead Hhc.out
  rw [Hhmc.out] at b2c_0
  have fmc_0 := H0.out.bfroz Hhc.out 2
  clear h he h6 hc hmc hf
  go_enter Try.func78, Try.ntmps78
  have HQ0_1 : Hid (∀ m, Calls Try.prog 48 #[.pointer (some ⟨B, v * 9, none⟩)] (w.drewN m) fun e w' => e = .returned (I K) ∧ ∃ m', w' = (w.drewN m).drewN m') := fun m => key_any (H0.out.drewN m)
  have HR0_1 : Hid (∀ m k, Calls Try.prog 48 #[.pointer (some ⟨B, v * 9, none⟩)] ((w.drewN m).drewN k) fun e w' => e = .returned (I K) ∧ ∃ m', w' = ((w.drewN m).drewN k).drewN m') := fun m k => key_any ((H0.out.drewN m).drewN k)
  go_wp2_with fail
  go_quiet ((first | (go_at_call 48; with_reducible exact Calls.quiet_of (HQ0_1.out _)) | (go_at_call 48; with_reducible exact Calls.quiet_of (HR0_1.out _ _))))
  generalize hw1 : World.drewN w nq = w1
  have h1 := H0.out.drewN nq
  rw [hw1] at h1
  have hp1 := (JP.refl base w).drewN nq
  rw [hw1] at hp1
  clear hw1
  have H1 := Lib.hid h1
  have HP1 : Hid (JP base w w1) := Lib.hid (by first | exact HP0.out.trans hp1 | exact (HP0.out.drewN _).trans hp1)
  have cb0_1 := (HE.out.h.keep HP1.out).cell
  have cb1_1 := (HE.out.a.keep HP1.out).cell
  have cb2_1 := (HE.out.c.keep HP1.out).cell
  have cb3_1 := (HE.out.l.keep HP1.out).cell
  have c6_1 := H1.out.hand (i := 6) (by omega)
  rw [show (hm) 6 = jp (ad c) from (by first | exact Hh6.out | (simp [upd]; done) | (simp [upd, Hh6.out]; done))] at c6_1
  have c7_1 := H1.out.hand (i := 7) (by omega)
  have f7_1 := H1.out.hfroz (v * 9 + 7)
  obtain ⟨b0c_1, b1c_1, b2c_1, b3c_1⟩ := H1.out.bead Hhc.out
  rw [Hhmc.out] at b2c_1
  have fmc_1 := H1.out.bfroz Hhc.out 2
  clear h1 hp1
  go_wp2_with fail
  with_reducible refine (kind_any H1.out).mono ?_
  rintro e w2 ⟨rfl, m2, hw2⟩
  have h2 := H1.out.drewN m2
  rw [← hw2] at h2
  have hp2 := (JP.refl base w1).drewN m2
  rw [← hw2] at hp2
  clear hw2
  have H2 := Lib.hid h2
  have HP2 : Hid (JP base w w2) := Lib.hid (by first | exact HP1.out.trans hp2 | exact (HP1.out.drewN _).trans hp2)
  have cb0_2 := (HE.out.h.keep HP2.out).cell
  have cb1_2 := (HE.out.a.keep HP2.out).cell
  have cb2_2 := (HE.out.c.keep HP2.out).cell
  have cb3_2 := (HE.out.l.keep HP2.out).cell
  have c6_2 := H2.out.hand (i := 6) (by omega)
  rw [show (hm) 6 = jp (ad c) from (by first | exact Hh6.out | (simp [upd]; done) | (simp [upd, Hh6.out]; done))] at c6_2
  have c7_2 := H2.out.hand (i := 7) (by omega)
  have f7_2 := H2.out.hfroz (v * 9 + 7)
  obtain ⟨b0c_2, b1c_2, b2c_2, b3c_2⟩ := H2.out.bead Hhc.out
  rw [Hhmc.out] at b2c_2
  have fmc_2 := H2.out.bfroz Hhc.out 2
  clear h2 hp2
  have HQ0_2 : Hid (∀ m, Calls Try.prog 50 #[.pointer (some ⟨B, v * 9, none⟩)] (w2.drewN m) fun e w' => e = .returned (.bool false) ∧ ∃ m', w' = (w2.drewN m).drewN m') := fun m => found_any (H2.out.drewN m) (c := c) Hhc.out Hh6.out (b := false) Hhf.out
  have HR0_2 : Hid (∀ m k, Calls Try.prog 50 #[.pointer (some ⟨B, v * 9, none⟩)] ((w2.drewN m).drewN k) fun e w' => e = .returned (.bool false) ∧ ∃ m', w' = ((w2.drewN m).drewN k).drewN m') := fun m k => found_any ((H2.out.drewN m).drewN k) (c := c) Hhc.out Hh6.out (b := false) Hhf.out
  have HQ1_3 : Hid (∀ m, Calls Try.prog 51 #[.pointer (some ⟨B, v * 9, none⟩)] (w2.drewN m) fun e w' => e = .returned (I 2) ∧ ∃ m', w' = (w2.drewN m).drewN m') := fun m => kind_any (H2.out.drewN m)
  have HR1_3 : Hid (∀ m k, Calls Try.prog 51 #[.pointer (some ⟨B, v * 9, none⟩)] ((w2.drewN m).drewN k) fun e w' => e = .returned (I 2) ∧ ∃ m', w' = ((w2.drewN m).drewN k).drewN m') := fun m k => kind_any ((H2.out.drewN m).drewN k)
  go_wp2_with fail
  go_quiet ((first | (go_at_call 50; with_reducible exact Calls.quiet_of (HQ0_2.out _)) | (go_at_call 50; with_reducible exact Calls.quiet_of (HR0_2.out _ _)) | (go_at_call 51; with_reducible exact Calls.quiet_of (HQ1_3.out _)) | (go_at_call 51; with_reducible exact Calls.quiet_of (HR1_3.out _ _))))
  generalize hw3 : World.drewN w2 nq = w3
  have h3 := H2.out.drewN nq
  rw [hw3] at h3
  have hp3 := (JP.refl base w2).drewN nq
  rw [hw3] at hp3
  clear hw3
  have H3 := Lib.hid h3
  have HP3 : Hid (JP base w w3) := Lib.hid (by first | exact HP2.out.trans hp3 | exact (HP2.out.drewN _).trans hp3)
  have cb0_3 := (HE.out.h.keep HP3.out).cell
  have cb1_3 := (HE.out.a.keep HP3.out).cell
  have cb2_3 := (HE.out.c.keep HP3.out).cell
  have cb3_3 := (HE.out.l.keep HP3.out).cell
  have c6_3 := H3.out.hand (i := 6) (by omega)
  rw [show (hm) 6 = jp (ad c) from (by first | exact Hh6.out | (simp [upd]; done) | (simp [upd, Hh6.out]; done))] at c6_3
  have c7_3 := H3.out.hand (i := 7) (by omega)
  have f7_3 := H3.out.hfroz (v * 9 + 7)
  obtain ⟨b0c_3, b1c_3, b2c_3, b3c_3⟩ := H3.out.bead Hhc.out
  rw [Hhmc.out] at b2c_3
  have fmc_3 := H3.out.bfroz Hhc.out 2
  clear h3 hp3
  go_wp2_with fail
  first | with_reducible refine (end_any H3.out false).mono ?_ | with_reducible refine (end_any (H3.out.drewN _) false).mono ?_ | with_reducible refine (end_any ((H3.out.drewN _).drewN _) false).mono ?_
  rintro e w4 ⟨rfl, h4, hp4⟩
  have H4 := Lib.hid h4
  have HP4 : Hid (JP base w w4) := Lib.hid (by first | exact HP3.out.trans hp4 | exact (HP3.out.drewN _).trans hp4)
  have cb0_4 := (HE.out.h.keep HP4.out).cell
  have cb1_4 := (HE.out.a.keep HP4.out).cell
  have cb2_4 := (HE.out.c.keep HP4.out).cell
  have cb3_4 := (HE.out.l.keep HP4.out).cell
  have c7_4 := H4.out.hand (i := 7) (by omega)
  have f7_4 := H4.out.hfroz (v * 9 + 7)
  clear h4 hp4
  go_wp2
  go_end0
  first | exact ⟨rfl, H4.out, HP4.out⟩ | exact ⟨rfl, (H4.out.drewN _), (HP4.out.drewN _)⟩ | exact ⟨rfl, ((H4.out.drewN _).drewN _), ((HP4.out.drewN _).drewN _)⟩

set_option maxRecDepth 100000 in
set_option maxHeartbeats 4000000 in
theorem cW1_do1 {hb ab cb lb na nc c : Nat} {ca cc : Array Value} (h : ST base B nh v 1 K ad s lk hs hm w) (he : EnvW w (.pointer (some ⟨B, v * 9, none⟩)) hb ab cb lb (.func (.func na) #[] ca) (.func (.func nc) #[] cc)) (h6 : hm 6 = jp (ad c)) (hc : c < s.sz) (hmc : s.mrk c = false) (hge : ¬ s.key c < K) (hf : decide (s.key c = K) = false) : Calls Try.prog 78 #[jp hb, jp ab, jp cb] w (RetJ base B nh v 1 K ad s lk hs (upd hm 7 (.func (.func na) #[] ca)) w) := by
  have H0 := Lib.hid h
  have HE := Lib.hid he
  have HP0 : Hid (JP base w w) := Lib.hid (JP.refl _ _)
  have Hh6 := Lib.hid h6
  have Hhc := Lib.hid hc
  have Hhmc := Lib.hid hmc
  have Hhge := Lib.hid hge
  have Hhf := Lib.hid hf
  have cb0_0 := (HE.out.h.keep HP0.out).cell
  have cb1_0 := (HE.out.a.keep HP0.out).cell
  have cb2_0 := (HE.out.c.keep HP0.out).cell
  have cb3_0 := (HE.out.l.keep HP0.out).cell
  have c6_0 := H0.out.hand (i := 6) (by omega)
  rw [show (hm) 6 = jp (ad c) from (by first | exact Hh6.out | (simp [upd]; done) | (simp [upd, Hh6.out]; done))] at c6_0
  have c7_0 := H0.out.hand (i := 7) (by omega)
  have f7_0 := H0.out.hfroz (v * 9 + 7)
  obtain ⟨b0c_0, b1c_0, b2c_0, b3c_0⟩ := H0.out.bead Hhc.out
  rw [Hhmc.out] at b2c_0
  have fmc_0 := H0.out.bfroz Hhc.out 2
  clear h he h6 hc hmc hf
  go_enter Try.func78, Try.ntmps78
  have HQ0_1 : Hid (∀ m, Calls Try.prog 48 #[.pointer (some ⟨B, v * 9, none⟩)] (w.drewN m) fun e w' => e = .returned (I K) ∧ ∃ m', w' = (w.drewN m).drewN m') := fun m => key_any (H0.out.drewN m)
  have HR0_1 : Hid (∀ m k, Calls Try.prog 48 #[.pointer (some ⟨B, v * 9, none⟩)] ((w.drewN m).drewN k) fun e w' => e = .returned (I K) ∧ ∃ m', w' = ((w.drewN m).drewN k).drewN m') := fun m k => key_any ((H0.out.drewN m).drewN k)
  go_wp2_with fail
  go_quiet ((first | (go_at_call 48; with_reducible exact Calls.quiet_of (HQ0_1.out _)) | (go_at_call 48; with_reducible exact Calls.quiet_of (HR0_1.out _ _))))
  generalize hw1 : World.drewN w nq = w1
  have h1 := H0.out.drewN nq
  rw [hw1] at h1
  have hp1 := (JP.refl base w).drewN nq
  rw [hw1] at hp1
  clear hw1
  have H1 := Lib.hid h1
  have HP1 : Hid (JP base w w1) := Lib.hid (by first | exact HP0.out.trans hp1 | exact (HP0.out.drewN _).trans hp1)
  have cb0_1 := (HE.out.h.keep HP1.out).cell
  have cb1_1 := (HE.out.a.keep HP1.out).cell
  have cb2_1 := (HE.out.c.keep HP1.out).cell
  have cb3_1 := (HE.out.l.keep HP1.out).cell
  have c6_1 := H1.out.hand (i := 6) (by omega)
  rw [show (hm) 6 = jp (ad c) from (by first | exact Hh6.out | (simp [upd]; done) | (simp [upd, Hh6.out]; done))] at c6_1
  have c7_1 := H1.out.hand (i := 7) (by omega)
  have f7_1 := H1.out.hfroz (v * 9 + 7)
  obtain ⟨b0c_1, b1c_1, b2c_1, b3c_1⟩ := H1.out.bead Hhc.out
  rw [Hhmc.out] at b2c_1
  have fmc_1 := H1.out.bfroz Hhc.out 2
  clear h1 hp1
  go_wp2_with fail
  with_reducible refine (kind_any H1.out).mono ?_
  rintro e w2 ⟨rfl, m2, hw2⟩
  have h2 := H1.out.drewN m2
  rw [← hw2] at h2
  have hp2 := (JP.refl base w1).drewN m2
  rw [← hw2] at hp2
  clear hw2
  have H2 := Lib.hid h2
  have HP2 : Hid (JP base w w2) := Lib.hid (by first | exact HP1.out.trans hp2 | exact (HP1.out.drewN _).trans hp2)
  have cb0_2 := (HE.out.h.keep HP2.out).cell
  have cb1_2 := (HE.out.a.keep HP2.out).cell
  have cb2_2 := (HE.out.c.keep HP2.out).cell
  have cb3_2 := (HE.out.l.keep HP2.out).cell
  have c6_2 := H2.out.hand (i := 6) (by omega)
  rw [show (hm) 6 = jp (ad c) from (by first | exact Hh6.out | (simp [upd]; done) | (simp [upd, Hh6.out]; done))] at c6_2
  have c7_2 := H2.out.hand (i := 7) (by omega)
  have f7_2 := H2.out.hfroz (v * 9 + 7)
  obtain ⟨b0c_2, b1c_2, b2c_2, b3c_2⟩ := H2.out.bead Hhc.out
  rw [Hhmc.out] at b2c_2
  have fmc_2 := H2.out.bfroz Hhc.out 2
  clear h2 hp2
  have HQ0_2 : Hid (∀ m, Calls Try.prog 50 #[.pointer (some ⟨B, v * 9, none⟩)] (w2.drewN m) fun e w' => e = .returned (.bool false) ∧ ∃ m', w' = (w2.drewN m).drewN m') := fun m => found_any (H2.out.drewN m) (c := c) Hhc.out Hh6.out (b := false) Hhf.out
  have HR0_2 : Hid (∀ m k, Calls Try.prog 50 #[.pointer (some ⟨B, v * 9, none⟩)] ((w2.drewN m).drewN k) fun e w' => e = .returned (.bool false) ∧ ∃ m', w' = ((w2.drewN m).drewN k).drewN m') := fun m k => found_any ((H2.out.drewN m).drewN k) (c := c) Hhc.out Hh6.out (b := false) Hhf.out
  have HQ1_3 : Hid (∀ m, Calls Try.prog 51 #[.pointer (some ⟨B, v * 9, none⟩)] (w2.drewN m) fun e w' => e = .returned (I 1) ∧ ∃ m', w' = (w2.drewN m).drewN m') := fun m => kind_any (H2.out.drewN m)
  have HR1_3 : Hid (∀ m k, Calls Try.prog 51 #[.pointer (some ⟨B, v * 9, none⟩)] ((w2.drewN m).drewN k) fun e w' => e = .returned (I 1) ∧ ∃ m', w' = ((w2.drewN m).drewN k).drewN m') := fun m k => kind_any ((H2.out.drewN m).drewN k)
  go_wp2_with fail
  go_quiet ((first | (go_at_call 50; with_reducible exact Calls.quiet_of (HQ0_2.out _)) | (go_at_call 50; with_reducible exact Calls.quiet_of (HR0_2.out _ _)) | (go_at_call 51; with_reducible exact Calls.quiet_of (HQ1_3.out _)) | (go_at_call 51; with_reducible exact Calls.quiet_of (HR1_3.out _ _))))
  generalize hw3 : World.drewN w2 nq = w3
  have h3 := H2.out.drewN nq
  rw [hw3] at h3
  have hp3 := (JP.refl base w2).drewN nq
  rw [hw3] at hp3
  clear hw3
  have H3 := Lib.hid h3
  have HP3 : Hid (JP base w w3) := Lib.hid (by first | exact HP2.out.trans hp3 | exact (HP2.out.drewN _).trans hp3)
  have cb0_3 := (HE.out.h.keep HP3.out).cell
  have cb1_3 := (HE.out.a.keep HP3.out).cell
  have cb2_3 := (HE.out.c.keep HP3.out).cell
  have cb3_3 := (HE.out.l.keep HP3.out).cell
  have c6_3 := H3.out.hand (i := 6) (by omega)
  rw [show (hm) 6 = jp (ad c) from (by first | exact Hh6.out | (simp [upd]; done) | (simp [upd, Hh6.out]; done))] at c6_3
  have c7_3 := H3.out.hand (i := 7) (by omega)
  have f7_3 := H3.out.hfroz (v * 9 + 7)
  obtain ⟨b0c_3, b1c_3, b2c_3, b3c_3⟩ := H3.out.bead Hhc.out
  rw [Hhmc.out] at b2c_3
  have fmc_3 := H3.out.bfroz Hhc.out 2
  clear h3 hp3
  go_wp2_with fail
  with_reducible refine (kind_any H3.out).mono ?_
  rintro e w4 ⟨rfl, m4, hw4⟩
  have h4 := H3.out.drewN m4
  rw [← hw4] at h4
  have hp4 := (JP.refl base w3).drewN m4
  rw [← hw4] at hp4
  clear hw4
  have H4 := Lib.hid h4
  have HP4 : Hid (JP base w w4) := Lib.hid (by first | exact HP3.out.trans hp4 | exact (HP3.out.drewN _).trans hp4)
  have cb0_4 := (HE.out.h.keep HP4.out).cell
  have cb1_4 := (HE.out.a.keep HP4.out).cell
  have cb2_4 := (HE.out.c.keep HP4.out).cell
  have cb3_4 := (HE.out.l.keep HP4.out).cell
  have c6_4 := H4.out.hand (i := 6) (by omega)
  rw [show (hm) 6 = jp (ad c) from (by first | exact Hh6.out | (simp [upd]; done) | (simp [upd, Hh6.out]; done))] at c6_4
  have c7_4 := H4.out.hand (i := 7) (by omega)
  have f7_4 := H4.out.hfroz (v * 9 + 7)
  obtain ⟨b0c_4, b1c_4, b2c_4, b3c_4⟩ := H4.out.bead Hhc.out
  rw [Hhmc.out] at b2c_4
  have fmc_4 := H4.out.bfroz Hhc.out 2
  clear h4 hp4
  go_wp2
  go_end0
  first | exact ⟨rfl, H4.out.fld (i := 7) (by omega) (by omega) _, HP4.out.trans (H4.out.js.jp_fld _ _)⟩ | exact ⟨rfl, (H4.out.drewN _).fld (i := 7) (by omega) (by omega) _, (HP4.out.drewN _).trans ((H4.out.drewN _).js.jp_fld _ _)⟩ | exact ⟨rfl, ((H4.out.drewN _).drewN _).fld (i := 7) (by omega) (by omega) _, ((HP4.out.drewN _).drewN _).trans (((H4.out.drewN _).drewN _).js.jp_fld _ _)⟩

set_option maxRecDepth 100000 in
set_option maxHeartbeats 4000000 in
theorem cW1_do2 {hb ab cb lb na nc c : Nat} {ca cc : Array Value} (h : ST base B nh v 2 K ad s lk hs hm w) (he : EnvW w (.pointer (some ⟨B, v * 9, none⟩)) hb ab cb lb (.func (.func na) #[] ca) (.func (.func nc) #[] cc)) (h6 : hm 6 = jp (ad c)) (hc : c < s.sz) (hmc : s.mrk c = false) (hge : ¬ s.key c < K) (hf : decide (s.key c = K) = true) : Calls Try.prog 78 #[jp hb, jp ab, jp cb] w (RetJ base B nh v 2 K ad s lk hs (upd hm 7 (.func (.func nc) #[] cc)) w) := by
  have H0 := Lib.hid h
  have HE := Lib.hid he
  have HP0 : Hid (JP base w w) := Lib.hid (JP.refl _ _)
  have Hh6 := Lib.hid h6
  have Hhc := Lib.hid hc
  have Hhmc := Lib.hid hmc
  have Hhge := Lib.hid hge
  have Hhf := Lib.hid hf
  have cb0_0 := (HE.out.h.keep HP0.out).cell
  have cb1_0 := (HE.out.a.keep HP0.out).cell
  have cb2_0 := (HE.out.c.keep HP0.out).cell
  have cb3_0 := (HE.out.l.keep HP0.out).cell
  have c6_0 := H0.out.hand (i := 6) (by omega)
  rw [show (hm) 6 = jp (ad c) from (by first | exact Hh6.out | (simp [upd]; done) | (simp [upd, Hh6.out]; done))] at c6_0
  have c7_0 := H0.out.hand (i := 7) (by omega)
  have f7_0 := H0.out.hfroz (v * 9 + 7)
  obtain ⟨b0c_0, b1c_0, b2c_0, b3c_0⟩ := H0.out.bead Hhc.out
  rw [Hhmc.out] at b2c_0
  have fmc_0 := H0.out.bfroz Hhc.out 2
  clear h he h6 hc hmc hf
  go_enter Try.func78, Try.ntmps78
  have HQ0_1 : Hid (∀ m, Calls Try.prog 48 #[.pointer (some ⟨B, v * 9, none⟩)] (w.drewN m) fun e w' => e = .returned (I K) ∧ ∃ m', w' = (w.drewN m).drewN m') := fun m => key_any (H0.out.drewN m)
  have HR0_1 : Hid (∀ m k, Calls Try.prog 48 #[.pointer (some ⟨B, v * 9, none⟩)] ((w.drewN m).drewN k) fun e w' => e = .returned (I K) ∧ ∃ m', w' = ((w.drewN m).drewN k).drewN m') := fun m k => key_any ((H0.out.drewN m).drewN k)
  go_wp2_with fail
  go_quiet ((first | (go_at_call 48; with_reducible exact Calls.quiet_of (HQ0_1.out _)) | (go_at_call 48; with_reducible exact Calls.quiet_of (HR0_1.out _ _))))
  generalize hw1 : World.drewN w nq = w1
  have h1 := H0.out.drewN nq
  rw [hw1] at h1
  have hp1 := (JP.refl base w).drewN nq
  rw [hw1] at hp1
  clear hw1
  have H1 := Lib.hid h1
  have HP1 : Hid (JP base w w1) := Lib.hid (by first | exact HP0.out.trans hp1 | exact (HP0.out.drewN _).trans hp1)
  have cb0_1 := (HE.out.h.keep HP1.out).cell
  have cb1_1 := (HE.out.a.keep HP1.out).cell
  have cb2_1 := (HE.out.c.keep HP1.out).cell
  have cb3_1 := (HE.out.l.keep HP1.out).cell
  have c6_1 := H1.out.hand (i := 6) (by omega)
  rw [show (hm) 6 = jp (ad c) from (by first | exact Hh6.out | (simp [upd]; done) | (simp [upd, Hh6.out]; done))] at c6_1
  have c7_1 := H1.out.hand (i := 7) (by omega)
  have f7_1 := H1.out.hfroz (v * 9 + 7)
  obtain ⟨b0c_1, b1c_1, b2c_1, b3c_1⟩ := H1.out.bead Hhc.out
  rw [Hhmc.out] at b2c_1
  have fmc_1 := H1.out.bfroz Hhc.out 2
  clear h1 hp1
  go_wp2_with fail
  with_reducible refine (kind_any H1.out).mono ?_
  rintro e w2 ⟨rfl, m2, hw2⟩
  have h2 := H1.out.drewN m2
  rw [← hw2] at h2
  have hp2 := (JP.refl base w1).drewN m2
  rw [← hw2] at hp2
  clear hw2
  have H2 := Lib.hid h2
  have HP2 : Hid (JP base w w2) := Lib.hid (by first | exact HP1.out.trans hp2 | exact (HP1.out.drewN _).trans hp2)
  have cb0_2 := (HE.out.h.keep HP2.out).cell
  have cb1_2 := (HE.out.a.keep HP2.out).cell
  have cb2_2 := (HE.out.c.keep HP2.out).cell
  have cb3_2 := (HE.out.l.keep HP2.out).cell
  have c6_2 := H2.out.hand (i := 6) (by omega)
  rw [show (hm) 6 = jp (ad c) from (by first | exact Hh6.out | (simp [upd]; done) | (simp [upd, Hh6.out]; done))] at c6_2
  have c7_2 := H2.out.hand (i := 7) (by omega)
  have f7_2 := H2.out.hfroz (v * 9 + 7)
  obtain ⟨b0c_2, b1c_2, b2c_2, b3c_2⟩ := H2.out.bead Hhc.out
  rw [Hhmc.out] at b2c_2
  have fmc_2 := H2.out.bfroz Hhc.out 2
  clear h2 hp2
  have HQ0_2 : Hid (∀ m, Calls Try.prog 50 #[.pointer (some ⟨B, v * 9, none⟩)] (w2.drewN m) fun e w' => e = .returned (.bool true) ∧ ∃ m', w' = (w2.drewN m).drewN m') := fun m => found_any (H2.out.drewN m) (c := c) Hhc.out Hh6.out (b := true) Hhf.out
  have HR0_2 : Hid (∀ m k, Calls Try.prog 50 #[.pointer (some ⟨B, v * 9, none⟩)] ((w2.drewN m).drewN k) fun e w' => e = .returned (.bool true) ∧ ∃ m', w' = ((w2.drewN m).drewN k).drewN m') := fun m k => found_any ((H2.out.drewN m).drewN k) (c := c) Hhc.out Hh6.out (b := true) Hhf.out
  have HQ1_3 : Hid (∀ m, Calls Try.prog 51 #[.pointer (some ⟨B, v * 9, none⟩)] (w2.drewN m) fun e w' => e = .returned (I 2) ∧ ∃ m', w' = (w2.drewN m).drewN m') := fun m => kind_any (H2.out.drewN m)
  have HR1_3 : Hid (∀ m k, Calls Try.prog 51 #[.pointer (some ⟨B, v * 9, none⟩)] ((w2.drewN m).drewN k) fun e w' => e = .returned (I 2) ∧ ∃ m', w' = ((w2.drewN m).drewN k).drewN m') := fun m k => kind_any ((H2.out.drewN m).drewN k)
  go_wp2_with fail
  go_quiet ((first | (go_at_call 50; with_reducible exact Calls.quiet_of (HQ0_2.out _)) | (go_at_call 50; with_reducible exact Calls.quiet_of (HR0_2.out _ _)) | (go_at_call 51; with_reducible exact Calls.quiet_of (HQ1_3.out _)) | (go_at_call 51; with_reducible exact Calls.quiet_of (HR1_3.out _ _))))
  generalize hw3 : World.drewN w2 nq = w3
  have h3 := H2.out.drewN nq
  rw [hw3] at h3
  have hp3 := (JP.refl base w2).drewN nq
  rw [hw3] at hp3
  clear hw3
  have H3 := Lib.hid h3
  have HP3 : Hid (JP base w w3) := Lib.hid (by first | exact HP2.out.trans hp3 | exact (HP2.out.drewN _).trans hp3)
  have cb0_3 := (HE.out.h.keep HP3.out).cell
  have cb1_3 := (HE.out.a.keep HP3.out).cell
  have cb2_3 := (HE.out.c.keep HP3.out).cell
  have cb3_3 := (HE.out.l.keep HP3.out).cell
  have c6_3 := H3.out.hand (i := 6) (by omega)
  rw [show (hm) 6 = jp (ad c) from (by first | exact Hh6.out | (simp [upd]; done) | (simp [upd, Hh6.out]; done))] at c6_3
  have c7_3 := H3.out.hand (i := 7) (by omega)
  have f7_3 := H3.out.hfroz (v * 9 + 7)
  obtain ⟨b0c_3, b1c_3, b2c_3, b3c_3⟩ := H3.out.bead Hhc.out
  rw [Hhmc.out] at b2c_3
  have fmc_3 := H3.out.bfroz Hhc.out 2
  clear h3 hp3
  go_wp2_with fail
  with_reducible refine (kind_any H3.out).mono ?_
  rintro e w4 ⟨rfl, m4, hw4⟩
  have h4 := H3.out.drewN m4
  rw [← hw4] at h4
  have hp4 := (JP.refl base w3).drewN m4
  rw [← hw4] at hp4
  clear hw4
  have H4 := Lib.hid h4
  have HP4 : Hid (JP base w w4) := Lib.hid (by first | exact HP3.out.trans hp4 | exact (HP3.out.drewN _).trans hp4)
  have cb0_4 := (HE.out.h.keep HP4.out).cell
  have cb1_4 := (HE.out.a.keep HP4.out).cell
  have cb2_4 := (HE.out.c.keep HP4.out).cell
  have cb3_4 := (HE.out.l.keep HP4.out).cell
  have c6_4 := H4.out.hand (i := 6) (by omega)
  rw [show (hm) 6 = jp (ad c) from (by first | exact Hh6.out | (simp [upd]; done) | (simp [upd, Hh6.out]; done))] at c6_4
  have c7_4 := H4.out.hand (i := 7) (by omega)
  have f7_4 := H4.out.hfroz (v * 9 + 7)
  obtain ⟨b0c_4, b1c_4, b2c_4, b3c_4⟩ := H4.out.bead Hhc.out
  rw [Hhmc.out] at b2c_4
  have fmc_4 := H4.out.bfroz Hhc.out 2
  clear h4 hp4
  go_wp2
  go_end0
  first | exact ⟨rfl, H4.out.fld (i := 7) (by omega) (by omega) _, HP4.out.trans (H4.out.js.jp_fld _ _)⟩ | exact ⟨rfl, (H4.out.drewN _).fld (i := 7) (by omega) (by omega) _, (HP4.out.drewN _).trans ((H4.out.drewN _).js.jp_fld _ _)⟩ | exact ⟨rfl, ((H4.out.drewN _).drewN _).fld (i := 7) (by omega) (by omega) _, ((HP4.out.drewN _).drewN _).trans (((H4.out.drewN _).drewN _).js.jp_fld _ _)⟩
end

end Go.Proofs.Ytfmdpmebllepeaa

/-
  package hands: those that mark, those that are naive: one step.
-/
namespace Go.Proofs.Ytfmdpmebllepeaa
open Go.RowKit

section
variable {base B nh v : Nat} {kd K : Int} {ad : Nat → Nat} {s : Bs} {lk : Nat → Bool} {hs : Nat → Nat → Value} {hm : Nat → Value} {w : World} {q : Hd}
theorem next_mark {g : Prop} (h : ST base B nh v kd K ad s lk hs hm w) (hn : NXM w (.pointer (some ⟨B, v * 9, none⟩)) q.at_ kd (hm 7)) (h3 : hm 3 = fWay 3) (h4 : hm 4 = jp (ad 0)) (hpc : q.at_ ≠ 0 → hm 5 = jp (ad q.p) ∧ hm 6 = jp (ad q.c)) (hc : Cor s) (hk : MI s q kd K g) (hd : Dee kd K) (hlk : lk s.sz = false) :
    ∃ k caps, hm 7 = .func (.func k) #[] caps ∧ Calls Try.prog k caps w (RetC base B nh v kd K ad s.sz hs hm 3 (aMark.step s lk q kd K) w) := by
  show ∃ k caps, hm 7 = .func (.func k) #[] caps ∧ Calls Try.prog k caps w (RetC base B nh v kd K ad s.sz hs hm 3 ⟨(markS s q kd K).s, lk, (markS s q kd K).h, (markS s q kd K).e, (markS s q kd K).over⟩ w)
  obtain ⟨gb, ub, hb, ab, cb, lb, he, hf⟩ := hn
  have hle := hk.le
  rcases (show q.at_ = 0 ∨ q.at_ = 1 ∨ q.at_ = 2 ∨ q.at_ = 3 by omega) with h0 | h0 | h0 | h0
  · have hf' : hm 7 = fW2 hb lb := by rw [hf, if_pos h0]
    refine ⟨_, _, hf', ?_⟩
    refine (cW2 h he.e h4 hc.pos hc.hd.symm).mono fun e w' hr => ?_
    have e1 : markS s q kd K = ⟨s, ⟨1, 0, s.nx 0, q.is_⟩, .none, false⟩ := by unfold markS; rw [if_pos h0]
    rw [e1]
    exact retC_567 hr (NX.of3 ⟨gb, ub, hb, ab, cb, lb, he.keep hr.2.2, rfl⟩) rfl rfl
  · obtain ⟨h5, h6⟩ := hpc (by omega)
    obtain ⟨p1, p2, p3⟩ := hk.pc (by omega)
    have hpt : q.p ≠ s.tl := key_tl hc hd.1 (.inl p3)
    have hnp := hc.nlt _ p1 hpt
    have hf' : hm 7 = fW1 hb ab cb := by rw [hf, if_neg (by omega), if_pos h0]
    refine ⟨_, _, hf', ?_⟩
    have e0 : markS s q kd K = if s.mrk q.c = true ∧ kd ≠ 3 then (if clean s q then ⟨s.cut q.p q.c, ⟨1, q.p, s.nx q.c, q.is_⟩, .none, false⟩ else ⟨s, ⟨0, q.p, q.c, q.is_⟩, .none, false⟩)
     else if s.key q.c < K then ⟨s, ⟨1, q.c, s.nx q.c, q.is_⟩, .none, false⟩
     else if kd = 3 then ⟨s, ⟨1, q.p, q.c, decide (s.key q.c = K) && !s.mrk q.c⟩, .none, true⟩
     else if (kd = 1 ∧ s.key q.c = K) ∨ (kd = 2 ∧ s.key q.c ≠ K) then ⟨s, ⟨1, q.p, q.c, false⟩, .none, true⟩
     else ⟨s, ⟨2, q.p, q.c, q.is_⟩, .none, false⟩ := by unfold markS; rw [if_neg (by omega), if_pos h0]
    cases c1 : s.mrk q.c with
    | true =>
      have hct : q.c ≠ s.tl := fun e => by rw [e, hc.mt] at c1; cases c1
      by_cases c2 : kd = 3
      · subst c2
        by_cases c3 : s.key q.c < K
        · refine (cW1_ltm h he.e h6 p2 c1 hct c3).mono fun e w' hr => ?_
          rw [e0, if_neg (by rw [c1]; simp), if_pos c3]
          exact retC_56 hr (NX.of3 ⟨gb, ub, hb, ab, cb, lb, he.keep hr.2.2, hf'⟩) rfl rfl
        · refine (cW1_hasm h he.e h6 p2 c1 c3).mono fun e w' hr => ?_
          rw [e0, if_neg (by rw [c1]; simp), if_neg c3, if_pos rfl]
          exact retC_over hr rfl fun _ _ => rfl
      · cases c3 : s.mrk q.p with
        | true =>
          refine (cW1_bad1 h he.e h5 h6 p1 p2 c1 c2 c3 h3).mono fun e w' hr => ?_
          rw [e0, if_pos ⟨c1, c2⟩, if_neg (fun hcl => by have := hcl.1; rw [c3] at this; cases this)]
          exact retC_begin hr rfl
        | false =>
          by_cases c4 : s.nx q.p = q.c
          · refine (cW1_ok h he.e h5 h6 p1 p2 c1 c2 hpt hnp c3 (decide_eq_true c4) hct).mono fun e w' hr => ?_
            rw [e0, if_pos ⟨c1, c2⟩, if_pos ⟨c3, c4⟩]
            exact retC_go hr (fun i hi => by rw [upd_other _ _ (by omega)]) (NX.of3 ⟨gb, ub, hb, ab, cb, lb, he.keep hr.2.2, by rw [upd_other _ _ (by omega)]; exact hf'⟩) (fun _ => ⟨by rw [upd_other _ _ (by omega)]; exact h5, by rw [upd_same]⟩)
          · refine (cW1_bad2 h he.e h5 h6 p1 p2 c1 c2 hpt hnp c3 (decide_eq_false c4) h3).mono fun e w' hr => ?_
            rw [e0, if_pos ⟨c1, c2⟩, if_neg (fun hcl => c4 hcl.2)]
            exact retC_begin hr rfl
    | false =>
      have hn1 : ¬ (s.mrk q.c = true ∧ kd ≠ 3) := by rw [c1]; simp
      rw [e0, if_neg hn1]
      by_cases c3 : s.key q.c < K
      · refine (cW1_lt h he.e h6 p2 c1 (key_tl hc hd.1 (.inl c3)) c3).mono fun e w' hr => ?_
        rw [if_pos c3]
        exact retC_56 hr (NX.of3 ⟨gb, ub, hb, ab, cb, lb, he.keep hr.2.2, hf'⟩) rfl rfl
      · rw [if_neg c3]
        by_cases c4 : s.key q.c = K
        · rcases hd.2 with rfl | rfl | rfl
          · refine (cW1_no1 h he.e h6 p2 c1 c3 (decide_eq_true c4)).mono fun e w' hr => ?_
            rw [if_neg (by decide), if_pos (.inl ⟨rfl, c4⟩)]
            exact retC_over hr rfl fun _ _ => rfl
          · refine (cW1_do2 h he.e h6 p2 c1 c3 (decide_eq_true c4)).mono fun e w' hr => ?_
            rw [if_neg (by decide), if_neg (by simp [c4])]
            exact retC_7 hr (NX.of3 ⟨gb, ub, hb, ab, cb, lb, he.keep hr.2.2, rfl⟩) (fun _ => ⟨h5, h6⟩)
          · refine (cW1_has h he.e h6 p2 c1 c3).mono fun e w' hr => ?_
            rw [if_pos rfl]
            rw [c1] at hr
            exact retC_over hr (by rw [c1]) fun _ _ => rfl
        · rcases hd.2 with rfl | rfl | rfl
          · refine (cW1_do1 h he.e h6 p2 c1 c3 (decide_eq_false c4)).mono fun e w' hr => ?_
            rw [if_neg (by decide), if_neg (by simp [c4])]
            exact retC_7 hr (NX.of3 ⟨gb, ub, hb, ab, cb, lb, he.keep hr.2.2, rfl⟩) (fun _ => ⟨h5, h6⟩)
          · refine (cW1_no2 h he.e h6 p2 c1 c3 (decide_eq_false c4)).mono fun e w' hr => ?_
            rw [if_neg (by decide), if_pos (.inr ⟨rfl, c4⟩)]
            exact retC_over hr rfl fun _ _ => rfl
          · refine (cW1_has h he.e h6 p2 c1 c3).mono fun e w' hr => ?_
            rw [if_pos rfl]
            rw [c1] at hr
            exact retC_over hr (by rw [c1]) fun _ _ => rfl
  · obtain ⟨h5, h6⟩ := hpc (by omega)
    obtain ⟨p1, p2, p3⟩ := hk.pc (by omega)
    have hpt : q.p ≠ s.tl := key_tl hc hd.1 (.inl p3)
    have hnp := hc.nlt _ p1 hpt
    have e0 : markS s q kd K = if kd = 1 ∧ clean s q then ⟨s.ins q.p K, ⟨2, q.p, q.c, true⟩, .add K, true⟩
     else if kd = 2 ∧ s.mrk q.c = false then ⟨s.mark q.c, ⟨3, q.p, q.c, true⟩, .del K, false⟩
     else ⟨s, ⟨0, q.p, q.c, q.is_⟩, .none, false⟩ := by unfold markS; rw [if_neg (by omega), if_neg (by omega), if_pos h0]
    rcases hk.two h0 with ⟨rfl, k2⟩ | ⟨rfl, k2⟩
    · have hf' : hm 7 = fM1 gb := by rw [hf, if_neg (by omega), if_neg (by omega), if_pos h0, if_pos rfl]
      refine ⟨_, _, hf', ?_⟩
      cases c3 : s.mrk q.p with
      | true =>
        refine (cM1_bad1 h he h5 h6 p1 p2 c3 h3).mono fun e w' hr => ?_
        rw [e0, if_neg (fun hcl => by have := hcl.2.1; rw [c3] at this; cases this), if_neg (by simp)]
        exact retC_begin hr rfl
      | false =>
        by_cases c4 : s.nx q.p = q.c
        · refine (cM1_ok h he h5 h6 p1 p2 hpt hnp c3 (decide_eq_true c4) hc.tlt hc.nlt hlk).mono fun e w' hr => ?_
          obtain ⟨g, hr⟩ := hr
          rw [e0, if_pos ⟨rfl, c3, c4⟩, ← insc_ins c4]
          exact retC_over hr rfl upd_ad
        · refine (cM1_bad2 h he h5 h6 p1 p2 hpt hnp c3 (decide_eq_false c4) h3).mono fun e w' hr => ?_
          rw [e0, if_neg (fun hcl => c4 hcl.2.2), if_neg (by simp)]
          exact retC_begin hr rfl
    · have hf' : hm 7 = fM3 gb ub := by rw [hf, if_neg (by omega), if_neg (by omega), if_pos h0, if_neg (by decide)]
      refine ⟨_, _, hf', ?_⟩
      cases c3 : s.mrk q.c with
      | true =>
        refine (cM3_bad h he h6 p2 c3 h3).mono fun e w' hr => ?_
        rw [e0, if_neg (by simp), if_neg (by rw [c3]; simp)]
        exact retC_begin hr rfl
      | false =>
        refine (cM3_ok h he h6 p2 c3).mono fun e w' hr => ?_
        rw [e0, if_neg (by simp), if_pos ⟨rfl, c3⟩]
        exact retC_7 hr (NX.of3 ⟨gb, ub, hb, ab, cb, lb, he.keep hr.2.2, rfl⟩) (fun _ => ⟨h5, h6⟩)
  · obtain ⟨h5, h6⟩ := hpc (by omega)
    obtain ⟨p1, p2, p3⟩ := hk.pc (by omega)
    obtain ⟨k1, k2, k3, k4⟩ := hk.three h0
    have hpt : q.p ≠ s.tl := key_tl hc hd.1 (.inl p3)
    have hnp := hc.nlt _ p1 hpt
    have hct : q.c ≠ s.tl := key_tl hc hd.1 (.inr k2)
    have hf' : hm 7 = fM2 gb := by rw [hf, if_neg (by omega), if_neg (by omega), if_neg (by omega)]
    refine ⟨_, _, hf', ?_⟩
    have e0 : markS s q kd K = if clean s q then ⟨s.cut q.p q.c, q, .none, true⟩ else ⟨s, q, .none, true⟩ := by unfold markS; rw [if_neg (by omega), if_neg (by omega), if_neg (by omega)]
    cases c3 : s.mrk q.p with
    | true =>
      refine (cM2_bad1 h he h5 h6 p1 p2 c3).mono fun e w' hr => ?_
      rw [e0, if_neg (fun hcl => by have := hcl.1; rw [c3] at this; cases this)]
      exact retC_over hr k4 fun _ _ => rfl
    | false =>
      by_cases c4 : s.nx q.p = q.c
      · refine (cM2_ok h he h5 h6 p1 p2 hpt hnp c3 (decide_eq_true c4) hct).mono fun e w' hr => ?_
        rw [e0, if_pos ⟨c3, c4⟩]
        exact retC_over hr k4 fun _ _ => rfl
      · refine (cM2_bad2 h he h5 h6 p1 p2 hpt hnp c3 (decide_eq_false c4)).mono fun e w' hr => ?_
        rw [e0, if_neg (fun hcl => c4 hcl.2)]
        exact retC_over hr k4 fun _ _ => rfl
theorem next_naive (h : ST base B nh v kd K ad s lk hs hm w) (hn : NXN w (.pointer (some ⟨B, v * 9, none⟩)) q.at_ kd (hm 7)) (h4 : hm 4 = jp (ad 0)) (hpc : q.at_ ≠ 0 → hm 5 = jp (ad q.p) ∧ hm 6 = jp (ad q.c)) (hc : NCor s) (hk : NI s q kd K) (hd : Dee kd K) (hlk : lk s.sz = false) :
    ∃ k caps, hm 7 = .func (.func k) #[] caps ∧ Calls Try.prog k caps w (RetC base B nh v kd K ad s.sz hs hm 4 (aNaive.step s lk q kd K) w) := by
  show ∃ k caps, hm 7 = .func (.func k) #[] caps ∧ Calls Try.prog k caps w (RetC base B nh v kd K ad s.sz hs hm 4 ⟨(naiveS s q kd K).s, lk, (naiveS s q kd K).h, (naiveS s q kd K).e, (naiveS s q kd K).over⟩ w)
  obtain ⟨gb, hb, ab, cb, lb, he, hf⟩ := hn
  have hle := hk.le
  rcases (show q.at_ = 0 ∨ q.at_ = 1 ∨ q.at_ = 2 by omega) with h0 | h0 | h0
  · have hf' : hm 7 = fW2 hb lb := by rw [hf, if_pos h0]
    refine ⟨_, _, hf', ?_⟩
    refine (cW2 h he.e h4 hc.pos hc.hd.symm).mono fun e w' hr => ?_
    have e1 : naiveS s q kd K = ⟨s, ⟨1, 0, s.nx 0, q.is_⟩, .none, false⟩ := by unfold naiveS; rw [if_pos h0]
    rw [e1]
    exact retC_567 hr (NX.of4 ⟨gb, hb, ab, cb, lb, he.keep hr.2.2, rfl⟩) rfl rfl
  · obtain ⟨h5, h6⟩ := hpc (by omega)
    obtain ⟨p1, p2, p3⟩ := hk.pc (by omega)
    have hf' : hm 7 = fW1 hb ab cb := by rw [hf, if_neg (by omega), if_pos h0]
    refine ⟨_, _, hf', ?_⟩
    have c1 := hc.um q.c
    have e0 : naiveS s q kd K = if s.key q.c < K then ⟨s, ⟨1, q.c, s.nx q.c, q.is_⟩, .none, false⟩
     else if kd = 3 then ⟨s, ⟨1, q.p, q.c, decide (s.key q.c = K)⟩, .none, true⟩
     else if (kd = 1 ∧ s.key q.c = K) ∨ (kd = 2 ∧ s.key q.c ≠ K) then ⟨s, ⟨1, q.p, q.c, false⟩, .none, true⟩
     else ⟨s, ⟨2, q.p, q.c, q.is_⟩, .none, false⟩ := by unfold naiveS; rw [if_neg (by omega), if_pos h0]
    rw [e0]
    by_cases c3 : s.key q.c < K
    · refine (cW1_lt h he.e h6 p2 c1 (hc.key_tl hd.1 (.inl c3)) c3).mono fun e w' hr => ?_
      rw [if_pos c3]
      exact retC_56 hr (NX.of4 ⟨gb, hb, ab, cb, lb, he.keep hr.2.2, hf'⟩) rfl rfl
    · rw [if_neg c3]
      by_cases c4 : s.key q.c = K
      · rcases hd.2 with rfl | rfl | rfl
        · refine (cW1_no1 h he.e h6 p2 c1 c3 (decide_eq_true c4)).mono fun e w' hr => ?_
          rw [if_neg (by decide), if_pos (.inl ⟨rfl, c4⟩)]
          exact retC_over hr rfl fun _ _ => rfl
        · refine (cW1_do2 h he.e h6 p2 c1 c3 (decide_eq_true c4)).mono fun e w' hr => ?_
          rw [if_neg (by decide), if_neg (by simp [c4])]
          exact retC_7 hr (NX.of4 ⟨gb, hb, ab, cb, lb, he.keep hr.2.2, rfl⟩) (fun _ => ⟨h5, h6⟩)
        · refine (cW1_has h he.e h6 p2 c1 c3).mono fun e w' hr => ?_
          rw [if_pos rfl]
          exact retC_over hr (by rw [c1]; simp) fun _ _ => rfl
      · rcases hd.2 with rfl | rfl | rfl
        · refine (cW1_do1 h he.e h6 p2 c1 c3 (decide_eq_false c4)).mono fun e w' hr => ?_
          rw [if_neg (by decide), if_neg (by simp [c4])]
          exact retC_7 hr (NX.of4 ⟨gb, hb, ab, cb, lb, he.keep hr.2.2, rfl⟩) (fun _ => ⟨h5, h6⟩)
        · refine (cW1_no2 h he.e h6 p2 c1 c3 (decide_eq_false c4)).mono fun e w' hr => ?_
          rw [if_neg (by decide), if_pos (.inr ⟨rfl, c4⟩)]
          exact retC_over hr rfl fun _ _ => rfl
        · refine (cW1_has h he.e h6 p2 c1 c3).mono fun e w' hr => ?_
          rw [if_pos rfl]
          exact retC_over hr (by rw [c1]; simp) fun _ _ => rfl
  · obtain ⟨h5, h6⟩ := hpc (by omega)
    obtain ⟨p1, p2, p3⟩ := hk.pc (by omega)
    have hpt : q.p ≠ s.tl := hc.key_tl hd.1 (.inl p3)
    rcases hk.two h0 with ⟨rfl, k2⟩ | ⟨rfl, k2⟩
    · have hf' : hm 7 = fN1 gb := by rw [hf, if_neg (by omega), if_neg (by omega), if_pos rfl]
      refine ⟨_, _, hf', ?_⟩
      refine (cN1 h he h5 h6 p1 p2 hpt hc.tlt hc.nlt hlk).mono fun e w' hr => ?_
      obtain ⟨g, hr⟩ := hr
      have e0 : naiveS s q 1 K = ⟨s.insc q.p q.c K, ⟨2, q.p, q.c, true⟩, .none, true⟩ := by unfold naiveS; rw [if_neg (by omega), if_neg (by omega), if_pos rfl]
      rw [e0]
      exact retC_over hr rfl upd_ad
    · have hf' : hm 7 = fN2 gb := by rw [hf, if_neg (by omega), if_neg (by omega), if_neg (by decide)]
      refine ⟨_, _, hf', ?_⟩
      refine (cN2 h he h5 h6 p1 p2 hpt (hc.key_tl hd.1 (.inr k2))).mono fun e w' hr => ?_
      have e0 : naiveS s q 2 K = ⟨s.cut q.p q.c, ⟨2, q.p, q.c, true⟩, .none, true⟩ := by unfold naiveS; rw [if_neg (by omega), if_neg (by omega), if_neg (by decide)]
      rw [e0]
      exact retC_over hr rfl fun _ _ => rfl
end

end Go.Proofs.Ytfmdpmebllepeaa
