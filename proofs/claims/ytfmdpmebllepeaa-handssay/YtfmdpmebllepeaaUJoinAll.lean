/-
  Joined texts: YtfmdpmebllepeaaUMark, YtfmdpmebllepeaaUMark2, YtfmdpmebllepeaaUJoin.
-/
import Derived.Test.YtfmdpmebllepeaaURowAll
import Derived.Deep.DeepCutAuto
import Derived.Test.YtfmdpmebllepeaaULazy2All
import Derived.Test.YtfmdpmebllepeaaUInvAll
/-
  hedgref's Bench: marks, to look. Written by tools/gen_ubench.py.
-/
namespace Go.Proofs.Ytfmdpmebllepeaa
open Go.RowKit

section
variable {w : World} {base bb gB cB gH cH al nh : Nat} {s : Bs} {lk : Nat → Bool} {ix : Nat → Nat} {hs : Nat → Hd} {pv dv : Value} {now : Nat} {D : List Dn} {v p c : Nat} {is_ : Bool} {kd K : Int}
set_option maxRecDepth 100000 in
set_option maxHeartbeats 8000000 in
theorem umark_0 (h : UB w base bb gB cB gH cH al nh s lk ix hs pv dv now D) (hv : v < nh) (hq : hs v = ⟨0, p, c, is_⟩) (hps : p < s.sz) (hcs : c < s.sz) (ht : s.tl < s.sz) (h0t : 0 ≠ s.tl) :
    Calls Try.prog 42 #[jp bb, .pointer (some ⟨gH, v * 5, none⟩), .agg #[I kd, I K]] w (RetH base bb gH cH al nh ix hs pv dv now D v ⟨s, lk, ⟨1, 0, s.nx 0, is_⟩, .none, false⟩ w) := by
  have hbz := h.bbase
  obtain ⟨w0, hw0⟩ : ∃ x, x = w.alloc (.cells #[I kd, I K] 50) := ⟨_, rfl⟩
  have H0 : Hid (UB w0 base bb gB cB gH cH al nh s lk ix hs pv dv now D) := by rw [hw0]; exact h.keep ((Below.refl _ _).alloc (Nat.le_refl _) _)
  have F0 : Hid (UF base w w0) := by rw [hw0]; exact (UF.refl _ _).alloc hbz _
  have D0 : Hid (w0.heap[w.heap.size]? = some (.cells #[I kd, I K] 50 (0, 0))) := by rw [hw0]; exact heap_alloc_new _ _
  obtain ⟨db, hdb⟩ : ∃ x, w.heap.size = x := ⟨_, rfl⟩
  rw [hdb] at D0
  have hc0 : (0 : Int) ≤ (c : Int) := by omega
  have hcz : (c : Int) < (s.sz : Int) := by omega
  have hp0 : (0 : Int) ≤ (p : Int) := by omega
  have hpz : (p : Int) < (s.sz : Int) := by omega
  have hz0 : 0 < s.sz := by omega
  have hzi : (0 : Int) < (s.sz : Int) := by omega
  obtain ⟨f0, f1, f2, f3, f4, f5, ff⟩ := H0.out.fb
  obtain ⟨y0, y1, y2, y3, y4, yf⟩ := H0.out.hd hv
  rw [hq] at y1 y2 y3 y4
  dsimp only at y1 y2 y3 y4
  have HQ := Lib.hid hq
  have HPS := Lib.hid hps
  have HCS := Lib.hid hcs
  clear h hbz hps hcs hq
  go_enter Try.func42, Try.ntmps42
  go_upto_region 1 with fail
  rw [← hw0]
  try rw [hdb]
  clear hw0 hdb
  go_quiet (fail)
  have H1 := Lib.hid (H0.out.drewN nq)
  have F01 := Lib.hid (F0.out.drewN nq)
  have D1 : Hid ((w0.drewN nq).heap[db]? = some (.cells #[I kd, I K] 50 (0, 0))) := D0.out
  clear H0 F0 D0
  try clear f0 f1 f2 f3 f4 f5 ff
  try clear y0 y1 y2 y3 y4 yf
  try clear xpk xpn xpm xpl xpf
  try clear xck xcn xcm xcl xcf
  try clear xzk xzn xzm xzl xzf
  generalize hgw : w0.drewN nq = w1 at *
  clear hgw nq
  have F1 := Lib.hid (UF.refl base w1)
  have d1a : w1.cell? ⟨db, 0, none⟩ = some (I kd) := (F1.out.cell D1.out (by decide) (by decide) (by decide) (by decide)).trans (by rw [jcell D1.out]; rfl)
  have d1b : w1.cell? ⟨db, 1, none⟩ = some (I K) := (F1.out.cell D1.out (by decide) (by decide) (by decide) (by decide)).trans (by rw [jcell D1.out]; rfl)
  obtain ⟨f0, f1, f2, f3, f4, f5, ff⟩ := H1.out.fb
  obtain ⟨y0, y1, y2, y3, y4, yf⟩ := H1.out.hd hv
  rw [HQ.out] at y1 y2 y3 y4
  dsimp only at y1 y2 y3 y4
  have y1q := y1
  clear y1
  have y1 : w1.cell? ⟨gH, v * 5 + 1, none⟩ = some (I 0) := y1q
  clear y1q
  obtain ⟨xck, xcn, xcm, xcl, xcf⟩ := H1.out.bd (i := c) HCS.out
  go_wp2_with fail
  go_quiet (fail)
  try clear f0 f1 f2 f3 f4 f5 ff
  try clear y0 y1 y2 y3 y4 yf
  try clear xpk xpn xpm xpl xpf
  try clear xck xcn xcm xcl xcf
  try clear xzk xzn xzm xzl xzf
  have H2 : Hid (UB (w1.drewN nq) base bb gB cB gH cH al nh s lk ix hs pv dv now D) := H1.out.drewN nq
  have F2 : Hid (UF base w1 (w1.drewN nq)) := F1.out.drewN nq
  generalize hgw : w1.drewN nq = w2 at *
  clear hgw
  have d2a : w2.cell? ⟨db, 0, none⟩ = some (I kd) := (F2.out.cell D1.out (by decide) (by decide) (by decide) (by decide)).trans (by rw [jcell D1.out]; rfl)
  have d2b : w2.cell? ⟨db, 1, none⟩ = some (I K) := (F2.out.cell D1.out (by decide) (by decide) (by decide) (by decide)).trans (by rw [jcell D1.out]; rfl)
  clear nq
  obtain ⟨f0, f1, f2, f3, f4, f5, ff⟩ := H2.out.fb
  obtain ⟨y0, y1, y2, y3, y4, yf⟩ := H2.out.hd hv
  rw [HQ.out] at y1 y2 y3 y4
  dsimp only at y1 y2 y3 y4
  have y1q := y1
  clear y1
  have y1 : w2.cell? ⟨gH, v * 5 + 1, none⟩ = some (I 0) := y1q
  clear y1q
  have HA2 := Lib.hid (uagain_any H2.out hv hz0 h0t)
  go_wp2_with fail
  refine HA2.out.mono ?_
  rintro e w3 ⟨rfl, h3, f3'⟩
  try clear f0 f1 f2 f3 f4 f5 ff
  try clear y0 y1 y2 y3 y4 yf
  try clear xpk xpn xpm xpl xpf
  try clear xck xcn xcm xcl xcf
  try clear xzk xzn xzm xzl xzf
  have H3 : Hid (UB w3 base bb gB cB gH cH al nh s lk ix (upd hs v ⟨1, 0, (s.nx 0), is_⟩) pv dv now D) := h3.hs_eq (by rw [HQ.out])
  have F3 := Lib.hid (F2.out.trans f3')
  clear h3 f3'
  have d3a : w3.cell? ⟨db, 0, none⟩ = some (I kd) := (F3.out.cell D1.out (by decide) (by decide) (by decide) (by decide)).trans (by rw [jcell D1.out]; rfl)
  have d3b : w3.cell? ⟨db, 1, none⟩ = some (I K) := (F3.out.cell D1.out (by decide) (by decide) (by decide) (by decide)).trans (by rw [jcell D1.out]; rfl)
  go_wp2
  go_ret
  exact ⟨rfl, ⟨gB, cB, H3.out⟩, F01.out.trans F3.out⟩
set_option maxRecDepth 100000 in
set_option maxHeartbeats 8000000 in
theorem umark_1u (h : UB w base bb gB cB gH cH al nh s lk ix hs pv dv now D) (hv : v < nh) (hq : hs v = ⟨1, p, c, is_⟩) (hps : p < s.sz) (hcs : c < s.sz) (hm : s.mrk c = true) (hkd : kd ≠ 3) (hpt : p ≠ s.tl) (hcl : decide (s.mrk p = false ∧ s.nx p = c) = false) :
    Calls Try.prog 42 #[jp bb, .pointer (some ⟨gH, v * 5, none⟩), .agg #[I kd, I K]] w (RetH base bb gH cH al nh ix hs pv dv now D v ⟨s, lk, ⟨0, p, c, is_⟩, .none, false⟩ w) := by
  have hbz := h.bbase
  obtain ⟨w0, hw0⟩ : ∃ x, x = w.alloc (.cells #[I kd, I K] 50) := ⟨_, rfl⟩
  have H0 : Hid (UB w0 base bb gB cB gH cH al nh s lk ix hs pv dv now D) := by rw [hw0]; exact h.keep ((Below.refl _ _).alloc (Nat.le_refl _) _)
  have F0 : Hid (UF base w w0) := by rw [hw0]; exact (UF.refl _ _).alloc hbz _
  have D0 : Hid (w0.heap[w.heap.size]? = some (.cells #[I kd, I K] 50 (0, 0))) := by rw [hw0]; exact heap_alloc_new _ _
  obtain ⟨db, hdb⟩ : ∃ x, w.heap.size = x := ⟨_, rfl⟩
  rw [hdb] at D0
  have hc0 : (0 : Int) ≤ (c : Int) := by omega
  have hcz : (c : Int) < (s.sz : Int) := by omega
  have hp0 : (0 : Int) ≤ (p : Int) := by omega
  have hpz : (p : Int) < (s.sz : Int) := by omega
  have hkb : (kd == 3) = false := by simp [hkd]
  obtain ⟨f0, f1, f2, f3, f4, f5, ff⟩ := H0.out.fb
  obtain ⟨y0, y1, y2, y3, y4, yf⟩ := H0.out.hd hv
  rw [hq] at y1 y2 y3 y4
  dsimp only at y1 y2 y3 y4
  have HQ := Lib.hid hq
  have HPS := Lib.hid hps
  have HCS := Lib.hid hcs
  clear h hbz hps hcs hq
  go_enter Try.func42, Try.ntmps42
  go_upto_region 1 with fail
  rw [← hw0]
  try rw [hdb]
  clear hw0 hdb
  go_quiet (fail)
  have H1 := Lib.hid (H0.out.drewN nq)
  have F01 := Lib.hid (F0.out.drewN nq)
  have D1 : Hid ((w0.drewN nq).heap[db]? = some (.cells #[I kd, I K] 50 (0, 0))) := D0.out
  clear H0 F0 D0
  try clear f0 f1 f2 f3 f4 f5 ff
  try clear y0 y1 y2 y3 y4 yf
  try clear xpk xpn xpm xpl xpf
  try clear xck xcn xcm xcl xcf
  try clear xzk xzn xzm xzl xzf
  generalize hgw : w0.drewN nq = w1 at *
  clear hgw nq
  have F1 := Lib.hid (UF.refl base w1)
  have d1a : w1.cell? ⟨db, 0, none⟩ = some (I kd) := (F1.out.cell D1.out (by decide) (by decide) (by decide) (by decide)).trans (by rw [jcell D1.out]; rfl)
  have d1b : w1.cell? ⟨db, 1, none⟩ = some (I K) := (F1.out.cell D1.out (by decide) (by decide) (by decide) (by decide)).trans (by rw [jcell D1.out]; rfl)
  obtain ⟨f0, f1, f2, f3, f4, f5, ff⟩ := H1.out.fb
  obtain ⟨y0, y1, y2, y3, y4, yf⟩ := H1.out.hd hv
  rw [HQ.out] at y1 y2 y3 y4
  dsimp only at y1 y2 y3 y4
  have y1q := y1
  clear y1
  have y1 : w1.cell? ⟨gH, v * 5 + 1, none⟩ = some (I 1) := y1q
  clear y1q
  obtain ⟨xck, xcn, xcm, xcl, xcf⟩ := H1.out.bd (i := c) HCS.out
  go_wp2_with fail
  go_quiet (fail)
  try clear f0 f1 f2 f3 f4 f5 ff
  try clear y0 y1 y2 y3 y4 yf
  try clear xpk xpn xpm xpl xpf
  try clear xck xcn xcm xcl xcf
  try clear xzk xzn xzm xzl xzf
  have H2 : Hid (UB (w1.drewN nq) base bb gB cB gH cH al nh s lk ix hs pv dv now D) := H1.out.drewN nq
  have F2 : Hid (UF base w1 (w1.drewN nq)) := F1.out.drewN nq
  generalize hgw : w1.drewN nq = w2 at *
  clear hgw
  have d2a : w2.cell? ⟨db, 0, none⟩ = some (I kd) := (F2.out.cell D1.out (by decide) (by decide) (by decide) (by decide)).trans (by rw [jcell D1.out]; rfl)
  have d2b : w2.cell? ⟨db, 1, none⟩ = some (I K) := (F2.out.cell D1.out (by decide) (by decide) (by decide) (by decide)).trans (by rw [jcell D1.out]; rfl)
  clear nq
  obtain ⟨f0, f1, f2, f3, f4, f5, ff⟩ := H2.out.fb
  obtain ⟨y0, y1, y2, y3, y4, yf⟩ := H2.out.hd hv
  rw [HQ.out] at y1 y2 y3 y4
  dsimp only at y1 y2 y3 y4
  have y1q := y1
  clear y1
  have y1 : w2.cell? ⟨gH, v * 5 + 1, none⟩ = some (I 1) := y1q
  clear y1q
  obtain ⟨xck, xcn, xcm, xcl, xcf⟩ := H2.out.bd (i := c) HCS.out
  rw [hm] at xcm
  have HA2 := Lib.hid (uclean_any (b := false) H2.out hv (by rw [HQ.out]) (by rw [HQ.out]) HPS.out hpt hcl)
  go_wp2_with fail
  refine HA2.out.mono ?_
  rintro e w2' ⟨rfl, nq, rfl⟩
  try clear f0 f1 f2 f3 f4 f5 ff
  try clear y0 y1 y2 y3 y4 yf
  try clear xpk xpn xpm xpl xpf
  try clear xck xcn xcm xcl xcf
  try clear xzk xzn xzm xzl xzf
  have H3 : Hid (UB (w2.drewN nq) base bb gB cB gH cH al nh s lk ix hs pv dv now D) := H2.out.drewN nq
  have F3 : Hid (UF base w1 (w2.drewN nq)) := F2.out.drewN nq
  generalize hgw : w2.drewN nq = w3 at *
  clear hgw
  have d3a : w3.cell? ⟨db, 0, none⟩ = some (I kd) := (F3.out.cell D1.out (by decide) (by decide) (by decide) (by decide)).trans (by rw [jcell D1.out]; rfl)
  have d3b : w3.cell? ⟨db, 1, none⟩ = some (I K) := (F3.out.cell D1.out (by decide) (by decide) (by decide) (by decide)).trans (by rw [jcell D1.out]; rfl)
  obtain ⟨f0, f1, f2, f3, f4, f5, ff⟩ := H3.out.fb
  obtain ⟨y0, y1, y2, y3, y4, yf⟩ := H3.out.hd hv
  rw [HQ.out] at y1 y2 y3 y4
  dsimp only at y1 y2 y3 y4
  have y1q := y1
  clear y1
  have y1 : w3.cell? ⟨gH, v * 5 + 1, none⟩ = some (I 1) := y1q
  clear y1q
  have H4 := Lib.hid (H3.out.aset hv 0)
  have F4 := Lib.hid (F3.out.trans (H3.out.ufH (v * 5 + 1) (I 0)))
  go_wp2
  go_ret
  exact ⟨rfl, ⟨gB, cB, H4.out.hs_eq (by rw [HQ.out])⟩, F01.out.trans F4.out⟩
set_option maxRecDepth 100000 in
set_option maxHeartbeats 8000000 in
theorem umark_1c (h : UB w base bb gB cB gH cH al nh s lk ix hs pv dv now D) (hv : v < nh) (hq : hs v = ⟨1, p, c, is_⟩) (hps : p < s.sz) (hcs : c < s.sz) (hm : s.mrk c = true) (hkd : kd ≠ 3) (hpt : p ≠ s.tl) (hcl : decide (s.mrk p = false ∧ s.nx p = c) = true) (hct : c ≠ s.tl) :
    Calls Try.prog 42 #[jp bb, .pointer (some ⟨gH, v * 5, none⟩), .agg #[I kd, I K]] w (RetH base bb gH cH al nh ix hs pv dv now D v ⟨s.cut p c, lk, ⟨1, p, s.nx c, is_⟩, .none, false⟩ w) := by
  have hbz := h.bbase
  obtain ⟨w0, hw0⟩ : ∃ x, x = w.alloc (.cells #[I kd, I K] 50) := ⟨_, rfl⟩
  have H0 : Hid (UB w0 base bb gB cB gH cH al nh s lk ix hs pv dv now D) := by rw [hw0]; exact h.keep ((Below.refl _ _).alloc (Nat.le_refl _) _)
  have F0 : Hid (UF base w w0) := by rw [hw0]; exact (UF.refl _ _).alloc hbz _
  have D0 : Hid (w0.heap[w.heap.size]? = some (.cells #[I kd, I K] 50 (0, 0))) := by rw [hw0]; exact heap_alloc_new _ _
  obtain ⟨db, hdb⟩ : ∃ x, w.heap.size = x := ⟨_, rfl⟩
  rw [hdb] at D0
  have hc0 : (0 : Int) ≤ (c : Int) := by omega
  have hcz : (c : Int) < (s.sz : Int) := by omega
  have hp0 : (0 : Int) ≤ (p : Int) := by omega
  have hpz : (p : Int) < (s.sz : Int) := by omega
  have hkb : (kd == 3) = false := by simp [hkd]
  obtain ⟨f0, f1, f2, f3, f4, f5, ff⟩ := H0.out.fb
  obtain ⟨y0, y1, y2, y3, y4, yf⟩ := H0.out.hd hv
  rw [hq] at y1 y2 y3 y4
  dsimp only at y1 y2 y3 y4
  have HQ := Lib.hid hq
  have HPS := Lib.hid hps
  have HCS := Lib.hid hcs
  clear h hbz hps hcs hq
  go_enter Try.func42, Try.ntmps42
  go_upto_region 1 with fail
  rw [← hw0]
  try rw [hdb]
  clear hw0 hdb
  go_quiet (fail)
  have H1 := Lib.hid (H0.out.drewN nq)
  have F01 := Lib.hid (F0.out.drewN nq)
  have D1 : Hid ((w0.drewN nq).heap[db]? = some (.cells #[I kd, I K] 50 (0, 0))) := D0.out
  clear H0 F0 D0
  try clear f0 f1 f2 f3 f4 f5 ff
  try clear y0 y1 y2 y3 y4 yf
  try clear xpk xpn xpm xpl xpf
  try clear xck xcn xcm xcl xcf
  try clear xzk xzn xzm xzl xzf
  generalize hgw : w0.drewN nq = w1 at *
  clear hgw nq
  have F1 := Lib.hid (UF.refl base w1)
  have d1a : w1.cell? ⟨db, 0, none⟩ = some (I kd) := (F1.out.cell D1.out (by decide) (by decide) (by decide) (by decide)).trans (by rw [jcell D1.out]; rfl)
  have d1b : w1.cell? ⟨db, 1, none⟩ = some (I K) := (F1.out.cell D1.out (by decide) (by decide) (by decide) (by decide)).trans (by rw [jcell D1.out]; rfl)
  obtain ⟨f0, f1, f2, f3, f4, f5, ff⟩ := H1.out.fb
  obtain ⟨y0, y1, y2, y3, y4, yf⟩ := H1.out.hd hv
  rw [HQ.out] at y1 y2 y3 y4
  dsimp only at y1 y2 y3 y4
  have y1q := y1
  clear y1
  have y1 : w1.cell? ⟨gH, v * 5 + 1, none⟩ = some (I 1) := y1q
  clear y1q
  obtain ⟨xck, xcn, xcm, xcl, xcf⟩ := H1.out.bd (i := c) HCS.out
  go_wp2_with fail
  go_quiet (fail)
  try clear f0 f1 f2 f3 f4 f5 ff
  try clear y0 y1 y2 y3 y4 yf
  try clear xpk xpn xpm xpl xpf
  try clear xck xcn xcm xcl xcf
  try clear xzk xzn xzm xzl xzf
  have H2 : Hid (UB (w1.drewN nq) base bb gB cB gH cH al nh s lk ix hs pv dv now D) := H1.out.drewN nq
  have F2 : Hid (UF base w1 (w1.drewN nq)) := F1.out.drewN nq
  generalize hgw : w1.drewN nq = w2 at *
  clear hgw
  have d2a : w2.cell? ⟨db, 0, none⟩ = some (I kd) := (F2.out.cell D1.out (by decide) (by decide) (by decide) (by decide)).trans (by rw [jcell D1.out]; rfl)
  have d2b : w2.cell? ⟨db, 1, none⟩ = some (I K) := (F2.out.cell D1.out (by decide) (by decide) (by decide) (by decide)).trans (by rw [jcell D1.out]; rfl)
  clear nq
  obtain ⟨f0, f1, f2, f3, f4, f5, ff⟩ := H2.out.fb
  obtain ⟨y0, y1, y2, y3, y4, yf⟩ := H2.out.hd hv
  rw [HQ.out] at y1 y2 y3 y4
  dsimp only at y1 y2 y3 y4
  have y1q := y1
  clear y1
  have y1 : w2.cell? ⟨gH, v * 5 + 1, none⟩ = some (I 1) := y1q
  clear y1q
  obtain ⟨xck, xcn, xcm, xcl, xcf⟩ := H2.out.bd (i := c) HCS.out
  rw [hm] at xcm
  have HA2 := Lib.hid (uclean_any (b := true) H2.out hv (by rw [HQ.out]) (by rw [HQ.out]) HPS.out hpt hcl)
  go_wp2_with fail
  refine HA2.out.mono ?_
  rintro e w2' ⟨rfl, nq, rfl⟩
  try clear f0 f1 f2 f3 f4 f5 ff
  try clear y0 y1 y2 y3 y4 yf
  try clear xpk xpn xpm xpl xpf
  try clear xck xcn xcm xcl xcf
  try clear xzk xzn xzm xzl xzf
  have H3 : Hid (UB (w2.drewN nq) base bb gB cB gH cH al nh s lk ix hs pv dv now D) := H2.out.drewN nq
  have F3 : Hid (UF base w1 (w2.drewN nq)) := F2.out.drewN nq
  generalize hgw : w2.drewN nq = w3 at *
  clear hgw
  have d3a : w3.cell? ⟨db, 0, none⟩ = some (I kd) := (F3.out.cell D1.out (by decide) (by decide) (by decide) (by decide)).trans (by rw [jcell D1.out]; rfl)
  have d3b : w3.cell? ⟨db, 1, none⟩ = some (I K) := (F3.out.cell D1.out (by decide) (by decide) (by decide) (by decide)).trans (by rw [jcell D1.out]; rfl)
  obtain ⟨f0, f1, f2, f3, f4, f5, ff⟩ := H3.out.fb
  obtain ⟨y0, y1, y2, y3, y4, yf⟩ := H3.out.hd hv
  rw [HQ.out] at y1 y2 y3 y4
  dsimp only at y1 y2 y3 y4
  have y1q := y1
  clear y1
  have y1 : w3.cell? ⟨gH, v * 5 + 1, none⟩ = some (I 1) := y1q
  clear y1q
  obtain ⟨xpk, xpn, xpm, xpl, xpf⟩ := H3.out.bd (i := p) HPS.out
  obtain ⟨xck, xcn, xcm, xcl, xcf⟩ := H3.out.bd (i := c) HCS.out
  rw [nxI_ne hct] at xcn
  go_wp2_with fail
  go_region
  all_goals
    (try clear f0 f1 f2 f3 f4 f5 ff
     try clear y0 y1 y2 y3 y4 yf
     try clear xpk xpn xpm xpl xpf
     try clear xck xcn xcm xcl xcf
     try clear xzk xzn xzm xzl xzf
     have H4 : Hid (UB ((w3.setCell ⟨gB, p * 4 + 1, none⟩ (I (s.nx c))).drew) base bb gB cB gH cH al nh (s.cut p c) lk ix hs pv dv now D) := (H3.out.nxset HPS.out hpt (s.nx c)).drew
     have F4 : Hid (UF base w1 ((w3.setCell ⟨gB, p * 4 + 1, none⟩ (I (s.nx c))).drew)) := (F3.out.trans (H3.out.ufB _ _)).drew
     generalize hgw : (w3.setCell ⟨gB, p * 4 + 1, none⟩ (I (s.nx c))).drew = w4 at *
     clear hgw
     have d4a : w4.cell? ⟨db, 0, none⟩ = some (I kd) := (F4.out.cell D1.out (by decide) (by decide) (by decide) (by decide)).trans (by rw [jcell D1.out]; rfl)
     have d4b : w4.cell? ⟨db, 1, none⟩ = some (I K) := (F4.out.cell D1.out (by decide) (by decide) (by decide) (by decide)).trans (by rw [jcell D1.out]; rfl)
     obtain ⟨f0, f1, f2, f3, f4, f5, ff⟩ := H4.out.fb
     have f1q : w4.cell? ⟨bb, 1, none⟩ = some (.slice (some ⟨gB, 0, none⟩) s.sz cB) := f1
     clear f1
     obtain ⟨y0, y1, y2, y3, y4, yf⟩ := H4.out.hd hv
     rw [HQ.out] at y1 y2 y3 y4
     dsimp only at y1 y2 y3 y4
     have y1q := y1
     clear y1
     have y1 : w4.cell? ⟨gH, v * 5 + 1, none⟩ = some (I 1) := y1q
     clear y1q
     obtain ⟨xck, xcn, xcm, xcl, xcf⟩ := H4.out.bd (i := c) HCS.out
     rw [nxI_ne (s := s.cut p c) hct] at xcn
     have hcc : (s.cut p c).nx c = s.nx c := by
       show upd s.nx p (s.nx c) c = s.nx c
       by_cases e : c = p
       · rw [e, upd_same]
       · rw [upd_other _ _ e]
     rw [hcc] at xcn
     clear hcc
     have H5 := Lib.hid (H4.out.cset hv (s.nx c))
     have F5 := Lib.hid (F4.out.trans (H4.out.ufH (v * 5 + 3) (I (s.nx c))))
     go_wp2
     go_ret
     exact ⟨rfl, ⟨gB, cB, H5.out.hs_eq (by rw [HQ.out])⟩, F01.out.trans F5.out⟩)
set_option maxRecDepth 100000 in
set_option maxHeartbeats 8000000 in
theorem umark_1l (h : UB w base bb gB cB gH cH al nh s lk ix hs pv dv now D) (hv : v < nh) (hq : hs v = ⟨1, p, c, is_⟩) (hps : p < s.sz) (hcs : c < s.sz) (hct : c ≠ s.tl) (hlt : s.key c < K) (hm : s.mrk c = false) :
    Calls Try.prog 42 #[jp bb, .pointer (some ⟨gH, v * 5, none⟩), .agg #[I kd, I K]] w (RetH base bb gH cH al nh ix hs pv dv now D v ⟨s, lk, ⟨1, c, s.nx c, is_⟩, .none, false⟩ w) := by
  have hbz := h.bbase
  obtain ⟨w0, hw0⟩ : ∃ x, x = w.alloc (.cells #[I kd, I K] 50) := ⟨_, rfl⟩
  have H0 : Hid (UB w0 base bb gB cB gH cH al nh s lk ix hs pv dv now D) := by rw [hw0]; exact h.keep ((Below.refl _ _).alloc (Nat.le_refl _) _)
  have F0 : Hid (UF base w w0) := by rw [hw0]; exact (UF.refl _ _).alloc hbz _
  have D0 : Hid (w0.heap[w.heap.size]? = some (.cells #[I kd, I K] 50 (0, 0))) := by rw [hw0]; exact heap_alloc_new _ _
  obtain ⟨db, hdb⟩ : ∃ x, w.heap.size = x := ⟨_, rfl⟩
  rw [hdb] at D0
  have hc0 : (0 : Int) ≤ (c : Int) := by omega
  have hcz : (c : Int) < (s.sz : Int) := by omega
  have hp0 : (0 : Int) ≤ (p : Int) := by omega
  have hpz : (p : Int) < (s.sz : Int) := by omega
  obtain ⟨f0, f1, f2, f3, f4, f5, ff⟩ := H0.out.fb
  obtain ⟨y0, y1, y2, y3, y4, yf⟩ := H0.out.hd hv
  rw [hq] at y1 y2 y3 y4
  dsimp only at y1 y2 y3 y4
  have HQ := Lib.hid hq
  have HPS := Lib.hid hps
  have HCS := Lib.hid hcs
  clear h hbz hps hcs hq
  go_enter Try.func42, Try.ntmps42
  go_upto_region 1 with fail
  rw [← hw0]
  try rw [hdb]
  clear hw0 hdb
  go_quiet (fail)
  have H1 := Lib.hid (H0.out.drewN nq)
  have F01 := Lib.hid (F0.out.drewN nq)
  have D1 : Hid ((w0.drewN nq).heap[db]? = some (.cells #[I kd, I K] 50 (0, 0))) := D0.out
  clear H0 F0 D0
  try clear f0 f1 f2 f3 f4 f5 ff
  try clear y0 y1 y2 y3 y4 yf
  try clear xpk xpn xpm xpl xpf
  try clear xck xcn xcm xcl xcf
  try clear xzk xzn xzm xzl xzf
  generalize hgw : w0.drewN nq = w1 at *
  clear hgw nq
  have F1 := Lib.hid (UF.refl base w1)
  have d1a : w1.cell? ⟨db, 0, none⟩ = some (I kd) := (F1.out.cell D1.out (by decide) (by decide) (by decide) (by decide)).trans (by rw [jcell D1.out]; rfl)
  have d1b : w1.cell? ⟨db, 1, none⟩ = some (I K) := (F1.out.cell D1.out (by decide) (by decide) (by decide) (by decide)).trans (by rw [jcell D1.out]; rfl)
  obtain ⟨f0, f1, f2, f3, f4, f5, ff⟩ := H1.out.fb
  obtain ⟨y0, y1, y2, y3, y4, yf⟩ := H1.out.hd hv
  rw [HQ.out] at y1 y2 y3 y4
  dsimp only at y1 y2 y3 y4
  have y1q := y1
  clear y1
  have y1 : w1.cell? ⟨gH, v * 5 + 1, none⟩ = some (I 1) := y1q
  clear y1q
  obtain ⟨xck, xcn, xcm, xcl, xcf⟩ := H1.out.bd (i := c) HCS.out
  go_wp2_with fail
  go_quiet (fail)
  try clear f0 f1 f2 f3 f4 f5 ff
  try clear y0 y1 y2 y3 y4 yf
  try clear xpk xpn xpm xpl xpf
  try clear xck xcn xcm xcl xcf
  try clear xzk xzn xzm xzl xzf
  have H2 : Hid (UB (w1.drewN nq) base bb gB cB gH cH al nh s lk ix hs pv dv now D) := H1.out.drewN nq
  have F2 : Hid (UF base w1 (w1.drewN nq)) := F1.out.drewN nq
  generalize hgw : w1.drewN nq = w2 at *
  clear hgw
  have d2a : w2.cell? ⟨db, 0, none⟩ = some (I kd) := (F2.out.cell D1.out (by decide) (by decide) (by decide) (by decide)).trans (by rw [jcell D1.out]; rfl)
  have d2b : w2.cell? ⟨db, 1, none⟩ = some (I K) := (F2.out.cell D1.out (by decide) (by decide) (by decide) (by decide)).trans (by rw [jcell D1.out]; rfl)
  clear nq
  obtain ⟨f0, f1, f2, f3, f4, f5, ff⟩ := H2.out.fb
  obtain ⟨y0, y1, y2, y3, y4, yf⟩ := H2.out.hd hv
  rw [HQ.out] at y1 y2 y3 y4
  dsimp only at y1 y2 y3 y4
  have y1q := y1
  clear y1
  have y1 : w2.cell? ⟨gH, v * 5 + 1, none⟩ = some (I 1) := y1q
  clear y1q
  obtain ⟨xck, xcn, xcm, xcl, xcf⟩ := H2.out.bd (i := c) HCS.out
  rw [hm] at xcm
  go_wp2_with fail
  go_quiet (fail)
  try clear f0 f1 f2 f3 f4 f5 ff
  try clear y0 y1 y2 y3 y4 yf
  try clear xpk xpn xpm xpl xpf
  try clear xck xcn xcm xcl xcf
  try clear xzk xzn xzm xzl xzf
  have H3 : Hid (UB (w2.drewN nq) base bb gB cB gH cH al nh s lk ix hs pv dv now D) := H2.out.drewN nq
  have F3 : Hid (UF base w1 (w2.drewN nq)) := F2.out.drewN nq
  generalize hgw : w2.drewN nq = w3 at *
  clear hgw
  have d3a : w3.cell? ⟨db, 0, none⟩ = some (I kd) := (F3.out.cell D1.out (by decide) (by decide) (by decide) (by decide)).trans (by rw [jcell D1.out]; rfl)
  have d3b : w3.cell? ⟨db, 1, none⟩ = some (I K) := (F3.out.cell D1.out (by decide) (by decide) (by decide) (by decide)).trans (by rw [jcell D1.out]; rfl)
  clear nq
  obtain ⟨f0, f1, f2, f3, f4, f5, ff⟩ := H3.out.fb
  obtain ⟨y0, y1, y2, y3, y4, yf⟩ := H3.out.hd hv
  rw [HQ.out] at y1 y2 y3 y4
  dsimp only at y1 y2 y3 y4
  have y1q := y1
  clear y1
  have y1 : w3.cell? ⟨gH, v * 5 + 1, none⟩ = some (I 1) := y1q
  clear y1q
  have HA3 := Lib.hid (uon_any (p := p) H3.out hv (by rw [HQ.out]) HCS.out hct)
  go_wp2_with fail
  refine HA3.out.mono ?_
  rintro e w4 ⟨rfl, h4, f4'⟩
  try clear f0 f1 f2 f3 f4 f5 ff
  try clear y0 y1 y2 y3 y4 yf
  try clear xpk xpn xpm xpl xpf
  try clear xck xcn xcm xcl xcf
  try clear xzk xzn xzm xzl xzf
  have H4 : Hid (UB w4 base bb gB cB gH cH al nh s lk ix (upd hs v ⟨1, c, (s.nx c), is_⟩) pv dv now D) := h4.hs_eq (by rw [HQ.out])
  have F4 := Lib.hid (F3.out.trans f4')
  clear h4 f4'
  have d4a : w4.cell? ⟨db, 0, none⟩ = some (I kd) := (F4.out.cell D1.out (by decide) (by decide) (by decide) (by decide)).trans (by rw [jcell D1.out]; rfl)
  have d4b : w4.cell? ⟨db, 1, none⟩ = some (I K) := (F4.out.cell D1.out (by decide) (by decide) (by decide) (by decide)).trans (by rw [jcell D1.out]; rfl)
  go_wp2
  go_ret
  exact ⟨rfl, ⟨gB, cB, H4.out⟩, F01.out.trans F4.out⟩
set_option maxRecDepth 100000 in
set_option maxHeartbeats 8000000 in
theorem umark_1l3 (h : UB w base bb gB cB gH cH al nh s lk ix hs pv dv now D) (hv : v < nh) (hq : hs v = ⟨1, p, c, is_⟩) (hps : p < s.sz) (hcs : c < s.sz) (hct : c ≠ s.tl) (hlt : s.key c < K) (hm : s.mrk c = true) :
    Calls Try.prog 42 #[jp bb, .pointer (some ⟨gH, v * 5, none⟩), .agg #[I 3, I K]] w (RetH base bb gH cH al nh ix hs pv dv now D v ⟨s, lk, ⟨1, c, s.nx c, is_⟩, .none, false⟩ w) := by
  have hbz := h.bbase
  obtain ⟨w0, hw0⟩ : ∃ x, x = w.alloc (.cells #[I 3, I K] 50) := ⟨_, rfl⟩
  have H0 : Hid (UB w0 base bb gB cB gH cH al nh s lk ix hs pv dv now D) := by rw [hw0]; exact h.keep ((Below.refl _ _).alloc (Nat.le_refl _) _)
  have F0 : Hid (UF base w w0) := by rw [hw0]; exact (UF.refl _ _).alloc hbz _
  have D0 : Hid (w0.heap[w.heap.size]? = some (.cells #[I 3, I K] 50 (0, 0))) := by rw [hw0]; exact heap_alloc_new _ _
  obtain ⟨db, hdb⟩ : ∃ x, w.heap.size = x := ⟨_, rfl⟩
  rw [hdb] at D0
  have hc0 : (0 : Int) ≤ (c : Int) := by omega
  have hcz : (c : Int) < (s.sz : Int) := by omega
  have hp0 : (0 : Int) ≤ (p : Int) := by omega
  have hpz : (p : Int) < (s.sz : Int) := by omega
  obtain ⟨f0, f1, f2, f3, f4, f5, ff⟩ := H0.out.fb
  obtain ⟨y0, y1, y2, y3, y4, yf⟩ := H0.out.hd hv
  rw [hq] at y1 y2 y3 y4
  dsimp only at y1 y2 y3 y4
  have HQ := Lib.hid hq
  have HPS := Lib.hid hps
  have HCS := Lib.hid hcs
  clear h hbz hps hcs hq
  go_enter Try.func42, Try.ntmps42
  go_upto_region 1 with fail
  rw [← hw0]
  try rw [hdb]
  clear hw0 hdb
  go_quiet (fail)
  have H1 := Lib.hid (H0.out.drewN nq)
  have F01 := Lib.hid (F0.out.drewN nq)
  have D1 : Hid ((w0.drewN nq).heap[db]? = some (.cells #[I 3, I K] 50 (0, 0))) := D0.out
  clear H0 F0 D0
  try clear f0 f1 f2 f3 f4 f5 ff
  try clear y0 y1 y2 y3 y4 yf
  try clear xpk xpn xpm xpl xpf
  try clear xck xcn xcm xcl xcf
  try clear xzk xzn xzm xzl xzf
  generalize hgw : w0.drewN nq = w1 at *
  clear hgw nq
  have F1 := Lib.hid (UF.refl base w1)
  have d1a : w1.cell? ⟨db, 0, none⟩ = some (I 3) := (F1.out.cell D1.out (by decide) (by decide) (by decide) (by decide)).trans (by rw [jcell D1.out]; rfl)
  have d1b : w1.cell? ⟨db, 1, none⟩ = some (I K) := (F1.out.cell D1.out (by decide) (by decide) (by decide) (by decide)).trans (by rw [jcell D1.out]; rfl)
  obtain ⟨f0, f1, f2, f3, f4, f5, ff⟩ := H1.out.fb
  obtain ⟨y0, y1, y2, y3, y4, yf⟩ := H1.out.hd hv
  rw [HQ.out] at y1 y2 y3 y4
  dsimp only at y1 y2 y3 y4
  have y1q := y1
  clear y1
  have y1 : w1.cell? ⟨gH, v * 5 + 1, none⟩ = some (I 1) := y1q
  clear y1q
  obtain ⟨xck, xcn, xcm, xcl, xcf⟩ := H1.out.bd (i := c) HCS.out
  go_wp2_with fail
  go_quiet (fail)
  try clear f0 f1 f2 f3 f4 f5 ff
  try clear y0 y1 y2 y3 y4 yf
  try clear xpk xpn xpm xpl xpf
  try clear xck xcn xcm xcl xcf
  try clear xzk xzn xzm xzl xzf
  have H2 : Hid (UB (w1.drewN nq) base bb gB cB gH cH al nh s lk ix hs pv dv now D) := H1.out.drewN nq
  have F2 : Hid (UF base w1 (w1.drewN nq)) := F1.out.drewN nq
  generalize hgw : w1.drewN nq = w2 at *
  clear hgw
  have d2a : w2.cell? ⟨db, 0, none⟩ = some (I 3) := (F2.out.cell D1.out (by decide) (by decide) (by decide) (by decide)).trans (by rw [jcell D1.out]; rfl)
  have d2b : w2.cell? ⟨db, 1, none⟩ = some (I K) := (F2.out.cell D1.out (by decide) (by decide) (by decide) (by decide)).trans (by rw [jcell D1.out]; rfl)
  clear nq
  obtain ⟨f0, f1, f2, f3, f4, f5, ff⟩ := H2.out.fb
  obtain ⟨y0, y1, y2, y3, y4, yf⟩ := H2.out.hd hv
  rw [HQ.out] at y1 y2 y3 y4
  dsimp only at y1 y2 y3 y4
  have y1q := y1
  clear y1
  have y1 : w2.cell? ⟨gH, v * 5 + 1, none⟩ = some (I 1) := y1q
  clear y1q
  obtain ⟨xck, xcn, xcm, xcl, xcf⟩ := H2.out.bd (i := c) HCS.out
  rw [hm] at xcm
  go_wp2_with fail
  go_quiet (fail)
  try clear f0 f1 f2 f3 f4 f5 ff
  try clear y0 y1 y2 y3 y4 yf
  try clear xpk xpn xpm xpl xpf
  try clear xck xcn xcm xcl xcf
  try clear xzk xzn xzm xzl xzf
  have H3 : Hid (UB (w2.drewN nq) base bb gB cB gH cH al nh s lk ix hs pv dv now D) := H2.out.drewN nq
  have F3 : Hid (UF base w1 (w2.drewN nq)) := F2.out.drewN nq
  generalize hgw : w2.drewN nq = w3 at *
  clear hgw
  have d3a : w3.cell? ⟨db, 0, none⟩ = some (I 3) := (F3.out.cell D1.out (by decide) (by decide) (by decide) (by decide)).trans (by rw [jcell D1.out]; rfl)
  have d3b : w3.cell? ⟨db, 1, none⟩ = some (I K) := (F3.out.cell D1.out (by decide) (by decide) (by decide) (by decide)).trans (by rw [jcell D1.out]; rfl)
  clear nq
  obtain ⟨f0, f1, f2, f3, f4, f5, ff⟩ := H3.out.fb
  obtain ⟨y0, y1, y2, y3, y4, yf⟩ := H3.out.hd hv
  rw [HQ.out] at y1 y2 y3 y4
  dsimp only at y1 y2 y3 y4
  have y1q := y1
  clear y1
  have y1 : w3.cell? ⟨gH, v * 5 + 1, none⟩ = some (I 1) := y1q
  clear y1q
  have HA3 := Lib.hid (uon_any (p := p) H3.out hv (by rw [HQ.out]) HCS.out hct)
  go_wp2_with fail
  refine HA3.out.mono ?_
  rintro e w4 ⟨rfl, h4, f4'⟩
  try clear f0 f1 f2 f3 f4 f5 ff
  try clear y0 y1 y2 y3 y4 yf
  try clear xpk xpn xpm xpl xpf
  try clear xck xcn xcm xcl xcf
  try clear xzk xzn xzm xzl xzf
  have H4 : Hid (UB w4 base bb gB cB gH cH al nh s lk ix (upd hs v ⟨1, c, (s.nx c), is_⟩) pv dv now D) := h4.hs_eq (by rw [HQ.out])
  have F4 := Lib.hid (F3.out.trans f4')
  clear h4 f4'
  have d4a : w4.cell? ⟨db, 0, none⟩ = some (I 3) := (F4.out.cell D1.out (by decide) (by decide) (by decide) (by decide)).trans (by rw [jcell D1.out]; rfl)
  have d4b : w4.cell? ⟨db, 1, none⟩ = some (I K) := (F4.out.cell D1.out (by decide) (by decide) (by decide) (by decide)).trans (by rw [jcell D1.out]; rfl)
  go_wp2
  go_ret
  exact ⟨rfl, ⟨gB, cB, H4.out⟩, F01.out.trans F4.out⟩
set_option maxRecDepth 100000 in
set_option maxHeartbeats 8000000 in
theorem umark_13n (h : UB w base bb gB cB gH cH al nh s lk ix hs pv dv now D) (hv : v < nh) (hq : hs v = ⟨1, p, c, is_⟩) (hps : p < s.sz) (hcs : c < s.sz) (hge : ¬ s.key c < K) (he : s.key c ≠ K) (hm : s.mrk c = false) :
    Calls Try.prog 42 #[jp bb, .pointer (some ⟨gH, v * 5, none⟩), .agg #[I 3, I K]] w (RetH base bb gH cH al nh ix hs pv dv now D v ⟨s, lk, ⟨1, p, c, false⟩, .none, true⟩ w) := by
  have hbz := h.bbase
  obtain ⟨w0, hw0⟩ : ∃ x, x = w.alloc (.cells #[I 3, I K] 50) := ⟨_, rfl⟩
  have H0 : Hid (UB w0 base bb gB cB gH cH al nh s lk ix hs pv dv now D) := by rw [hw0]; exact h.keep ((Below.refl _ _).alloc (Nat.le_refl _) _)
  have F0 : Hid (UF base w w0) := by rw [hw0]; exact (UF.refl _ _).alloc hbz _
  have D0 : Hid (w0.heap[w.heap.size]? = some (.cells #[I 3, I K] 50 (0, 0))) := by rw [hw0]; exact heap_alloc_new _ _
  obtain ⟨db, hdb⟩ : ∃ x, w.heap.size = x := ⟨_, rfl⟩
  rw [hdb] at D0
  have hc0 : (0 : Int) ≤ (c : Int) := by omega
  have hcz : (c : Int) < (s.sz : Int) := by omega
  have hp0 : (0 : Int) ≤ (p : Int) := by omega
  have hpz : (p : Int) < (s.sz : Int) := by omega
  have hkb : (s.key c == K) = false := by simp [he]
  clear he
  obtain ⟨f0, f1, f2, f3, f4, f5, ff⟩ := H0.out.fb
  obtain ⟨y0, y1, y2, y3, y4, yf⟩ := H0.out.hd hv
  rw [hq] at y1 y2 y3 y4
  dsimp only at y1 y2 y3 y4
  have HQ := Lib.hid hq
  have HPS := Lib.hid hps
  have HCS := Lib.hid hcs
  clear h hbz hps hcs hq
  go_enter Try.func42, Try.ntmps42
  go_upto_region 1 with fail
  rw [← hw0]
  try rw [hdb]
  clear hw0 hdb
  go_quiet (fail)
  have H1 := Lib.hid (H0.out.drewN nq)
  have F01 := Lib.hid (F0.out.drewN nq)
  have D1 : Hid ((w0.drewN nq).heap[db]? = some (.cells #[I 3, I K] 50 (0, 0))) := D0.out
  clear H0 F0 D0
  try clear f0 f1 f2 f3 f4 f5 ff
  try clear y0 y1 y2 y3 y4 yf
  try clear xpk xpn xpm xpl xpf
  try clear xck xcn xcm xcl xcf
  try clear xzk xzn xzm xzl xzf
  generalize hgw : w0.drewN nq = w1 at *
  clear hgw nq
  have F1 := Lib.hid (UF.refl base w1)
  have d1a : w1.cell? ⟨db, 0, none⟩ = some (I 3) := (F1.out.cell D1.out (by decide) (by decide) (by decide) (by decide)).trans (by rw [jcell D1.out]; rfl)
  have d1b : w1.cell? ⟨db, 1, none⟩ = some (I K) := (F1.out.cell D1.out (by decide) (by decide) (by decide) (by decide)).trans (by rw [jcell D1.out]; rfl)
  obtain ⟨f0, f1, f2, f3, f4, f5, ff⟩ := H1.out.fb
  obtain ⟨y0, y1, y2, y3, y4, yf⟩ := H1.out.hd hv
  rw [HQ.out] at y1 y2 y3 y4
  dsimp only at y1 y2 y3 y4
  have y1q := y1
  clear y1
  have y1 : w1.cell? ⟨gH, v * 5 + 1, none⟩ = some (I 1) := y1q
  clear y1q
  obtain ⟨xck, xcn, xcm, xcl, xcf⟩ := H1.out.bd (i := c) HCS.out
  go_wp2_with fail
  go_quiet (fail)
  try clear f0 f1 f2 f3 f4 f5 ff
  try clear y0 y1 y2 y3 y4 yf
  try clear xpk xpn xpm xpl xpf
  try clear xck xcn xcm xcl xcf
  try clear xzk xzn xzm xzl xzf
  have H2 : Hid (UB (w1.drewN nq) base bb gB cB gH cH al nh s lk ix hs pv dv now D) := H1.out.drewN nq
  have F2 : Hid (UF base w1 (w1.drewN nq)) := F1.out.drewN nq
  generalize hgw : w1.drewN nq = w2 at *
  clear hgw
  have d2a : w2.cell? ⟨db, 0, none⟩ = some (I 3) := (F2.out.cell D1.out (by decide) (by decide) (by decide) (by decide)).trans (by rw [jcell D1.out]; rfl)
  have d2b : w2.cell? ⟨db, 1, none⟩ = some (I K) := (F2.out.cell D1.out (by decide) (by decide) (by decide) (by decide)).trans (by rw [jcell D1.out]; rfl)
  clear nq
  obtain ⟨f0, f1, f2, f3, f4, f5, ff⟩ := H2.out.fb
  obtain ⟨y0, y1, y2, y3, y4, yf⟩ := H2.out.hd hv
  rw [HQ.out] at y1 y2 y3 y4
  dsimp only at y1 y2 y3 y4
  have y1q := y1
  clear y1
  have y1 : w2.cell? ⟨gH, v * 5 + 1, none⟩ = some (I 1) := y1q
  clear y1q
  obtain ⟨xck, xcn, xcm, xcl, xcf⟩ := H2.out.bd (i := c) HCS.out
  rw [hm] at xcm
  go_wp2_with fail
  go_quiet (fail)
  try clear f0 f1 f2 f3 f4 f5 ff
  try clear y0 y1 y2 y3 y4 yf
  try clear xpk xpn xpm xpl xpf
  try clear xck xcn xcm xcl xcf
  try clear xzk xzn xzm xzl xzf
  have H3 : Hid (UB (w2.drewN nq) base bb gB cB gH cH al nh s lk ix hs pv dv now D) := H2.out.drewN nq
  have F3 : Hid (UF base w1 (w2.drewN nq)) := F2.out.drewN nq
  generalize hgw : w2.drewN nq = w3 at *
  clear hgw
  have d3a : w3.cell? ⟨db, 0, none⟩ = some (I 3) := (F3.out.cell D1.out (by decide) (by decide) (by decide) (by decide)).trans (by rw [jcell D1.out]; rfl)
  have d3b : w3.cell? ⟨db, 1, none⟩ = some (I K) := (F3.out.cell D1.out (by decide) (by decide) (by decide) (by decide)).trans (by rw [jcell D1.out]; rfl)
  clear nq
  obtain ⟨f0, f1, f2, f3, f4, f5, ff⟩ := H3.out.fb
  obtain ⟨y0, y1, y2, y3, y4, yf⟩ := H3.out.hd hv
  rw [HQ.out] at y1 y2 y3 y4
  dsimp only at y1 y2 y3 y4
  have y1q := y1
  clear y1
  have y1 : w3.cell? ⟨gH, v * 5 + 1, none⟩ = some (I 1) := y1q
  clear y1q
  obtain ⟨xck, xcn, xcm, xcl, xcf⟩ := H3.out.bd (i := c) HCS.out
  rw [hm] at xcm
  have H4 := Lib.hid (H3.out.iset hv false)
  have F4 := Lib.hid (F3.out.trans (H3.out.ufH (v * 5 + 4) (.bool false)))
  go_wp2
  go_ret
  exact ⟨rfl, ⟨gB, cB, H4.out.hs_eq (by rw [HQ.out])⟩, F01.out.trans F4.out⟩
set_option maxRecDepth 100000 in
set_option maxHeartbeats 8000000 in
theorem umark_13nm (h : UB w base bb gB cB gH cH al nh s lk ix hs pv dv now D) (hv : v < nh) (hq : hs v = ⟨1, p, c, is_⟩) (hps : p < s.sz) (hcs : c < s.sz) (hge : ¬ s.key c < K) (he : s.key c ≠ K) (hm : s.mrk c = true) :
    Calls Try.prog 42 #[jp bb, .pointer (some ⟨gH, v * 5, none⟩), .agg #[I 3, I K]] w (RetH base bb gH cH al nh ix hs pv dv now D v ⟨s, lk, ⟨1, p, c, false⟩, .none, true⟩ w) := by
  have hbz := h.bbase
  obtain ⟨w0, hw0⟩ : ∃ x, x = w.alloc (.cells #[I 3, I K] 50) := ⟨_, rfl⟩
  have H0 : Hid (UB w0 base bb gB cB gH cH al nh s lk ix hs pv dv now D) := by rw [hw0]; exact h.keep ((Below.refl _ _).alloc (Nat.le_refl _) _)
  have F0 : Hid (UF base w w0) := by rw [hw0]; exact (UF.refl _ _).alloc hbz _
  have D0 : Hid (w0.heap[w.heap.size]? = some (.cells #[I 3, I K] 50 (0, 0))) := by rw [hw0]; exact heap_alloc_new _ _
  obtain ⟨db, hdb⟩ : ∃ x, w.heap.size = x := ⟨_, rfl⟩
  rw [hdb] at D0
  have hc0 : (0 : Int) ≤ (c : Int) := by omega
  have hcz : (c : Int) < (s.sz : Int) := by omega
  have hp0 : (0 : Int) ≤ (p : Int) := by omega
  have hpz : (p : Int) < (s.sz : Int) := by omega
  have hkb : (s.key c == K) = false := by simp [he]
  clear he
  obtain ⟨f0, f1, f2, f3, f4, f5, ff⟩ := H0.out.fb
  obtain ⟨y0, y1, y2, y3, y4, yf⟩ := H0.out.hd hv
  rw [hq] at y1 y2 y3 y4
  dsimp only at y1 y2 y3 y4
  have HQ := Lib.hid hq
  have HPS := Lib.hid hps
  have HCS := Lib.hid hcs
  clear h hbz hps hcs hq
  go_enter Try.func42, Try.ntmps42
  go_upto_region 1 with fail
  rw [← hw0]
  try rw [hdb]
  clear hw0 hdb
  go_quiet (fail)
  have H1 := Lib.hid (H0.out.drewN nq)
  have F01 := Lib.hid (F0.out.drewN nq)
  have D1 : Hid ((w0.drewN nq).heap[db]? = some (.cells #[I 3, I K] 50 (0, 0))) := D0.out
  clear H0 F0 D0
  try clear f0 f1 f2 f3 f4 f5 ff
  try clear y0 y1 y2 y3 y4 yf
  try clear xpk xpn xpm xpl xpf
  try clear xck xcn xcm xcl xcf
  try clear xzk xzn xzm xzl xzf
  generalize hgw : w0.drewN nq = w1 at *
  clear hgw nq
  have F1 := Lib.hid (UF.refl base w1)
  have d1a : w1.cell? ⟨db, 0, none⟩ = some (I 3) := (F1.out.cell D1.out (by decide) (by decide) (by decide) (by decide)).trans (by rw [jcell D1.out]; rfl)
  have d1b : w1.cell? ⟨db, 1, none⟩ = some (I K) := (F1.out.cell D1.out (by decide) (by decide) (by decide) (by decide)).trans (by rw [jcell D1.out]; rfl)
  obtain ⟨f0, f1, f2, f3, f4, f5, ff⟩ := H1.out.fb
  obtain ⟨y0, y1, y2, y3, y4, yf⟩ := H1.out.hd hv
  rw [HQ.out] at y1 y2 y3 y4
  dsimp only at y1 y2 y3 y4
  have y1q := y1
  clear y1
  have y1 : w1.cell? ⟨gH, v * 5 + 1, none⟩ = some (I 1) := y1q
  clear y1q
  obtain ⟨xck, xcn, xcm, xcl, xcf⟩ := H1.out.bd (i := c) HCS.out
  go_wp2_with fail
  go_quiet (fail)
  try clear f0 f1 f2 f3 f4 f5 ff
  try clear y0 y1 y2 y3 y4 yf
  try clear xpk xpn xpm xpl xpf
  try clear xck xcn xcm xcl xcf
  try clear xzk xzn xzm xzl xzf
  have H2 : Hid (UB (w1.drewN nq) base bb gB cB gH cH al nh s lk ix hs pv dv now D) := H1.out.drewN nq
  have F2 : Hid (UF base w1 (w1.drewN nq)) := F1.out.drewN nq
  generalize hgw : w1.drewN nq = w2 at *
  clear hgw
  have d2a : w2.cell? ⟨db, 0, none⟩ = some (I 3) := (F2.out.cell D1.out (by decide) (by decide) (by decide) (by decide)).trans (by rw [jcell D1.out]; rfl)
  have d2b : w2.cell? ⟨db, 1, none⟩ = some (I K) := (F2.out.cell D1.out (by decide) (by decide) (by decide) (by decide)).trans (by rw [jcell D1.out]; rfl)
  clear nq
  obtain ⟨f0, f1, f2, f3, f4, f5, ff⟩ := H2.out.fb
  obtain ⟨y0, y1, y2, y3, y4, yf⟩ := H2.out.hd hv
  rw [HQ.out] at y1 y2 y3 y4
  dsimp only at y1 y2 y3 y4
  have y1q := y1
  clear y1
  have y1 : w2.cell? ⟨gH, v * 5 + 1, none⟩ = some (I 1) := y1q
  clear y1q
  obtain ⟨xck, xcn, xcm, xcl, xcf⟩ := H2.out.bd (i := c) HCS.out
  rw [hm] at xcm
  go_wp2_with fail
  go_quiet (fail)
  try clear f0 f1 f2 f3 f4 f5 ff
  try clear y0 y1 y2 y3 y4 yf
  try clear xpk xpn xpm xpl xpf
  try clear xck xcn xcm xcl xcf
  try clear xzk xzn xzm xzl xzf
  have H3 : Hid (UB (w2.drewN nq) base bb gB cB gH cH al nh s lk ix hs pv dv now D) := H2.out.drewN nq
  have F3 : Hid (UF base w1 (w2.drewN nq)) := F2.out.drewN nq
  generalize hgw : w2.drewN nq = w3 at *
  clear hgw
  have d3a : w3.cell? ⟨db, 0, none⟩ = some (I 3) := (F3.out.cell D1.out (by decide) (by decide) (by decide) (by decide)).trans (by rw [jcell D1.out]; rfl)
  have d3b : w3.cell? ⟨db, 1, none⟩ = some (I K) := (F3.out.cell D1.out (by decide) (by decide) (by decide) (by decide)).trans (by rw [jcell D1.out]; rfl)
  clear nq
  obtain ⟨f0, f1, f2, f3, f4, f5, ff⟩ := H3.out.fb
  obtain ⟨y0, y1, y2, y3, y4, yf⟩ := H3.out.hd hv
  rw [HQ.out] at y1 y2 y3 y4
  dsimp only at y1 y2 y3 y4
  have y1q := y1
  clear y1
  have y1 : w3.cell? ⟨gH, v * 5 + 1, none⟩ = some (I 1) := y1q
  clear y1q
  obtain ⟨xck, xcn, xcm, xcl, xcf⟩ := H3.out.bd (i := c) HCS.out
  rw [hm] at xcm
  have H4 := Lib.hid (H3.out.iset hv false)
  have F4 := Lib.hid (F3.out.trans (H3.out.ufH (v * 5 + 4) (.bool false)))
  go_wp2
  go_ret
  exact ⟨rfl, ⟨gB, cB, H4.out.hs_eq (by rw [HQ.out])⟩, F01.out.trans F4.out⟩
set_option maxRecDepth 100000 in
set_option maxHeartbeats 8000000 in
theorem umark_13e (h : UB w base bb gB cB gH cH al nh s lk ix hs pv dv now D) (hv : v < nh) (hq : hs v = ⟨1, p, c, is_⟩) (hps : p < s.sz) (hcs : c < s.sz) (hge : ¬ s.key c < K) (he : s.key c = K) (hm : s.mrk c = false) :
    Calls Try.prog 42 #[jp bb, .pointer (some ⟨gH, v * 5, none⟩), .agg #[I 3, I K]] w (RetH base bb gH cH al nh ix hs pv dv now D v ⟨s, lk, ⟨1, p, c, true⟩, .none, true⟩ w) := by
  have hbz := h.bbase
  obtain ⟨w0, hw0⟩ : ∃ x, x = w.alloc (.cells #[I 3, I K] 50) := ⟨_, rfl⟩
  have H0 : Hid (UB w0 base bb gB cB gH cH al nh s lk ix hs pv dv now D) := by rw [hw0]; exact h.keep ((Below.refl _ _).alloc (Nat.le_refl _) _)
  have F0 : Hid (UF base w w0) := by rw [hw0]; exact (UF.refl _ _).alloc hbz _
  have D0 : Hid (w0.heap[w.heap.size]? = some (.cells #[I 3, I K] 50 (0, 0))) := by rw [hw0]; exact heap_alloc_new _ _
  obtain ⟨db, hdb⟩ : ∃ x, w.heap.size = x := ⟨_, rfl⟩
  rw [hdb] at D0
  have hc0 : (0 : Int) ≤ (c : Int) := by omega
  have hcz : (c : Int) < (s.sz : Int) := by omega
  have hp0 : (0 : Int) ≤ (p : Int) := by omega
  have hpz : (p : Int) < (s.sz : Int) := by omega
  have hkb : (s.key c == K) = true := by simp [he]
  clear he
  obtain ⟨f0, f1, f2, f3, f4, f5, ff⟩ := H0.out.fb
  obtain ⟨y0, y1, y2, y3, y4, yf⟩ := H0.out.hd hv
  rw [hq] at y1 y2 y3 y4
  dsimp only at y1 y2 y3 y4
  have HQ := Lib.hid hq
  have HPS := Lib.hid hps
  have HCS := Lib.hid hcs
  clear h hbz hps hcs hq
  go_enter Try.func42, Try.ntmps42
  go_upto_region 1 with fail
  rw [← hw0]
  try rw [hdb]
  clear hw0 hdb
  go_quiet (fail)
  have H1 := Lib.hid (H0.out.drewN nq)
  have F01 := Lib.hid (F0.out.drewN nq)
  have D1 : Hid ((w0.drewN nq).heap[db]? = some (.cells #[I 3, I K] 50 (0, 0))) := D0.out
  clear H0 F0 D0
  try clear f0 f1 f2 f3 f4 f5 ff
  try clear y0 y1 y2 y3 y4 yf
  try clear xpk xpn xpm xpl xpf
  try clear xck xcn xcm xcl xcf
  try clear xzk xzn xzm xzl xzf
  generalize hgw : w0.drewN nq = w1 at *
  clear hgw nq
  have F1 := Lib.hid (UF.refl base w1)
  have d1a : w1.cell? ⟨db, 0, none⟩ = some (I 3) := (F1.out.cell D1.out (by decide) (by decide) (by decide) (by decide)).trans (by rw [jcell D1.out]; rfl)
  have d1b : w1.cell? ⟨db, 1, none⟩ = some (I K) := (F1.out.cell D1.out (by decide) (by decide) (by decide) (by decide)).trans (by rw [jcell D1.out]; rfl)
  obtain ⟨f0, f1, f2, f3, f4, f5, ff⟩ := H1.out.fb
  obtain ⟨y0, y1, y2, y3, y4, yf⟩ := H1.out.hd hv
  rw [HQ.out] at y1 y2 y3 y4
  dsimp only at y1 y2 y3 y4
  have y1q := y1
  clear y1
  have y1 : w1.cell? ⟨gH, v * 5 + 1, none⟩ = some (I 1) := y1q
  clear y1q
  obtain ⟨xck, xcn, xcm, xcl, xcf⟩ := H1.out.bd (i := c) HCS.out
  go_wp2_with fail
  go_quiet (fail)
  try clear f0 f1 f2 f3 f4 f5 ff
  try clear y0 y1 y2 y3 y4 yf
  try clear xpk xpn xpm xpl xpf
  try clear xck xcn xcm xcl xcf
  try clear xzk xzn xzm xzl xzf
  have H2 : Hid (UB (w1.drewN nq) base bb gB cB gH cH al nh s lk ix hs pv dv now D) := H1.out.drewN nq
  have F2 : Hid (UF base w1 (w1.drewN nq)) := F1.out.drewN nq
  generalize hgw : w1.drewN nq = w2 at *
  clear hgw
  have d2a : w2.cell? ⟨db, 0, none⟩ = some (I 3) := (F2.out.cell D1.out (by decide) (by decide) (by decide) (by decide)).trans (by rw [jcell D1.out]; rfl)
  have d2b : w2.cell? ⟨db, 1, none⟩ = some (I K) := (F2.out.cell D1.out (by decide) (by decide) (by decide) (by decide)).trans (by rw [jcell D1.out]; rfl)
  clear nq
  obtain ⟨f0, f1, f2, f3, f4, f5, ff⟩ := H2.out.fb
  obtain ⟨y0, y1, y2, y3, y4, yf⟩ := H2.out.hd hv
  rw [HQ.out] at y1 y2 y3 y4
  dsimp only at y1 y2 y3 y4
  have y1q := y1
  clear y1
  have y1 : w2.cell? ⟨gH, v * 5 + 1, none⟩ = some (I 1) := y1q
  clear y1q
  obtain ⟨xck, xcn, xcm, xcl, xcf⟩ := H2.out.bd (i := c) HCS.out
  rw [hm] at xcm
  go_wp2_with fail
  go_quiet (fail)
  try clear f0 f1 f2 f3 f4 f5 ff
  try clear y0 y1 y2 y3 y4 yf
  try clear xpk xpn xpm xpl xpf
  try clear xck xcn xcm xcl xcf
  try clear xzk xzn xzm xzl xzf
  have H3 : Hid (UB (w2.drewN nq) base bb gB cB gH cH al nh s lk ix hs pv dv now D) := H2.out.drewN nq
  have F3 : Hid (UF base w1 (w2.drewN nq)) := F2.out.drewN nq
  generalize hgw : w2.drewN nq = w3 at *
  clear hgw
  have d3a : w3.cell? ⟨db, 0, none⟩ = some (I 3) := (F3.out.cell D1.out (by decide) (by decide) (by decide) (by decide)).trans (by rw [jcell D1.out]; rfl)
  have d3b : w3.cell? ⟨db, 1, none⟩ = some (I K) := (F3.out.cell D1.out (by decide) (by decide) (by decide) (by decide)).trans (by rw [jcell D1.out]; rfl)
  clear nq
  obtain ⟨f0, f1, f2, f3, f4, f5, ff⟩ := H3.out.fb
  obtain ⟨y0, y1, y2, y3, y4, yf⟩ := H3.out.hd hv
  rw [HQ.out] at y1 y2 y3 y4
  dsimp only at y1 y2 y3 y4
  have y1q := y1
  clear y1
  have y1 : w3.cell? ⟨gH, v * 5 + 1, none⟩ = some (I 1) := y1q
  clear y1q
  obtain ⟨xck, xcn, xcm, xcl, xcf⟩ := H3.out.bd (i := c) HCS.out
  rw [hm] at xcm
  have H4 := Lib.hid (H3.out.iset hv true)
  have F4 := Lib.hid (F3.out.trans (H3.out.ufH (v * 5 + 4) (.bool true)))
  go_wp2
  go_ret
  exact ⟨rfl, ⟨gB, cB, H4.out.hs_eq (by rw [HQ.out])⟩, F01.out.trans F4.out⟩
set_option maxRecDepth 100000 in
set_option maxHeartbeats 8000000 in
theorem umark_13em (h : UB w base bb gB cB gH cH al nh s lk ix hs pv dv now D) (hv : v < nh) (hq : hs v = ⟨1, p, c, is_⟩) (hps : p < s.sz) (hcs : c < s.sz) (hge : ¬ s.key c < K) (he : s.key c = K) (hm : s.mrk c = true) :
    Calls Try.prog 42 #[jp bb, .pointer (some ⟨gH, v * 5, none⟩), .agg #[I 3, I K]] w (RetH base bb gH cH al nh ix hs pv dv now D v ⟨s, lk, ⟨1, p, c, false⟩, .none, true⟩ w) := by
  have hbz := h.bbase
  obtain ⟨w0, hw0⟩ : ∃ x, x = w.alloc (.cells #[I 3, I K] 50) := ⟨_, rfl⟩
  have H0 : Hid (UB w0 base bb gB cB gH cH al nh s lk ix hs pv dv now D) := by rw [hw0]; exact h.keep ((Below.refl _ _).alloc (Nat.le_refl _) _)
  have F0 : Hid (UF base w w0) := by rw [hw0]; exact (UF.refl _ _).alloc hbz _
  have D0 : Hid (w0.heap[w.heap.size]? = some (.cells #[I 3, I K] 50 (0, 0))) := by rw [hw0]; exact heap_alloc_new _ _
  obtain ⟨db, hdb⟩ : ∃ x, w.heap.size = x := ⟨_, rfl⟩
  rw [hdb] at D0
  have hc0 : (0 : Int) ≤ (c : Int) := by omega
  have hcz : (c : Int) < (s.sz : Int) := by omega
  have hp0 : (0 : Int) ≤ (p : Int) := by omega
  have hpz : (p : Int) < (s.sz : Int) := by omega
  have hkb : (s.key c == K) = true := by simp [he]
  clear he
  obtain ⟨f0, f1, f2, f3, f4, f5, ff⟩ := H0.out.fb
  obtain ⟨y0, y1, y2, y3, y4, yf⟩ := H0.out.hd hv
  rw [hq] at y1 y2 y3 y4
  dsimp only at y1 y2 y3 y4
  have HQ := Lib.hid hq
  have HPS := Lib.hid hps
  have HCS := Lib.hid hcs
  clear h hbz hps hcs hq
  go_enter Try.func42, Try.ntmps42
  go_upto_region 1 with fail
  rw [← hw0]
  try rw [hdb]
  clear hw0 hdb
  go_quiet (fail)
  have H1 := Lib.hid (H0.out.drewN nq)
  have F01 := Lib.hid (F0.out.drewN nq)
  have D1 : Hid ((w0.drewN nq).heap[db]? = some (.cells #[I 3, I K] 50 (0, 0))) := D0.out
  clear H0 F0 D0
  try clear f0 f1 f2 f3 f4 f5 ff
  try clear y0 y1 y2 y3 y4 yf
  try clear xpk xpn xpm xpl xpf
  try clear xck xcn xcm xcl xcf
  try clear xzk xzn xzm xzl xzf
  generalize hgw : w0.drewN nq = w1 at *
  clear hgw nq
  have F1 := Lib.hid (UF.refl base w1)
  have d1a : w1.cell? ⟨db, 0, none⟩ = some (I 3) := (F1.out.cell D1.out (by decide) (by decide) (by decide) (by decide)).trans (by rw [jcell D1.out]; rfl)
  have d1b : w1.cell? ⟨db, 1, none⟩ = some (I K) := (F1.out.cell D1.out (by decide) (by decide) (by decide) (by decide)).trans (by rw [jcell D1.out]; rfl)
  obtain ⟨f0, f1, f2, f3, f4, f5, ff⟩ := H1.out.fb
  obtain ⟨y0, y1, y2, y3, y4, yf⟩ := H1.out.hd hv
  rw [HQ.out] at y1 y2 y3 y4
  dsimp only at y1 y2 y3 y4
  have y1q := y1
  clear y1
  have y1 : w1.cell? ⟨gH, v * 5 + 1, none⟩ = some (I 1) := y1q
  clear y1q
  obtain ⟨xck, xcn, xcm, xcl, xcf⟩ := H1.out.bd (i := c) HCS.out
  go_wp2_with fail
  go_quiet (fail)
  try clear f0 f1 f2 f3 f4 f5 ff
  try clear y0 y1 y2 y3 y4 yf
  try clear xpk xpn xpm xpl xpf
  try clear xck xcn xcm xcl xcf
  try clear xzk xzn xzm xzl xzf
  have H2 : Hid (UB (w1.drewN nq) base bb gB cB gH cH al nh s lk ix hs pv dv now D) := H1.out.drewN nq
  have F2 : Hid (UF base w1 (w1.drewN nq)) := F1.out.drewN nq
  generalize hgw : w1.drewN nq = w2 at *
  clear hgw
  have d2a : w2.cell? ⟨db, 0, none⟩ = some (I 3) := (F2.out.cell D1.out (by decide) (by decide) (by decide) (by decide)).trans (by rw [jcell D1.out]; rfl)
  have d2b : w2.cell? ⟨db, 1, none⟩ = some (I K) := (F2.out.cell D1.out (by decide) (by decide) (by decide) (by decide)).trans (by rw [jcell D1.out]; rfl)
  clear nq
  obtain ⟨f0, f1, f2, f3, f4, f5, ff⟩ := H2.out.fb
  obtain ⟨y0, y1, y2, y3, y4, yf⟩ := H2.out.hd hv
  rw [HQ.out] at y1 y2 y3 y4
  dsimp only at y1 y2 y3 y4
  have y1q := y1
  clear y1
  have y1 : w2.cell? ⟨gH, v * 5 + 1, none⟩ = some (I 1) := y1q
  clear y1q
  obtain ⟨xck, xcn, xcm, xcl, xcf⟩ := H2.out.bd (i := c) HCS.out
  rw [hm] at xcm
  go_wp2_with fail
  go_quiet (fail)
  try clear f0 f1 f2 f3 f4 f5 ff
  try clear y0 y1 y2 y3 y4 yf
  try clear xpk xpn xpm xpl xpf
  try clear xck xcn xcm xcl xcf
  try clear xzk xzn xzm xzl xzf
  have H3 : Hid (UB (w2.drewN nq) base bb gB cB gH cH al nh s lk ix hs pv dv now D) := H2.out.drewN nq
  have F3 : Hid (UF base w1 (w2.drewN nq)) := F2.out.drewN nq
  generalize hgw : w2.drewN nq = w3 at *
  clear hgw
  have d3a : w3.cell? ⟨db, 0, none⟩ = some (I 3) := (F3.out.cell D1.out (by decide) (by decide) (by decide) (by decide)).trans (by rw [jcell D1.out]; rfl)
  have d3b : w3.cell? ⟨db, 1, none⟩ = some (I K) := (F3.out.cell D1.out (by decide) (by decide) (by decide) (by decide)).trans (by rw [jcell D1.out]; rfl)
  clear nq
  obtain ⟨f0, f1, f2, f3, f4, f5, ff⟩ := H3.out.fb
  obtain ⟨y0, y1, y2, y3, y4, yf⟩ := H3.out.hd hv
  rw [HQ.out] at y1 y2 y3 y4
  dsimp only at y1 y2 y3 y4
  have y1q := y1
  clear y1
  have y1 : w3.cell? ⟨gH, v * 5 + 1, none⟩ = some (I 1) := y1q
  clear y1q
  obtain ⟨xck, xcn, xcm, xcl, xcf⟩ := H3.out.bd (i := c) HCS.out
  rw [hm] at xcm
  have H4 := Lib.hid (H3.out.iset hv false)
  have F4 := Lib.hid (F3.out.trans (H3.out.ufH (v * 5 + 4) (.bool false)))
  go_wp2
  go_ret
  exact ⟨rfl, ⟨gB, cB, H4.out.hs_eq (by rw [HQ.out])⟩, F01.out.trans F4.out⟩
set_option maxRecDepth 100000 in
set_option maxHeartbeats 8000000 in
theorem umark_11e (h : UB w base bb gB cB gH cH al nh s lk ix hs pv dv now D) (hv : v < nh) (hq : hs v = ⟨1, p, c, is_⟩) (hps : p < s.sz) (hcs : c < s.sz) (hge : ¬ s.key c < K) (he : s.key c = K) (hm : s.mrk c = false) :
    Calls Try.prog 42 #[jp bb, .pointer (some ⟨gH, v * 5, none⟩), .agg #[I 1, I K]] w (RetH base bb gH cH al nh ix hs pv dv now D v ⟨s, lk, ⟨1, p, c, false⟩, .none, true⟩ w) := by
  have hbz := h.bbase
  obtain ⟨w0, hw0⟩ : ∃ x, x = w.alloc (.cells #[I 1, I K] 50) := ⟨_, rfl⟩
  have H0 : Hid (UB w0 base bb gB cB gH cH al nh s lk ix hs pv dv now D) := by rw [hw0]; exact h.keep ((Below.refl _ _).alloc (Nat.le_refl _) _)
  have F0 : Hid (UF base w w0) := by rw [hw0]; exact (UF.refl _ _).alloc hbz _
  have D0 : Hid (w0.heap[w.heap.size]? = some (.cells #[I 1, I K] 50 (0, 0))) := by rw [hw0]; exact heap_alloc_new _ _
  obtain ⟨db, hdb⟩ : ∃ x, w.heap.size = x := ⟨_, rfl⟩
  rw [hdb] at D0
  have hc0 : (0 : Int) ≤ (c : Int) := by omega
  have hcz : (c : Int) < (s.sz : Int) := by omega
  have hp0 : (0 : Int) ≤ (p : Int) := by omega
  have hpz : (p : Int) < (s.sz : Int) := by omega
  have hkb : (s.key c == K) = true := by simp [he]
  clear he
  obtain ⟨f0, f1, f2, f3, f4, f5, ff⟩ := H0.out.fb
  obtain ⟨y0, y1, y2, y3, y4, yf⟩ := H0.out.hd hv
  rw [hq] at y1 y2 y3 y4
  dsimp only at y1 y2 y3 y4
  have HQ := Lib.hid hq
  have HPS := Lib.hid hps
  have HCS := Lib.hid hcs
  clear h hbz hps hcs hq
  go_enter Try.func42, Try.ntmps42
  go_upto_region 1 with fail
  rw [← hw0]
  try rw [hdb]
  clear hw0 hdb
  go_quiet (fail)
  have H1 := Lib.hid (H0.out.drewN nq)
  have F01 := Lib.hid (F0.out.drewN nq)
  have D1 : Hid ((w0.drewN nq).heap[db]? = some (.cells #[I 1, I K] 50 (0, 0))) := D0.out
  clear H0 F0 D0
  try clear f0 f1 f2 f3 f4 f5 ff
  try clear y0 y1 y2 y3 y4 yf
  try clear xpk xpn xpm xpl xpf
  try clear xck xcn xcm xcl xcf
  try clear xzk xzn xzm xzl xzf
  generalize hgw : w0.drewN nq = w1 at *
  clear hgw nq
  have F1 := Lib.hid (UF.refl base w1)
  have d1a : w1.cell? ⟨db, 0, none⟩ = some (I 1) := (F1.out.cell D1.out (by decide) (by decide) (by decide) (by decide)).trans (by rw [jcell D1.out]; rfl)
  have d1b : w1.cell? ⟨db, 1, none⟩ = some (I K) := (F1.out.cell D1.out (by decide) (by decide) (by decide) (by decide)).trans (by rw [jcell D1.out]; rfl)
  obtain ⟨f0, f1, f2, f3, f4, f5, ff⟩ := H1.out.fb
  obtain ⟨y0, y1, y2, y3, y4, yf⟩ := H1.out.hd hv
  rw [HQ.out] at y1 y2 y3 y4
  dsimp only at y1 y2 y3 y4
  have y1q := y1
  clear y1
  have y1 : w1.cell? ⟨gH, v * 5 + 1, none⟩ = some (I 1) := y1q
  clear y1q
  obtain ⟨xck, xcn, xcm, xcl, xcf⟩ := H1.out.bd (i := c) HCS.out
  go_wp2_with fail
  go_quiet (fail)
  try clear f0 f1 f2 f3 f4 f5 ff
  try clear y0 y1 y2 y3 y4 yf
  try clear xpk xpn xpm xpl xpf
  try clear xck xcn xcm xcl xcf
  try clear xzk xzn xzm xzl xzf
  have H2 : Hid (UB (w1.drewN nq) base bb gB cB gH cH al nh s lk ix hs pv dv now D) := H1.out.drewN nq
  have F2 : Hid (UF base w1 (w1.drewN nq)) := F1.out.drewN nq
  generalize hgw : w1.drewN nq = w2 at *
  clear hgw
  have d2a : w2.cell? ⟨db, 0, none⟩ = some (I 1) := (F2.out.cell D1.out (by decide) (by decide) (by decide) (by decide)).trans (by rw [jcell D1.out]; rfl)
  have d2b : w2.cell? ⟨db, 1, none⟩ = some (I K) := (F2.out.cell D1.out (by decide) (by decide) (by decide) (by decide)).trans (by rw [jcell D1.out]; rfl)
  clear nq
  obtain ⟨f0, f1, f2, f3, f4, f5, ff⟩ := H2.out.fb
  obtain ⟨y0, y1, y2, y3, y4, yf⟩ := H2.out.hd hv
  rw [HQ.out] at y1 y2 y3 y4
  dsimp only at y1 y2 y3 y4
  have y1q := y1
  clear y1
  have y1 : w2.cell? ⟨gH, v * 5 + 1, none⟩ = some (I 1) := y1q
  clear y1q
  obtain ⟨xck, xcn, xcm, xcl, xcf⟩ := H2.out.bd (i := c) HCS.out
  rw [hm] at xcm
  go_wp2_with fail
  go_quiet (fail)
  try clear f0 f1 f2 f3 f4 f5 ff
  try clear y0 y1 y2 y3 y4 yf
  try clear xpk xpn xpm xpl xpf
  try clear xck xcn xcm xcl xcf
  try clear xzk xzn xzm xzl xzf
  have H3 : Hid (UB (w2.drewN nq) base bb gB cB gH cH al nh s lk ix hs pv dv now D) := H2.out.drewN nq
  have F3 : Hid (UF base w1 (w2.drewN nq)) := F2.out.drewN nq
  generalize hgw : w2.drewN nq = w3 at *
  clear hgw
  have d3a : w3.cell? ⟨db, 0, none⟩ = some (I 1) := (F3.out.cell D1.out (by decide) (by decide) (by decide) (by decide)).trans (by rw [jcell D1.out]; rfl)
  have d3b : w3.cell? ⟨db, 1, none⟩ = some (I K) := (F3.out.cell D1.out (by decide) (by decide) (by decide) (by decide)).trans (by rw [jcell D1.out]; rfl)
  clear nq
  obtain ⟨f0, f1, f2, f3, f4, f5, ff⟩ := H3.out.fb
  obtain ⟨y0, y1, y2, y3, y4, yf⟩ := H3.out.hd hv
  rw [HQ.out] at y1 y2 y3 y4
  dsimp only at y1 y2 y3 y4
  have y1q := y1
  clear y1
  have y1 : w3.cell? ⟨gH, v * 5 + 1, none⟩ = some (I 1) := y1q
  clear y1q
  have H4 := Lib.hid (H3.out.iset hv false)
  have F4 := Lib.hid (F3.out.trans (H3.out.ufH (v * 5 + 4) (.bool false)))
  go_wp2
  go_ret
  exact ⟨rfl, ⟨gB, cB, H4.out.hs_eq (by rw [HQ.out])⟩, F01.out.trans F4.out⟩
set_option maxRecDepth 100000 in
set_option maxHeartbeats 8000000 in
theorem umark_12n (h : UB w base bb gB cB gH cH al nh s lk ix hs pv dv now D) (hv : v < nh) (hq : hs v = ⟨1, p, c, is_⟩) (hps : p < s.sz) (hcs : c < s.sz) (hge : ¬ s.key c < K) (he : s.key c ≠ K) (hm : s.mrk c = false) :
    Calls Try.prog 42 #[jp bb, .pointer (some ⟨gH, v * 5, none⟩), .agg #[I 2, I K]] w (RetH base bb gH cH al nh ix hs pv dv now D v ⟨s, lk, ⟨1, p, c, false⟩, .none, true⟩ w) := by
  have hbz := h.bbase
  obtain ⟨w0, hw0⟩ : ∃ x, x = w.alloc (.cells #[I 2, I K] 50) := ⟨_, rfl⟩
  have H0 : Hid (UB w0 base bb gB cB gH cH al nh s lk ix hs pv dv now D) := by rw [hw0]; exact h.keep ((Below.refl _ _).alloc (Nat.le_refl _) _)
  have F0 : Hid (UF base w w0) := by rw [hw0]; exact (UF.refl _ _).alloc hbz _
  have D0 : Hid (w0.heap[w.heap.size]? = some (.cells #[I 2, I K] 50 (0, 0))) := by rw [hw0]; exact heap_alloc_new _ _
  obtain ⟨db, hdb⟩ : ∃ x, w.heap.size = x := ⟨_, rfl⟩
  rw [hdb] at D0
  have hc0 : (0 : Int) ≤ (c : Int) := by omega
  have hcz : (c : Int) < (s.sz : Int) := by omega
  have hp0 : (0 : Int) ≤ (p : Int) := by omega
  have hpz : (p : Int) < (s.sz : Int) := by omega
  have hkb : (s.key c == K) = false := by simp [he]
  clear he
  obtain ⟨f0, f1, f2, f3, f4, f5, ff⟩ := H0.out.fb
  obtain ⟨y0, y1, y2, y3, y4, yf⟩ := H0.out.hd hv
  rw [hq] at y1 y2 y3 y4
  dsimp only at y1 y2 y3 y4
  have HQ := Lib.hid hq
  have HPS := Lib.hid hps
  have HCS := Lib.hid hcs
  clear h hbz hps hcs hq
  go_enter Try.func42, Try.ntmps42
  go_upto_region 1 with fail
  rw [← hw0]
  try rw [hdb]
  clear hw0 hdb
  go_quiet (fail)
  have H1 := Lib.hid (H0.out.drewN nq)
  have F01 := Lib.hid (F0.out.drewN nq)
  have D1 : Hid ((w0.drewN nq).heap[db]? = some (.cells #[I 2, I K] 50 (0, 0))) := D0.out
  clear H0 F0 D0
  try clear f0 f1 f2 f3 f4 f5 ff
  try clear y0 y1 y2 y3 y4 yf
  try clear xpk xpn xpm xpl xpf
  try clear xck xcn xcm xcl xcf
  try clear xzk xzn xzm xzl xzf
  generalize hgw : w0.drewN nq = w1 at *
  clear hgw nq
  have F1 := Lib.hid (UF.refl base w1)
  have d1a : w1.cell? ⟨db, 0, none⟩ = some (I 2) := (F1.out.cell D1.out (by decide) (by decide) (by decide) (by decide)).trans (by rw [jcell D1.out]; rfl)
  have d1b : w1.cell? ⟨db, 1, none⟩ = some (I K) := (F1.out.cell D1.out (by decide) (by decide) (by decide) (by decide)).trans (by rw [jcell D1.out]; rfl)
  obtain ⟨f0, f1, f2, f3, f4, f5, ff⟩ := H1.out.fb
  obtain ⟨y0, y1, y2, y3, y4, yf⟩ := H1.out.hd hv
  rw [HQ.out] at y1 y2 y3 y4
  dsimp only at y1 y2 y3 y4
  have y1q := y1
  clear y1
  have y1 : w1.cell? ⟨gH, v * 5 + 1, none⟩ = some (I 1) := y1q
  clear y1q
  obtain ⟨xck, xcn, xcm, xcl, xcf⟩ := H1.out.bd (i := c) HCS.out
  go_wp2_with fail
  go_quiet (fail)
  try clear f0 f1 f2 f3 f4 f5 ff
  try clear y0 y1 y2 y3 y4 yf
  try clear xpk xpn xpm xpl xpf
  try clear xck xcn xcm xcl xcf
  try clear xzk xzn xzm xzl xzf
  have H2 : Hid (UB (w1.drewN nq) base bb gB cB gH cH al nh s lk ix hs pv dv now D) := H1.out.drewN nq
  have F2 : Hid (UF base w1 (w1.drewN nq)) := F1.out.drewN nq
  generalize hgw : w1.drewN nq = w2 at *
  clear hgw
  have d2a : w2.cell? ⟨db, 0, none⟩ = some (I 2) := (F2.out.cell D1.out (by decide) (by decide) (by decide) (by decide)).trans (by rw [jcell D1.out]; rfl)
  have d2b : w2.cell? ⟨db, 1, none⟩ = some (I K) := (F2.out.cell D1.out (by decide) (by decide) (by decide) (by decide)).trans (by rw [jcell D1.out]; rfl)
  clear nq
  obtain ⟨f0, f1, f2, f3, f4, f5, ff⟩ := H2.out.fb
  obtain ⟨y0, y1, y2, y3, y4, yf⟩ := H2.out.hd hv
  rw [HQ.out] at y1 y2 y3 y4
  dsimp only at y1 y2 y3 y4
  have y1q := y1
  clear y1
  have y1 : w2.cell? ⟨gH, v * 5 + 1, none⟩ = some (I 1) := y1q
  clear y1q
  obtain ⟨xck, xcn, xcm, xcl, xcf⟩ := H2.out.bd (i := c) HCS.out
  rw [hm] at xcm
  go_wp2_with fail
  go_quiet (fail)
  try clear f0 f1 f2 f3 f4 f5 ff
  try clear y0 y1 y2 y3 y4 yf
  try clear xpk xpn xpm xpl xpf
  try clear xck xcn xcm xcl xcf
  try clear xzk xzn xzm xzl xzf
  have H3 : Hid (UB (w2.drewN nq) base bb gB cB gH cH al nh s lk ix hs pv dv now D) := H2.out.drewN nq
  have F3 : Hid (UF base w1 (w2.drewN nq)) := F2.out.drewN nq
  generalize hgw : w2.drewN nq = w3 at *
  clear hgw
  have d3a : w3.cell? ⟨db, 0, none⟩ = some (I 2) := (F3.out.cell D1.out (by decide) (by decide) (by decide) (by decide)).trans (by rw [jcell D1.out]; rfl)
  have d3b : w3.cell? ⟨db, 1, none⟩ = some (I K) := (F3.out.cell D1.out (by decide) (by decide) (by decide) (by decide)).trans (by rw [jcell D1.out]; rfl)
  clear nq
  obtain ⟨f0, f1, f2, f3, f4, f5, ff⟩ := H3.out.fb
  obtain ⟨y0, y1, y2, y3, y4, yf⟩ := H3.out.hd hv
  rw [HQ.out] at y1 y2 y3 y4
  dsimp only at y1 y2 y3 y4
  have y1q := y1
  clear y1
  have y1 : w3.cell? ⟨gH, v * 5 + 1, none⟩ = some (I 1) := y1q
  clear y1q
  have H4 := Lib.hid (H3.out.iset hv false)
  have F4 := Lib.hid (F3.out.trans (H3.out.ufH (v * 5 + 4) (.bool false)))
  go_wp2
  go_ret
  exact ⟨rfl, ⟨gB, cB, H4.out.hs_eq (by rw [HQ.out])⟩, F01.out.trans F4.out⟩
set_option maxRecDepth 100000 in
set_option maxHeartbeats 8000000 in
theorem umark_11n (h : UB w base bb gB cB gH cH al nh s lk ix hs pv dv now D) (hv : v < nh) (hq : hs v = ⟨1, p, c, is_⟩) (hps : p < s.sz) (hcs : c < s.sz) (hge : ¬ s.key c < K) (he : s.key c ≠ K) (hm : s.mrk c = false) :
    Calls Try.prog 42 #[jp bb, .pointer (some ⟨gH, v * 5, none⟩), .agg #[I 1, I K]] w (RetH base bb gH cH al nh ix hs pv dv now D v ⟨s, lk, ⟨2, p, c, is_⟩, .none, false⟩ w) := by
  have hbz := h.bbase
  obtain ⟨w0, hw0⟩ : ∃ x, x = w.alloc (.cells #[I 1, I K] 50) := ⟨_, rfl⟩
  have H0 : Hid (UB w0 base bb gB cB gH cH al nh s lk ix hs pv dv now D) := by rw [hw0]; exact h.keep ((Below.refl _ _).alloc (Nat.le_refl _) _)
  have F0 : Hid (UF base w w0) := by rw [hw0]; exact (UF.refl _ _).alloc hbz _
  have D0 : Hid (w0.heap[w.heap.size]? = some (.cells #[I 1, I K] 50 (0, 0))) := by rw [hw0]; exact heap_alloc_new _ _
  obtain ⟨db, hdb⟩ : ∃ x, w.heap.size = x := ⟨_, rfl⟩
  rw [hdb] at D0
  have hc0 : (0 : Int) ≤ (c : Int) := by omega
  have hcz : (c : Int) < (s.sz : Int) := by omega
  have hp0 : (0 : Int) ≤ (p : Int) := by omega
  have hpz : (p : Int) < (s.sz : Int) := by omega
  have hkb : (s.key c == K) = false := by simp [he]
  clear he
  obtain ⟨f0, f1, f2, f3, f4, f5, ff⟩ := H0.out.fb
  obtain ⟨y0, y1, y2, y3, y4, yf⟩ := H0.out.hd hv
  rw [hq] at y1 y2 y3 y4
  dsimp only at y1 y2 y3 y4
  have HQ := Lib.hid hq
  have HPS := Lib.hid hps
  have HCS := Lib.hid hcs
  clear h hbz hps hcs hq
  go_enter Try.func42, Try.ntmps42
  go_upto_region 1 with fail
  rw [← hw0]
  try rw [hdb]
  clear hw0 hdb
  go_quiet (fail)
  have H1 := Lib.hid (H0.out.drewN nq)
  have F01 := Lib.hid (F0.out.drewN nq)
  have D1 : Hid ((w0.drewN nq).heap[db]? = some (.cells #[I 1, I K] 50 (0, 0))) := D0.out
  clear H0 F0 D0
  try clear f0 f1 f2 f3 f4 f5 ff
  try clear y0 y1 y2 y3 y4 yf
  try clear xpk xpn xpm xpl xpf
  try clear xck xcn xcm xcl xcf
  try clear xzk xzn xzm xzl xzf
  generalize hgw : w0.drewN nq = w1 at *
  clear hgw nq
  have F1 := Lib.hid (UF.refl base w1)
  have d1a : w1.cell? ⟨db, 0, none⟩ = some (I 1) := (F1.out.cell D1.out (by decide) (by decide) (by decide) (by decide)).trans (by rw [jcell D1.out]; rfl)
  have d1b : w1.cell? ⟨db, 1, none⟩ = some (I K) := (F1.out.cell D1.out (by decide) (by decide) (by decide) (by decide)).trans (by rw [jcell D1.out]; rfl)
  obtain ⟨f0, f1, f2, f3, f4, f5, ff⟩ := H1.out.fb
  obtain ⟨y0, y1, y2, y3, y4, yf⟩ := H1.out.hd hv
  rw [HQ.out] at y1 y2 y3 y4
  dsimp only at y1 y2 y3 y4
  have y1q := y1
  clear y1
  have y1 : w1.cell? ⟨gH, v * 5 + 1, none⟩ = some (I 1) := y1q
  clear y1q
  obtain ⟨xck, xcn, xcm, xcl, xcf⟩ := H1.out.bd (i := c) HCS.out
  go_wp2_with fail
  go_quiet (fail)
  try clear f0 f1 f2 f3 f4 f5 ff
  try clear y0 y1 y2 y3 y4 yf
  try clear xpk xpn xpm xpl xpf
  try clear xck xcn xcm xcl xcf
  try clear xzk xzn xzm xzl xzf
  have H2 : Hid (UB (w1.drewN nq) base bb gB cB gH cH al nh s lk ix hs pv dv now D) := H1.out.drewN nq
  have F2 : Hid (UF base w1 (w1.drewN nq)) := F1.out.drewN nq
  generalize hgw : w1.drewN nq = w2 at *
  clear hgw
  have d2a : w2.cell? ⟨db, 0, none⟩ = some (I 1) := (F2.out.cell D1.out (by decide) (by decide) (by decide) (by decide)).trans (by rw [jcell D1.out]; rfl)
  have d2b : w2.cell? ⟨db, 1, none⟩ = some (I K) := (F2.out.cell D1.out (by decide) (by decide) (by decide) (by decide)).trans (by rw [jcell D1.out]; rfl)
  clear nq
  obtain ⟨f0, f1, f2, f3, f4, f5, ff⟩ := H2.out.fb
  obtain ⟨y0, y1, y2, y3, y4, yf⟩ := H2.out.hd hv
  rw [HQ.out] at y1 y2 y3 y4
  dsimp only at y1 y2 y3 y4
  have y1q := y1
  clear y1
  have y1 : w2.cell? ⟨gH, v * 5 + 1, none⟩ = some (I 1) := y1q
  clear y1q
  obtain ⟨xck, xcn, xcm, xcl, xcf⟩ := H2.out.bd (i := c) HCS.out
  rw [hm] at xcm
  go_wp2_with fail
  go_quiet (fail)
  try clear f0 f1 f2 f3 f4 f5 ff
  try clear y0 y1 y2 y3 y4 yf
  try clear xpk xpn xpm xpl xpf
  try clear xck xcn xcm xcl xcf
  try clear xzk xzn xzm xzl xzf
  have H3 : Hid (UB (w2.drewN nq) base bb gB cB gH cH al nh s lk ix hs pv dv now D) := H2.out.drewN nq
  have F3 : Hid (UF base w1 (w2.drewN nq)) := F2.out.drewN nq
  generalize hgw : w2.drewN nq = w3 at *
  clear hgw
  have d3a : w3.cell? ⟨db, 0, none⟩ = some (I 1) := (F3.out.cell D1.out (by decide) (by decide) (by decide) (by decide)).trans (by rw [jcell D1.out]; rfl)
  have d3b : w3.cell? ⟨db, 1, none⟩ = some (I K) := (F3.out.cell D1.out (by decide) (by decide) (by decide) (by decide)).trans (by rw [jcell D1.out]; rfl)
  clear nq
  obtain ⟨f0, f1, f2, f3, f4, f5, ff⟩ := H3.out.fb
  obtain ⟨y0, y1, y2, y3, y4, yf⟩ := H3.out.hd hv
  rw [HQ.out] at y1 y2 y3 y4
  dsimp only at y1 y2 y3 y4
  have y1q := y1
  clear y1
  have y1 : w3.cell? ⟨gH, v * 5 + 1, none⟩ = some (I 1) := y1q
  clear y1q
  have H4 := Lib.hid (H3.out.aset hv 2)
  have F4 := Lib.hid (F3.out.trans (H3.out.ufH (v * 5 + 1) (I 2)))
  go_wp2
  go_ret
  exact ⟨rfl, ⟨gB, cB, H4.out.hs_eq (by rw [HQ.out])⟩, F01.out.trans F4.out⟩
set_option maxRecDepth 100000 in
set_option maxHeartbeats 8000000 in
theorem umark_12e (h : UB w base bb gB cB gH cH al nh s lk ix hs pv dv now D) (hv : v < nh) (hq : hs v = ⟨1, p, c, is_⟩) (hps : p < s.sz) (hcs : c < s.sz) (hge : ¬ s.key c < K) (he : s.key c = K) (hm : s.mrk c = false) :
    Calls Try.prog 42 #[jp bb, .pointer (some ⟨gH, v * 5, none⟩), .agg #[I 2, I K]] w (RetH base bb gH cH al nh ix hs pv dv now D v ⟨s, lk, ⟨2, p, c, is_⟩, .none, false⟩ w) := by
  have hbz := h.bbase
  obtain ⟨w0, hw0⟩ : ∃ x, x = w.alloc (.cells #[I 2, I K] 50) := ⟨_, rfl⟩
  have H0 : Hid (UB w0 base bb gB cB gH cH al nh s lk ix hs pv dv now D) := by rw [hw0]; exact h.keep ((Below.refl _ _).alloc (Nat.le_refl _) _)
  have F0 : Hid (UF base w w0) := by rw [hw0]; exact (UF.refl _ _).alloc hbz _
  have D0 : Hid (w0.heap[w.heap.size]? = some (.cells #[I 2, I K] 50 (0, 0))) := by rw [hw0]; exact heap_alloc_new _ _
  obtain ⟨db, hdb⟩ : ∃ x, w.heap.size = x := ⟨_, rfl⟩
  rw [hdb] at D0
  have hc0 : (0 : Int) ≤ (c : Int) := by omega
  have hcz : (c : Int) < (s.sz : Int) := by omega
  have hp0 : (0 : Int) ≤ (p : Int) := by omega
  have hpz : (p : Int) < (s.sz : Int) := by omega
  have hkb : (s.key c == K) = true := by simp [he]
  clear he
  obtain ⟨f0, f1, f2, f3, f4, f5, ff⟩ := H0.out.fb
  obtain ⟨y0, y1, y2, y3, y4, yf⟩ := H0.out.hd hv
  rw [hq] at y1 y2 y3 y4
  dsimp only at y1 y2 y3 y4
  have HQ := Lib.hid hq
  have HPS := Lib.hid hps
  have HCS := Lib.hid hcs
  clear h hbz hps hcs hq
  go_enter Try.func42, Try.ntmps42
  go_upto_region 1 with fail
  rw [← hw0]
  try rw [hdb]
  clear hw0 hdb
  go_quiet (fail)
  have H1 := Lib.hid (H0.out.drewN nq)
  have F01 := Lib.hid (F0.out.drewN nq)
  have D1 : Hid ((w0.drewN nq).heap[db]? = some (.cells #[I 2, I K] 50 (0, 0))) := D0.out
  clear H0 F0 D0
  try clear f0 f1 f2 f3 f4 f5 ff
  try clear y0 y1 y2 y3 y4 yf
  try clear xpk xpn xpm xpl xpf
  try clear xck xcn xcm xcl xcf
  try clear xzk xzn xzm xzl xzf
  generalize hgw : w0.drewN nq = w1 at *
  clear hgw nq
  have F1 := Lib.hid (UF.refl base w1)
  have d1a : w1.cell? ⟨db, 0, none⟩ = some (I 2) := (F1.out.cell D1.out (by decide) (by decide) (by decide) (by decide)).trans (by rw [jcell D1.out]; rfl)
  have d1b : w1.cell? ⟨db, 1, none⟩ = some (I K) := (F1.out.cell D1.out (by decide) (by decide) (by decide) (by decide)).trans (by rw [jcell D1.out]; rfl)
  obtain ⟨f0, f1, f2, f3, f4, f5, ff⟩ := H1.out.fb
  obtain ⟨y0, y1, y2, y3, y4, yf⟩ := H1.out.hd hv
  rw [HQ.out] at y1 y2 y3 y4
  dsimp only at y1 y2 y3 y4
  have y1q := y1
  clear y1
  have y1 : w1.cell? ⟨gH, v * 5 + 1, none⟩ = some (I 1) := y1q
  clear y1q
  obtain ⟨xck, xcn, xcm, xcl, xcf⟩ := H1.out.bd (i := c) HCS.out
  go_wp2_with fail
  go_quiet (fail)
  try clear f0 f1 f2 f3 f4 f5 ff
  try clear y0 y1 y2 y3 y4 yf
  try clear xpk xpn xpm xpl xpf
  try clear xck xcn xcm xcl xcf
  try clear xzk xzn xzm xzl xzf
  have H2 : Hid (UB (w1.drewN nq) base bb gB cB gH cH al nh s lk ix hs pv dv now D) := H1.out.drewN nq
  have F2 : Hid (UF base w1 (w1.drewN nq)) := F1.out.drewN nq
  generalize hgw : w1.drewN nq = w2 at *
  clear hgw
  have d2a : w2.cell? ⟨db, 0, none⟩ = some (I 2) := (F2.out.cell D1.out (by decide) (by decide) (by decide) (by decide)).trans (by rw [jcell D1.out]; rfl)
  have d2b : w2.cell? ⟨db, 1, none⟩ = some (I K) := (F2.out.cell D1.out (by decide) (by decide) (by decide) (by decide)).trans (by rw [jcell D1.out]; rfl)
  clear nq
  obtain ⟨f0, f1, f2, f3, f4, f5, ff⟩ := H2.out.fb
  obtain ⟨y0, y1, y2, y3, y4, yf⟩ := H2.out.hd hv
  rw [HQ.out] at y1 y2 y3 y4
  dsimp only at y1 y2 y3 y4
  have y1q := y1
  clear y1
  have y1 : w2.cell? ⟨gH, v * 5 + 1, none⟩ = some (I 1) := y1q
  clear y1q
  obtain ⟨xck, xcn, xcm, xcl, xcf⟩ := H2.out.bd (i := c) HCS.out
  rw [hm] at xcm
  go_wp2_with fail
  go_quiet (fail)
  try clear f0 f1 f2 f3 f4 f5 ff
  try clear y0 y1 y2 y3 y4 yf
  try clear xpk xpn xpm xpl xpf
  try clear xck xcn xcm xcl xcf
  try clear xzk xzn xzm xzl xzf
  have H3 : Hid (UB (w2.drewN nq) base bb gB cB gH cH al nh s lk ix hs pv dv now D) := H2.out.drewN nq
  have F3 : Hid (UF base w1 (w2.drewN nq)) := F2.out.drewN nq
  generalize hgw : w2.drewN nq = w3 at *
  clear hgw
  have d3a : w3.cell? ⟨db, 0, none⟩ = some (I 2) := (F3.out.cell D1.out (by decide) (by decide) (by decide) (by decide)).trans (by rw [jcell D1.out]; rfl)
  have d3b : w3.cell? ⟨db, 1, none⟩ = some (I K) := (F3.out.cell D1.out (by decide) (by decide) (by decide) (by decide)).trans (by rw [jcell D1.out]; rfl)
  clear nq
  obtain ⟨f0, f1, f2, f3, f4, f5, ff⟩ := H3.out.fb
  obtain ⟨y0, y1, y2, y3, y4, yf⟩ := H3.out.hd hv
  rw [HQ.out] at y1 y2 y3 y4
  dsimp only at y1 y2 y3 y4
  have y1q := y1
  clear y1
  have y1 : w3.cell? ⟨gH, v * 5 + 1, none⟩ = some (I 1) := y1q
  clear y1q
  have H4 := Lib.hid (H3.out.aset hv 2)
  have F4 := Lib.hid (F3.out.trans (H3.out.ufH (v * 5 + 1) (I 2)))
  go_wp2
  go_ret
  exact ⟨rfl, ⟨gB, cB, H4.out.hs_eq (by rw [HQ.out])⟩, F01.out.trans F4.out⟩
end
end Go.Proofs.Ytfmdpmebllepeaa

/-
  hedgref's Bench: marks, the deed. Written by tools/gen_ubench.py.
-/
namespace Go.Proofs.Ytfmdpmebllepeaa
open Go.RowKit

section
variable {w : World} {base bb gB cB gH cH al nh : Nat} {s : Bs} {lk : Nat → Bool} {ix : Nat → Nat} {hs : Nat → Hd} {pv dv : Value} {now : Nat} {D : List Dn} {v p c : Nat} {is_ : Bool} {kd K : Int}
set_option maxRecDepth 100000 in
set_option maxHeartbeats 8000000 in
theorem umark_21a (h : UB w base bb gB cB gH cH 4 nh s lk ix hs pv dv now D) (hv : v < nh) (hq : hs v = ⟨2, p, c, is_⟩) (hps : p < s.sz) (hcs : c < s.sz) (hpt : p ≠ s.tl) (ht : s.tl < s.sz) (hl : lk s.sz = false) (hsz : s.sz ≤ 10000) :
    Calls Try.prog 42 #[jp bb, .pointer (some ⟨gH, v * 5, none⟩), .agg #[I 1, I K]] w (RetH base bb gH cH 4 nh ix hs pv dv now D v ⟨s.insc p c K, lk, ⟨2, p, c, true⟩, .none, true⟩ w) := by
  have hbz := h.bbase
  obtain ⟨w0, hw0⟩ : ∃ x, x = w.alloc (.cells #[I 1, I K] 50) := ⟨_, rfl⟩
  have H0 : Hid (UB w0 base bb gB cB gH cH 4 nh s lk ix hs pv dv now D) := by rw [hw0]; exact h.keep ((Below.refl _ _).alloc (Nat.le_refl _) _)
  have F0 : Hid (UF base w w0) := by rw [hw0]; exact (UF.refl _ _).alloc hbz _
  have D0 : Hid (w0.heap[w.heap.size]? = some (.cells #[I 1, I K] 50 (0, 0))) := by rw [hw0]; exact heap_alloc_new _ _
  obtain ⟨db, hdb⟩ : ∃ x, w.heap.size = x := ⟨_, rfl⟩
  rw [hdb] at D0
  have hc0 : (0 : Int) ≤ (c : Int) := by omega
  have hcz : (c : Int) < (s.sz : Int) := by omega
  have hp0 : (0 : Int) ≤ (p : Int) := by omega
  have hpz : (p : Int) < (s.sz : Int) := by omega
  have HLS := Lib.hid hl
  have HSZ := Lib.hid hsz
  clear hl hsz
  obtain ⟨f0, f1, f2, f3, f4, f5, ff⟩ := H0.out.fb
  obtain ⟨y0, y1, y2, y3, y4, yf⟩ := H0.out.hd hv
  rw [hq] at y1 y2 y3 y4
  dsimp only at y1 y2 y3 y4
  have HQ := Lib.hid hq
  have HPS := Lib.hid hps
  have HCS := Lib.hid hcs
  clear h hbz hps hcs hq
  go_enter Try.func42, Try.ntmps42
  go_upto_region 1 with fail
  rw [← hw0]
  try rw [hdb]
  clear hw0 hdb
  go_quiet (fail)
  have H1 := Lib.hid (H0.out.drewN nq)
  have F01 := Lib.hid (F0.out.drewN nq)
  have D1 : Hid ((w0.drewN nq).heap[db]? = some (.cells #[I 1, I K] 50 (0, 0))) := D0.out
  clear H0 F0 D0
  try clear f0 f1 f2 f3 f4 f5 ff
  try clear y0 y1 y2 y3 y4 yf
  try clear xpk xpn xpm xpl xpf
  try clear xck xcn xcm xcl xcf
  try clear xzk xzn xzm xzl xzf
  generalize hgw : w0.drewN nq = w1 at *
  clear hgw nq
  have F1 := Lib.hid (UF.refl base w1)
  have d1a : w1.cell? ⟨db, 0, none⟩ = some (I 1) := (F1.out.cell D1.out (by decide) (by decide) (by decide) (by decide)).trans (by rw [jcell D1.out]; rfl)
  have d1b : w1.cell? ⟨db, 1, none⟩ = some (I K) := (F1.out.cell D1.out (by decide) (by decide) (by decide) (by decide)).trans (by rw [jcell D1.out]; rfl)
  obtain ⟨f0, f1, f2, f3, f4, f5, ff⟩ := H1.out.fb
  obtain ⟨y0, y1, y2, y3, y4, yf⟩ := H1.out.hd hv
  rw [HQ.out] at y1 y2 y3 y4
  dsimp only at y1 y2 y3 y4
  have y1q := y1
  clear y1
  have y1 : w1.cell? ⟨gH, v * 5 + 1, none⟩ = some (I 2) := y1q
  clear y1q
  obtain ⟨xck, xcn, xcm, xcl, xcf⟩ := H1.out.bd (i := c) HCS.out
  go_wp2_with fail
  go_quiet (fail)
  try clear f0 f1 f2 f3 f4 f5 ff
  try clear y0 y1 y2 y3 y4 yf
  try clear xpk xpn xpm xpl xpf
  try clear xck xcn xcm xcl xcf
  try clear xzk xzn xzm xzl xzf
  have H2 : Hid (UB (w1.drewN nq) base bb gB cB gH cH 4 nh s lk ix hs pv dv now D) := H1.out.drewN nq
  have F2 : Hid (UF base w1 (w1.drewN nq)) := F1.out.drewN nq
  generalize hgw : w1.drewN nq = w2 at *
  clear hgw
  have d2a : w2.cell? ⟨db, 0, none⟩ = some (I 1) := (F2.out.cell D1.out (by decide) (by decide) (by decide) (by decide)).trans (by rw [jcell D1.out]; rfl)
  have d2b : w2.cell? ⟨db, 1, none⟩ = some (I K) := (F2.out.cell D1.out (by decide) (by decide) (by decide) (by decide)).trans (by rw [jcell D1.out]; rfl)
  clear nq
  obtain ⟨f0, f1, f2, f3, f4, f5, ff⟩ := H2.out.fb
  obtain ⟨y0, y1, y2, y3, y4, yf⟩ := H2.out.hd hv
  rw [HQ.out] at y1 y2 y3 y4
  dsimp only at y1 y2 y3 y4
  have y1q := y1
  clear y1
  have y1 : w2.cell? ⟨gH, v * 5 + 1, none⟩ = some (I 2) := y1q
  clear y1q
  have f0q : w2.cell? ⟨bb, 0, none⟩ = some (I 4) := f0
  clear f0
  have HA2 := Lib.hid (uinsert_any (p := p) (c := c) (K := K) H2.out hv (by rw [HQ.out]) (by rw [HQ.out]) HPS.out hpt ht HLS.out HSZ.out)
  go_wp2_with fail
  refine HA2.out.mono ?_
  rintro e w3 ⟨rfl, ⟨gB3, cB3, h3⟩, f3'⟩
  try clear f0 f1 f2 f3 f4 f5 ff
  try clear y0 y1 y2 y3 y4 yf
  try clear xpk xpn xpm xpl xpf
  try clear xck xcn xcm xcl xcf
  try clear xzk xzn xzm xzl xzf
  have H3 : Hid (UB w3 base bb gB3 cB3 gH cH 4 nh (s.insc p c K) lk ix hs pv dv now D) := h3
  have F3 := Lib.hid (F2.out.trans f3')
  clear h3 f3'
  have d3a : w3.cell? ⟨db, 0, none⟩ = some (I 1) := (F3.out.cell D1.out (by decide) (by decide) (by decide) (by decide)).trans (by rw [jcell D1.out]; rfl)
  have d3b : w3.cell? ⟨db, 1, none⟩ = some (I K) := (F3.out.cell D1.out (by decide) (by decide) (by decide) (by decide)).trans (by rw [jcell D1.out]; rfl)
  obtain ⟨f0, f1, f2, f3, f4, f5, ff⟩ := H3.out.fb
  obtain ⟨y0, y1, y2, y3, y4, yf⟩ := H3.out.hd hv
  rw [HQ.out] at y1 y2 y3 y4
  dsimp only at y1 y2 y3 y4
  have y1q := y1
  clear y1
  have y1 : w3.cell? ⟨gH, v * 5 + 1, none⟩ = some (I 2) := y1q
  clear y1q
  have H4 := Lib.hid (H3.out.iset hv true)
  have F4 := Lib.hid (F3.out.trans (H3.out.ufH (v * 5 + 4) (.bool true)))
  go_wp2
  go_ret
  exact ⟨rfl, ⟨gB3, cB3, H4.out.hs_eq (by rw [HQ.out])⟩, F01.out.trans F4.out⟩
set_option maxRecDepth 100000 in
set_option maxHeartbeats 8000000 in
theorem umark_21c (h : UB w base bb gB cB gH cH 3 nh s lk ix hs pv dv now D) (hv : v < nh) (hq : hs v = ⟨2, p, c, is_⟩) (hps : p < s.sz) (hcs : c < s.sz) (hpt : p ≠ s.tl) (hcl : decide (s.mrk p = false ∧ s.nx p = c) = true) (ht : s.tl < s.sz) (hl : lk s.sz = false) (hsz : s.sz ≤ 10000) :
    Calls Try.prog 42 #[jp bb, .pointer (some ⟨gH, v * 5, none⟩), .agg #[I 1, I K]] w (RetH base bb gH cH 3 nh ix hs pv dv now D v ⟨s.insc p c K, lk, ⟨2, p, c, true⟩, .add K, true⟩ w) := by
  have hbz := h.bbase
  obtain ⟨w0, hw0⟩ : ∃ x, x = w.alloc (.cells #[I 1, I K] 50) := ⟨_, rfl⟩
  have H0 : Hid (UB w0 base bb gB cB gH cH 3 nh s lk ix hs pv dv now D) := by rw [hw0]; exact h.keep ((Below.refl _ _).alloc (Nat.le_refl _) _)
  have F0 : Hid (UF base w w0) := by rw [hw0]; exact (UF.refl _ _).alloc hbz _
  have D0 : Hid (w0.heap[w.heap.size]? = some (.cells #[I 1, I K] 50 (0, 0))) := by rw [hw0]; exact heap_alloc_new _ _
  obtain ⟨db, hdb⟩ : ∃ x, w.heap.size = x := ⟨_, rfl⟩
  rw [hdb] at D0
  have hc0 : (0 : Int) ≤ (c : Int) := by omega
  have hcz : (c : Int) < (s.sz : Int) := by omega
  have hp0 : (0 : Int) ≤ (p : Int) := by omega
  have hpz : (p : Int) < (s.sz : Int) := by omega
  have HLS := Lib.hid hl
  have HSZ := Lib.hid hsz
  clear hl hsz
  obtain ⟨f0, f1, f2, f3, f4, f5, ff⟩ := H0.out.fb
  obtain ⟨y0, y1, y2, y3, y4, yf⟩ := H0.out.hd hv
  rw [hq] at y1 y2 y3 y4
  dsimp only at y1 y2 y3 y4
  have HQ := Lib.hid hq
  have HPS := Lib.hid hps
  have HCS := Lib.hid hcs
  clear h hbz hps hcs hq
  go_enter Try.func42, Try.ntmps42
  go_upto_region 1 with fail
  rw [← hw0]
  try rw [hdb]
  clear hw0 hdb
  go_quiet (fail)
  have H1 := Lib.hid (H0.out.drewN nq)
  have F01 := Lib.hid (F0.out.drewN nq)
  have D1 : Hid ((w0.drewN nq).heap[db]? = some (.cells #[I 1, I K] 50 (0, 0))) := D0.out
  clear H0 F0 D0
  try clear f0 f1 f2 f3 f4 f5 ff
  try clear y0 y1 y2 y3 y4 yf
  try clear xpk xpn xpm xpl xpf
  try clear xck xcn xcm xcl xcf
  try clear xzk xzn xzm xzl xzf
  generalize hgw : w0.drewN nq = w1 at *
  clear hgw nq
  have F1 := Lib.hid (UF.refl base w1)
  have d1a : w1.cell? ⟨db, 0, none⟩ = some (I 1) := (F1.out.cell D1.out (by decide) (by decide) (by decide) (by decide)).trans (by rw [jcell D1.out]; rfl)
  have d1b : w1.cell? ⟨db, 1, none⟩ = some (I K) := (F1.out.cell D1.out (by decide) (by decide) (by decide) (by decide)).trans (by rw [jcell D1.out]; rfl)
  obtain ⟨f0, f1, f2, f3, f4, f5, ff⟩ := H1.out.fb
  obtain ⟨y0, y1, y2, y3, y4, yf⟩ := H1.out.hd hv
  rw [HQ.out] at y1 y2 y3 y4
  dsimp only at y1 y2 y3 y4
  have y1q := y1
  clear y1
  have y1 : w1.cell? ⟨gH, v * 5 + 1, none⟩ = some (I 2) := y1q
  clear y1q
  obtain ⟨xck, xcn, xcm, xcl, xcf⟩ := H1.out.bd (i := c) HCS.out
  go_wp2_with fail
  go_quiet (fail)
  try clear f0 f1 f2 f3 f4 f5 ff
  try clear y0 y1 y2 y3 y4 yf
  try clear xpk xpn xpm xpl xpf
  try clear xck xcn xcm xcl xcf
  try clear xzk xzn xzm xzl xzf
  have H2 : Hid (UB (w1.drewN nq) base bb gB cB gH cH 3 nh s lk ix hs pv dv now D) := H1.out.drewN nq
  have F2 : Hid (UF base w1 (w1.drewN nq)) := F1.out.drewN nq
  generalize hgw : w1.drewN nq = w2 at *
  clear hgw
  have d2a : w2.cell? ⟨db, 0, none⟩ = some (I 1) := (F2.out.cell D1.out (by decide) (by decide) (by decide) (by decide)).trans (by rw [jcell D1.out]; rfl)
  have d2b : w2.cell? ⟨db, 1, none⟩ = some (I K) := (F2.out.cell D1.out (by decide) (by decide) (by decide) (by decide)).trans (by rw [jcell D1.out]; rfl)
  clear nq
  obtain ⟨f0, f1, f2, f3, f4, f5, ff⟩ := H2.out.fb
  obtain ⟨y0, y1, y2, y3, y4, yf⟩ := H2.out.hd hv
  rw [HQ.out] at y1 y2 y3 y4
  dsimp only at y1 y2 y3 y4
  have y1q := y1
  clear y1
  have y1 : w2.cell? ⟨gH, v * 5 + 1, none⟩ = some (I 2) := y1q
  clear y1q
  have f0q : w2.cell? ⟨bb, 0, none⟩ = some (I 3) := f0
  clear f0
  have HA2 := Lib.hid (uclean_any (b := true) H2.out hv (by rw [HQ.out]) (by rw [HQ.out]) HPS.out hpt hcl)
  go_wp2_with fail
  refine HA2.out.mono ?_
  rintro e w2' ⟨rfl, nq, rfl⟩
  try clear f0 f1 f2 f3 f4 f5 ff
  try clear y0 y1 y2 y3 y4 yf
  try clear xpk xpn xpm xpl xpf
  try clear xck xcn xcm xcl xcf
  try clear xzk xzn xzm xzl xzf
  have H3 : Hid (UB (w2.drewN nq) base bb gB cB gH cH 3 nh s lk ix hs pv dv now D) := H2.out.drewN nq
  have F3 : Hid (UF base w1 (w2.drewN nq)) := F2.out.drewN nq
  generalize hgw : w2.drewN nq = w3 at *
  clear hgw
  have d3a : w3.cell? ⟨db, 0, none⟩ = some (I 1) := (F3.out.cell D1.out (by decide) (by decide) (by decide) (by decide)).trans (by rw [jcell D1.out]; rfl)
  have d3b : w3.cell? ⟨db, 1, none⟩ = some (I K) := (F3.out.cell D1.out (by decide) (by decide) (by decide) (by decide)).trans (by rw [jcell D1.out]; rfl)
  obtain ⟨f0, f1, f2, f3, f4, f5, ff⟩ := H3.out.fb
  obtain ⟨y0, y1, y2, y3, y4, yf⟩ := H3.out.hd hv
  rw [HQ.out] at y1 y2 y3 y4
  dsimp only at y1 y2 y3 y4
  have y1q := y1
  clear y1
  have y1 : w3.cell? ⟨gH, v * 5 + 1, none⟩ = some (I 2) := y1q
  clear y1q
  have f0q : w3.cell? ⟨bb, 0, none⟩ = some (I 3) := f0
  clear f0
  have HA3 := Lib.hid (uinsert_any (p := p) (c := c) (K := K) H3.out hv (by rw [HQ.out]) (by rw [HQ.out]) HPS.out hpt ht HLS.out HSZ.out)
  go_wp2_with fail
  refine HA3.out.mono ?_
  rintro e w4 ⟨rfl, ⟨gB4, cB4, h4⟩, f4'⟩
  try clear f0 f1 f2 f3 f4 f5 ff
  try clear y0 y1 y2 y3 y4 yf
  try clear xpk xpn xpm xpl xpf
  try clear xck xcn xcm xcl xcf
  try clear xzk xzn xzm xzl xzf
  have H4 : Hid (UB w4 base bb gB4 cB4 gH cH 3 nh (s.insc p c K) lk ix hs pv dv now D) := h4
  have F4 := Lib.hid (F3.out.trans f4')
  clear h4 f4'
  have d4a : w4.cell? ⟨db, 0, none⟩ = some (I 1) := (F4.out.cell D1.out (by decide) (by decide) (by decide) (by decide)).trans (by rw [jcell D1.out]; rfl)
  have d4b : w4.cell? ⟨db, 1, none⟩ = some (I K) := (F4.out.cell D1.out (by decide) (by decide) (by decide) (by decide)).trans (by rw [jcell D1.out]; rfl)
  obtain ⟨f0, f1, f2, f3, f4, f5, ff⟩ := H4.out.fb
  obtain ⟨y0, y1, y2, y3, y4, yf⟩ := H4.out.hd hv
  rw [HQ.out] at y1 y2 y3 y4
  dsimp only at y1 y2 y3 y4
  have y1q := y1
  clear y1
  have y1 : w4.cell? ⟨gH, v * 5 + 1, none⟩ = some (I 2) := y1q
  clear y1q
  have H5 := Lib.hid (H4.out.iset hv true)
  have F5 := Lib.hid (F4.out.trans (H4.out.ufH (v * 5 + 4) (.bool true)))
  go_wp2
  go_ret
  exact ⟨rfl, ⟨gB4, cB4, H5.out.hs_eq (by rw [HQ.out])⟩, F01.out.trans F5.out⟩
set_option maxRecDepth 100000 in
set_option maxHeartbeats 8000000 in
theorem umark_21u (h : UB w base bb gB cB gH cH 3 nh s lk ix hs pv dv now D) (hv : v < nh) (hq : hs v = ⟨2, p, c, is_⟩) (hps : p < s.sz) (hcs : c < s.sz) (hpt : p ≠ s.tl) (hcl : decide (s.mrk p = false ∧ s.nx p = c) = false) :
    Calls Try.prog 42 #[jp bb, .pointer (some ⟨gH, v * 5, none⟩), .agg #[I 1, I K]] w (RetH base bb gH cH 3 nh ix hs pv dv now D v ⟨s, lk, ⟨0, p, c, is_⟩, .none, false⟩ w) := by
  have hbz := h.bbase
  obtain ⟨w0, hw0⟩ : ∃ x, x = w.alloc (.cells #[I 1, I K] 50) := ⟨_, rfl⟩
  have H0 : Hid (UB w0 base bb gB cB gH cH 3 nh s lk ix hs pv dv now D) := by rw [hw0]; exact h.keep ((Below.refl _ _).alloc (Nat.le_refl _) _)
  have F0 : Hid (UF base w w0) := by rw [hw0]; exact (UF.refl _ _).alloc hbz _
  have D0 : Hid (w0.heap[w.heap.size]? = some (.cells #[I 1, I K] 50 (0, 0))) := by rw [hw0]; exact heap_alloc_new _ _
  obtain ⟨db, hdb⟩ : ∃ x, w.heap.size = x := ⟨_, rfl⟩
  rw [hdb] at D0
  have hc0 : (0 : Int) ≤ (c : Int) := by omega
  have hcz : (c : Int) < (s.sz : Int) := by omega
  have hp0 : (0 : Int) ≤ (p : Int) := by omega
  have hpz : (p : Int) < (s.sz : Int) := by omega
  obtain ⟨f0, f1, f2, f3, f4, f5, ff⟩ := H0.out.fb
  obtain ⟨y0, y1, y2, y3, y4, yf⟩ := H0.out.hd hv
  rw [hq] at y1 y2 y3 y4
  dsimp only at y1 y2 y3 y4
  have HQ := Lib.hid hq
  have HPS := Lib.hid hps
  have HCS := Lib.hid hcs
  clear h hbz hps hcs hq
  go_enter Try.func42, Try.ntmps42
  go_upto_region 1 with fail
  rw [← hw0]
  try rw [hdb]
  clear hw0 hdb
  go_quiet (fail)
  have H1 := Lib.hid (H0.out.drewN nq)
  have F01 := Lib.hid (F0.out.drewN nq)
  have D1 : Hid ((w0.drewN nq).heap[db]? = some (.cells #[I 1, I K] 50 (0, 0))) := D0.out
  clear H0 F0 D0
  try clear f0 f1 f2 f3 f4 f5 ff
  try clear y0 y1 y2 y3 y4 yf
  try clear xpk xpn xpm xpl xpf
  try clear xck xcn xcm xcl xcf
  try clear xzk xzn xzm xzl xzf
  generalize hgw : w0.drewN nq = w1 at *
  clear hgw nq
  have F1 := Lib.hid (UF.refl base w1)
  have d1a : w1.cell? ⟨db, 0, none⟩ = some (I 1) := (F1.out.cell D1.out (by decide) (by decide) (by decide) (by decide)).trans (by rw [jcell D1.out]; rfl)
  have d1b : w1.cell? ⟨db, 1, none⟩ = some (I K) := (F1.out.cell D1.out (by decide) (by decide) (by decide) (by decide)).trans (by rw [jcell D1.out]; rfl)
  obtain ⟨f0, f1, f2, f3, f4, f5, ff⟩ := H1.out.fb
  obtain ⟨y0, y1, y2, y3, y4, yf⟩ := H1.out.hd hv
  rw [HQ.out] at y1 y2 y3 y4
  dsimp only at y1 y2 y3 y4
  have y1q := y1
  clear y1
  have y1 : w1.cell? ⟨gH, v * 5 + 1, none⟩ = some (I 2) := y1q
  clear y1q
  obtain ⟨xck, xcn, xcm, xcl, xcf⟩ := H1.out.bd (i := c) HCS.out
  go_wp2_with fail
  go_quiet (fail)
  try clear f0 f1 f2 f3 f4 f5 ff
  try clear y0 y1 y2 y3 y4 yf
  try clear xpk xpn xpm xpl xpf
  try clear xck xcn xcm xcl xcf
  try clear xzk xzn xzm xzl xzf
  have H2 : Hid (UB (w1.drewN nq) base bb gB cB gH cH 3 nh s lk ix hs pv dv now D) := H1.out.drewN nq
  have F2 : Hid (UF base w1 (w1.drewN nq)) := F1.out.drewN nq
  generalize hgw : w1.drewN nq = w2 at *
  clear hgw
  have d2a : w2.cell? ⟨db, 0, none⟩ = some (I 1) := (F2.out.cell D1.out (by decide) (by decide) (by decide) (by decide)).trans (by rw [jcell D1.out]; rfl)
  have d2b : w2.cell? ⟨db, 1, none⟩ = some (I K) := (F2.out.cell D1.out (by decide) (by decide) (by decide) (by decide)).trans (by rw [jcell D1.out]; rfl)
  clear nq
  obtain ⟨f0, f1, f2, f3, f4, f5, ff⟩ := H2.out.fb
  obtain ⟨y0, y1, y2, y3, y4, yf⟩ := H2.out.hd hv
  rw [HQ.out] at y1 y2 y3 y4
  dsimp only at y1 y2 y3 y4
  have y1q := y1
  clear y1
  have y1 : w2.cell? ⟨gH, v * 5 + 1, none⟩ = some (I 2) := y1q
  clear y1q
  have f0q : w2.cell? ⟨bb, 0, none⟩ = some (I 3) := f0
  clear f0
  have HA2 := Lib.hid (uclean_any (b := false) H2.out hv (by rw [HQ.out]) (by rw [HQ.out]) HPS.out hpt hcl)
  go_wp2_with fail
  refine HA2.out.mono ?_
  rintro e w2' ⟨rfl, nq, rfl⟩
  try clear f0 f1 f2 f3 f4 f5 ff
  try clear y0 y1 y2 y3 y4 yf
  try clear xpk xpn xpm xpl xpf
  try clear xck xcn xcm xcl xcf
  try clear xzk xzn xzm xzl xzf
  have H3 : Hid (UB (w2.drewN nq) base bb gB cB gH cH 3 nh s lk ix hs pv dv now D) := H2.out.drewN nq
  have F3 : Hid (UF base w1 (w2.drewN nq)) := F2.out.drewN nq
  generalize hgw : w2.drewN nq = w3 at *
  clear hgw
  have d3a : w3.cell? ⟨db, 0, none⟩ = some (I 1) := (F3.out.cell D1.out (by decide) (by decide) (by decide) (by decide)).trans (by rw [jcell D1.out]; rfl)
  have d3b : w3.cell? ⟨db, 1, none⟩ = some (I K) := (F3.out.cell D1.out (by decide) (by decide) (by decide) (by decide)).trans (by rw [jcell D1.out]; rfl)
  obtain ⟨f0, f1, f2, f3, f4, f5, ff⟩ := H3.out.fb
  obtain ⟨y0, y1, y2, y3, y4, yf⟩ := H3.out.hd hv
  rw [HQ.out] at y1 y2 y3 y4
  dsimp only at y1 y2 y3 y4
  have y1q := y1
  clear y1
  have y1 : w3.cell? ⟨gH, v * 5 + 1, none⟩ = some (I 2) := y1q
  clear y1q
  have f0q : w3.cell? ⟨bb, 0, none⟩ = some (I 3) := f0
  clear f0
  have H4 := Lib.hid (H3.out.aset hv 0)
  have F4 := Lib.hid (F3.out.trans (H3.out.ufH (v * 5 + 1) (I 0)))
  go_wp2
  go_ret
  exact ⟨rfl, ⟨gB, cB, H4.out.hs_eq (by rw [HQ.out])⟩, F01.out.trans F4.out⟩
set_option maxRecDepth 100000 in
set_option maxHeartbeats 8000000 in
theorem umark_22a (h : UB w base bb gB cB gH cH 4 nh s lk ix hs pv dv now D) (hv : v < nh) (hq : hs v = ⟨2, p, c, is_⟩) (hps : p < s.sz) (hcs : c < s.sz) (hpt : p ≠ s.tl) (hct : c ≠ s.tl) :
    Calls Try.prog 42 #[jp bb, .pointer (some ⟨gH, v * 5, none⟩), .agg #[I 2, I K]] w (RetH base bb gH cH 4 nh ix hs pv dv now D v ⟨s.cut p c, lk, ⟨2, p, c, true⟩, .none, true⟩ w) := by
  have hbz := h.bbase
  obtain ⟨w0, hw0⟩ : ∃ x, x = w.alloc (.cells #[I 2, I K] 50) := ⟨_, rfl⟩
  have H0 : Hid (UB w0 base bb gB cB gH cH 4 nh s lk ix hs pv dv now D) := by rw [hw0]; exact h.keep ((Below.refl _ _).alloc (Nat.le_refl _) _)
  have F0 : Hid (UF base w w0) := by rw [hw0]; exact (UF.refl _ _).alloc hbz _
  have D0 : Hid (w0.heap[w.heap.size]? = some (.cells #[I 2, I K] 50 (0, 0))) := by rw [hw0]; exact heap_alloc_new _ _
  obtain ⟨db, hdb⟩ : ∃ x, w.heap.size = x := ⟨_, rfl⟩
  rw [hdb] at D0
  have hc0 : (0 : Int) ≤ (c : Int) := by omega
  have hcz : (c : Int) < (s.sz : Int) := by omega
  have hp0 : (0 : Int) ≤ (p : Int) := by omega
  have hpz : (p : Int) < (s.sz : Int) := by omega
  obtain ⟨f0, f1, f2, f3, f4, f5, ff⟩ := H0.out.fb
  obtain ⟨y0, y1, y2, y3, y4, yf⟩ := H0.out.hd hv
  rw [hq] at y1 y2 y3 y4
  dsimp only at y1 y2 y3 y4
  have HQ := Lib.hid hq
  have HPS := Lib.hid hps
  have HCS := Lib.hid hcs
  clear h hbz hps hcs hq
  go_enter Try.func42, Try.ntmps42
  go_upto_region 1 with fail
  rw [← hw0]
  try rw [hdb]
  clear hw0 hdb
  go_quiet (fail)
  have H1 := Lib.hid (H0.out.drewN nq)
  have F01 := Lib.hid (F0.out.drewN nq)
  have D1 : Hid ((w0.drewN nq).heap[db]? = some (.cells #[I 2, I K] 50 (0, 0))) := D0.out
  clear H0 F0 D0
  try clear f0 f1 f2 f3 f4 f5 ff
  try clear y0 y1 y2 y3 y4 yf
  try clear xpk xpn xpm xpl xpf
  try clear xck xcn xcm xcl xcf
  try clear xzk xzn xzm xzl xzf
  generalize hgw : w0.drewN nq = w1 at *
  clear hgw nq
  have F1 := Lib.hid (UF.refl base w1)
  have d1a : w1.cell? ⟨db, 0, none⟩ = some (I 2) := (F1.out.cell D1.out (by decide) (by decide) (by decide) (by decide)).trans (by rw [jcell D1.out]; rfl)
  have d1b : w1.cell? ⟨db, 1, none⟩ = some (I K) := (F1.out.cell D1.out (by decide) (by decide) (by decide) (by decide)).trans (by rw [jcell D1.out]; rfl)
  obtain ⟨f0, f1, f2, f3, f4, f5, ff⟩ := H1.out.fb
  obtain ⟨y0, y1, y2, y3, y4, yf⟩ := H1.out.hd hv
  rw [HQ.out] at y1 y2 y3 y4
  dsimp only at y1 y2 y3 y4
  have y1q := y1
  clear y1
  have y1 : w1.cell? ⟨gH, v * 5 + 1, none⟩ = some (I 2) := y1q
  clear y1q
  obtain ⟨xck, xcn, xcm, xcl, xcf⟩ := H1.out.bd (i := c) HCS.out
  go_wp2_with fail
  go_quiet (fail)
  try clear f0 f1 f2 f3 f4 f5 ff
  try clear y0 y1 y2 y3 y4 yf
  try clear xpk xpn xpm xpl xpf
  try clear xck xcn xcm xcl xcf
  try clear xzk xzn xzm xzl xzf
  have H2 : Hid (UB (w1.drewN nq) base bb gB cB gH cH 4 nh s lk ix hs pv dv now D) := H1.out.drewN nq
  have F2 : Hid (UF base w1 (w1.drewN nq)) := F1.out.drewN nq
  generalize hgw : w1.drewN nq = w2 at *
  clear hgw
  have d2a : w2.cell? ⟨db, 0, none⟩ = some (I 2) := (F2.out.cell D1.out (by decide) (by decide) (by decide) (by decide)).trans (by rw [jcell D1.out]; rfl)
  have d2b : w2.cell? ⟨db, 1, none⟩ = some (I K) := (F2.out.cell D1.out (by decide) (by decide) (by decide) (by decide)).trans (by rw [jcell D1.out]; rfl)
  clear nq
  obtain ⟨f0, f1, f2, f3, f4, f5, ff⟩ := H2.out.fb
  obtain ⟨y0, y1, y2, y3, y4, yf⟩ := H2.out.hd hv
  rw [HQ.out] at y1 y2 y3 y4
  dsimp only at y1 y2 y3 y4
  have y1q := y1
  clear y1
  have y1 : w2.cell? ⟨gH, v * 5 + 1, none⟩ = some (I 2) := y1q
  clear y1q
  obtain ⟨xpk, xpn, xpm, xpl, xpf⟩ := H2.out.bd (i := p) HPS.out
  obtain ⟨xck, xcn, xcm, xcl, xcf⟩ := H2.out.bd (i := c) HCS.out
  rw [nxI_ne hct] at xcn
  have f0q : w2.cell? ⟨bb, 0, none⟩ = some (I 4) := f0
  clear f0
  go_wp2_with fail
  go_region
  all_goals
    (try clear f0 f1 f2 f3 f4 f5 ff
     try clear y0 y1 y2 y3 y4 yf
     try clear xpk xpn xpm xpl xpf
     try clear xck xcn xcm xcl xcf
     try clear xzk xzn xzm xzl xzf
     have H3 : Hid (UB ((w2.setCell ⟨gB, p * 4 + 1, none⟩ (I (s.nx c))).drew) base bb gB cB gH cH 4 nh (s.cut p c) lk ix hs pv dv now D) := (H2.out.nxset HPS.out hpt (s.nx c)).drew
     have F3 : Hid (UF base w1 ((w2.setCell ⟨gB, p * 4 + 1, none⟩ (I (s.nx c))).drew)) := (F2.out.trans (H2.out.ufB _ _)).drew
     generalize hgw : (w2.setCell ⟨gB, p * 4 + 1, none⟩ (I (s.nx c))).drew = w3 at *
     clear hgw
     have d3a : w3.cell? ⟨db, 0, none⟩ = some (I 2) := (F3.out.cell D1.out (by decide) (by decide) (by decide) (by decide)).trans (by rw [jcell D1.out]; rfl)
     have d3b : w3.cell? ⟨db, 1, none⟩ = some (I K) := (F3.out.cell D1.out (by decide) (by decide) (by decide) (by decide)).trans (by rw [jcell D1.out]; rfl)
     obtain ⟨f0, f1, f2, f3, f4, f5, ff⟩ := H3.out.fb
     have f1q : w3.cell? ⟨bb, 1, none⟩ = some (.slice (some ⟨gB, 0, none⟩) s.sz cB) := f1
     clear f1
     obtain ⟨y0, y1, y2, y3, y4, yf⟩ := H3.out.hd hv
     rw [HQ.out] at y1 y2 y3 y4
     dsimp only at y1 y2 y3 y4
     have y1q := y1
     clear y1
     have y1 : w3.cell? ⟨gH, v * 5 + 1, none⟩ = some (I 2) := y1q
     clear y1q
     have H4 := Lib.hid (H3.out.iset hv true)
     have F4 := Lib.hid (F3.out.trans (H3.out.ufH (v * 5 + 4) (.bool true)))
     go_wp2
     go_ret
     exact ⟨rfl, ⟨gB, cB, H4.out.hs_eq (by rw [HQ.out])⟩, F01.out.trans F4.out⟩)
set_option maxRecDepth 100000 in
set_option maxHeartbeats 8000000 in
theorem umark_22e (h : UB w base bb gB cB gH cH 3 nh s lk ix hs pv dv now D) (hv : v < nh) (hq : hs v = ⟨2, p, c, is_⟩) (hps : p < s.sz) (hcs : c < s.sz) (hm : s.mrk c = false) :
    Calls Try.prog 42 #[jp bb, .pointer (some ⟨gH, v * 5, none⟩), .agg #[I 2, I K]] w (RetH base bb gH cH 3 nh ix hs pv dv now D v ⟨s.mark c, lk, ⟨3, p, c, true⟩, .del K, false⟩ w) := by
  have hbz := h.bbase
  obtain ⟨w0, hw0⟩ : ∃ x, x = w.alloc (.cells #[I 2, I K] 50) := ⟨_, rfl⟩
  have H0 : Hid (UB w0 base bb gB cB gH cH 3 nh s lk ix hs pv dv now D) := by rw [hw0]; exact h.keep ((Below.refl _ _).alloc (Nat.le_refl _) _)
  have F0 : Hid (UF base w w0) := by rw [hw0]; exact (UF.refl _ _).alloc hbz _
  have D0 : Hid (w0.heap[w.heap.size]? = some (.cells #[I 2, I K] 50 (0, 0))) := by rw [hw0]; exact heap_alloc_new _ _
  obtain ⟨db, hdb⟩ : ∃ x, w.heap.size = x := ⟨_, rfl⟩
  rw [hdb] at D0
  have hc0 : (0 : Int) ≤ (c : Int) := by omega
  have hcz : (c : Int) < (s.sz : Int) := by omega
  have hp0 : (0 : Int) ≤ (p : Int) := by omega
  have hpz : (p : Int) < (s.sz : Int) := by omega
  obtain ⟨f0, f1, f2, f3, f4, f5, ff⟩ := H0.out.fb
  obtain ⟨y0, y1, y2, y3, y4, yf⟩ := H0.out.hd hv
  rw [hq] at y1 y2 y3 y4
  dsimp only at y1 y2 y3 y4
  have HQ := Lib.hid hq
  have HPS := Lib.hid hps
  have HCS := Lib.hid hcs
  clear h hbz hps hcs hq
  go_enter Try.func42, Try.ntmps42
  go_upto_region 1 with fail
  rw [← hw0]
  try rw [hdb]
  clear hw0 hdb
  go_quiet (fail)
  have H1 := Lib.hid (H0.out.drewN nq)
  have F01 := Lib.hid (F0.out.drewN nq)
  have D1 : Hid ((w0.drewN nq).heap[db]? = some (.cells #[I 2, I K] 50 (0, 0))) := D0.out
  clear H0 F0 D0
  try clear f0 f1 f2 f3 f4 f5 ff
  try clear y0 y1 y2 y3 y4 yf
  try clear xpk xpn xpm xpl xpf
  try clear xck xcn xcm xcl xcf
  try clear xzk xzn xzm xzl xzf
  generalize hgw : w0.drewN nq = w1 at *
  clear hgw nq
  have F1 := Lib.hid (UF.refl base w1)
  have d1a : w1.cell? ⟨db, 0, none⟩ = some (I 2) := (F1.out.cell D1.out (by decide) (by decide) (by decide) (by decide)).trans (by rw [jcell D1.out]; rfl)
  have d1b : w1.cell? ⟨db, 1, none⟩ = some (I K) := (F1.out.cell D1.out (by decide) (by decide) (by decide) (by decide)).trans (by rw [jcell D1.out]; rfl)
  obtain ⟨f0, f1, f2, f3, f4, f5, ff⟩ := H1.out.fb
  obtain ⟨y0, y1, y2, y3, y4, yf⟩ := H1.out.hd hv
  rw [HQ.out] at y1 y2 y3 y4
  dsimp only at y1 y2 y3 y4
  have y1q := y1
  clear y1
  have y1 : w1.cell? ⟨gH, v * 5 + 1, none⟩ = some (I 2) := y1q
  clear y1q
  obtain ⟨xck, xcn, xcm, xcl, xcf⟩ := H1.out.bd (i := c) HCS.out
  go_wp2_with fail
  go_quiet (fail)
  try clear f0 f1 f2 f3 f4 f5 ff
  try clear y0 y1 y2 y3 y4 yf
  try clear xpk xpn xpm xpl xpf
  try clear xck xcn xcm xcl xcf
  try clear xzk xzn xzm xzl xzf
  have H2 : Hid (UB (w1.drewN nq) base bb gB cB gH cH 3 nh s lk ix hs pv dv now D) := H1.out.drewN nq
  have F2 : Hid (UF base w1 (w1.drewN nq)) := F1.out.drewN nq
  generalize hgw : w1.drewN nq = w2 at *
  clear hgw
  have d2a : w2.cell? ⟨db, 0, none⟩ = some (I 2) := (F2.out.cell D1.out (by decide) (by decide) (by decide) (by decide)).trans (by rw [jcell D1.out]; rfl)
  have d2b : w2.cell? ⟨db, 1, none⟩ = some (I K) := (F2.out.cell D1.out (by decide) (by decide) (by decide) (by decide)).trans (by rw [jcell D1.out]; rfl)
  clear nq
  obtain ⟨f0, f1, f2, f3, f4, f5, ff⟩ := H2.out.fb
  obtain ⟨y0, y1, y2, y3, y4, yf⟩ := H2.out.hd hv
  rw [HQ.out] at y1 y2 y3 y4
  dsimp only at y1 y2 y3 y4
  have y1q := y1
  clear y1
  have y1 : w2.cell? ⟨gH, v * 5 + 1, none⟩ = some (I 2) := y1q
  clear y1q
  obtain ⟨xck, xcn, xcm, xcl, xcf⟩ := H2.out.bd (i := c) HCS.out
  rw [hm] at xcm
  have f0q : w2.cell? ⟨bb, 0, none⟩ = some (I 3) := f0
  clear f0
  have H3 := Lib.hid (H2.out.mkset HCS.out)
  obtain ⟨-, -, -, -, y4', yf'⟩ := H3.out.hd hv
  have H4 := Lib.hid (H3.out.iset hv true)
  obtain ⟨-, y1'', -, -, -, yf''⟩ := H4.out.hd hv
  have H5 := Lib.hid (H4.out.aset hv 3)
  have F5 := Lib.hid (((F2.out.trans (H2.out.ufB (c * 4 + 2) (.bool true))).trans (H3.out.ufH (v * 5 + 4) (.bool true))).trans (H4.out.ufH (v * 5 + 1) (I 3)))
  go_wp2
  go_ret
  exact ⟨rfl, ⟨gB, cB, H5.out.hs_eq (by rw [upd_upd, upd_same, HQ.out])⟩, F01.out.trans F5.out⟩
set_option maxRecDepth 100000 in
set_option maxHeartbeats 8000000 in
theorem umark_22m (h : UB w base bb gB cB gH cH 3 nh s lk ix hs pv dv now D) (hv : v < nh) (hq : hs v = ⟨2, p, c, is_⟩) (hps : p < s.sz) (hcs : c < s.sz) (hm : s.mrk c = true) :
    Calls Try.prog 42 #[jp bb, .pointer (some ⟨gH, v * 5, none⟩), .agg #[I 2, I K]] w (RetH base bb gH cH 3 nh ix hs pv dv now D v ⟨s, lk, ⟨0, p, c, is_⟩, .none, false⟩ w) := by
  have hbz := h.bbase
  obtain ⟨w0, hw0⟩ : ∃ x, x = w.alloc (.cells #[I 2, I K] 50) := ⟨_, rfl⟩
  have H0 : Hid (UB w0 base bb gB cB gH cH 3 nh s lk ix hs pv dv now D) := by rw [hw0]; exact h.keep ((Below.refl _ _).alloc (Nat.le_refl _) _)
  have F0 : Hid (UF base w w0) := by rw [hw0]; exact (UF.refl _ _).alloc hbz _
  have D0 : Hid (w0.heap[w.heap.size]? = some (.cells #[I 2, I K] 50 (0, 0))) := by rw [hw0]; exact heap_alloc_new _ _
  obtain ⟨db, hdb⟩ : ∃ x, w.heap.size = x := ⟨_, rfl⟩
  rw [hdb] at D0
  have hc0 : (0 : Int) ≤ (c : Int) := by omega
  have hcz : (c : Int) < (s.sz : Int) := by omega
  have hp0 : (0 : Int) ≤ (p : Int) := by omega
  have hpz : (p : Int) < (s.sz : Int) := by omega
  obtain ⟨f0, f1, f2, f3, f4, f5, ff⟩ := H0.out.fb
  obtain ⟨y0, y1, y2, y3, y4, yf⟩ := H0.out.hd hv
  rw [hq] at y1 y2 y3 y4
  dsimp only at y1 y2 y3 y4
  have HQ := Lib.hid hq
  have HPS := Lib.hid hps
  have HCS := Lib.hid hcs
  clear h hbz hps hcs hq
  go_enter Try.func42, Try.ntmps42
  go_upto_region 1 with fail
  rw [← hw0]
  try rw [hdb]
  clear hw0 hdb
  go_quiet (fail)
  have H1 := Lib.hid (H0.out.drewN nq)
  have F01 := Lib.hid (F0.out.drewN nq)
  have D1 : Hid ((w0.drewN nq).heap[db]? = some (.cells #[I 2, I K] 50 (0, 0))) := D0.out
  clear H0 F0 D0
  try clear f0 f1 f2 f3 f4 f5 ff
  try clear y0 y1 y2 y3 y4 yf
  try clear xpk xpn xpm xpl xpf
  try clear xck xcn xcm xcl xcf
  try clear xzk xzn xzm xzl xzf
  generalize hgw : w0.drewN nq = w1 at *
  clear hgw nq
  have F1 := Lib.hid (UF.refl base w1)
  have d1a : w1.cell? ⟨db, 0, none⟩ = some (I 2) := (F1.out.cell D1.out (by decide) (by decide) (by decide) (by decide)).trans (by rw [jcell D1.out]; rfl)
  have d1b : w1.cell? ⟨db, 1, none⟩ = some (I K) := (F1.out.cell D1.out (by decide) (by decide) (by decide) (by decide)).trans (by rw [jcell D1.out]; rfl)
  obtain ⟨f0, f1, f2, f3, f4, f5, ff⟩ := H1.out.fb
  obtain ⟨y0, y1, y2, y3, y4, yf⟩ := H1.out.hd hv
  rw [HQ.out] at y1 y2 y3 y4
  dsimp only at y1 y2 y3 y4
  have y1q := y1
  clear y1
  have y1 : w1.cell? ⟨gH, v * 5 + 1, none⟩ = some (I 2) := y1q
  clear y1q
  obtain ⟨xck, xcn, xcm, xcl, xcf⟩ := H1.out.bd (i := c) HCS.out
  go_wp2_with fail
  go_quiet (fail)
  try clear f0 f1 f2 f3 f4 f5 ff
  try clear y0 y1 y2 y3 y4 yf
  try clear xpk xpn xpm xpl xpf
  try clear xck xcn xcm xcl xcf
  try clear xzk xzn xzm xzl xzf
  have H2 : Hid (UB (w1.drewN nq) base bb gB cB gH cH 3 nh s lk ix hs pv dv now D) := H1.out.drewN nq
  have F2 : Hid (UF base w1 (w1.drewN nq)) := F1.out.drewN nq
  generalize hgw : w1.drewN nq = w2 at *
  clear hgw
  have d2a : w2.cell? ⟨db, 0, none⟩ = some (I 2) := (F2.out.cell D1.out (by decide) (by decide) (by decide) (by decide)).trans (by rw [jcell D1.out]; rfl)
  have d2b : w2.cell? ⟨db, 1, none⟩ = some (I K) := (F2.out.cell D1.out (by decide) (by decide) (by decide) (by decide)).trans (by rw [jcell D1.out]; rfl)
  clear nq
  obtain ⟨f0, f1, f2, f3, f4, f5, ff⟩ := H2.out.fb
  obtain ⟨y0, y1, y2, y3, y4, yf⟩ := H2.out.hd hv
  rw [HQ.out] at y1 y2 y3 y4
  dsimp only at y1 y2 y3 y4
  have y1q := y1
  clear y1
  have y1 : w2.cell? ⟨gH, v * 5 + 1, none⟩ = some (I 2) := y1q
  clear y1q
  obtain ⟨xck, xcn, xcm, xcl, xcf⟩ := H2.out.bd (i := c) HCS.out
  rw [hm] at xcm
  have f0q : w2.cell? ⟨bb, 0, none⟩ = some (I 3) := f0
  clear f0
  have H3 := Lib.hid (H2.out.aset hv 0)
  have F3 := Lib.hid (F2.out.trans (H2.out.ufH (v * 5 + 1) (I 0)))
  go_wp2
  go_ret
  exact ⟨rfl, ⟨gB, cB, H3.out.hs_eq (by rw [HQ.out])⟩, F01.out.trans F3.out⟩
set_option maxRecDepth 100000 in
set_option maxHeartbeats 8000000 in
theorem umark_3u (h : UB w base bb gB cB gH cH al nh s lk ix hs pv dv now D) (hv : v < nh) (hq : hs v = ⟨3, p, c, is_⟩) (hps : p < s.sz) (hcs : c < s.sz) (hpt : p ≠ s.tl) (hcl : decide (s.mrk p = false ∧ s.nx p = c) = false) :
    Calls Try.prog 42 #[jp bb, .pointer (some ⟨gH, v * 5, none⟩), .agg #[I kd, I K]] w (RetH base bb gH cH al nh ix hs pv dv now D v ⟨s, lk, ⟨3, p, c, is_⟩, .none, true⟩ w) := by
  have hbz := h.bbase
  obtain ⟨w0, hw0⟩ : ∃ x, x = w.alloc (.cells #[I kd, I K] 50) := ⟨_, rfl⟩
  have H0 : Hid (UB w0 base bb gB cB gH cH al nh s lk ix hs pv dv now D) := by rw [hw0]; exact h.keep ((Below.refl _ _).alloc (Nat.le_refl _) _)
  have F0 : Hid (UF base w w0) := by rw [hw0]; exact (UF.refl _ _).alloc hbz _
  have D0 : Hid (w0.heap[w.heap.size]? = some (.cells #[I kd, I K] 50 (0, 0))) := by rw [hw0]; exact heap_alloc_new _ _
  obtain ⟨db, hdb⟩ : ∃ x, w.heap.size = x := ⟨_, rfl⟩
  rw [hdb] at D0
  have hc0 : (0 : Int) ≤ (c : Int) := by omega
  have hcz : (c : Int) < (s.sz : Int) := by omega
  have hp0 : (0 : Int) ≤ (p : Int) := by omega
  have hpz : (p : Int) < (s.sz : Int) := by omega
  obtain ⟨f0, f1, f2, f3, f4, f5, ff⟩ := H0.out.fb
  obtain ⟨y0, y1, y2, y3, y4, yf⟩ := H0.out.hd hv
  rw [hq] at y1 y2 y3 y4
  dsimp only at y1 y2 y3 y4
  have HQ := Lib.hid hq
  have HPS := Lib.hid hps
  have HCS := Lib.hid hcs
  clear h hbz hps hcs hq
  go_enter Try.func42, Try.ntmps42
  go_upto_region 1 with fail
  rw [← hw0]
  try rw [hdb]
  clear hw0 hdb
  go_quiet (fail)
  have H1 := Lib.hid (H0.out.drewN nq)
  have F01 := Lib.hid (F0.out.drewN nq)
  have D1 : Hid ((w0.drewN nq).heap[db]? = some (.cells #[I kd, I K] 50 (0, 0))) := D0.out
  clear H0 F0 D0
  try clear f0 f1 f2 f3 f4 f5 ff
  try clear y0 y1 y2 y3 y4 yf
  try clear xpk xpn xpm xpl xpf
  try clear xck xcn xcm xcl xcf
  try clear xzk xzn xzm xzl xzf
  generalize hgw : w0.drewN nq = w1 at *
  clear hgw nq
  have F1 := Lib.hid (UF.refl base w1)
  have d1a : w1.cell? ⟨db, 0, none⟩ = some (I kd) := (F1.out.cell D1.out (by decide) (by decide) (by decide) (by decide)).trans (by rw [jcell D1.out]; rfl)
  have d1b : w1.cell? ⟨db, 1, none⟩ = some (I K) := (F1.out.cell D1.out (by decide) (by decide) (by decide) (by decide)).trans (by rw [jcell D1.out]; rfl)
  obtain ⟨f0, f1, f2, f3, f4, f5, ff⟩ := H1.out.fb
  obtain ⟨y0, y1, y2, y3, y4, yf⟩ := H1.out.hd hv
  rw [HQ.out] at y1 y2 y3 y4
  dsimp only at y1 y2 y3 y4
  have y1q := y1
  clear y1
  have y1 : w1.cell? ⟨gH, v * 5 + 1, none⟩ = some (I 3) := y1q
  clear y1q
  obtain ⟨xck, xcn, xcm, xcl, xcf⟩ := H1.out.bd (i := c) HCS.out
  go_wp2_with fail
  go_quiet (fail)
  try clear f0 f1 f2 f3 f4 f5 ff
  try clear y0 y1 y2 y3 y4 yf
  try clear xpk xpn xpm xpl xpf
  try clear xck xcn xcm xcl xcf
  try clear xzk xzn xzm xzl xzf
  have H2 : Hid (UB (w1.drewN nq) base bb gB cB gH cH al nh s lk ix hs pv dv now D) := H1.out.drewN nq
  have F2 : Hid (UF base w1 (w1.drewN nq)) := F1.out.drewN nq
  generalize hgw : w1.drewN nq = w2 at *
  clear hgw
  have d2a : w2.cell? ⟨db, 0, none⟩ = some (I kd) := (F2.out.cell D1.out (by decide) (by decide) (by decide) (by decide)).trans (by rw [jcell D1.out]; rfl)
  have d2b : w2.cell? ⟨db, 1, none⟩ = some (I K) := (F2.out.cell D1.out (by decide) (by decide) (by decide) (by decide)).trans (by rw [jcell D1.out]; rfl)
  clear nq
  obtain ⟨f0, f1, f2, f3, f4, f5, ff⟩ := H2.out.fb
  obtain ⟨y0, y1, y2, y3, y4, yf⟩ := H2.out.hd hv
  rw [HQ.out] at y1 y2 y3 y4
  dsimp only at y1 y2 y3 y4
  have y1q := y1
  clear y1
  have y1 : w2.cell? ⟨gH, v * 5 + 1, none⟩ = some (I 3) := y1q
  clear y1q
  have HA2 := Lib.hid (uclean_any (b := false) H2.out hv (by rw [HQ.out]) (by rw [HQ.out]) HPS.out hpt hcl)
  go_wp2_with fail
  refine HA2.out.mono ?_
  rintro e w2' ⟨rfl, nq, rfl⟩
  try clear f0 f1 f2 f3 f4 f5 ff
  try clear y0 y1 y2 y3 y4 yf
  try clear xpk xpn xpm xpl xpf
  try clear xck xcn xcm xcl xcf
  try clear xzk xzn xzm xzl xzf
  have H3 : Hid (UB (w2.drewN nq) base bb gB cB gH cH al nh s lk ix hs pv dv now D) := H2.out.drewN nq
  have F3 : Hid (UF base w1 (w2.drewN nq)) := F2.out.drewN nq
  generalize hgw : w2.drewN nq = w3 at *
  clear hgw
  have d3a : w3.cell? ⟨db, 0, none⟩ = some (I kd) := (F3.out.cell D1.out (by decide) (by decide) (by decide) (by decide)).trans (by rw [jcell D1.out]; rfl)
  have d3b : w3.cell? ⟨db, 1, none⟩ = some (I K) := (F3.out.cell D1.out (by decide) (by decide) (by decide) (by decide)).trans (by rw [jcell D1.out]; rfl)
  obtain ⟨f0, f1, f2, f3, f4, f5, ff⟩ := H3.out.fb
  obtain ⟨y0, y1, y2, y3, y4, yf⟩ := H3.out.hd hv
  rw [HQ.out] at y1 y2 y3 y4
  dsimp only at y1 y2 y3 y4
  have y1q := y1
  clear y1
  have y1 : w3.cell? ⟨gH, v * 5 + 1, none⟩ = some (I 3) := y1q
  clear y1q
  go_wp2
  go_ret
  exact ⟨rfl, ⟨gB, cB, H3.out.hs_eq (by rw [← HQ.out, upd_id])⟩, F01.out.trans F3.out⟩
set_option maxRecDepth 100000 in
set_option maxHeartbeats 8000000 in
theorem umark_3c (h : UB w base bb gB cB gH cH al nh s lk ix hs pv dv now D) (hv : v < nh) (hq : hs v = ⟨3, p, c, is_⟩) (hps : p < s.sz) (hcs : c < s.sz) (hpt : p ≠ s.tl) (hcl : decide (s.mrk p = false ∧ s.nx p = c) = true) (hct : c ≠ s.tl) :
    Calls Try.prog 42 #[jp bb, .pointer (some ⟨gH, v * 5, none⟩), .agg #[I kd, I K]] w (RetH base bb gH cH al nh ix hs pv dv now D v ⟨s.cut p c, lk, ⟨3, p, c, is_⟩, .none, true⟩ w) := by
  have hbz := h.bbase
  obtain ⟨w0, hw0⟩ : ∃ x, x = w.alloc (.cells #[I kd, I K] 50) := ⟨_, rfl⟩
  have H0 : Hid (UB w0 base bb gB cB gH cH al nh s lk ix hs pv dv now D) := by rw [hw0]; exact h.keep ((Below.refl _ _).alloc (Nat.le_refl _) _)
  have F0 : Hid (UF base w w0) := by rw [hw0]; exact (UF.refl _ _).alloc hbz _
  have D0 : Hid (w0.heap[w.heap.size]? = some (.cells #[I kd, I K] 50 (0, 0))) := by rw [hw0]; exact heap_alloc_new _ _
  obtain ⟨db, hdb⟩ : ∃ x, w.heap.size = x := ⟨_, rfl⟩
  rw [hdb] at D0
  have hc0 : (0 : Int) ≤ (c : Int) := by omega
  have hcz : (c : Int) < (s.sz : Int) := by omega
  have hp0 : (0 : Int) ≤ (p : Int) := by omega
  have hpz : (p : Int) < (s.sz : Int) := by omega
  obtain ⟨f0, f1, f2, f3, f4, f5, ff⟩ := H0.out.fb
  obtain ⟨y0, y1, y2, y3, y4, yf⟩ := H0.out.hd hv
  rw [hq] at y1 y2 y3 y4
  dsimp only at y1 y2 y3 y4
  have HQ := Lib.hid hq
  have HPS := Lib.hid hps
  have HCS := Lib.hid hcs
  clear h hbz hps hcs hq
  go_enter Try.func42, Try.ntmps42
  go_upto_region 1 with fail
  rw [← hw0]
  try rw [hdb]
  clear hw0 hdb
  go_quiet (fail)
  have H1 := Lib.hid (H0.out.drewN nq)
  have F01 := Lib.hid (F0.out.drewN nq)
  have D1 : Hid ((w0.drewN nq).heap[db]? = some (.cells #[I kd, I K] 50 (0, 0))) := D0.out
  clear H0 F0 D0
  try clear f0 f1 f2 f3 f4 f5 ff
  try clear y0 y1 y2 y3 y4 yf
  try clear xpk xpn xpm xpl xpf
  try clear xck xcn xcm xcl xcf
  try clear xzk xzn xzm xzl xzf
  generalize hgw : w0.drewN nq = w1 at *
  clear hgw nq
  have F1 := Lib.hid (UF.refl base w1)
  have d1a : w1.cell? ⟨db, 0, none⟩ = some (I kd) := (F1.out.cell D1.out (by decide) (by decide) (by decide) (by decide)).trans (by rw [jcell D1.out]; rfl)
  have d1b : w1.cell? ⟨db, 1, none⟩ = some (I K) := (F1.out.cell D1.out (by decide) (by decide) (by decide) (by decide)).trans (by rw [jcell D1.out]; rfl)
  obtain ⟨f0, f1, f2, f3, f4, f5, ff⟩ := H1.out.fb
  obtain ⟨y0, y1, y2, y3, y4, yf⟩ := H1.out.hd hv
  rw [HQ.out] at y1 y2 y3 y4
  dsimp only at y1 y2 y3 y4
  have y1q := y1
  clear y1
  have y1 : w1.cell? ⟨gH, v * 5 + 1, none⟩ = some (I 3) := y1q
  clear y1q
  obtain ⟨xck, xcn, xcm, xcl, xcf⟩ := H1.out.bd (i := c) HCS.out
  go_wp2_with fail
  go_quiet (fail)
  try clear f0 f1 f2 f3 f4 f5 ff
  try clear y0 y1 y2 y3 y4 yf
  try clear xpk xpn xpm xpl xpf
  try clear xck xcn xcm xcl xcf
  try clear xzk xzn xzm xzl xzf
  have H2 : Hid (UB (w1.drewN nq) base bb gB cB gH cH al nh s lk ix hs pv dv now D) := H1.out.drewN nq
  have F2 : Hid (UF base w1 (w1.drewN nq)) := F1.out.drewN nq
  generalize hgw : w1.drewN nq = w2 at *
  clear hgw
  have d2a : w2.cell? ⟨db, 0, none⟩ = some (I kd) := (F2.out.cell D1.out (by decide) (by decide) (by decide) (by decide)).trans (by rw [jcell D1.out]; rfl)
  have d2b : w2.cell? ⟨db, 1, none⟩ = some (I K) := (F2.out.cell D1.out (by decide) (by decide) (by decide) (by decide)).trans (by rw [jcell D1.out]; rfl)
  clear nq
  obtain ⟨f0, f1, f2, f3, f4, f5, ff⟩ := H2.out.fb
  obtain ⟨y0, y1, y2, y3, y4, yf⟩ := H2.out.hd hv
  rw [HQ.out] at y1 y2 y3 y4
  dsimp only at y1 y2 y3 y4
  have y1q := y1
  clear y1
  have y1 : w2.cell? ⟨gH, v * 5 + 1, none⟩ = some (I 3) := y1q
  clear y1q
  have HA2 := Lib.hid (uclean_any (b := true) H2.out hv (by rw [HQ.out]) (by rw [HQ.out]) HPS.out hpt hcl)
  go_wp2_with fail
  refine HA2.out.mono ?_
  rintro e w2' ⟨rfl, nq, rfl⟩
  try clear f0 f1 f2 f3 f4 f5 ff
  try clear y0 y1 y2 y3 y4 yf
  try clear xpk xpn xpm xpl xpf
  try clear xck xcn xcm xcl xcf
  try clear xzk xzn xzm xzl xzf
  have H3 : Hid (UB (w2.drewN nq) base bb gB cB gH cH al nh s lk ix hs pv dv now D) := H2.out.drewN nq
  have F3 : Hid (UF base w1 (w2.drewN nq)) := F2.out.drewN nq
  generalize hgw : w2.drewN nq = w3 at *
  clear hgw
  have d3a : w3.cell? ⟨db, 0, none⟩ = some (I kd) := (F3.out.cell D1.out (by decide) (by decide) (by decide) (by decide)).trans (by rw [jcell D1.out]; rfl)
  have d3b : w3.cell? ⟨db, 1, none⟩ = some (I K) := (F3.out.cell D1.out (by decide) (by decide) (by decide) (by decide)).trans (by rw [jcell D1.out]; rfl)
  obtain ⟨f0, f1, f2, f3, f4, f5, ff⟩ := H3.out.fb
  obtain ⟨y0, y1, y2, y3, y4, yf⟩ := H3.out.hd hv
  rw [HQ.out] at y1 y2 y3 y4
  dsimp only at y1 y2 y3 y4
  have y1q := y1
  clear y1
  have y1 : w3.cell? ⟨gH, v * 5 + 1, none⟩ = some (I 3) := y1q
  clear y1q
  obtain ⟨xpk, xpn, xpm, xpl, xpf⟩ := H3.out.bd (i := p) HPS.out
  obtain ⟨xck, xcn, xcm, xcl, xcf⟩ := H3.out.bd (i := c) HCS.out
  rw [nxI_ne hct] at xcn
  go_wp2_with fail
  go_region
  all_goals
    (try clear f0 f1 f2 f3 f4 f5 ff
     try clear y0 y1 y2 y3 y4 yf
     try clear xpk xpn xpm xpl xpf
     try clear xck xcn xcm xcl xcf
     try clear xzk xzn xzm xzl xzf
     have H4 : Hid (UB ((w3.setCell ⟨gB, p * 4 + 1, none⟩ (I (s.nx c))).drew) base bb gB cB gH cH al nh (s.cut p c) lk ix hs pv dv now D) := (H3.out.nxset HPS.out hpt (s.nx c)).drew
     have F4 : Hid (UF base w1 ((w3.setCell ⟨gB, p * 4 + 1, none⟩ (I (s.nx c))).drew)) := (F3.out.trans (H3.out.ufB _ _)).drew
     generalize hgw : (w3.setCell ⟨gB, p * 4 + 1, none⟩ (I (s.nx c))).drew = w4 at *
     clear hgw
     have d4a : w4.cell? ⟨db, 0, none⟩ = some (I kd) := (F4.out.cell D1.out (by decide) (by decide) (by decide) (by decide)).trans (by rw [jcell D1.out]; rfl)
     have d4b : w4.cell? ⟨db, 1, none⟩ = some (I K) := (F4.out.cell D1.out (by decide) (by decide) (by decide) (by decide)).trans (by rw [jcell D1.out]; rfl)
     go_wp2
     go_ret
     exact ⟨rfl, ⟨gB, cB, H4.out.hs_eq (by rw [← HQ.out, upd_id])⟩, F01.out.trans F4.out⟩)
end
end Go.Proofs.Ytfmdpmebllepeaa

/-
  hedgref's Bench: a step of a hand whatever the way, beside the plain step.
-/
namespace Go.Proofs.Ytfmdpmebllepeaa
open Go.RowKit

section
variable {w : World} {base bb gB cB gH cH nh : Nat} {s : Bs} {lk : Nat → Bool} {ix : Nat → Nat} {hs : Nat → Hd} {pv dv : Value} {now : Nat} {D : List Dn} {v : Nat} {kd K : Int}
theorem uover_any (h : UB w base bb gB cB gH cH 1 nh s lk ix hs pv dv now D) (hv : v < nh) (hj : JC 1 s lk (hs v) kd K) (hps : (hs v).p < s.sz) (hcs : (hs v).c < s.sz) (hsz : s.sz ≤ 10000) :
    Calls Try.prog 40 #[jp bb, .pointer (some ⟨gH, v * 5, none⟩), .agg #[I kd, I K]] w (RetH base bb gH cH 1 nh ix hs pv dv now D v (overS s lk (hs v) kd K) w) := by
  obtain ⟨q, hq⟩ : ∃ q, hs v = q := ⟨_, rfl⟩
  rw [hq] at hj hps hcs
  rw [hq]
  obtain ⟨a, p, c, i⟩ := q
  obtain ⟨hc, hm⟩ : Cor1 s ∧ KI s ⟨a, p, c, i⟩ K := by
    rcases hj.c with ⟨_, a, b⟩ | ⟨e, _⟩ | ⟨e, _⟩ | ⟨e, _⟩
    · exact ⟨a, b⟩
    all_goals omega
  obtain ⟨hK, hkd⟩ := hj.d
  have hl0 := hj.lk0
  have hC := hc.cor
  have ht := hC.tlt
  have h0t : 0 ≠ s.tl := fun e => hC.hd e.symm
  have hkt := hC.kt
  have hle : a ≤ 2 := hm.le
  simp only at hps hcs
  rcases (show a = 0 ∨ a = 1 ∨ a = 2 by omega) with rfl | rfl | rfl
  · cases hl : lk 0 with
    | false =>
      rw [show overS s lk ⟨0, p, c, i⟩ kd K = ⟨s, upd lk 0 true, ⟨1, 0, s.nx 0, i⟩, .none, false⟩ by simp [overS, hl]]
      exact uover_0f h hv hq hps hcs ht h0t hl
    | true =>
      rw [show overS s lk ⟨0, p, c, i⟩ kd K = ⟨s, lk, ⟨0, p, c, i⟩, .none, false⟩ by simp [overS, hl]]
      exact uover_0t h hv hq hps hcs ht h0t hl
  · cases hl : lk c with
    | false =>
      rw [show overS s lk ⟨1, p, c, i⟩ kd K = ⟨s, upd lk c true, ⟨2, p, c, i⟩, .none, false⟩ by simp [overS, hl]]
      exact uover_1f h hv hq hps hcs hl
    | true =>
      rw [show overS s lk ⟨1, p, c, i⟩ kd K = ⟨s, lk, ⟨1, p, c, i⟩, .none, false⟩ by simp [overS, hl]]
      exact uover_1t h hv hq hps hcs hl
  · obtain ⟨_, kp, mp, np⟩ := hm.pc (by simp)
    simp only at kp mp np
    have hpt : p ≠ s.tl := fun e => by rw [e, hkt] at kp; omega
    by_cases hlt : s.key c < K
    · have hct : c ≠ s.tl := fun e => by rw [e, hkt] at hlt; omega
      rw [show overS s lk ⟨2, p, c, i⟩ kd K = ⟨s, upd lk p false, ⟨1, c, s.nx c, i⟩, .none, false⟩ by simp [overS, hlt]]
      exact uover_2l h hv hq hps hcs hct hlt
    · by_cases he : s.key c = K
      · have hct : c ≠ s.tl := fun e => by rw [e, hkt] at he; omega
        rcases hkd with rfl | rfl | rfl
        · rw [show overS s lk ⟨2, p, c, i⟩ 1 K = ⟨s, fre lk ⟨9, p, c, false⟩, ⟨2, p, c, false⟩, .none, true⟩ by simp [overS, he, fre]]
          exact uover_21e h hv hq hps hcs hlt he
        · rw [show overS s lk ⟨2, p, c, i⟩ 2 K = ⟨(s.mark c).cut p c, fre lk ⟨9, p, c, false⟩, ⟨2, p, c, true⟩, .del K, true⟩ by simp [overS, he, fre]]
          exact uover_22e h hv hq hps hcs hlt he hpt hct
        · rw [show overS s lk ⟨2, p, c, i⟩ 3 K = ⟨s, fre lk ⟨9, p, c, false⟩, ⟨2, p, c, true⟩, .none, true⟩ by simp [overS, he, fre]]
          exact uover_23e h hv hq hps hcs hlt he
      · rcases hkd with rfl | rfl | rfl
        · rw [show overS s lk ⟨2, p, c, i⟩ 1 K = ⟨s.insc p c K, fre lk ⟨9, p, c, false⟩, ⟨2, p, c, true⟩, .add K, true⟩ by rw [insc_ins np]; simp [overS, he, hlt, fre]]
          exact uover_21n h hv hq hps hcs hlt he hpt ht hl0 hsz
        · rw [show overS s lk ⟨2, p, c, i⟩ 2 K = ⟨s, fre lk ⟨9, p, c, false⟩, ⟨2, p, c, false⟩, .none, true⟩ by simp [overS, he, hlt, fre]]
          exact uover_22n h hv hq hps hcs hlt he
        · rw [show overS s lk ⟨2, p, c, i⟩ 3 K = ⟨s, fre lk ⟨9, p, c, false⟩, ⟨2, p, c, false⟩, .none, true⟩ by simp [overS, he, hlt, fre]]
          exact uover_23n h hv hq hps hcs hlt he
theorem ulazy_any (h : UB w base bb gB cB gH cH 2 nh s lk ix hs pv dv now D) (hv : v < nh) (hj : JC 2 s lk (hs v) kd K) (hps : (hs v).p < s.sz) (hcs : (hs v).c < s.sz) (hsz : s.sz ≤ 10000) :
    Calls Try.prog 41 #[jp bb, .pointer (some ⟨gH, v * 5, none⟩), .agg #[I kd, I K]] w (RetH base bb gH cH 2 nh ix hs pv dv now D v (lazyS s lk (hs v) kd K) w) := by
  obtain ⟨q, hq⟩ : ∃ q, hs v = q := ⟨_, rfl⟩
  rw [hq] at hj hps hcs
  rw [hq]
  obtain ⟨a, p, c, i⟩ := q
  obtain ⟨hC, g, hm⟩ : Cor s ∧ ∃ g, LI s ⟨a, p, c, i⟩ kd K g := by
    rcases hj.c with ⟨e, _⟩ | ⟨_, a, b⟩ | ⟨e, _⟩ | ⟨e, _⟩
    · omega
    · exact ⟨a, b⟩
    all_goals omega
  obtain ⟨hK, hkd⟩ := hj.d
  have hl0 := hj.lk0
  have ht := hC.tlt
  have h0t : 0 ≠ s.tl := fun e => hC.hd e.symm
  have hkt := hC.kt
  have hle : a ≤ 5 := hm.le
  simp only at hps hcs
  have hpt : a ≠ 0 → p ≠ s.tl := fun h0 e => by
    obtain ⟨_, _, k⟩ := hm.pc h0
    simp only at k
    rw [e, hkt] at k
    omega
  rcases (show a = 0 ∨ a = 1 ∨ a = 2 ∨ a = 3 ∨ a = 4 ∨ a = 5 by omega) with rfl | rfl | rfl | rfl | rfl | rfl
  · rw [show lazyS s lk ⟨0, p, c, i⟩ kd K = ⟨s, lk, ⟨1, 0, s.nx 0, i⟩, .none, false⟩ by simp [lazyS]]
    exact ulazy_0 h hv hq hps hcs ht h0t
  · by_cases hlt : s.key c < K
    · have hct : c ≠ s.tl := fun e => by rw [e, hkt] at hlt; omega
      rw [show lazyS s lk ⟨1, p, c, i⟩ kd K = ⟨s, lk, ⟨1, c, s.nx c, i⟩, .none, false⟩ by simp [lazyS, hlt]]
      exact ulazy_1l h hv hq hps hcs hct hlt
    · by_cases hk3 : kd = 3
      · subst hk3
        by_cases he : s.key c = K
        · cases hmk : s.mrk c with
          | true =>
            rw [show lazyS s lk ⟨1, p, c, i⟩ 3 K = ⟨s, lk, ⟨1, p, c, false⟩, .none, true⟩ by simp [lazyS, he, hmk]]
            exact ulazy_13m h hv hq hps hcs hlt he hmk
          | false =>
            rw [show lazyS s lk ⟨1, p, c, i⟩ 3 K = ⟨s, lk, ⟨1, p, c, true⟩, .none, true⟩ by simp [lazyS, he, hmk]]
            exact ulazy_13e h hv hq hps hcs hlt he hmk
        · rw [show lazyS s lk ⟨1, p, c, i⟩ 3 K = ⟨s, lk, ⟨1, p, c, false⟩, .none, true⟩ by simp [lazyS, he, hlt]]
          exact ulazy_13n h hv hq hps hcs hlt he
      · cases hl : lk p with
        | false =>
          rw [show lazyS s lk ⟨1, p, c, i⟩ kd K = ⟨s, upd lk p true, ⟨3, p, c, i⟩, .none, false⟩ by simp [lazyS, hlt, hk3, hl]]
          exact ulazy_12 h hv hq hps hcs hlt hk3 rfl fun w' h' => ulazy_2f h' hv (upd_same _ _ _) hps hcs hl
        | true =>
          rw [show lazyS s lk ⟨1, p, c, i⟩ kd K = ⟨s, lk, ⟨2, p, c, i⟩, .none, false⟩ by simp [lazyS, hlt, hk3, hl]]
          exact ulazy_12 h hv hq hps hcs hlt hk3 rfl fun w' h' => ulazy_2t h' hv (upd_same _ _ _) hps hcs hl
  · cases hl : lk p with
    | false =>
      rw [show lazyS s lk ⟨2, p, c, i⟩ kd K = ⟨s, upd lk p true, ⟨3, p, c, i⟩, .none, false⟩ by simp [lazyS, hl]]
      exact ulazy_2f h hv hq hps hcs hl
    | true =>
      rw [show lazyS s lk ⟨2, p, c, i⟩ kd K = ⟨s, lk, ⟨2, p, c, i⟩, .none, false⟩ by simp [lazyS, hl]]
      exact ulazy_2t h hv hq hps hcs hl
  · cases hl : lk c with
    | false =>
      rw [show lazyS s lk ⟨3, p, c, i⟩ kd K = ⟨s, upd lk c true, ⟨4, p, c, i⟩, .none, false⟩ by simp [lazyS, hl]]
      exact ulazy_3f h hv hq hps hcs hl
    | true =>
      rw [show lazyS s lk ⟨3, p, c, i⟩ kd K = ⟨s, lk, ⟨3, p, c, i⟩, .none, false⟩ by simp [lazyS, hl]]
      exact ulazy_3t h hv hq hps hcs hl
  · have hpt4 := hpt (by decide)
    obtain ⟨hkc, hk3⟩ := hm.two (by simp)
    simp only at hkc
    cases hmp : s.mrk p with
    | true =>
      rw [show lazyS s lk ⟨4, p, c, i⟩ kd K = ⟨s, fre lk ⟨9, p, c, false⟩, ⟨0, p, c, i⟩, .none, false⟩ by simp [lazyS, hmp, fre]]
      exact ulazy_4p h hv hq hps hcs hmp
    | false =>
      cases hmc : s.mrk c with
      | true =>
        rw [show lazyS s lk ⟨4, p, c, i⟩ kd K = ⟨s, fre lk ⟨9, p, c, false⟩, ⟨0, p, c, i⟩, .none, false⟩ by simp [lazyS, hmp, hmc, fre]]
        exact ulazy_4c h hv hq hps hcs hmp hmc
      | false =>
        by_cases hn : s.nx p = c
        · by_cases he : s.key c = K
          · rcases hkd with rfl | rfl | rfl
            · rw [show lazyS s lk ⟨4, p, c, i⟩ 1 K = ⟨s, fre lk ⟨9, p, c, false⟩, ⟨4, p, c, false⟩, .none, true⟩ by simp [lazyS, hmp, hmc, hn, he, fre]]
              exact ulazy_41e h hv hq hps hcs hmp hmc hn he hpt4
            · rw [show lazyS s lk ⟨4, p, c, i⟩ 2 K = ⟨s.mark c, lk, ⟨5, p, c, true⟩, .del K, false⟩ by simp [lazyS, hmp, hmc, hn, he, fre]]
              exact ulazy_42e h hv hq hps hcs hmp hmc hn he hpt4
            · exact absurd rfl hk3
          · rcases hkd with rfl | rfl | rfl
            · rw [show lazyS s lk ⟨4, p, c, i⟩ 1 K = ⟨s.insc p c K, fre lk ⟨9, p, c, false⟩, ⟨4, p, c, true⟩, .add K, true⟩ by rw [insc_ins hn]; simp [lazyS, hmp, hmc, hn, he, fre]]
              exact ulazy_41n h hv hq hps hcs hmp hmc hn he hpt4 ht hl0 hsz
            · rw [show lazyS s lk ⟨4, p, c, i⟩ 2 K = ⟨s, fre lk ⟨9, p, c, false⟩, ⟨4, p, c, false⟩, .none, true⟩ by simp [lazyS, hmp, hmc, hn, he, fre]]
              exact ulazy_42n h hv hq hps hcs hmp hmc hn he hpt4
            · exact absurd rfl hk3
        · rw [show lazyS s lk ⟨4, p, c, i⟩ kd K = ⟨s, fre lk ⟨9, p, c, false⟩, ⟨0, p, c, i⟩, .none, false⟩ by simp [lazyS, hmp, hmc, hn, fre]]
          exact ulazy_4n h hv hq hps hcs hmp hmc hpt4 hn
  · obtain ⟨_, kc, _⟩ := hm.five rfl
    simp only at kc
    have hct : c ≠ s.tl := fun e => by rw [e, hkt] at kc; omega
    rw [show lazyS s lk ⟨5, p, c, i⟩ kd K = ⟨s.cut p c, fre lk ⟨9, p, c, false⟩, ⟨5, p, c, i⟩, .none, true⟩ by simp [lazyS, fre]]
    exact ulazy_5 h hv hq hps hcs (hpt (by decide)) hct
theorem umark_any (h : UB w base bb gB cB gH cH 3 nh s lk ix hs pv dv now D) (hv : v < nh) (hj : JC 3 s lk (hs v) kd K) (hps : (hs v).p < s.sz) (hcs : (hs v).c < s.sz) (hsz : s.sz ≤ 10000) :
    Calls Try.prog 42 #[jp bb, .pointer (some ⟨gH, v * 5, none⟩), .agg #[I kd, I K]] w (RetH base bb gH cH 3 nh ix hs pv dv now D v (aMark.step s lk (hs v) kd K) w) := by
  obtain ⟨q, hq⟩ : ∃ q, hs v = q := ⟨_, rfl⟩
  rw [hq] at hj hps hcs
  rw [hq]
  obtain ⟨a, p, c, i⟩ := q
  obtain ⟨hC, g, hm⟩ : Cor s ∧ ∃ g, MI s ⟨a, p, c, i⟩ kd K g := by
    rcases hj.c with ⟨e, _⟩ | ⟨e, _⟩ | ⟨_, a, b⟩ | ⟨e, _⟩
    · omega
    · omega
    · exact ⟨a, b⟩
    · omega
  obtain ⟨hK, hkd⟩ := hj.d
  have hl0 := hj.lk0
  have ht := hC.tlt
  have h0t : 0 ≠ s.tl := fun e => hC.hd e.symm
  have hkt := hC.kt
  have hle : a ≤ 3 := hm.le
  simp only at hps hcs
  have hpt : a ≠ 0 → p ≠ s.tl := fun h0 e => by
    obtain ⟨_, _, k⟩ := hm.pc h0
    simp only at k
    rw [e, hkt] at k
    omega
  have hst : ∀ {r : Res}, markS s ⟨a, p, c, i⟩ kd K = r → aMark.step s lk ⟨a, p, c, i⟩ kd K = ⟨r.s, lk, r.h, r.e, r.over⟩ := fun {r} e => by rw [← e]; rfl
  have hcl : clean s ⟨a, p, c, i⟩ ↔ (s.mrk p = false ∧ s.nx p = c) := Iff.rfl
  rcases (show a = 0 ∨ a = 1 ∨ a = 2 ∨ a = 3 by omega) with rfl | rfl | rfl | rfl
  · rw [hst (r := ⟨s, ⟨1, 0, s.nx 0, i⟩, .none, false⟩) (by simp [markS])]
    exact umark_0 h hv hq hps hcs ht h0t
  · by_cases hmk : s.mrk c = true ∧ kd ≠ 3
    · have hct : c ≠ s.tl := fun e => by have := hC.mt; rw [← e, hmk.1] at this; cases this
      by_cases hcn : s.mrk p = false ∧ s.nx p = c
      · rw [hst (r := ⟨s.cut p c, ⟨1, p, s.nx c, i⟩, .none, false⟩) (by unfold markS; rw [if_neg (by simp), if_pos rfl, if_pos hmk, if_pos (hcl.mpr hcn)])]
        exact umark_1c h hv hq hps hcs hmk.1 hmk.2 (hpt (by decide)) (decide_eq_true hcn) hct
      · rw [hst (r := ⟨s, ⟨0, p, c, i⟩, .none, false⟩) (by unfold markS; rw [if_neg (by simp), if_pos rfl, if_pos hmk, if_neg (fun e => hcn (hcl.mp e))])]
        exact umark_1u h hv hq hps hcs hmk.1 hmk.2 (hpt (by decide)) (decide_eq_false hcn)
    · by_cases hlt : s.key c < K
      · have hct : c ≠ s.tl := fun e => by rw [e, hkt] at hlt; omega
        rw [hst (r := ⟨s, ⟨1, c, s.nx c, i⟩, .none, false⟩) (by unfold markS; rw [if_neg (by simp), if_pos rfl, if_neg hmk, if_pos hlt])]
        cases hm1 : s.mrk c with
        | false => exact umark_1l h hv hq hps hcs hct hlt hm1
        | true =>
          have hk3 : kd = 3 := Classical.byContradiction fun e => hmk ⟨hm1, e⟩
          subst hk3
          exact umark_1l3 h hv hq hps hcs hct hlt hm1
      · rcases hkd with rfl | rfl | rfl
        · have hm1 : s.mrk c = false := by
            cases e : s.mrk c with
            | false => rfl
            | true => exact absurd ⟨e, by decide⟩ hmk
          by_cases he : s.key c = K
          · rw [hst (r := ⟨s, ⟨1, p, c, false⟩, .none, true⟩) (by unfold markS; rw [if_neg (by simp), if_pos rfl, if_neg hmk, if_neg hlt, if_neg (by simp), if_pos (.inl ⟨rfl, he⟩)])]
            exact umark_11e h hv hq hps hcs hlt he hm1
          · rw [hst (r := ⟨s, ⟨2, p, c, i⟩, .none, false⟩) (by unfold markS; rw [if_neg (by simp), if_pos rfl, if_neg hmk, if_neg hlt, if_neg (by simp), if_neg (fun e => by rcases e with e | e; exact he e.2; exact absurd e.1 (by decide))])]
            exact umark_11n h hv hq hps hcs hlt he hm1
        · have hm1 : s.mrk c = false := by
            cases e : s.mrk c with
            | false => rfl
            | true => exact absurd ⟨e, by decide⟩ hmk
          by_cases he : s.key c = K
          · rw [hst (r := ⟨s, ⟨2, p, c, i⟩, .none, false⟩) (by unfold markS; rw [if_neg (by simp), if_pos rfl, if_neg hmk, if_neg hlt, if_neg (by simp), if_neg (fun e => by rcases e with e | e; exact absurd e.1 (by decide); exact e.2 he)])]
            exact umark_12e h hv hq hps hcs hlt he hm1
          · rw [hst (r := ⟨s, ⟨1, p, c, false⟩, .none, true⟩) (by unfold markS; rw [if_neg (by simp), if_pos rfl, if_neg hmk, if_neg hlt, if_neg (by simp), if_pos (.inr ⟨rfl, he⟩)])]
            exact umark_12n h hv hq hps hcs hlt he hm1
        · rw [hst (r := ⟨s, ⟨1, p, c, decide (s.key c = K) && !s.mrk c⟩, .none, true⟩) (by unfold markS; rw [if_neg (by simp), if_pos rfl, if_neg hmk, if_neg hlt, if_pos rfl])]
          by_cases he : s.key c = K
          · cases hm1 : s.mrk c with
            | false => rw [decide_eq_true he]; exact umark_13e h hv hq hps hcs hlt he hm1
            | true => rw [decide_eq_true he]; exact umark_13em h hv hq hps hcs hlt he hm1
          · cases hm1 : s.mrk c with
            | false => rw [decide_eq_false he]; exact umark_13n h hv hq hps hcs hlt he hm1
            | true => rw [decide_eq_false he]; exact umark_13nm h hv hq hps hcs hlt he hm1
  · have hpt2 := hpt (by decide)
    rcases hm.two rfl with ⟨rfl, hkc⟩ | ⟨rfl, hkc⟩
    · by_cases hcn : s.mrk p = false ∧ s.nx p = c
      · rw [hst (r := ⟨s.insc p c K, ⟨2, p, c, true⟩, .add K, true⟩) (by unfold markS; rw [if_neg (by simp), if_neg (by simp), if_pos rfl, if_pos ⟨rfl, hcl.mpr hcn⟩, insc_ins hcn.2])]
        exact umark_21c h hv hq hps hcs hpt2 (decide_eq_true hcn) ht hl0 hsz
      · rw [hst (r := ⟨s, ⟨0, p, c, i⟩, .none, false⟩) (by unfold markS; rw [if_neg (by simp), if_neg (by simp), if_pos rfl, if_neg (fun e => hcn (hcl.mp e.2)), if_neg (fun e => absurd e.1 (by decide))])]
        exact umark_21u h hv hq hps hcs hpt2 (decide_eq_false hcn)
    · cases hm1 : s.mrk c with
      | false =>
        rw [hst (r := ⟨s.mark c, ⟨3, p, c, true⟩, .del K, false⟩) (by unfold markS; rw [if_neg (by simp), if_neg (by simp), if_pos rfl, if_neg (fun e => absurd e.1 (by decide)), if_pos ⟨rfl, hm1⟩])]
        exact umark_22e h hv hq hps hcs hm1
      | true =>
        rw [hst (r := ⟨s, ⟨0, p, c, i⟩, .none, false⟩) (by unfold markS; rw [if_neg (by simp), if_neg (by simp), if_pos rfl, if_neg (fun e => absurd e.1 (by decide)), if_neg (fun e => by rw [hm1] at e; exact absurd e.2 (by decide))])]
        exact umark_22m h hv hq hps hcs hm1
  · obtain ⟨_, kc, _⟩ := hm.three rfl
    simp only at kc
    have hct : c ≠ s.tl := fun e => by rw [e, hkt] at kc; omega
    by_cases hcn : s.mrk p = false ∧ s.nx p = c
    · rw [hst (r := ⟨s.cut p c, ⟨3, p, c, i⟩, .none, true⟩) (by unfold markS; rw [if_neg (by simp), if_neg (by simp), if_neg (by simp), if_pos (hcl.mpr hcn)])]
      exact umark_3c h hv hq hps hcs (hpt (by decide)) (decide_eq_true hcn) hct
    · rw [hst (r := ⟨s, ⟨3, p, c, i⟩, .none, true⟩) (by unfold markS; rw [if_neg (by simp), if_neg (by simp), if_neg (by simp), if_neg (fun e => hcn (hcl.mp e))])]
      exact umark_3u h hv hq hps hcs (hpt (by decide)) (decide_eq_false hcn)
theorem unaive_any (h : UB w base bb gB cB gH cH 4 nh s lk ix hs pv dv now D) (hv : v < nh) (hj : JC 4 s lk (hs v) kd K) (hps : (hs v).p < s.sz) (hcs : (hs v).c < s.sz) (hsz : s.sz ≤ 10000) :
    Calls Try.prog 42 #[jp bb, .pointer (some ⟨gH, v * 5, none⟩), .agg #[I kd, I K]] w (RetH base bb gH cH 4 nh ix hs pv dv now D v (aNaive.step s lk (hs v) kd K) w) := by
  obtain ⟨q, hq⟩ : ∃ q, hs v = q := ⟨_, rfl⟩
  rw [hq] at hj hps hcs
  rw [hq]
  obtain ⟨a, p, c, i⟩ := q
  obtain ⟨hC, hm⟩ : NCor s ∧ NI s ⟨a, p, c, i⟩ kd K := by
    rcases hj.c with ⟨e, _⟩ | ⟨e, _⟩ | ⟨e, _⟩ | ⟨_, a, b⟩
    · omega
    · omega
    · omega
    · exact ⟨a, b⟩
  obtain ⟨hK, hkd⟩ := hj.d
  have hl0 := hj.lk0
  have ht := hC.tlt
  have h0t : 0 ≠ s.tl := fun e => hC.hd e.symm
  have hkt := hC.kt
  have hm1 := hC.um c
  have hle : a ≤ 2 := hm.le
  simp only at hps hcs
  have hpt : a ≠ 0 → p ≠ s.tl := fun h0 e => by
    obtain ⟨_, _, k⟩ := hm.pc h0
    simp only at k
    rw [e, hkt] at k
    omega
  have hst : ∀ {r : Res}, naiveS s ⟨a, p, c, i⟩ kd K = r → aNaive.step s lk ⟨a, p, c, i⟩ kd K = ⟨r.s, lk, r.h, r.e, r.over⟩ := fun {r} e => by rw [← e]; rfl
  rcases (show a = 0 ∨ a = 1 ∨ a = 2 by omega) with rfl | rfl | rfl
  · rw [hst (r := ⟨s, ⟨1, 0, s.nx 0, i⟩, .none, false⟩) (by simp [naiveS])]
    exact umark_0 h hv hq hps hcs ht h0t
  · by_cases hlt : s.key c < K
    · have hct : c ≠ s.tl := fun e => by rw [e, hkt] at hlt; omega
      rw [hst (r := ⟨s, ⟨1, c, s.nx c, i⟩, .none, false⟩) (by simp [naiveS, hlt])]
      exact umark_1l h hv hq hps hcs hct hlt hm1
    · rcases hkd with rfl | rfl | rfl
      · by_cases he : s.key c = K
        · rw [hst (r := ⟨s, ⟨1, p, c, false⟩, .none, true⟩) (by simp [naiveS, he])]
          exact umark_11e h hv hq hps hcs hlt he hm1
        · rw [hst (r := ⟨s, ⟨2, p, c, i⟩, .none, false⟩) (by simp [naiveS, he, hlt])]
          exact umark_11n h hv hq hps hcs hlt he hm1
      · by_cases he : s.key c = K
        · rw [hst (r := ⟨s, ⟨2, p, c, i⟩, .none, false⟩) (by simp [naiveS, he])]
          exact umark_12e h hv hq hps hcs hlt he hm1
        · rw [hst (r := ⟨s, ⟨1, p, c, false⟩, .none, true⟩) (by simp [naiveS, he, hlt])]
          exact umark_12n h hv hq hps hcs hlt he hm1
      · by_cases he : s.key c = K
        · rw [hst (r := ⟨s, ⟨1, p, c, true⟩, .none, true⟩) (by simp [naiveS, he])]
          exact umark_13e h hv hq hps hcs hlt he hm1
        · rw [hst (r := ⟨s, ⟨1, p, c, false⟩, .none, true⟩) (by simp [naiveS, he, hlt])]
          exact umark_13n h hv hq hps hcs hlt he hm1
  · have hpt2 := hpt (by decide)
    rcases hm.two rfl with ⟨rfl, hkc⟩ | ⟨rfl, hkc⟩
    · rw [hst (r := ⟨s.insc p c K, ⟨2, p, c, true⟩, .none, true⟩) (by simp [naiveS])]
      exact umark_21a h hv hq hps hcs hpt2 ht hl0 hsz
    · simp only at hkc
      have hct : c ≠ s.tl := fun e => by rw [e, hkt] at hkc; omega
      rw [hst (r := ⟨s.cut p c, ⟨2, p, c, true⟩, .none, true⟩) (by simp [naiveS])]
      exact umark_22a h hv hq hps hcs hpt2 hct
end
end Go.Proofs.Ytfmdpmebllepeaa
