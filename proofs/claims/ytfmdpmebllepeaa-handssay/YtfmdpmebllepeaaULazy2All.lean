/-
  Joined texts: YtfmdpmebllepeaaUOver, YtfmdpmebllepeaaUOver2, YtfmdpmebllepeaaULazy, YtfmdpmebllepeaaULazy2.
-/
import Derived.Test.YtfmdpmebllepeaaURowAll
import Derived.Test.YtfmdpmebllepeaaMTimeMAll
import Derived.Deep.DeepCutAuto
/-
  hedgref's Bench: handOver. Written by tools/gen_ubench.py.
-/
namespace Go.Proofs.Ytfmdpmebllepeaa
open Go.RowKit

section
variable {w : World} {base bb gB cB gH cH al nh : Nat} {s : Bs} {lk : Nat → Bool} {ix : Nat → Nat} {hs : Nat → Hd} {pv dv : Value} {now : Nat} {D : List Dn} {v p c : Nat} {is_ : Bool} {kd K : Int}
set_option maxRecDepth 100000 in
set_option maxHeartbeats 8000000 in
theorem uover_0f (h : UB w base bb gB cB gH cH al nh s lk ix hs pv dv now D) (hv : v < nh) (hq : hs v = ⟨0, p, c, is_⟩) (hps : p < s.sz) (hcs : c < s.sz) (ht : s.tl < s.sz) (h0t : 0 ≠ s.tl) (hl : lk 0 = false) :
    Calls Try.prog 40 #[jp bb, .pointer (some ⟨gH, v * 5, none⟩), .agg #[I kd, I K]] w (RetH base bb gH cH al nh ix hs pv dv now D v ⟨s, upd lk 0 true, ⟨1, 0, s.nx 0, is_⟩, .none, false⟩ w) := by
  have hbz := h.bbase
  obtain ⟨w0, hw0⟩ : ∃ x, x = w.alloc (.cells #[I kd, I K] 50) := ⟨_, rfl⟩
  have H0 : Hid (UB w0 base bb gB cB gH cH al nh s lk ix hs pv dv now D) := by rw [hw0]; exact h.keep ((Below.refl _ _).alloc (Nat.le_refl _) _)
  have F0 : Hid (UF base w w0) := by rw [hw0]; exact (UF.refl _ _).alloc hbz _
  have D0 : Hid (w0.heap[w.heap.size]? = some (.cells #[I kd, I K] 50 (0, 0))) := by rw [hw0]; exact heap_alloc_new _ _
  obtain ⟨db, hdb⟩ : ∃ x, w.heap.size = x := ⟨_, rfl⟩
  rw [hdb] at D0
  have hc0 : (0 : Int) ≤ (c : Int) := by omega
  have hcz : (c : Int) < (s.sz : Int) := by omega
  have hp0 : (0 : Int) ≤ (p : Int) := by omega
  have hpz : (p : Int) < (s.sz : Int) := by omega
  have hz0 : 0 < s.sz := by omega
  have hzi : (0 : Int) < (s.sz : Int) := by omega
  obtain ⟨f0, f1, f2, f3, f4, f5, ff⟩ := H0.out.fb
  obtain ⟨y0, y1, y2, y3, y4, yf⟩ := H0.out.hd hv
  rw [hq] at y1 y2 y3 y4
  dsimp only at y1 y2 y3 y4
  have HQ := Lib.hid hq
  have HPS := Lib.hid hps
  have HCS := Lib.hid hcs
  clear h hbz hps hcs hq
  go_enter Try.func40, Try.ntmps40
  go_upto_region 1 with fail
  rw [← hw0]
  try rw [hdb]
  clear hw0 hdb
  go_quiet (fail)
  have H1 := Lib.hid (H0.out.drewN nq)
  have F01 := Lib.hid (F0.out.drewN nq)
  have D1 : Hid ((w0.drewN nq).heap[db]? = some (.cells #[I kd, I K] 50 (0, 0))) := D0.out
  clear H0 F0 D0
  try clear f0 f1 f2 f3 f4 f5 ff
  try clear y0 y1 y2 y3 y4 yf
  try clear xpk xpn xpm xpl xpf
  try clear xck xcn xcm xcl xcf
  try clear xzk xzn xzm xzl xzf
  generalize hgw : w0.drewN nq = w1 at *
  clear hgw nq
  have F1 := Lib.hid (UF.refl base w1)
  have d1a : w1.cell? ⟨db, 0, none⟩ = some (I kd) := (F1.out.cell D1.out (by decide) (by decide) (by decide) (by decide)).trans (by rw [jcell D1.out]; rfl)
  have d1b : w1.cell? ⟨db, 1, none⟩ = some (I K) := (F1.out.cell D1.out (by decide) (by decide) (by decide) (by decide)).trans (by rw [jcell D1.out]; rfl)
  obtain ⟨f0, f1, f2, f3, f4, f5, ff⟩ := H1.out.fb
  obtain ⟨y0, y1, y2, y3, y4, yf⟩ := H1.out.hd hv
  rw [HQ.out] at y1 y2 y3 y4
  dsimp only at y1 y2 y3 y4
  have y1q := y1
  clear y1
  have y1 : w1.cell? ⟨gH, v * 5 + 1, none⟩ = some (I 0) := y1q
  clear y1q
  obtain ⟨xzk, xzn, xzm, xzl, xzf⟩ := H1.out.bd (i := 0) hz0
  rw [hl] at xzl
  have x3 : w1.cell? ⟨gB, 3, none⟩ = some (.bool false) := by simpa using xzl
  have H2 := Lib.hid (H1.out.lkset hz0 true)
  have hw2 : w1.setCell ⟨gB, 0 * 4 + 3, none⟩ (.bool true) = w1.setCell ⟨gB, 3, none⟩ (.bool true) := by simp
  rw [hw2] at H2
  have F2 := Lib.hid (H1.out.ufB 3 (.bool true))
  have HA2 := Lib.hid (uagain_any H2.out hv hz0 h0t)
  clear hw2
  go_wp2_with fail
  refine HA2.out.mono ?_
  rintro e w3 ⟨rfl, h3, f3'⟩
  have H3 := Lib.hid h3
  have F3 := Lib.hid (F2.out.trans f3')
  clear h3 f3'
  go_wp2
  go_ret
  exact ⟨rfl, ⟨gB, cB, H3.out.hs_eq (by rw [HQ.out])⟩, F01.out.trans F3.out⟩
set_option maxRecDepth 100000 in
set_option maxHeartbeats 8000000 in
theorem uover_0t (h : UB w base bb gB cB gH cH al nh s lk ix hs pv dv now D) (hv : v < nh) (hq : hs v = ⟨0, p, c, is_⟩) (hps : p < s.sz) (hcs : c < s.sz) (ht : s.tl < s.sz) (h0t : 0 ≠ s.tl) (hl : lk 0 = true) :
    Calls Try.prog 40 #[jp bb, .pointer (some ⟨gH, v * 5, none⟩), .agg #[I kd, I K]] w (RetH base bb gH cH al nh ix hs pv dv now D v ⟨s, lk, ⟨0, p, c, is_⟩, .none, false⟩ w) := by
  have hbz := h.bbase
  obtain ⟨w0, hw0⟩ : ∃ x, x = w.alloc (.cells #[I kd, I K] 50) := ⟨_, rfl⟩
  have H0 : Hid (UB w0 base bb gB cB gH cH al nh s lk ix hs pv dv now D) := by rw [hw0]; exact h.keep ((Below.refl _ _).alloc (Nat.le_refl _) _)
  have F0 : Hid (UF base w w0) := by rw [hw0]; exact (UF.refl _ _).alloc hbz _
  have D0 : Hid (w0.heap[w.heap.size]? = some (.cells #[I kd, I K] 50 (0, 0))) := by rw [hw0]; exact heap_alloc_new _ _
  obtain ⟨db, hdb⟩ : ∃ x, w.heap.size = x := ⟨_, rfl⟩
  rw [hdb] at D0
  have hc0 : (0 : Int) ≤ (c : Int) := by omega
  have hcz : (c : Int) < (s.sz : Int) := by omega
  have hp0 : (0 : Int) ≤ (p : Int) := by omega
  have hpz : (p : Int) < (s.sz : Int) := by omega
  have hz0 : 0 < s.sz := by omega
  have hzi : (0 : Int) < (s.sz : Int) := by omega
  obtain ⟨f0, f1, f2, f3, f4, f5, ff⟩ := H0.out.fb
  obtain ⟨y0, y1, y2, y3, y4, yf⟩ := H0.out.hd hv
  rw [hq] at y1 y2 y3 y4
  dsimp only at y1 y2 y3 y4
  have HQ := Lib.hid hq
  have HPS := Lib.hid hps
  have HCS := Lib.hid hcs
  clear h hbz hps hcs hq
  go_enter Try.func40, Try.ntmps40
  go_upto_region 1 with fail
  rw [← hw0]
  try rw [hdb]
  clear hw0 hdb
  go_quiet (fail)
  have H1 := Lib.hid (H0.out.drewN nq)
  have F01 := Lib.hid (F0.out.drewN nq)
  have D1 : Hid ((w0.drewN nq).heap[db]? = some (.cells #[I kd, I K] 50 (0, 0))) := D0.out
  clear H0 F0 D0
  try clear f0 f1 f2 f3 f4 f5 ff
  try clear y0 y1 y2 y3 y4 yf
  try clear xpk xpn xpm xpl xpf
  try clear xck xcn xcm xcl xcf
  try clear xzk xzn xzm xzl xzf
  generalize hgw : w0.drewN nq = w1 at *
  clear hgw nq
  have F1 := Lib.hid (UF.refl base w1)
  have d1a : w1.cell? ⟨db, 0, none⟩ = some (I kd) := (F1.out.cell D1.out (by decide) (by decide) (by decide) (by decide)).trans (by rw [jcell D1.out]; rfl)
  have d1b : w1.cell? ⟨db, 1, none⟩ = some (I K) := (F1.out.cell D1.out (by decide) (by decide) (by decide) (by decide)).trans (by rw [jcell D1.out]; rfl)
  obtain ⟨f0, f1, f2, f3, f4, f5, ff⟩ := H1.out.fb
  obtain ⟨y0, y1, y2, y3, y4, yf⟩ := H1.out.hd hv
  rw [HQ.out] at y1 y2 y3 y4
  dsimp only at y1 y2 y3 y4
  have y1q := y1
  clear y1
  have y1 : w1.cell? ⟨gH, v * 5 + 1, none⟩ = some (I 0) := y1q
  clear y1q
  obtain ⟨xzk, xzn, xzm, xzl, xzf⟩ := H1.out.bd (i := 0) hz0
  rw [hl] at xzl
  have x3 : w1.cell? ⟨gB, 3, none⟩ = some (.bool true) := by simpa using xzl
  go_wp2
  go_ret
  exact ⟨rfl, ⟨gB, cB, H1.out.hs_eq (by rw [← HQ.out, upd_id])⟩, F01.out.trans F1.out⟩
set_option maxRecDepth 100000 in
set_option maxHeartbeats 8000000 in
theorem uover_1f (h : UB w base bb gB cB gH cH al nh s lk ix hs pv dv now D) (hv : v < nh) (hq : hs v = ⟨1, p, c, is_⟩) (hps : p < s.sz) (hcs : c < s.sz) (hl : lk c = false) :
    Calls Try.prog 40 #[jp bb, .pointer (some ⟨gH, v * 5, none⟩), .agg #[I kd, I K]] w (RetH base bb gH cH al nh ix hs pv dv now D v ⟨s, upd lk c true, ⟨2, p, c, is_⟩, .none, false⟩ w) := by
  have hbz := h.bbase
  obtain ⟨w0, hw0⟩ : ∃ x, x = w.alloc (.cells #[I kd, I K] 50) := ⟨_, rfl⟩
  have H0 : Hid (UB w0 base bb gB cB gH cH al nh s lk ix hs pv dv now D) := by rw [hw0]; exact h.keep ((Below.refl _ _).alloc (Nat.le_refl _) _)
  have F0 : Hid (UF base w w0) := by rw [hw0]; exact (UF.refl _ _).alloc hbz _
  have D0 : Hid (w0.heap[w.heap.size]? = some (.cells #[I kd, I K] 50 (0, 0))) := by rw [hw0]; exact heap_alloc_new _ _
  obtain ⟨db, hdb⟩ : ∃ x, w.heap.size = x := ⟨_, rfl⟩
  rw [hdb] at D0
  have hc0 : (0 : Int) ≤ (c : Int) := by omega
  have hcz : (c : Int) < (s.sz : Int) := by omega
  have hp0 : (0 : Int) ≤ (p : Int) := by omega
  have hpz : (p : Int) < (s.sz : Int) := by omega
  obtain ⟨f0, f1, f2, f3, f4, f5, ff⟩ := H0.out.fb
  obtain ⟨y0, y1, y2, y3, y4, yf⟩ := H0.out.hd hv
  rw [hq] at y1 y2 y3 y4
  dsimp only at y1 y2 y3 y4
  have HQ := Lib.hid hq
  have HPS := Lib.hid hps
  have HCS := Lib.hid hcs
  clear h hbz hps hcs hq
  go_enter Try.func40, Try.ntmps40
  go_upto_region 1 with fail
  rw [← hw0]
  try rw [hdb]
  clear hw0 hdb
  go_quiet (fail)
  have H1 := Lib.hid (H0.out.drewN nq)
  have F01 := Lib.hid (F0.out.drewN nq)
  have D1 : Hid ((w0.drewN nq).heap[db]? = some (.cells #[I kd, I K] 50 (0, 0))) := D0.out
  clear H0 F0 D0
  try clear f0 f1 f2 f3 f4 f5 ff
  try clear y0 y1 y2 y3 y4 yf
  try clear xpk xpn xpm xpl xpf
  try clear xck xcn xcm xcl xcf
  try clear xzk xzn xzm xzl xzf
  generalize hgw : w0.drewN nq = w1 at *
  clear hgw nq
  have F1 := Lib.hid (UF.refl base w1)
  have d1a : w1.cell? ⟨db, 0, none⟩ = some (I kd) := (F1.out.cell D1.out (by decide) (by decide) (by decide) (by decide)).trans (by rw [jcell D1.out]; rfl)
  have d1b : w1.cell? ⟨db, 1, none⟩ = some (I K) := (F1.out.cell D1.out (by decide) (by decide) (by decide) (by decide)).trans (by rw [jcell D1.out]; rfl)
  obtain ⟨f0, f1, f2, f3, f4, f5, ff⟩ := H1.out.fb
  obtain ⟨y0, y1, y2, y3, y4, yf⟩ := H1.out.hd hv
  rw [HQ.out] at y1 y2 y3 y4
  dsimp only at y1 y2 y3 y4
  have y1q := y1
  clear y1
  have y1 : w1.cell? ⟨gH, v * 5 + 1, none⟩ = some (I 1) := y1q
  clear y1q
  obtain ⟨xck, xcn, xcm, xcl, xcf⟩ := H1.out.bd (i := c) HCS.out
  rw [hl] at xcl
  have H2 := Lib.hid (H1.out.lkset HCS.out true)
  obtain ⟨-, y1', -, -, -, yf'⟩ := H2.out.hd hv
  have H3 := Lib.hid (H2.out.aset hv 2)
  have F3 := Lib.hid ((H1.out.ufB (c * 4 + 3) (.bool true)).trans (H2.out.ufH (v * 5 + 1) (I 2)))
  go_wp2
  go_ret
  exact ⟨rfl, ⟨gB, cB, H3.out.hs_eq (by rw [HQ.out])⟩, F01.out.trans F3.out⟩
set_option maxRecDepth 100000 in
set_option maxHeartbeats 8000000 in
theorem uover_1t (h : UB w base bb gB cB gH cH al nh s lk ix hs pv dv now D) (hv : v < nh) (hq : hs v = ⟨1, p, c, is_⟩) (hps : p < s.sz) (hcs : c < s.sz) (hl : lk c = true) :
    Calls Try.prog 40 #[jp bb, .pointer (some ⟨gH, v * 5, none⟩), .agg #[I kd, I K]] w (RetH base bb gH cH al nh ix hs pv dv now D v ⟨s, lk, ⟨1, p, c, is_⟩, .none, false⟩ w) := by
  have hbz := h.bbase
  obtain ⟨w0, hw0⟩ : ∃ x, x = w.alloc (.cells #[I kd, I K] 50) := ⟨_, rfl⟩
  have H0 : Hid (UB w0 base bb gB cB gH cH al nh s lk ix hs pv dv now D) := by rw [hw0]; exact h.keep ((Below.refl _ _).alloc (Nat.le_refl _) _)
  have F0 : Hid (UF base w w0) := by rw [hw0]; exact (UF.refl _ _).alloc hbz _
  have D0 : Hid (w0.heap[w.heap.size]? = some (.cells #[I kd, I K] 50 (0, 0))) := by rw [hw0]; exact heap_alloc_new _ _
  obtain ⟨db, hdb⟩ : ∃ x, w.heap.size = x := ⟨_, rfl⟩
  rw [hdb] at D0
  have hc0 : (0 : Int) ≤ (c : Int) := by omega
  have hcz : (c : Int) < (s.sz : Int) := by omega
  have hp0 : (0 : Int) ≤ (p : Int) := by omega
  have hpz : (p : Int) < (s.sz : Int) := by omega
  obtain ⟨f0, f1, f2, f3, f4, f5, ff⟩ := H0.out.fb
  obtain ⟨y0, y1, y2, y3, y4, yf⟩ := H0.out.hd hv
  rw [hq] at y1 y2 y3 y4
  dsimp only at y1 y2 y3 y4
  have HQ := Lib.hid hq
  have HPS := Lib.hid hps
  have HCS := Lib.hid hcs
  clear h hbz hps hcs hq
  go_enter Try.func40, Try.ntmps40
  go_upto_region 1 with fail
  rw [← hw0]
  try rw [hdb]
  clear hw0 hdb
  go_quiet (fail)
  have H1 := Lib.hid (H0.out.drewN nq)
  have F01 := Lib.hid (F0.out.drewN nq)
  have D1 : Hid ((w0.drewN nq).heap[db]? = some (.cells #[I kd, I K] 50 (0, 0))) := D0.out
  clear H0 F0 D0
  try clear f0 f1 f2 f3 f4 f5 ff
  try clear y0 y1 y2 y3 y4 yf
  try clear xpk xpn xpm xpl xpf
  try clear xck xcn xcm xcl xcf
  try clear xzk xzn xzm xzl xzf
  generalize hgw : w0.drewN nq = w1 at *
  clear hgw nq
  have F1 := Lib.hid (UF.refl base w1)
  have d1a : w1.cell? ⟨db, 0, none⟩ = some (I kd) := (F1.out.cell D1.out (by decide) (by decide) (by decide) (by decide)).trans (by rw [jcell D1.out]; rfl)
  have d1b : w1.cell? ⟨db, 1, none⟩ = some (I K) := (F1.out.cell D1.out (by decide) (by decide) (by decide) (by decide)).trans (by rw [jcell D1.out]; rfl)
  obtain ⟨f0, f1, f2, f3, f4, f5, ff⟩ := H1.out.fb
  obtain ⟨y0, y1, y2, y3, y4, yf⟩ := H1.out.hd hv
  rw [HQ.out] at y1 y2 y3 y4
  dsimp only at y1 y2 y3 y4
  have y1q := y1
  clear y1
  have y1 : w1.cell? ⟨gH, v * 5 + 1, none⟩ = some (I 1) := y1q
  clear y1q
  obtain ⟨xck, xcn, xcm, xcl, xcf⟩ := H1.out.bd (i := c) HCS.out
  rw [hl] at xcl
  go_wp2
  go_ret
  exact ⟨rfl, ⟨gB, cB, H1.out.hs_eq (by rw [← HQ.out, upd_id])⟩, F01.out.trans F1.out⟩
end
end Go.Proofs.Ytfmdpmebllepeaa

/-
  hedgref's Bench: handOver, the deed. Written by tools/gen_ubench.py.
-/
namespace Go.Proofs.Ytfmdpmebllepeaa
open Go.RowKit

section
variable {w : World} {base bb gB cB gH cH al nh : Nat} {s : Bs} {lk : Nat → Bool} {ix : Nat → Nat} {hs : Nat → Hd} {pv dv : Value} {now : Nat} {D : List Dn} {v p c : Nat} {is_ : Bool} {kd K : Int}
set_option maxRecDepth 100000 in
set_option maxHeartbeats 8000000 in
theorem uover_2l (h : UB w base bb gB cB gH cH al nh s lk ix hs pv dv now D) (hv : v < nh) (hq : hs v = ⟨2, p, c, is_⟩) (hps : p < s.sz) (hcs : c < s.sz) (hct : c ≠ s.tl) (hlt : s.key c < K) :
    Calls Try.prog 40 #[jp bb, .pointer (some ⟨gH, v * 5, none⟩), .agg #[I kd, I K]] w (RetH base bb gH cH al nh ix hs pv dv now D v ⟨s, upd lk p false, ⟨1, c, s.nx c, is_⟩, .none, false⟩ w) := by
  have hbz := h.bbase
  obtain ⟨w0, hw0⟩ : ∃ x, x = w.alloc (.cells #[I kd, I K] 50) := ⟨_, rfl⟩
  have H0 : Hid (UB w0 base bb gB cB gH cH al nh s lk ix hs pv dv now D) := by rw [hw0]; exact h.keep ((Below.refl _ _).alloc (Nat.le_refl _) _)
  have F0 : Hid (UF base w w0) := by rw [hw0]; exact (UF.refl _ _).alloc hbz _
  have D0 : Hid (w0.heap[w.heap.size]? = some (.cells #[I kd, I K] 50 (0, 0))) := by rw [hw0]; exact heap_alloc_new _ _
  obtain ⟨db, hdb⟩ : ∃ x, w.heap.size = x := ⟨_, rfl⟩
  rw [hdb] at D0
  have hc0 : (0 : Int) ≤ (c : Int) := by omega
  have hcz : (c : Int) < (s.sz : Int) := by omega
  have hp0 : (0 : Int) ≤ (p : Int) := by omega
  have hpz : (p : Int) < (s.sz : Int) := by omega
  obtain ⟨f0, f1, f2, f3, f4, f5, ff⟩ := H0.out.fb
  obtain ⟨y0, y1, y2, y3, y4, yf⟩ := H0.out.hd hv
  rw [hq] at y1 y2 y3 y4
  dsimp only at y1 y2 y3 y4
  have HQ := Lib.hid hq
  have HPS := Lib.hid hps
  have HCS := Lib.hid hcs
  clear h hbz hps hcs hq
  go_enter Try.func40, Try.ntmps40
  go_upto_region 1 with fail
  rw [← hw0]
  try rw [hdb]
  clear hw0 hdb
  go_quiet (fail)
  have H1 := Lib.hid (H0.out.drewN nq)
  have F01 := Lib.hid (F0.out.drewN nq)
  have D1 : Hid ((w0.drewN nq).heap[db]? = some (.cells #[I kd, I K] 50 (0, 0))) := D0.out
  clear H0 F0 D0
  try clear f0 f1 f2 f3 f4 f5 ff
  try clear y0 y1 y2 y3 y4 yf
  try clear xpk xpn xpm xpl xpf
  try clear xck xcn xcm xcl xcf
  try clear xzk xzn xzm xzl xzf
  generalize hgw : w0.drewN nq = w1 at *
  clear hgw nq
  have F1 := Lib.hid (UF.refl base w1)
  have d1a : w1.cell? ⟨db, 0, none⟩ = some (I kd) := (F1.out.cell D1.out (by decide) (by decide) (by decide) (by decide)).trans (by rw [jcell D1.out]; rfl)
  have d1b : w1.cell? ⟨db, 1, none⟩ = some (I K) := (F1.out.cell D1.out (by decide) (by decide) (by decide) (by decide)).trans (by rw [jcell D1.out]; rfl)
  obtain ⟨f0, f1, f2, f3, f4, f5, ff⟩ := H1.out.fb
  obtain ⟨y0, y1, y2, y3, y4, yf⟩ := H1.out.hd hv
  rw [HQ.out] at y1 y2 y3 y4
  dsimp only at y1 y2 y3 y4
  have y1q := y1
  clear y1
  have y1 : w1.cell? ⟨gH, v * 5 + 1, none⟩ = some (I 2) := y1q
  clear y1q
  obtain ⟨xck, xcn, xcm, xcl, xcf⟩ := H1.out.bd (i := c) HCS.out
  go_wp2_with fail
  go_quiet (fail)
  try clear f0 f1 f2 f3 f4 f5 ff
  try clear y0 y1 y2 y3 y4 yf
  try clear xpk xpn xpm xpl xpf
  try clear xck xcn xcm xcl xcf
  try clear xzk xzn xzm xzl xzf
  have H2 : Hid (UB (w1.drewN nq) base bb gB cB gH cH al nh s lk ix hs pv dv now D) := H1.out.drewN nq
  have F2 : Hid (UF base w1 (w1.drewN nq)) := F1.out.drewN nq
  generalize hgw : w1.drewN nq = w2 at *
  clear hgw
  have d2a : w2.cell? ⟨db, 0, none⟩ = some (I kd) := (F2.out.cell D1.out (by decide) (by decide) (by decide) (by decide)).trans (by rw [jcell D1.out]; rfl)
  have d2b : w2.cell? ⟨db, 1, none⟩ = some (I K) := (F2.out.cell D1.out (by decide) (by decide) (by decide) (by decide)).trans (by rw [jcell D1.out]; rfl)
  clear nq
  obtain ⟨f0, f1, f2, f3, f4, f5, ff⟩ := H2.out.fb
  obtain ⟨y0, y1, y2, y3, y4, yf⟩ := H2.out.hd hv
  rw [HQ.out] at y1 y2 y3 y4
  dsimp only at y1 y2 y3 y4
  have y1q := y1
  clear y1
  have y1 : w2.cell? ⟨gH, v * 5 + 1, none⟩ = some (I 2) := y1q
  clear y1q
  obtain ⟨xpk, xpn, xpm, xpl, xpf⟩ := H2.out.bd (i := p) HPS.out
  go_wp2_with fail
  go_region
  all_goals
    (try clear f0 f1 f2 f3 f4 f5 ff
     try clear y0 y1 y2 y3 y4 yf
     try clear xpk xpn xpm xpl xpf
     try clear xck xcn xcm xcl xcf
     try clear xzk xzn xzm xzl xzf
     have H3 : Hid (UB ((w2.setCell ⟨gB, p * 4 + 3, none⟩ (.bool false)).drew) base bb gB cB gH cH al nh s (upd lk p false) ix hs pv dv now D) := (H2.out.lkset HPS.out false).drew
     have F3 : Hid (UF base w1 ((w2.setCell ⟨gB, p * 4 + 3, none⟩ (.bool false)).drew)) := (F2.out.trans (H2.out.ufB _ _)).drew
     generalize hgw : (w2.setCell ⟨gB, p * 4 + 3, none⟩ (.bool false)).drew = w3 at *
     clear hgw
     have d3a : w3.cell? ⟨db, 0, none⟩ = some (I kd) := (F3.out.cell D1.out (by decide) (by decide) (by decide) (by decide)).trans (by rw [jcell D1.out]; rfl)
     have d3b : w3.cell? ⟨db, 1, none⟩ = some (I K) := (F3.out.cell D1.out (by decide) (by decide) (by decide) (by decide)).trans (by rw [jcell D1.out]; rfl)
     have HA3 := Lib.hid (uon_any (p := p) H3.out hv (by rw [HQ.out]) HCS.out hct)
     go_wp2_with fail
     refine HA3.out.mono ?_
     rintro e w4 ⟨rfl, h4, f4'⟩
     try clear f0 f1 f2 f3 f4 f5 ff
     try clear y0 y1 y2 y3 y4 yf
     try clear xpk xpn xpm xpl xpf
     try clear xck xcn xcm xcl xcf
     try clear xzk xzn xzm xzl xzf
     have H4 : Hid (UB w4 base bb gB cB gH cH al nh s (upd lk p false) ix (upd hs v ⟨2, c, (s.nx c), is_⟩) pv dv now D) := h4.hs_eq (by rw [HQ.out])
     have F4 := Lib.hid (F3.out.trans f4')
     clear h4 f4'
     have d4a : w4.cell? ⟨db, 0, none⟩ = some (I kd) := (F4.out.cell D1.out (by decide) (by decide) (by decide) (by decide)).trans (by rw [jcell D1.out]; rfl)
     have d4b : w4.cell? ⟨db, 1, none⟩ = some (I K) := (F4.out.cell D1.out (by decide) (by decide) (by decide) (by decide)).trans (by rw [jcell D1.out]; rfl)
     obtain ⟨y0, y1, y2, y3, y4, yf⟩ := H4.out.hd hv
     rw [upd_same] at y1 y2 y3 y4
     dsimp only at y1 y2 y3 y4
     have y1q := y1
     clear y1
     have y1 : w4.cell? ⟨gH, v * 5 + 1, none⟩ = some (I 2) := y1q
     clear y1q
     have H5 := Lib.hid (H4.out.aset hv 1)
     have F5 := Lib.hid (F4.out.trans (H4.out.ufH (v * 5 + 1) (I 1)))
     go_wp2
     go_ret
     exact ⟨rfl, ⟨gB, cB, H5.out.hs_eq (by rw [upd_upd, upd_same])⟩, F01.out.trans F5.out⟩)
set_option maxRecDepth 100000 in
set_option maxHeartbeats 8000000 in
theorem uover_21e (h : UB w base bb gB cB gH cH al nh s lk ix hs pv dv now D) (hv : v < nh) (hq : hs v = ⟨2, p, c, is_⟩) (hps : p < s.sz) (hcs : c < s.sz) (hge : ¬ s.key c < K) (he : s.key c = K) :
    Calls Try.prog 40 #[jp bb, .pointer (some ⟨gH, v * 5, none⟩), .agg #[I 1, I K]] w (RetH base bb gH cH al nh ix hs pv dv now D v ⟨s, (fre lk ⟨9, p, c, false⟩), ⟨2, p, c, false⟩, .none, true⟩ w) := by
  have hbz := h.bbase
  obtain ⟨w0, hw0⟩ : ∃ x, x = w.alloc (.cells #[I 1, I K] 50) := ⟨_, rfl⟩
  have H0 : Hid (UB w0 base bb gB cB gH cH al nh s lk ix hs pv dv now D) := by rw [hw0]; exact h.keep ((Below.refl _ _).alloc (Nat.le_refl _) _)
  have F0 : Hid (UF base w w0) := by rw [hw0]; exact (UF.refl _ _).alloc hbz _
  have D0 : Hid (w0.heap[w.heap.size]? = some (.cells #[I 1, I K] 50 (0, 0))) := by rw [hw0]; exact heap_alloc_new _ _
  obtain ⟨db, hdb⟩ : ∃ x, w.heap.size = x := ⟨_, rfl⟩
  rw [hdb] at D0
  have hc0 : (0 : Int) ≤ (c : Int) := by omega
  have hcz : (c : Int) < (s.sz : Int) := by omega
  have hp0 : (0 : Int) ≤ (p : Int) := by omega
  have hpz : (p : Int) < (s.sz : Int) := by omega
  have hkb : (s.key c == K) = true := by simp [he]
  clear he
  obtain ⟨f0, f1, f2, f3, f4, f5, ff⟩ := H0.out.fb
  obtain ⟨y0, y1, y2, y3, y4, yf⟩ := H0.out.hd hv
  rw [hq] at y1 y2 y3 y4
  dsimp only at y1 y2 y3 y4
  have HQ := Lib.hid hq
  have HPS := Lib.hid hps
  have HCS := Lib.hid hcs
  clear h hbz hps hcs hq
  go_enter Try.func40, Try.ntmps40
  go_upto_region 1 with fail
  rw [← hw0]
  try rw [hdb]
  clear hw0 hdb
  go_quiet (fail)
  have H1 := Lib.hid (H0.out.drewN nq)
  have F01 := Lib.hid (F0.out.drewN nq)
  have D1 : Hid ((w0.drewN nq).heap[db]? = some (.cells #[I 1, I K] 50 (0, 0))) := D0.out
  clear H0 F0 D0
  try clear f0 f1 f2 f3 f4 f5 ff
  try clear y0 y1 y2 y3 y4 yf
  try clear xpk xpn xpm xpl xpf
  try clear xck xcn xcm xcl xcf
  try clear xzk xzn xzm xzl xzf
  generalize hgw : w0.drewN nq = w1 at *
  clear hgw nq
  have F1 := Lib.hid (UF.refl base w1)
  have d1a : w1.cell? ⟨db, 0, none⟩ = some (I 1) := (F1.out.cell D1.out (by decide) (by decide) (by decide) (by decide)).trans (by rw [jcell D1.out]; rfl)
  have d1b : w1.cell? ⟨db, 1, none⟩ = some (I K) := (F1.out.cell D1.out (by decide) (by decide) (by decide) (by decide)).trans (by rw [jcell D1.out]; rfl)
  obtain ⟨f0, f1, f2, f3, f4, f5, ff⟩ := H1.out.fb
  obtain ⟨y0, y1, y2, y3, y4, yf⟩ := H1.out.hd hv
  rw [HQ.out] at y1 y2 y3 y4
  dsimp only at y1 y2 y3 y4
  have y1q := y1
  clear y1
  have y1 : w1.cell? ⟨gH, v * 5 + 1, none⟩ = some (I 2) := y1q
  clear y1q
  obtain ⟨xck, xcn, xcm, xcl, xcf⟩ := H1.out.bd (i := c) HCS.out
  go_wp2_with fail
  go_quiet (fail)
  try clear f0 f1 f2 f3 f4 f5 ff
  try clear y0 y1 y2 y3 y4 yf
  try clear xpk xpn xpm xpl xpf
  try clear xck xcn xcm xcl xcf
  try clear xzk xzn xzm xzl xzf
  have H2 : Hid (UB (w1.drewN nq) base bb gB cB gH cH al nh s lk ix hs pv dv now D) := H1.out.drewN nq
  have F2 : Hid (UF base w1 (w1.drewN nq)) := F1.out.drewN nq
  generalize hgw : w1.drewN nq = w2 at *
  clear hgw
  have d2a : w2.cell? ⟨db, 0, none⟩ = some (I 1) := (F2.out.cell D1.out (by decide) (by decide) (by decide) (by decide)).trans (by rw [jcell D1.out]; rfl)
  have d2b : w2.cell? ⟨db, 1, none⟩ = some (I K) := (F2.out.cell D1.out (by decide) (by decide) (by decide) (by decide)).trans (by rw [jcell D1.out]; rfl)
  clear nq
  obtain ⟨f0, f1, f2, f3, f4, f5, ff⟩ := H2.out.fb
  obtain ⟨y0, y1, y2, y3, y4, yf⟩ := H2.out.hd hv
  rw [HQ.out] at y1 y2 y3 y4
  dsimp only at y1 y2 y3 y4
  have y1q := y1
  clear y1
  have y1 : w2.cell? ⟨gH, v * 5 + 1, none⟩ = some (I 2) := y1q
  clear y1q
  obtain ⟨xck, xcn, xcm, xcl, xcf⟩ := H2.out.bd (i := c) HCS.out
  go_wp2_with fail
  go_region
  all_goals
    (try clear f0 f1 f2 f3 f4 f5 ff
     try clear y0 y1 y2 y3 y4 yf
     try clear xpk xpn xpm xpl xpf
     try clear xck xcn xcm xcl xcf
     try clear xzk xzn xzm xzl xzf
     have H3 : Hid (UB ((w2.setCell ⟨gH, v * 5 + 4, none⟩ (.bool true)).drew) base bb gB cB gH cH al nh s lk ix (upd hs v ⟨2, p, c, true⟩) pv dv now D) := (H2.out.iset hv true).drew.hs_eq (by rw [HQ.out])
     have F3 : Hid (UF base w1 ((w2.setCell ⟨gH, v * 5 + 4, none⟩ (.bool true)).drew)) := (F2.out.trans (H2.out.ufH _ _)).drew
     generalize hgw : (w2.setCell ⟨gH, v * 5 + 4, none⟩ (.bool true)).drew = w3 at *
     clear hgw
     have d3a : w3.cell? ⟨db, 0, none⟩ = some (I 1) := (F3.out.cell D1.out (by decide) (by decide) (by decide) (by decide)).trans (by rw [jcell D1.out]; rfl)
     have d3b : w3.cell? ⟨db, 1, none⟩ = some (I K) := (F3.out.cell D1.out (by decide) (by decide) (by decide) (by decide)).trans (by rw [jcell D1.out]; rfl)
     have HA3 := Lib.hid (ufree_any (p := p) (c := c) H3.out hv (by rw [upd_same]) (by rw [upd_same]) HPS.out HCS.out)
     go_wp2_with fail
     refine HA3.out.mono ?_
     rintro e w4 ⟨rfl, h4, f4'⟩
     try clear f0 f1 f2 f3 f4 f5 ff
     try clear y0 y1 y2 y3 y4 yf
     try clear xpk xpn xpm xpl xpf
     try clear xck xcn xcm xcl xcf
     try clear xzk xzn xzm xzl xzf
     have H4 : Hid (UB w4 base bb gB cB gH cH al nh s (fre lk ⟨9, p, c, false⟩) ix (upd hs v ⟨2, p, c, true⟩) pv dv now D) := h4.all_eq rfl (by unfold fre; rw [upd_same]) rfl
     have F4 := Lib.hid (F3.out.trans f4')
     clear h4 f4'
     have d4a : w4.cell? ⟨db, 0, none⟩ = some (I 1) := (F4.out.cell D1.out (by decide) (by decide) (by decide) (by decide)).trans (by rw [jcell D1.out]; rfl)
     have d4b : w4.cell? ⟨db, 1, none⟩ = some (I K) := (F4.out.cell D1.out (by decide) (by decide) (by decide) (by decide)).trans (by rw [jcell D1.out]; rfl)
     obtain ⟨f0, f1, f2, f3, f4, f5, ff⟩ := H4.out.fb
     obtain ⟨y0, y1, y2, y3, y4, yf⟩ := H4.out.hd hv
     rw [upd_same] at y1 y2 y3 y4
     dsimp only at y1 y2 y3 y4
     have y1q := y1
     clear y1
     have y1 : w4.cell? ⟨gH, v * 5 + 1, none⟩ = some (I 2) := y1q
     clear y1q
     try clear f0 f1 f2 f3 f4 f5 ff
     try clear y0 y1 y2 y3 y4 yf
     try clear xpk xpn xpm xpl xpf
     try clear xck xcn xcm xcl xcf
     try clear xzk xzn xzm xzl xzf
     have H5 : Hid (UB (w4.setCell ⟨gH, v * 5 + 4, none⟩ (.bool false)) base bb gB cB gH cH al nh s (fre lk ⟨9, p, c, false⟩) ix (upd hs v ⟨2, p, c, false⟩) pv dv now D) := (H4.out.iset hv false).hs_eq (by rw [upd_upd, upd_same])
     have F5 : Hid (UF base w1 (w4.setCell ⟨gH, v * 5 + 4, none⟩ (.bool false))) := F4.out.trans (H4.out.ufH _ _)
     have d5a : (w4.setCell ⟨gH, v * 5 + 4, none⟩ (.bool false)).cell? ⟨db, 0, none⟩ = some (I 1) := (F5.out.cell D1.out (by decide) (by decide) (by decide) (by decide)).trans (by rw [jcell D1.out]; rfl)
     have d5b : (w4.setCell ⟨gH, v * 5 + 4, none⟩ (.bool false)).cell? ⟨db, 1, none⟩ = some (I K) := (F5.out.cell D1.out (by decide) (by decide) (by decide) (by decide)).trans (by rw [jcell D1.out]; rfl)
     obtain ⟨-, -, -, -, y4, yf⟩ := H4.out.hd hv
     rw [upd_same] at y4
     dsimp only at y4
     obtain ⟨-, -, -, -, y4', yf'⟩ := H5.out.hd hv
     rw [upd_same] at y4'
     dsimp only at y4'
     go_wp2
     go_ret
     exact ⟨rfl, ⟨gB, cB, H5.out⟩, F01.out.trans F5.out⟩)
set_option maxRecDepth 100000 in
set_option maxHeartbeats 8000000 in
theorem uover_21n (h : UB w base bb gB cB gH cH al nh s lk ix hs pv dv now D) (hv : v < nh) (hq : hs v = ⟨2, p, c, is_⟩) (hps : p < s.sz) (hcs : c < s.sz) (hge : ¬ s.key c < K) (he : s.key c ≠ K) (hpt : p ≠ s.tl) (ht : s.tl < s.sz) (hl : lk s.sz = false) (hsz : s.sz ≤ 10000) :
    Calls Try.prog 40 #[jp bb, .pointer (some ⟨gH, v * 5, none⟩), .agg #[I 1, I K]] w (RetH base bb gH cH al nh ix hs pv dv now D v ⟨s.insc p c K, (fre lk ⟨9, p, c, false⟩), ⟨2, p, c, true⟩, .add K, true⟩ w) := by
  have hbz := h.bbase
  obtain ⟨w0, hw0⟩ : ∃ x, x = w.alloc (.cells #[I 1, I K] 50) := ⟨_, rfl⟩
  have H0 : Hid (UB w0 base bb gB cB gH cH al nh s lk ix hs pv dv now D) := by rw [hw0]; exact h.keep ((Below.refl _ _).alloc (Nat.le_refl _) _)
  have F0 : Hid (UF base w w0) := by rw [hw0]; exact (UF.refl _ _).alloc hbz _
  have D0 : Hid (w0.heap[w.heap.size]? = some (.cells #[I 1, I K] 50 (0, 0))) := by rw [hw0]; exact heap_alloc_new _ _
  obtain ⟨db, hdb⟩ : ∃ x, w.heap.size = x := ⟨_, rfl⟩
  rw [hdb] at D0
  have hc0 : (0 : Int) ≤ (c : Int) := by omega
  have hcz : (c : Int) < (s.sz : Int) := by omega
  have hp0 : (0 : Int) ≤ (p : Int) := by omega
  have hpz : (p : Int) < (s.sz : Int) := by omega
  have hkb : (s.key c == K) = false := by simp [he]
  clear he
  have HLS := Lib.hid (fre_sz (a := 9) (i := false) hps hcs hl)
  have HSZ := Lib.hid hsz
  clear hl hsz
  obtain ⟨f0, f1, f2, f3, f4, f5, ff⟩ := H0.out.fb
  obtain ⟨y0, y1, y2, y3, y4, yf⟩ := H0.out.hd hv
  rw [hq] at y1 y2 y3 y4
  dsimp only at y1 y2 y3 y4
  have HQ := Lib.hid hq
  have HPS := Lib.hid hps
  have HCS := Lib.hid hcs
  clear h hbz hps hcs hq
  go_enter Try.func40, Try.ntmps40
  go_upto_region 1 with fail
  rw [← hw0]
  try rw [hdb]
  clear hw0 hdb
  go_quiet (fail)
  have H1 := Lib.hid (H0.out.drewN nq)
  have F01 := Lib.hid (F0.out.drewN nq)
  have D1 : Hid ((w0.drewN nq).heap[db]? = some (.cells #[I 1, I K] 50 (0, 0))) := D0.out
  clear H0 F0 D0
  try clear f0 f1 f2 f3 f4 f5 ff
  try clear y0 y1 y2 y3 y4 yf
  try clear xpk xpn xpm xpl xpf
  try clear xck xcn xcm xcl xcf
  try clear xzk xzn xzm xzl xzf
  generalize hgw : w0.drewN nq = w1 at *
  clear hgw nq
  have F1 := Lib.hid (UF.refl base w1)
  have d1a : w1.cell? ⟨db, 0, none⟩ = some (I 1) := (F1.out.cell D1.out (by decide) (by decide) (by decide) (by decide)).trans (by rw [jcell D1.out]; rfl)
  have d1b : w1.cell? ⟨db, 1, none⟩ = some (I K) := (F1.out.cell D1.out (by decide) (by decide) (by decide) (by decide)).trans (by rw [jcell D1.out]; rfl)
  obtain ⟨f0, f1, f2, f3, f4, f5, ff⟩ := H1.out.fb
  obtain ⟨y0, y1, y2, y3, y4, yf⟩ := H1.out.hd hv
  rw [HQ.out] at y1 y2 y3 y4
  dsimp only at y1 y2 y3 y4
  have y1q := y1
  clear y1
  have y1 : w1.cell? ⟨gH, v * 5 + 1, none⟩ = some (I 2) := y1q
  clear y1q
  obtain ⟨xck, xcn, xcm, xcl, xcf⟩ := H1.out.bd (i := c) HCS.out
  go_wp2_with fail
  go_quiet (fail)
  try clear f0 f1 f2 f3 f4 f5 ff
  try clear y0 y1 y2 y3 y4 yf
  try clear xpk xpn xpm xpl xpf
  try clear xck xcn xcm xcl xcf
  try clear xzk xzn xzm xzl xzf
  have H2 : Hid (UB (w1.drewN nq) base bb gB cB gH cH al nh s lk ix hs pv dv now D) := H1.out.drewN nq
  have F2 : Hid (UF base w1 (w1.drewN nq)) := F1.out.drewN nq
  generalize hgw : w1.drewN nq = w2 at *
  clear hgw
  have d2a : w2.cell? ⟨db, 0, none⟩ = some (I 1) := (F2.out.cell D1.out (by decide) (by decide) (by decide) (by decide)).trans (by rw [jcell D1.out]; rfl)
  have d2b : w2.cell? ⟨db, 1, none⟩ = some (I K) := (F2.out.cell D1.out (by decide) (by decide) (by decide) (by decide)).trans (by rw [jcell D1.out]; rfl)
  clear nq
  obtain ⟨f0, f1, f2, f3, f4, f5, ff⟩ := H2.out.fb
  obtain ⟨y0, y1, y2, y3, y4, yf⟩ := H2.out.hd hv
  rw [HQ.out] at y1 y2 y3 y4
  dsimp only at y1 y2 y3 y4
  have y1q := y1
  clear y1
  have y1 : w2.cell? ⟨gH, v * 5 + 1, none⟩ = some (I 2) := y1q
  clear y1q
  obtain ⟨xck, xcn, xcm, xcl, xcf⟩ := H2.out.bd (i := c) HCS.out
  go_wp2_with fail
  go_region
  all_goals
    (try clear f0 f1 f2 f3 f4 f5 ff
     try clear y0 y1 y2 y3 y4 yf
     try clear xpk xpn xpm xpl xpf
     try clear xck xcn xcm xcl xcf
     try clear xzk xzn xzm xzl xzf
     have H3 : Hid (UB ((w2.setCell ⟨gH, v * 5 + 4, none⟩ (.bool false)).drew) base bb gB cB gH cH al nh s lk ix (upd hs v ⟨2, p, c, false⟩) pv dv now D) := (H2.out.iset hv false).drew.hs_eq (by rw [HQ.out])
     have F3 : Hid (UF base w1 ((w2.setCell ⟨gH, v * 5 + 4, none⟩ (.bool false)).drew)) := (F2.out.trans (H2.out.ufH _ _)).drew
     generalize hgw : (w2.setCell ⟨gH, v * 5 + 4, none⟩ (.bool false)).drew = w3 at *
     clear hgw
     have d3a : w3.cell? ⟨db, 0, none⟩ = some (I 1) := (F3.out.cell D1.out (by decide) (by decide) (by decide) (by decide)).trans (by rw [jcell D1.out]; rfl)
     have d3b : w3.cell? ⟨db, 1, none⟩ = some (I K) := (F3.out.cell D1.out (by decide) (by decide) (by decide) (by decide)).trans (by rw [jcell D1.out]; rfl)
     have HA3 := Lib.hid (ufree_any (p := p) (c := c) H3.out hv (by rw [upd_same]) (by rw [upd_same]) HPS.out HCS.out)
     go_wp2_with fail
     refine HA3.out.mono ?_
     rintro e w4 ⟨rfl, h4, f4'⟩
     try clear f0 f1 f2 f3 f4 f5 ff
     try clear y0 y1 y2 y3 y4 yf
     try clear xpk xpn xpm xpl xpf
     try clear xck xcn xcm xcl xcf
     try clear xzk xzn xzm xzl xzf
     have H4 : Hid (UB w4 base bb gB cB gH cH al nh s (fre lk ⟨9, p, c, false⟩) ix (upd hs v ⟨2, p, c, false⟩) pv dv now D) := h4.all_eq rfl (by unfold fre; rw [upd_same]) rfl
     have F4 := Lib.hid (F3.out.trans f4')
     clear h4 f4'
     have d4a : w4.cell? ⟨db, 0, none⟩ = some (I 1) := (F4.out.cell D1.out (by decide) (by decide) (by decide) (by decide)).trans (by rw [jcell D1.out]; rfl)
     have d4b : w4.cell? ⟨db, 1, none⟩ = some (I K) := (F4.out.cell D1.out (by decide) (by decide) (by decide) (by decide)).trans (by rw [jcell D1.out]; rfl)
     obtain ⟨f0, f1, f2, f3, f4, f5, ff⟩ := H4.out.fb
     obtain ⟨y0, y1, y2, y3, y4, yf⟩ := H4.out.hd hv
     rw [upd_same] at y1 y2 y3 y4
     dsimp only at y1 y2 y3 y4
     have y1q := y1
     clear y1
     have y1 : w4.cell? ⟨gH, v * 5 + 1, none⟩ = some (I 2) := y1q
     clear y1q
     try clear f0 f1 f2 f3 f4 f5 ff
     try clear y0 y1 y2 y3 y4 yf
     try clear xpk xpn xpm xpl xpf
     try clear xck xcn xcm xcl xcf
     try clear xzk xzn xzm xzl xzf
     have H5 : Hid (UB (w4.setCell ⟨gH, v * 5 + 4, none⟩ (.bool true)) base bb gB cB gH cH al nh s (fre lk ⟨9, p, c, false⟩) ix (upd hs v ⟨2, p, c, true⟩) pv dv now D) := (H4.out.iset hv true).hs_eq (by rw [upd_upd, upd_same])
     have F5 : Hid (UF base w1 (w4.setCell ⟨gH, v * 5 + 4, none⟩ (.bool true))) := F4.out.trans (H4.out.ufH _ _)
     have d5a : (w4.setCell ⟨gH, v * 5 + 4, none⟩ (.bool true)).cell? ⟨db, 0, none⟩ = some (I 1) := (F5.out.cell D1.out (by decide) (by decide) (by decide) (by decide)).trans (by rw [jcell D1.out]; rfl)
     have d5b : (w4.setCell ⟨gH, v * 5 + 4, none⟩ (.bool true)).cell? ⟨db, 1, none⟩ = some (I K) := (F5.out.cell D1.out (by decide) (by decide) (by decide) (by decide)).trans (by rw [jcell D1.out]; rfl)
     obtain ⟨-, -, -, -, y4, yf⟩ := H4.out.hd hv
     rw [upd_same] at y4
     dsimp only at y4
     obtain ⟨-, -, -, -, y4', yf'⟩ := H5.out.hd hv
     rw [upd_same] at y4'
     dsimp only at y4'
     have HA5 := Lib.hid (uinsert_any (p := p) (c := c) (K := K) H5.out hv (by rw [upd_same]) (by rw [upd_same]) HPS.out hpt ht HLS.out HSZ.out)
     go_wp2_with fail
     refine HA5.out.mono ?_
     rintro e w6 ⟨rfl, ⟨gB6, cB6, h6⟩, f6'⟩
     try clear f0 f1 f2 f3 f4 f5 ff
     try clear y0 y1 y2 y3 y4 yf
     try clear xpk xpn xpm xpl xpf
     try clear xck xcn xcm xcl xcf
     try clear xzk xzn xzm xzl xzf
     have H6 : Hid (UB w6 base bb gB6 cB6 gH cH al nh (s.insc p c K) (fre lk ⟨9, p, c, false⟩) ix (upd hs v ⟨2, p, c, true⟩) pv dv now D) := h6
     have F6 := Lib.hid (F5.out.trans f6')
     clear h6 f6'
     have d6a : w6.cell? ⟨db, 0, none⟩ = some (I 1) := (F6.out.cell D1.out (by decide) (by decide) (by decide) (by decide)).trans (by rw [jcell D1.out]; rfl)
     have d6b : w6.cell? ⟨db, 1, none⟩ = some (I K) := (F6.out.cell D1.out (by decide) (by decide) (by decide) (by decide)).trans (by rw [jcell D1.out]; rfl)
     go_wp2
     go_ret
     exact ⟨rfl, ⟨gB6, cB6, H6.out⟩, F01.out.trans F6.out⟩)
set_option maxRecDepth 100000 in
set_option maxHeartbeats 8000000 in
theorem uover_22e (h : UB w base bb gB cB gH cH al nh s lk ix hs pv dv now D) (hv : v < nh) (hq : hs v = ⟨2, p, c, is_⟩) (hps : p < s.sz) (hcs : c < s.sz) (hge : ¬ s.key c < K) (he : s.key c = K) (hpt : p ≠ s.tl) (hct : c ≠ s.tl) :
    Calls Try.prog 40 #[jp bb, .pointer (some ⟨gH, v * 5, none⟩), .agg #[I 2, I K]] w (RetH base bb gH cH al nh ix hs pv dv now D v ⟨(s.mark c).cut p c, (fre lk ⟨9, p, c, false⟩), ⟨2, p, c, true⟩, .del K, true⟩ w) := by
  have hbz := h.bbase
  obtain ⟨w0, hw0⟩ : ∃ x, x = w.alloc (.cells #[I 2, I K] 50) := ⟨_, rfl⟩
  have H0 : Hid (UB w0 base bb gB cB gH cH al nh s lk ix hs pv dv now D) := by rw [hw0]; exact h.keep ((Below.refl _ _).alloc (Nat.le_refl _) _)
  have F0 : Hid (UF base w w0) := by rw [hw0]; exact (UF.refl _ _).alloc hbz _
  have D0 : Hid (w0.heap[w.heap.size]? = some (.cells #[I 2, I K] 50 (0, 0))) := by rw [hw0]; exact heap_alloc_new _ _
  obtain ⟨db, hdb⟩ : ∃ x, w.heap.size = x := ⟨_, rfl⟩
  rw [hdb] at D0
  have hc0 : (0 : Int) ≤ (c : Int) := by omega
  have hcz : (c : Int) < (s.sz : Int) := by omega
  have hp0 : (0 : Int) ≤ (p : Int) := by omega
  have hpz : (p : Int) < (s.sz : Int) := by omega
  have hkb : (s.key c == K) = true := by simp [he]
  clear he
  obtain ⟨f0, f1, f2, f3, f4, f5, ff⟩ := H0.out.fb
  obtain ⟨y0, y1, y2, y3, y4, yf⟩ := H0.out.hd hv
  rw [hq] at y1 y2 y3 y4
  dsimp only at y1 y2 y3 y4
  have HQ := Lib.hid hq
  have HPS := Lib.hid hps
  have HCS := Lib.hid hcs
  clear h hbz hps hcs hq
  go_enter Try.func40, Try.ntmps40
  go_upto_region 1 with fail
  rw [← hw0]
  try rw [hdb]
  clear hw0 hdb
  go_quiet (fail)
  have H1 := Lib.hid (H0.out.drewN nq)
  have F01 := Lib.hid (F0.out.drewN nq)
  have D1 : Hid ((w0.drewN nq).heap[db]? = some (.cells #[I 2, I K] 50 (0, 0))) := D0.out
  clear H0 F0 D0
  try clear f0 f1 f2 f3 f4 f5 ff
  try clear y0 y1 y2 y3 y4 yf
  try clear xpk xpn xpm xpl xpf
  try clear xck xcn xcm xcl xcf
  try clear xzk xzn xzm xzl xzf
  generalize hgw : w0.drewN nq = w1 at *
  clear hgw nq
  have F1 := Lib.hid (UF.refl base w1)
  have d1a : w1.cell? ⟨db, 0, none⟩ = some (I 2) := (F1.out.cell D1.out (by decide) (by decide) (by decide) (by decide)).trans (by rw [jcell D1.out]; rfl)
  have d1b : w1.cell? ⟨db, 1, none⟩ = some (I K) := (F1.out.cell D1.out (by decide) (by decide) (by decide) (by decide)).trans (by rw [jcell D1.out]; rfl)
  obtain ⟨f0, f1, f2, f3, f4, f5, ff⟩ := H1.out.fb
  obtain ⟨y0, y1, y2, y3, y4, yf⟩ := H1.out.hd hv
  rw [HQ.out] at y1 y2 y3 y4
  dsimp only at y1 y2 y3 y4
  have y1q := y1
  clear y1
  have y1 : w1.cell? ⟨gH, v * 5 + 1, none⟩ = some (I 2) := y1q
  clear y1q
  obtain ⟨xck, xcn, xcm, xcl, xcf⟩ := H1.out.bd (i := c) HCS.out
  go_wp2_with fail
  go_quiet (fail)
  try clear f0 f1 f2 f3 f4 f5 ff
  try clear y0 y1 y2 y3 y4 yf
  try clear xpk xpn xpm xpl xpf
  try clear xck xcn xcm xcl xcf
  try clear xzk xzn xzm xzl xzf
  have H2 : Hid (UB (w1.drewN nq) base bb gB cB gH cH al nh s lk ix hs pv dv now D) := H1.out.drewN nq
  have F2 : Hid (UF base w1 (w1.drewN nq)) := F1.out.drewN nq
  generalize hgw : w1.drewN nq = w2 at *
  clear hgw
  have d2a : w2.cell? ⟨db, 0, none⟩ = some (I 2) := (F2.out.cell D1.out (by decide) (by decide) (by decide) (by decide)).trans (by rw [jcell D1.out]; rfl)
  have d2b : w2.cell? ⟨db, 1, none⟩ = some (I K) := (F2.out.cell D1.out (by decide) (by decide) (by decide) (by decide)).trans (by rw [jcell D1.out]; rfl)
  clear nq
  obtain ⟨f0, f1, f2, f3, f4, f5, ff⟩ := H2.out.fb
  obtain ⟨y0, y1, y2, y3, y4, yf⟩ := H2.out.hd hv
  rw [HQ.out] at y1 y2 y3 y4
  dsimp only at y1 y2 y3 y4
  have y1q := y1
  clear y1
  have y1 : w2.cell? ⟨gH, v * 5 + 1, none⟩ = some (I 2) := y1q
  clear y1q
  obtain ⟨xck, xcn, xcm, xcl, xcf⟩ := H2.out.bd (i := c) HCS.out
  go_wp2_with fail
  go_region
  all_goals
    (try clear f0 f1 f2 f3 f4 f5 ff
     try clear y0 y1 y2 y3 y4 yf
     try clear xpk xpn xpm xpl xpf
     try clear xck xcn xcm xcl xcf
     try clear xzk xzn xzm xzl xzf
     have H3 : Hid (UB ((w2.setCell ⟨gH, v * 5 + 4, none⟩ (.bool true)).drew) base bb gB cB gH cH al nh s lk ix (upd hs v ⟨2, p, c, true⟩) pv dv now D) := (H2.out.iset hv true).drew.hs_eq (by rw [HQ.out])
     have F3 : Hid (UF base w1 ((w2.setCell ⟨gH, v * 5 + 4, none⟩ (.bool true)).drew)) := (F2.out.trans (H2.out.ufH _ _)).drew
     generalize hgw : (w2.setCell ⟨gH, v * 5 + 4, none⟩ (.bool true)).drew = w3 at *
     clear hgw
     have d3a : w3.cell? ⟨db, 0, none⟩ = some (I 2) := (F3.out.cell D1.out (by decide) (by decide) (by decide) (by decide)).trans (by rw [jcell D1.out]; rfl)
     have d3b : w3.cell? ⟨db, 1, none⟩ = some (I K) := (F3.out.cell D1.out (by decide) (by decide) (by decide) (by decide)).trans (by rw [jcell D1.out]; rfl)
     have HA3 := Lib.hid (ufree_any (p := p) (c := c) H3.out hv (by rw [upd_same]) (by rw [upd_same]) HPS.out HCS.out)
     go_wp2_with fail
     refine HA3.out.mono ?_
     rintro e w4 ⟨rfl, h4, f4'⟩
     try clear f0 f1 f2 f3 f4 f5 ff
     try clear y0 y1 y2 y3 y4 yf
     try clear xpk xpn xpm xpl xpf
     try clear xck xcn xcm xcl xcf
     try clear xzk xzn xzm xzl xzf
     have H4 : Hid (UB w4 base bb gB cB gH cH al nh s (fre lk ⟨9, p, c, false⟩) ix (upd hs v ⟨2, p, c, true⟩) pv dv now D) := h4.all_eq rfl (by unfold fre; rw [upd_same]) rfl
     have F4 := Lib.hid (F3.out.trans f4')
     clear h4 f4'
     have d4a : w4.cell? ⟨db, 0, none⟩ = some (I 2) := (F4.out.cell D1.out (by decide) (by decide) (by decide) (by decide)).trans (by rw [jcell D1.out]; rfl)
     have d4b : w4.cell? ⟨db, 1, none⟩ = some (I K) := (F4.out.cell D1.out (by decide) (by decide) (by decide) (by decide)).trans (by rw [jcell D1.out]; rfl)
     obtain ⟨f0, f1, f2, f3, f4, f5, ff⟩ := H4.out.fb
     obtain ⟨y0, y1, y2, y3, y4, yf⟩ := H4.out.hd hv
     rw [upd_same] at y1 y2 y3 y4
     dsimp only at y1 y2 y3 y4
     have y1q := y1
     clear y1
     have y1 : w4.cell? ⟨gH, v * 5 + 1, none⟩ = some (I 2) := y1q
     clear y1q
     obtain ⟨xck, xcn, xcm, xcl, xcf⟩ := H4.out.bd (i := c) HCS.out
     go_upto_region 20 with fail
     try clear f0 f1 f2 f3 f4 f5 ff
     try clear y0 y1 y2 y3 y4 yf
     try clear xpk xpn xpm xpl xpf
     try clear xck xcn xcm xcl xcf
     try clear xzk xzn xzm xzl xzf
     have H5 : Hid (UB (w4.setCell ⟨gB, c * 4 + 2, none⟩ (.bool true)) base bb gB cB gH cH al nh (s.mark c) (fre lk ⟨9, p, c, false⟩) ix (upd hs v ⟨2, p, c, true⟩) pv dv now D) := H4.out.mkset HCS.out
     have F5 : Hid (UF base w1 (w4.setCell ⟨gB, c * 4 + 2, none⟩ (.bool true))) := F4.out.trans (H4.out.ufB _ _)
     generalize hgw : w4.setCell ⟨gB, c * 4 + 2, none⟩ (.bool true) = w5 at *
     clear hgw
     have d5a : w5.cell? ⟨db, 0, none⟩ = some (I 2) := (F5.out.cell D1.out (by decide) (by decide) (by decide) (by decide)).trans (by rw [jcell D1.out]; rfl)
     have d5b : w5.cell? ⟨db, 1, none⟩ = some (I K) := (F5.out.cell D1.out (by decide) (by decide) (by decide) (by decide)).trans (by rw [jcell D1.out]; rfl)
     obtain ⟨f0, f1, f2, f3, f4, f5, ff⟩ := H5.out.fb
     have f1q : w5.cell? ⟨bb, 1, none⟩ = some (.slice (some ⟨gB, 0, none⟩) s.sz cB) := f1
     clear f1
     obtain ⟨y0, y1, y2, y3, y4, yf⟩ := H5.out.hd hv
     rw [upd_same] at y1 y2 y3 y4
     dsimp only at y1 y2 y3 y4
     have y1q := y1
     clear y1
     have y1 : w5.cell? ⟨gH, v * 5 + 1, none⟩ = some (I 2) := y1q
     clear y1q
     obtain ⟨xck, xcn, xcm, xcl, xcf⟩ := H5.out.bd (i := c) HCS.out
     rw [nxI_ne (s := s.mark c) hct] at xcn
     obtain ⟨xpk, xpn, xpm, xpl, xpf⟩ := H5.out.bd (i := p) HPS.out
     go_region
     all_goals
       (try clear f0 f1 f2 f3 f4 f5 ff
        try clear y0 y1 y2 y3 y4 yf
        try clear xpk xpn xpm xpl xpf
        try clear xck xcn xcm xcl xcf
        try clear xzk xzn xzm xzl xzf
        have H6 : Hid (UB ((w5.setCell ⟨gB, p * 4 + 1, none⟩ (I ((s.mark c).nx c))).drew) base bb gB cB gH cH al nh ((s.mark c).cut p c) (fre lk ⟨9, p, c, false⟩) ix (upd hs v ⟨2, p, c, true⟩) pv dv now D) := (H5.out.nxset HPS.out hpt ((s.mark c).nx c)).drew
        have F6 : Hid (UF base w1 ((w5.setCell ⟨gB, p * 4 + 1, none⟩ (I ((s.mark c).nx c))).drew)) := (F5.out.trans (H5.out.ufB _ _)).drew
        generalize hgw : (w5.setCell ⟨gB, p * 4 + 1, none⟩ (I ((s.mark c).nx c))).drew = w6 at *
        clear hgw
        have d6a : w6.cell? ⟨db, 0, none⟩ = some (I 2) := (F6.out.cell D1.out (by decide) (by decide) (by decide) (by decide)).trans (by rw [jcell D1.out]; rfl)
        have d6b : w6.cell? ⟨db, 1, none⟩ = some (I K) := (F6.out.cell D1.out (by decide) (by decide) (by decide) (by decide)).trans (by rw [jcell D1.out]; rfl)
        go_wp2
        go_ret
        exact ⟨rfl, ⟨gB, cB, H6.out⟩, F01.out.trans F6.out⟩))
set_option maxRecDepth 100000 in
set_option maxHeartbeats 8000000 in
theorem uover_22n (h : UB w base bb gB cB gH cH al nh s lk ix hs pv dv now D) (hv : v < nh) (hq : hs v = ⟨2, p, c, is_⟩) (hps : p < s.sz) (hcs : c < s.sz) (hge : ¬ s.key c < K) (he : s.key c ≠ K) :
    Calls Try.prog 40 #[jp bb, .pointer (some ⟨gH, v * 5, none⟩), .agg #[I 2, I K]] w (RetH base bb gH cH al nh ix hs pv dv now D v ⟨s, (fre lk ⟨9, p, c, false⟩), ⟨2, p, c, false⟩, .none, true⟩ w) := by
  have hbz := h.bbase
  obtain ⟨w0, hw0⟩ : ∃ x, x = w.alloc (.cells #[I 2, I K] 50) := ⟨_, rfl⟩
  have H0 : Hid (UB w0 base bb gB cB gH cH al nh s lk ix hs pv dv now D) := by rw [hw0]; exact h.keep ((Below.refl _ _).alloc (Nat.le_refl _) _)
  have F0 : Hid (UF base w w0) := by rw [hw0]; exact (UF.refl _ _).alloc hbz _
  have D0 : Hid (w0.heap[w.heap.size]? = some (.cells #[I 2, I K] 50 (0, 0))) := by rw [hw0]; exact heap_alloc_new _ _
  obtain ⟨db, hdb⟩ : ∃ x, w.heap.size = x := ⟨_, rfl⟩
  rw [hdb] at D0
  have hc0 : (0 : Int) ≤ (c : Int) := by omega
  have hcz : (c : Int) < (s.sz : Int) := by omega
  have hp0 : (0 : Int) ≤ (p : Int) := by omega
  have hpz : (p : Int) < (s.sz : Int) := by omega
  have hkb : (s.key c == K) = false := by simp [he]
  clear he
  obtain ⟨f0, f1, f2, f3, f4, f5, ff⟩ := H0.out.fb
  obtain ⟨y0, y1, y2, y3, y4, yf⟩ := H0.out.hd hv
  rw [hq] at y1 y2 y3 y4
  dsimp only at y1 y2 y3 y4
  have HQ := Lib.hid hq
  have HPS := Lib.hid hps
  have HCS := Lib.hid hcs
  clear h hbz hps hcs hq
  go_enter Try.func40, Try.ntmps40
  go_upto_region 1 with fail
  rw [← hw0]
  try rw [hdb]
  clear hw0 hdb
  go_quiet (fail)
  have H1 := Lib.hid (H0.out.drewN nq)
  have F01 := Lib.hid (F0.out.drewN nq)
  have D1 : Hid ((w0.drewN nq).heap[db]? = some (.cells #[I 2, I K] 50 (0, 0))) := D0.out
  clear H0 F0 D0
  try clear f0 f1 f2 f3 f4 f5 ff
  try clear y0 y1 y2 y3 y4 yf
  try clear xpk xpn xpm xpl xpf
  try clear xck xcn xcm xcl xcf
  try clear xzk xzn xzm xzl xzf
  generalize hgw : w0.drewN nq = w1 at *
  clear hgw nq
  have F1 := Lib.hid (UF.refl base w1)
  have d1a : w1.cell? ⟨db, 0, none⟩ = some (I 2) := (F1.out.cell D1.out (by decide) (by decide) (by decide) (by decide)).trans (by rw [jcell D1.out]; rfl)
  have d1b : w1.cell? ⟨db, 1, none⟩ = some (I K) := (F1.out.cell D1.out (by decide) (by decide) (by decide) (by decide)).trans (by rw [jcell D1.out]; rfl)
  obtain ⟨f0, f1, f2, f3, f4, f5, ff⟩ := H1.out.fb
  obtain ⟨y0, y1, y2, y3, y4, yf⟩ := H1.out.hd hv
  rw [HQ.out] at y1 y2 y3 y4
  dsimp only at y1 y2 y3 y4
  have y1q := y1
  clear y1
  have y1 : w1.cell? ⟨gH, v * 5 + 1, none⟩ = some (I 2) := y1q
  clear y1q
  obtain ⟨xck, xcn, xcm, xcl, xcf⟩ := H1.out.bd (i := c) HCS.out
  go_wp2_with fail
  go_quiet (fail)
  try clear f0 f1 f2 f3 f4 f5 ff
  try clear y0 y1 y2 y3 y4 yf
  try clear xpk xpn xpm xpl xpf
  try clear xck xcn xcm xcl xcf
  try clear xzk xzn xzm xzl xzf
  have H2 : Hid (UB (w1.drewN nq) base bb gB cB gH cH al nh s lk ix hs pv dv now D) := H1.out.drewN nq
  have F2 : Hid (UF base w1 (w1.drewN nq)) := F1.out.drewN nq
  generalize hgw : w1.drewN nq = w2 at *
  clear hgw
  have d2a : w2.cell? ⟨db, 0, none⟩ = some (I 2) := (F2.out.cell D1.out (by decide) (by decide) (by decide) (by decide)).trans (by rw [jcell D1.out]; rfl)
  have d2b : w2.cell? ⟨db, 1, none⟩ = some (I K) := (F2.out.cell D1.out (by decide) (by decide) (by decide) (by decide)).trans (by rw [jcell D1.out]; rfl)
  clear nq
  obtain ⟨f0, f1, f2, f3, f4, f5, ff⟩ := H2.out.fb
  obtain ⟨y0, y1, y2, y3, y4, yf⟩ := H2.out.hd hv
  rw [HQ.out] at y1 y2 y3 y4
  dsimp only at y1 y2 y3 y4
  have y1q := y1
  clear y1
  have y1 : w2.cell? ⟨gH, v * 5 + 1, none⟩ = some (I 2) := y1q
  clear y1q
  obtain ⟨xck, xcn, xcm, xcl, xcf⟩ := H2.out.bd (i := c) HCS.out
  go_wp2_with fail
  go_region
  all_goals
    (try clear f0 f1 f2 f3 f4 f5 ff
     try clear y0 y1 y2 y3 y4 yf
     try clear xpk xpn xpm xpl xpf
     try clear xck xcn xcm xcl xcf
     try clear xzk xzn xzm xzl xzf
     have H3 : Hid (UB ((w2.setCell ⟨gH, v * 5 + 4, none⟩ (.bool false)).drew) base bb gB cB gH cH al nh s lk ix (upd hs v ⟨2, p, c, false⟩) pv dv now D) := (H2.out.iset hv false).drew.hs_eq (by rw [HQ.out])
     have F3 : Hid (UF base w1 ((w2.setCell ⟨gH, v * 5 + 4, none⟩ (.bool false)).drew)) := (F2.out.trans (H2.out.ufH _ _)).drew
     generalize hgw : (w2.setCell ⟨gH, v * 5 + 4, none⟩ (.bool false)).drew = w3 at *
     clear hgw
     have d3a : w3.cell? ⟨db, 0, none⟩ = some (I 2) := (F3.out.cell D1.out (by decide) (by decide) (by decide) (by decide)).trans (by rw [jcell D1.out]; rfl)
     have d3b : w3.cell? ⟨db, 1, none⟩ = some (I K) := (F3.out.cell D1.out (by decide) (by decide) (by decide) (by decide)).trans (by rw [jcell D1.out]; rfl)
     have HA3 := Lib.hid (ufree_any (p := p) (c := c) H3.out hv (by rw [upd_same]) (by rw [upd_same]) HPS.out HCS.out)
     go_wp2_with fail
     refine HA3.out.mono ?_
     rintro e w4 ⟨rfl, h4, f4'⟩
     try clear f0 f1 f2 f3 f4 f5 ff
     try clear y0 y1 y2 y3 y4 yf
     try clear xpk xpn xpm xpl xpf
     try clear xck xcn xcm xcl xcf
     try clear xzk xzn xzm xzl xzf
     have H4 : Hid (UB w4 base bb gB cB gH cH al nh s (fre lk ⟨9, p, c, false⟩) ix (upd hs v ⟨2, p, c, false⟩) pv dv now D) := h4.all_eq rfl (by unfold fre; rw [upd_same]) rfl
     have F4 := Lib.hid (F3.out.trans f4')
     clear h4 f4'
     have d4a : w4.cell? ⟨db, 0, none⟩ = some (I 2) := (F4.out.cell D1.out (by decide) (by decide) (by decide) (by decide)).trans (by rw [jcell D1.out]; rfl)
     have d4b : w4.cell? ⟨db, 1, none⟩ = some (I K) := (F4.out.cell D1.out (by decide) (by decide) (by decide) (by decide)).trans (by rw [jcell D1.out]; rfl)
     obtain ⟨f0, f1, f2, f3, f4, f5, ff⟩ := H4.out.fb
     obtain ⟨y0, y1, y2, y3, y4, yf⟩ := H4.out.hd hv
     rw [upd_same] at y1 y2 y3 y4
     dsimp only at y1 y2 y3 y4
     have y1q := y1
     clear y1
     have y1 : w4.cell? ⟨gH, v * 5 + 1, none⟩ = some (I 2) := y1q
     clear y1q
     go_wp2
     go_ret
     exact ⟨rfl, ⟨gB, cB, H4.out⟩, F01.out.trans F4.out⟩)
set_option maxRecDepth 100000 in
set_option maxHeartbeats 8000000 in
theorem uover_23e (h : UB w base bb gB cB gH cH al nh s lk ix hs pv dv now D) (hv : v < nh) (hq : hs v = ⟨2, p, c, is_⟩) (hps : p < s.sz) (hcs : c < s.sz) (hge : ¬ s.key c < K) (he : s.key c = K) :
    Calls Try.prog 40 #[jp bb, .pointer (some ⟨gH, v * 5, none⟩), .agg #[I 3, I K]] w (RetH base bb gH cH al nh ix hs pv dv now D v ⟨s, (fre lk ⟨9, p, c, false⟩), ⟨2, p, c, true⟩, .none, true⟩ w) := by
  have hbz := h.bbase
  obtain ⟨w0, hw0⟩ : ∃ x, x = w.alloc (.cells #[I 3, I K] 50) := ⟨_, rfl⟩
  have H0 : Hid (UB w0 base bb gB cB gH cH al nh s lk ix hs pv dv now D) := by rw [hw0]; exact h.keep ((Below.refl _ _).alloc (Nat.le_refl _) _)
  have F0 : Hid (UF base w w0) := by rw [hw0]; exact (UF.refl _ _).alloc hbz _
  have D0 : Hid (w0.heap[w.heap.size]? = some (.cells #[I 3, I K] 50 (0, 0))) := by rw [hw0]; exact heap_alloc_new _ _
  obtain ⟨db, hdb⟩ : ∃ x, w.heap.size = x := ⟨_, rfl⟩
  rw [hdb] at D0
  have hc0 : (0 : Int) ≤ (c : Int) := by omega
  have hcz : (c : Int) < (s.sz : Int) := by omega
  have hp0 : (0 : Int) ≤ (p : Int) := by omega
  have hpz : (p : Int) < (s.sz : Int) := by omega
  have hkb : (s.key c == K) = true := by simp [he]
  clear he
  obtain ⟨f0, f1, f2, f3, f4, f5, ff⟩ := H0.out.fb
  obtain ⟨y0, y1, y2, y3, y4, yf⟩ := H0.out.hd hv
  rw [hq] at y1 y2 y3 y4
  dsimp only at y1 y2 y3 y4
  have HQ := Lib.hid hq
  have HPS := Lib.hid hps
  have HCS := Lib.hid hcs
  clear h hbz hps hcs hq
  go_enter Try.func40, Try.ntmps40
  go_upto_region 1 with fail
  rw [← hw0]
  try rw [hdb]
  clear hw0 hdb
  go_quiet (fail)
  have H1 := Lib.hid (H0.out.drewN nq)
  have F01 := Lib.hid (F0.out.drewN nq)
  have D1 : Hid ((w0.drewN nq).heap[db]? = some (.cells #[I 3, I K] 50 (0, 0))) := D0.out
  clear H0 F0 D0
  try clear f0 f1 f2 f3 f4 f5 ff
  try clear y0 y1 y2 y3 y4 yf
  try clear xpk xpn xpm xpl xpf
  try clear xck xcn xcm xcl xcf
  try clear xzk xzn xzm xzl xzf
  generalize hgw : w0.drewN nq = w1 at *
  clear hgw nq
  have F1 := Lib.hid (UF.refl base w1)
  have d1a : w1.cell? ⟨db, 0, none⟩ = some (I 3) := (F1.out.cell D1.out (by decide) (by decide) (by decide) (by decide)).trans (by rw [jcell D1.out]; rfl)
  have d1b : w1.cell? ⟨db, 1, none⟩ = some (I K) := (F1.out.cell D1.out (by decide) (by decide) (by decide) (by decide)).trans (by rw [jcell D1.out]; rfl)
  obtain ⟨f0, f1, f2, f3, f4, f5, ff⟩ := H1.out.fb
  obtain ⟨y0, y1, y2, y3, y4, yf⟩ := H1.out.hd hv
  rw [HQ.out] at y1 y2 y3 y4
  dsimp only at y1 y2 y3 y4
  have y1q := y1
  clear y1
  have y1 : w1.cell? ⟨gH, v * 5 + 1, none⟩ = some (I 2) := y1q
  clear y1q
  obtain ⟨xck, xcn, xcm, xcl, xcf⟩ := H1.out.bd (i := c) HCS.out
  go_wp2_with fail
  go_quiet (fail)
  try clear f0 f1 f2 f3 f4 f5 ff
  try clear y0 y1 y2 y3 y4 yf
  try clear xpk xpn xpm xpl xpf
  try clear xck xcn xcm xcl xcf
  try clear xzk xzn xzm xzl xzf
  have H2 : Hid (UB (w1.drewN nq) base bb gB cB gH cH al nh s lk ix hs pv dv now D) := H1.out.drewN nq
  have F2 : Hid (UF base w1 (w1.drewN nq)) := F1.out.drewN nq
  generalize hgw : w1.drewN nq = w2 at *
  clear hgw
  have d2a : w2.cell? ⟨db, 0, none⟩ = some (I 3) := (F2.out.cell D1.out (by decide) (by decide) (by decide) (by decide)).trans (by rw [jcell D1.out]; rfl)
  have d2b : w2.cell? ⟨db, 1, none⟩ = some (I K) := (F2.out.cell D1.out (by decide) (by decide) (by decide) (by decide)).trans (by rw [jcell D1.out]; rfl)
  clear nq
  obtain ⟨f0, f1, f2, f3, f4, f5, ff⟩ := H2.out.fb
  obtain ⟨y0, y1, y2, y3, y4, yf⟩ := H2.out.hd hv
  rw [HQ.out] at y1 y2 y3 y4
  dsimp only at y1 y2 y3 y4
  have y1q := y1
  clear y1
  have y1 : w2.cell? ⟨gH, v * 5 + 1, none⟩ = some (I 2) := y1q
  clear y1q
  obtain ⟨xck, xcn, xcm, xcl, xcf⟩ := H2.out.bd (i := c) HCS.out
  go_wp2_with fail
  go_region
  all_goals
    (try clear f0 f1 f2 f3 f4 f5 ff
     try clear y0 y1 y2 y3 y4 yf
     try clear xpk xpn xpm xpl xpf
     try clear xck xcn xcm xcl xcf
     try clear xzk xzn xzm xzl xzf
     have H3 : Hid (UB ((w2.setCell ⟨gH, v * 5 + 4, none⟩ (.bool true)).drew) base bb gB cB gH cH al nh s lk ix (upd hs v ⟨2, p, c, true⟩) pv dv now D) := (H2.out.iset hv true).drew.hs_eq (by rw [HQ.out])
     have F3 : Hid (UF base w1 ((w2.setCell ⟨gH, v * 5 + 4, none⟩ (.bool true)).drew)) := (F2.out.trans (H2.out.ufH _ _)).drew
     generalize hgw : (w2.setCell ⟨gH, v * 5 + 4, none⟩ (.bool true)).drew = w3 at *
     clear hgw
     have d3a : w3.cell? ⟨db, 0, none⟩ = some (I 3) := (F3.out.cell D1.out (by decide) (by decide) (by decide) (by decide)).trans (by rw [jcell D1.out]; rfl)
     have d3b : w3.cell? ⟨db, 1, none⟩ = some (I K) := (F3.out.cell D1.out (by decide) (by decide) (by decide) (by decide)).trans (by rw [jcell D1.out]; rfl)
     have HA3 := Lib.hid (ufree_any (p := p) (c := c) H3.out hv (by rw [upd_same]) (by rw [upd_same]) HPS.out HCS.out)
     go_wp2_with fail
     refine HA3.out.mono ?_
     rintro e w4 ⟨rfl, h4, f4'⟩
     try clear f0 f1 f2 f3 f4 f5 ff
     try clear y0 y1 y2 y3 y4 yf
     try clear xpk xpn xpm xpl xpf
     try clear xck xcn xcm xcl xcf
     try clear xzk xzn xzm xzl xzf
     have H4 : Hid (UB w4 base bb gB cB gH cH al nh s (fre lk ⟨9, p, c, false⟩) ix (upd hs v ⟨2, p, c, true⟩) pv dv now D) := h4.all_eq rfl (by unfold fre; rw [upd_same]) rfl
     have F4 := Lib.hid (F3.out.trans f4')
     clear h4 f4'
     have d4a : w4.cell? ⟨db, 0, none⟩ = some (I 3) := (F4.out.cell D1.out (by decide) (by decide) (by decide) (by decide)).trans (by rw [jcell D1.out]; rfl)
     have d4b : w4.cell? ⟨db, 1, none⟩ = some (I K) := (F4.out.cell D1.out (by decide) (by decide) (by decide) (by decide)).trans (by rw [jcell D1.out]; rfl)
     obtain ⟨f0, f1, f2, f3, f4, f5, ff⟩ := H4.out.fb
     obtain ⟨y0, y1, y2, y3, y4, yf⟩ := H4.out.hd hv
     rw [upd_same] at y1 y2 y3 y4
     dsimp only at y1 y2 y3 y4
     have y1q := y1
     clear y1
     have y1 : w4.cell? ⟨gH, v * 5 + 1, none⟩ = some (I 2) := y1q
     clear y1q
     go_wp2
     go_ret
     exact ⟨rfl, ⟨gB, cB, H4.out⟩, F01.out.trans F4.out⟩)
set_option maxRecDepth 100000 in
set_option maxHeartbeats 8000000 in
theorem uover_23n (h : UB w base bb gB cB gH cH al nh s lk ix hs pv dv now D) (hv : v < nh) (hq : hs v = ⟨2, p, c, is_⟩) (hps : p < s.sz) (hcs : c < s.sz) (hge : ¬ s.key c < K) (he : s.key c ≠ K) :
    Calls Try.prog 40 #[jp bb, .pointer (some ⟨gH, v * 5, none⟩), .agg #[I 3, I K]] w (RetH base bb gH cH al nh ix hs pv dv now D v ⟨s, (fre lk ⟨9, p, c, false⟩), ⟨2, p, c, false⟩, .none, true⟩ w) := by
  have hbz := h.bbase
  obtain ⟨w0, hw0⟩ : ∃ x, x = w.alloc (.cells #[I 3, I K] 50) := ⟨_, rfl⟩
  have H0 : Hid (UB w0 base bb gB cB gH cH al nh s lk ix hs pv dv now D) := by rw [hw0]; exact h.keep ((Below.refl _ _).alloc (Nat.le_refl _) _)
  have F0 : Hid (UF base w w0) := by rw [hw0]; exact (UF.refl _ _).alloc hbz _
  have D0 : Hid (w0.heap[w.heap.size]? = some (.cells #[I 3, I K] 50 (0, 0))) := by rw [hw0]; exact heap_alloc_new _ _
  obtain ⟨db, hdb⟩ : ∃ x, w.heap.size = x := ⟨_, rfl⟩
  rw [hdb] at D0
  have hc0 : (0 : Int) ≤ (c : Int) := by omega
  have hcz : (c : Int) < (s.sz : Int) := by omega
  have hp0 : (0 : Int) ≤ (p : Int) := by omega
  have hpz : (p : Int) < (s.sz : Int) := by omega
  have hkb : (s.key c == K) = false := by simp [he]
  clear he
  obtain ⟨f0, f1, f2, f3, f4, f5, ff⟩ := H0.out.fb
  obtain ⟨y0, y1, y2, y3, y4, yf⟩ := H0.out.hd hv
  rw [hq] at y1 y2 y3 y4
  dsimp only at y1 y2 y3 y4
  have HQ := Lib.hid hq
  have HPS := Lib.hid hps
  have HCS := Lib.hid hcs
  clear h hbz hps hcs hq
  go_enter Try.func40, Try.ntmps40
  go_upto_region 1 with fail
  rw [← hw0]
  try rw [hdb]
  clear hw0 hdb
  go_quiet (fail)
  have H1 := Lib.hid (H0.out.drewN nq)
  have F01 := Lib.hid (F0.out.drewN nq)
  have D1 : Hid ((w0.drewN nq).heap[db]? = some (.cells #[I 3, I K] 50 (0, 0))) := D0.out
  clear H0 F0 D0
  try clear f0 f1 f2 f3 f4 f5 ff
  try clear y0 y1 y2 y3 y4 yf
  try clear xpk xpn xpm xpl xpf
  try clear xck xcn xcm xcl xcf
  try clear xzk xzn xzm xzl xzf
  generalize hgw : w0.drewN nq = w1 at *
  clear hgw nq
  have F1 := Lib.hid (UF.refl base w1)
  have d1a : w1.cell? ⟨db, 0, none⟩ = some (I 3) := (F1.out.cell D1.out (by decide) (by decide) (by decide) (by decide)).trans (by rw [jcell D1.out]; rfl)
  have d1b : w1.cell? ⟨db, 1, none⟩ = some (I K) := (F1.out.cell D1.out (by decide) (by decide) (by decide) (by decide)).trans (by rw [jcell D1.out]; rfl)
  obtain ⟨f0, f1, f2, f3, f4, f5, ff⟩ := H1.out.fb
  obtain ⟨y0, y1, y2, y3, y4, yf⟩ := H1.out.hd hv
  rw [HQ.out] at y1 y2 y3 y4
  dsimp only at y1 y2 y3 y4
  have y1q := y1
  clear y1
  have y1 : w1.cell? ⟨gH, v * 5 + 1, none⟩ = some (I 2) := y1q
  clear y1q
  obtain ⟨xck, xcn, xcm, xcl, xcf⟩ := H1.out.bd (i := c) HCS.out
  go_wp2_with fail
  go_quiet (fail)
  try clear f0 f1 f2 f3 f4 f5 ff
  try clear y0 y1 y2 y3 y4 yf
  try clear xpk xpn xpm xpl xpf
  try clear xck xcn xcm xcl xcf
  try clear xzk xzn xzm xzl xzf
  have H2 : Hid (UB (w1.drewN nq) base bb gB cB gH cH al nh s lk ix hs pv dv now D) := H1.out.drewN nq
  have F2 : Hid (UF base w1 (w1.drewN nq)) := F1.out.drewN nq
  generalize hgw : w1.drewN nq = w2 at *
  clear hgw
  have d2a : w2.cell? ⟨db, 0, none⟩ = some (I 3) := (F2.out.cell D1.out (by decide) (by decide) (by decide) (by decide)).trans (by rw [jcell D1.out]; rfl)
  have d2b : w2.cell? ⟨db, 1, none⟩ = some (I K) := (F2.out.cell D1.out (by decide) (by decide) (by decide) (by decide)).trans (by rw [jcell D1.out]; rfl)
  clear nq
  obtain ⟨f0, f1, f2, f3, f4, f5, ff⟩ := H2.out.fb
  obtain ⟨y0, y1, y2, y3, y4, yf⟩ := H2.out.hd hv
  rw [HQ.out] at y1 y2 y3 y4
  dsimp only at y1 y2 y3 y4
  have y1q := y1
  clear y1
  have y1 : w2.cell? ⟨gH, v * 5 + 1, none⟩ = some (I 2) := y1q
  clear y1q
  obtain ⟨xck, xcn, xcm, xcl, xcf⟩ := H2.out.bd (i := c) HCS.out
  go_wp2_with fail
  go_region
  all_goals
    (try clear f0 f1 f2 f3 f4 f5 ff
     try clear y0 y1 y2 y3 y4 yf
     try clear xpk xpn xpm xpl xpf
     try clear xck xcn xcm xcl xcf
     try clear xzk xzn xzm xzl xzf
     have H3 : Hid (UB ((w2.setCell ⟨gH, v * 5 + 4, none⟩ (.bool false)).drew) base bb gB cB gH cH al nh s lk ix (upd hs v ⟨2, p, c, false⟩) pv dv now D) := (H2.out.iset hv false).drew.hs_eq (by rw [HQ.out])
     have F3 : Hid (UF base w1 ((w2.setCell ⟨gH, v * 5 + 4, none⟩ (.bool false)).drew)) := (F2.out.trans (H2.out.ufH _ _)).drew
     generalize hgw : (w2.setCell ⟨gH, v * 5 + 4, none⟩ (.bool false)).drew = w3 at *
     clear hgw
     have d3a : w3.cell? ⟨db, 0, none⟩ = some (I 3) := (F3.out.cell D1.out (by decide) (by decide) (by decide) (by decide)).trans (by rw [jcell D1.out]; rfl)
     have d3b : w3.cell? ⟨db, 1, none⟩ = some (I K) := (F3.out.cell D1.out (by decide) (by decide) (by decide) (by decide)).trans (by rw [jcell D1.out]; rfl)
     have HA3 := Lib.hid (ufree_any (p := p) (c := c) H3.out hv (by rw [upd_same]) (by rw [upd_same]) HPS.out HCS.out)
     go_wp2_with fail
     refine HA3.out.mono ?_
     rintro e w4 ⟨rfl, h4, f4'⟩
     try clear f0 f1 f2 f3 f4 f5 ff
     try clear y0 y1 y2 y3 y4 yf
     try clear xpk xpn xpm xpl xpf
     try clear xck xcn xcm xcl xcf
     try clear xzk xzn xzm xzl xzf
     have H4 : Hid (UB w4 base bb gB cB gH cH al nh s (fre lk ⟨9, p, c, false⟩) ix (upd hs v ⟨2, p, c, false⟩) pv dv now D) := h4.all_eq rfl (by unfold fre; rw [upd_same]) rfl
     have F4 := Lib.hid (F3.out.trans f4')
     clear h4 f4'
     have d4a : w4.cell? ⟨db, 0, none⟩ = some (I 3) := (F4.out.cell D1.out (by decide) (by decide) (by decide) (by decide)).trans (by rw [jcell D1.out]; rfl)
     have d4b : w4.cell? ⟨db, 1, none⟩ = some (I K) := (F4.out.cell D1.out (by decide) (by decide) (by decide) (by decide)).trans (by rw [jcell D1.out]; rfl)
     obtain ⟨f0, f1, f2, f3, f4, f5, ff⟩ := H4.out.fb
     obtain ⟨y0, y1, y2, y3, y4, yf⟩ := H4.out.hd hv
     rw [upd_same] at y1 y2 y3 y4
     dsimp only at y1 y2 y3 y4
     have y1q := y1
     clear y1
     have y1 : w4.cell? ⟨gH, v * 5 + 1, none⟩ = some (I 2) := y1q
     clear y1q
     go_wp2
     go_ret
     exact ⟨rfl, ⟨gB, cB, H4.out⟩, F01.out.trans F4.out⟩)
end
end Go.Proofs.Ytfmdpmebllepeaa

/-
  hedgref's Bench: lookTwice, to look and to lock. Written by tools/gen_ubench.py.
-/
namespace Go.Proofs.Ytfmdpmebllepeaa
open Go.RowKit

section
variable {w : World} {base bb gB cB gH cH al nh : Nat} {s : Bs} {lk : Nat → Bool} {ix : Nat → Nat} {hs : Nat → Hd} {pv dv : Value} {now : Nat} {D : List Dn} {v p c : Nat} {is_ : Bool} {kd K : Int}
set_option maxRecDepth 100000 in
set_option maxHeartbeats 8000000 in
theorem ulazy_0 (h : UB w base bb gB cB gH cH al nh s lk ix hs pv dv now D) (hv : v < nh) (hq : hs v = ⟨0, p, c, is_⟩) (hps : p < s.sz) (hcs : c < s.sz) (ht : s.tl < s.sz) (h0t : 0 ≠ s.tl) :
    Calls Try.prog 41 #[jp bb, .pointer (some ⟨gH, v * 5, none⟩), .agg #[I kd, I K]] w (RetH base bb gH cH al nh ix hs pv dv now D v ⟨s, lk, ⟨1, 0, s.nx 0, is_⟩, .none, false⟩ w) := by
  have hbz := h.bbase
  obtain ⟨w0, hw0⟩ : ∃ x, x = w.alloc (.cells #[I kd, I K] 50) := ⟨_, rfl⟩
  have H0 : Hid (UB w0 base bb gB cB gH cH al nh s lk ix hs pv dv now D) := by rw [hw0]; exact h.keep ((Below.refl _ _).alloc (Nat.le_refl _) _)
  have F0 : Hid (UF base w w0) := by rw [hw0]; exact (UF.refl _ _).alloc hbz _
  have D0 : Hid (w0.heap[w.heap.size]? = some (.cells #[I kd, I K] 50 (0, 0))) := by rw [hw0]; exact heap_alloc_new _ _
  obtain ⟨db, hdb⟩ : ∃ x, w.heap.size = x := ⟨_, rfl⟩
  rw [hdb] at D0
  have hc0 : (0 : Int) ≤ (c : Int) := by omega
  have hcz : (c : Int) < (s.sz : Int) := by omega
  have hp0 : (0 : Int) ≤ (p : Int) := by omega
  have hpz : (p : Int) < (s.sz : Int) := by omega
  have hz0 : 0 < s.sz := by omega
  have hzi : (0 : Int) < (s.sz : Int) := by omega
  obtain ⟨f0, f1, f2, f3, f4, f5, ff⟩ := H0.out.fb
  obtain ⟨y0, y1, y2, y3, y4, yf⟩ := H0.out.hd hv
  rw [hq] at y1 y2 y3 y4
  dsimp only at y1 y2 y3 y4
  have HQ := Lib.hid hq
  have HPS := Lib.hid hps
  have HCS := Lib.hid hcs
  clear h hbz hps hcs hq
  go_enter Try.func41, Try.ntmps41
  go_upto_region 1 with fail
  rw [← hw0]
  try rw [hdb]
  clear hw0 hdb
  go_quiet (fail)
  have H1 := Lib.hid (H0.out.drewN nq)
  have F01 := Lib.hid (F0.out.drewN nq)
  have D1 : Hid ((w0.drewN nq).heap[db]? = some (.cells #[I kd, I K] 50 (0, 0))) := D0.out
  clear H0 F0 D0
  try clear f0 f1 f2 f3 f4 f5 ff
  try clear y0 y1 y2 y3 y4 yf
  try clear xpk xpn xpm xpl xpf
  try clear xck xcn xcm xcl xcf
  try clear xzk xzn xzm xzl xzf
  generalize hgw : w0.drewN nq = w1 at *
  clear hgw nq
  have F1 := Lib.hid (UF.refl base w1)
  have d1a : w1.cell? ⟨db, 0, none⟩ = some (I kd) := (F1.out.cell D1.out (by decide) (by decide) (by decide) (by decide)).trans (by rw [jcell D1.out]; rfl)
  have d1b : w1.cell? ⟨db, 1, none⟩ = some (I K) := (F1.out.cell D1.out (by decide) (by decide) (by decide) (by decide)).trans (by rw [jcell D1.out]; rfl)
  obtain ⟨f0, f1, f2, f3, f4, f5, ff⟩ := H1.out.fb
  obtain ⟨y0, y1, y2, y3, y4, yf⟩ := H1.out.hd hv
  rw [HQ.out] at y1 y2 y3 y4
  dsimp only at y1 y2 y3 y4
  have y1q := y1
  clear y1
  have y1 : w1.cell? ⟨gH, v * 5 + 1, none⟩ = some (I 0) := y1q
  clear y1q
  obtain ⟨xck, xcn, xcm, xcl, xcf⟩ := H1.out.bd (i := c) HCS.out
  go_wp2_with fail
  go_quiet (fail)
  try clear f0 f1 f2 f3 f4 f5 ff
  try clear y0 y1 y2 y3 y4 yf
  try clear xpk xpn xpm xpl xpf
  try clear xck xcn xcm xcl xcf
  try clear xzk xzn xzm xzl xzf
  have H2 : Hid (UB (w1.drewN nq) base bb gB cB gH cH al nh s lk ix hs pv dv now D) := H1.out.drewN nq
  have F2 : Hid (UF base w1 (w1.drewN nq)) := F1.out.drewN nq
  generalize hgw : w1.drewN nq = w2 at *
  clear hgw
  have d2a : w2.cell? ⟨db, 0, none⟩ = some (I kd) := (F2.out.cell D1.out (by decide) (by decide) (by decide) (by decide)).trans (by rw [jcell D1.out]; rfl)
  have d2b : w2.cell? ⟨db, 1, none⟩ = some (I K) := (F2.out.cell D1.out (by decide) (by decide) (by decide) (by decide)).trans (by rw [jcell D1.out]; rfl)
  clear nq
  obtain ⟨f0, f1, f2, f3, f4, f5, ff⟩ := H2.out.fb
  obtain ⟨y0, y1, y2, y3, y4, yf⟩ := H2.out.hd hv
  rw [HQ.out] at y1 y2 y3 y4
  dsimp only at y1 y2 y3 y4
  have y1q := y1
  clear y1
  have y1 : w2.cell? ⟨gH, v * 5 + 1, none⟩ = some (I 0) := y1q
  clear y1q
  have HA2 := Lib.hid (uagain_any H2.out hv hz0 h0t)
  go_wp2_with fail
  refine HA2.out.mono ?_
  rintro e w3 ⟨rfl, h3, f3'⟩
  try clear f0 f1 f2 f3 f4 f5 ff
  try clear y0 y1 y2 y3 y4 yf
  try clear xpk xpn xpm xpl xpf
  try clear xck xcn xcm xcl xcf
  try clear xzk xzn xzm xzl xzf
  have H3 : Hid (UB w3 base bb gB cB gH cH al nh s lk ix (upd hs v ⟨1, 0, (s.nx 0), is_⟩) pv dv now D) := h3.hs_eq (by rw [HQ.out])
  have F3 := Lib.hid (F2.out.trans f3')
  clear h3 f3'
  have d3a : w3.cell? ⟨db, 0, none⟩ = some (I kd) := (F3.out.cell D1.out (by decide) (by decide) (by decide) (by decide)).trans (by rw [jcell D1.out]; rfl)
  have d3b : w3.cell? ⟨db, 1, none⟩ = some (I K) := (F3.out.cell D1.out (by decide) (by decide) (by decide) (by decide)).trans (by rw [jcell D1.out]; rfl)
  go_wp2
  go_ret
  exact ⟨rfl, ⟨gB, cB, H3.out⟩, F01.out.trans F3.out⟩
set_option maxRecDepth 100000 in
set_option maxHeartbeats 8000000 in
theorem ulazy_1l (h : UB w base bb gB cB gH cH al nh s lk ix hs pv dv now D) (hv : v < nh) (hq : hs v = ⟨1, p, c, is_⟩) (hps : p < s.sz) (hcs : c < s.sz) (hct : c ≠ s.tl) (hlt : s.key c < K) :
    Calls Try.prog 41 #[jp bb, .pointer (some ⟨gH, v * 5, none⟩), .agg #[I kd, I K]] w (RetH base bb gH cH al nh ix hs pv dv now D v ⟨s, lk, ⟨1, c, s.nx c, is_⟩, .none, false⟩ w) := by
  have hbz := h.bbase
  obtain ⟨w0, hw0⟩ : ∃ x, x = w.alloc (.cells #[I kd, I K] 50) := ⟨_, rfl⟩
  have H0 : Hid (UB w0 base bb gB cB gH cH al nh s lk ix hs pv dv now D) := by rw [hw0]; exact h.keep ((Below.refl _ _).alloc (Nat.le_refl _) _)
  have F0 : Hid (UF base w w0) := by rw [hw0]; exact (UF.refl _ _).alloc hbz _
  have D0 : Hid (w0.heap[w.heap.size]? = some (.cells #[I kd, I K] 50 (0, 0))) := by rw [hw0]; exact heap_alloc_new _ _
  obtain ⟨db, hdb⟩ : ∃ x, w.heap.size = x := ⟨_, rfl⟩
  rw [hdb] at D0
  have hc0 : (0 : Int) ≤ (c : Int) := by omega
  have hcz : (c : Int) < (s.sz : Int) := by omega
  have hp0 : (0 : Int) ≤ (p : Int) := by omega
  have hpz : (p : Int) < (s.sz : Int) := by omega
  obtain ⟨f0, f1, f2, f3, f4, f5, ff⟩ := H0.out.fb
  obtain ⟨y0, y1, y2, y3, y4, yf⟩ := H0.out.hd hv
  rw [hq] at y1 y2 y3 y4
  dsimp only at y1 y2 y3 y4
  have HQ := Lib.hid hq
  have HPS := Lib.hid hps
  have HCS := Lib.hid hcs
  clear h hbz hps hcs hq
  go_enter Try.func41, Try.ntmps41
  go_upto_region 1 with fail
  rw [← hw0]
  try rw [hdb]
  clear hw0 hdb
  go_quiet (fail)
  have H1 := Lib.hid (H0.out.drewN nq)
  have F01 := Lib.hid (F0.out.drewN nq)
  have D1 : Hid ((w0.drewN nq).heap[db]? = some (.cells #[I kd, I K] 50 (0, 0))) := D0.out
  clear H0 F0 D0
  try clear f0 f1 f2 f3 f4 f5 ff
  try clear y0 y1 y2 y3 y4 yf
  try clear xpk xpn xpm xpl xpf
  try clear xck xcn xcm xcl xcf
  try clear xzk xzn xzm xzl xzf
  generalize hgw : w0.drewN nq = w1 at *
  clear hgw nq
  have F1 := Lib.hid (UF.refl base w1)
  have d1a : w1.cell? ⟨db, 0, none⟩ = some (I kd) := (F1.out.cell D1.out (by decide) (by decide) (by decide) (by decide)).trans (by rw [jcell D1.out]; rfl)
  have d1b : w1.cell? ⟨db, 1, none⟩ = some (I K) := (F1.out.cell D1.out (by decide) (by decide) (by decide) (by decide)).trans (by rw [jcell D1.out]; rfl)
  obtain ⟨f0, f1, f2, f3, f4, f5, ff⟩ := H1.out.fb
  obtain ⟨y0, y1, y2, y3, y4, yf⟩ := H1.out.hd hv
  rw [HQ.out] at y1 y2 y3 y4
  dsimp only at y1 y2 y3 y4
  have y1q := y1
  clear y1
  have y1 : w1.cell? ⟨gH, v * 5 + 1, none⟩ = some (I 1) := y1q
  clear y1q
  obtain ⟨xck, xcn, xcm, xcl, xcf⟩ := H1.out.bd (i := c) HCS.out
  go_wp2_with fail
  go_quiet (fail)
  try clear f0 f1 f2 f3 f4 f5 ff
  try clear y0 y1 y2 y3 y4 yf
  try clear xpk xpn xpm xpl xpf
  try clear xck xcn xcm xcl xcf
  try clear xzk xzn xzm xzl xzf
  have H2 : Hid (UB (w1.drewN nq) base bb gB cB gH cH al nh s lk ix hs pv dv now D) := H1.out.drewN nq
  have F2 : Hid (UF base w1 (w1.drewN nq)) := F1.out.drewN nq
  generalize hgw : w1.drewN nq = w2 at *
  clear hgw
  have d2a : w2.cell? ⟨db, 0, none⟩ = some (I kd) := (F2.out.cell D1.out (by decide) (by decide) (by decide) (by decide)).trans (by rw [jcell D1.out]; rfl)
  have d2b : w2.cell? ⟨db, 1, none⟩ = some (I K) := (F2.out.cell D1.out (by decide) (by decide) (by decide) (by decide)).trans (by rw [jcell D1.out]; rfl)
  clear nq
  obtain ⟨f0, f1, f2, f3, f4, f5, ff⟩ := H2.out.fb
  obtain ⟨y0, y1, y2, y3, y4, yf⟩ := H2.out.hd hv
  rw [HQ.out] at y1 y2 y3 y4
  dsimp only at y1 y2 y3 y4
  have y1q := y1
  clear y1
  have y1 : w2.cell? ⟨gH, v * 5 + 1, none⟩ = some (I 1) := y1q
  clear y1q
  obtain ⟨xck, xcn, xcm, xcl, xcf⟩ := H2.out.bd (i := c) HCS.out
  go_wp2_with fail
  go_quiet (fail)
  try clear f0 f1 f2 f3 f4 f5 ff
  try clear y0 y1 y2 y3 y4 yf
  try clear xpk xpn xpm xpl xpf
  try clear xck xcn xcm xcl xcf
  try clear xzk xzn xzm xzl xzf
  have H3 : Hid (UB (w2.drewN nq) base bb gB cB gH cH al nh s lk ix hs pv dv now D) := H2.out.drewN nq
  have F3 : Hid (UF base w1 (w2.drewN nq)) := F2.out.drewN nq
  generalize hgw : w2.drewN nq = w3 at *
  clear hgw
  have d3a : w3.cell? ⟨db, 0, none⟩ = some (I kd) := (F3.out.cell D1.out (by decide) (by decide) (by decide) (by decide)).trans (by rw [jcell D1.out]; rfl)
  have d3b : w3.cell? ⟨db, 1, none⟩ = some (I K) := (F3.out.cell D1.out (by decide) (by decide) (by decide) (by decide)).trans (by rw [jcell D1.out]; rfl)
  clear nq
  obtain ⟨f0, f1, f2, f3, f4, f5, ff⟩ := H3.out.fb
  obtain ⟨y0, y1, y2, y3, y4, yf⟩ := H3.out.hd hv
  rw [HQ.out] at y1 y2 y3 y4
  dsimp only at y1 y2 y3 y4
  have y1q := y1
  clear y1
  have y1 : w3.cell? ⟨gH, v * 5 + 1, none⟩ = some (I 1) := y1q
  clear y1q
  have HA3 := Lib.hid (uon_any (p := p) H3.out hv (by rw [HQ.out]) HCS.out hct)
  go_wp2_with fail
  refine HA3.out.mono ?_
  rintro e w4 ⟨rfl, h4, f4'⟩
  try clear f0 f1 f2 f3 f4 f5 ff
  try clear y0 y1 y2 y3 y4 yf
  try clear xpk xpn xpm xpl xpf
  try clear xck xcn xcm xcl xcf
  try clear xzk xzn xzm xzl xzf
  have H4 : Hid (UB w4 base bb gB cB gH cH al nh s lk ix (upd hs v ⟨1, c, (s.nx c), is_⟩) pv dv now D) := h4.hs_eq (by rw [HQ.out])
  have F4 := Lib.hid (F3.out.trans f4')
  clear h4 f4'
  have d4a : w4.cell? ⟨db, 0, none⟩ = some (I kd) := (F4.out.cell D1.out (by decide) (by decide) (by decide) (by decide)).trans (by rw [jcell D1.out]; rfl)
  have d4b : w4.cell? ⟨db, 1, none⟩ = some (I K) := (F4.out.cell D1.out (by decide) (by decide) (by decide) (by decide)).trans (by rw [jcell D1.out]; rfl)
  go_wp2
  go_ret
  exact ⟨rfl, ⟨gB, cB, H4.out⟩, F01.out.trans F4.out⟩
set_option maxRecDepth 100000 in
set_option maxHeartbeats 8000000 in
theorem ulazy_13n (h : UB w base bb gB cB gH cH al nh s lk ix hs pv dv now D) (hv : v < nh) (hq : hs v = ⟨1, p, c, is_⟩) (hps : p < s.sz) (hcs : c < s.sz) (hge : ¬ s.key c < K) (he : s.key c ≠ K) :
    Calls Try.prog 41 #[jp bb, .pointer (some ⟨gH, v * 5, none⟩), .agg #[I 3, I K]] w (RetH base bb gH cH al nh ix hs pv dv now D v ⟨s, lk, ⟨1, p, c, false⟩, .none, true⟩ w) := by
  have hbz := h.bbase
  obtain ⟨w0, hw0⟩ : ∃ x, x = w.alloc (.cells #[I 3, I K] 50) := ⟨_, rfl⟩
  have H0 : Hid (UB w0 base bb gB cB gH cH al nh s lk ix hs pv dv now D) := by rw [hw0]; exact h.keep ((Below.refl _ _).alloc (Nat.le_refl _) _)
  have F0 : Hid (UF base w w0) := by rw [hw0]; exact (UF.refl _ _).alloc hbz _
  have D0 : Hid (w0.heap[w.heap.size]? = some (.cells #[I 3, I K] 50 (0, 0))) := by rw [hw0]; exact heap_alloc_new _ _
  obtain ⟨db, hdb⟩ : ∃ x, w.heap.size = x := ⟨_, rfl⟩
  rw [hdb] at D0
  have hc0 : (0 : Int) ≤ (c : Int) := by omega
  have hcz : (c : Int) < (s.sz : Int) := by omega
  have hp0 : (0 : Int) ≤ (p : Int) := by omega
  have hpz : (p : Int) < (s.sz : Int) := by omega
  have hkb : (s.key c == K) = false := by simp [he]
  clear he
  obtain ⟨f0, f1, f2, f3, f4, f5, ff⟩ := H0.out.fb
  obtain ⟨y0, y1, y2, y3, y4, yf⟩ := H0.out.hd hv
  rw [hq] at y1 y2 y3 y4
  dsimp only at y1 y2 y3 y4
  have HQ := Lib.hid hq
  have HPS := Lib.hid hps
  have HCS := Lib.hid hcs
  clear h hbz hps hcs hq
  go_enter Try.func41, Try.ntmps41
  go_upto_region 1 with fail
  rw [← hw0]
  try rw [hdb]
  clear hw0 hdb
  go_quiet (fail)
  have H1 := Lib.hid (H0.out.drewN nq)
  have F01 := Lib.hid (F0.out.drewN nq)
  have D1 : Hid ((w0.drewN nq).heap[db]? = some (.cells #[I 3, I K] 50 (0, 0))) := D0.out
  clear H0 F0 D0
  try clear f0 f1 f2 f3 f4 f5 ff
  try clear y0 y1 y2 y3 y4 yf
  try clear xpk xpn xpm xpl xpf
  try clear xck xcn xcm xcl xcf
  try clear xzk xzn xzm xzl xzf
  generalize hgw : w0.drewN nq = w1 at *
  clear hgw nq
  have F1 := Lib.hid (UF.refl base w1)
  have d1a : w1.cell? ⟨db, 0, none⟩ = some (I 3) := (F1.out.cell D1.out (by decide) (by decide) (by decide) (by decide)).trans (by rw [jcell D1.out]; rfl)
  have d1b : w1.cell? ⟨db, 1, none⟩ = some (I K) := (F1.out.cell D1.out (by decide) (by decide) (by decide) (by decide)).trans (by rw [jcell D1.out]; rfl)
  obtain ⟨f0, f1, f2, f3, f4, f5, ff⟩ := H1.out.fb
  obtain ⟨y0, y1, y2, y3, y4, yf⟩ := H1.out.hd hv
  rw [HQ.out] at y1 y2 y3 y4
  dsimp only at y1 y2 y3 y4
  have y1q := y1
  clear y1
  have y1 : w1.cell? ⟨gH, v * 5 + 1, none⟩ = some (I 1) := y1q
  clear y1q
  obtain ⟨xck, xcn, xcm, xcl, xcf⟩ := H1.out.bd (i := c) HCS.out
  go_wp2_with fail
  go_quiet (fail)
  try clear f0 f1 f2 f3 f4 f5 ff
  try clear y0 y1 y2 y3 y4 yf
  try clear xpk xpn xpm xpl xpf
  try clear xck xcn xcm xcl xcf
  try clear xzk xzn xzm xzl xzf
  have H2 : Hid (UB (w1.drewN nq) base bb gB cB gH cH al nh s lk ix hs pv dv now D) := H1.out.drewN nq
  have F2 : Hid (UF base w1 (w1.drewN nq)) := F1.out.drewN nq
  generalize hgw : w1.drewN nq = w2 at *
  clear hgw
  have d2a : w2.cell? ⟨db, 0, none⟩ = some (I 3) := (F2.out.cell D1.out (by decide) (by decide) (by decide) (by decide)).trans (by rw [jcell D1.out]; rfl)
  have d2b : w2.cell? ⟨db, 1, none⟩ = some (I K) := (F2.out.cell D1.out (by decide) (by decide) (by decide) (by decide)).trans (by rw [jcell D1.out]; rfl)
  clear nq
  obtain ⟨f0, f1, f2, f3, f4, f5, ff⟩ := H2.out.fb
  obtain ⟨y0, y1, y2, y3, y4, yf⟩ := H2.out.hd hv
  rw [HQ.out] at y1 y2 y3 y4
  dsimp only at y1 y2 y3 y4
  have y1q := y1
  clear y1
  have y1 : w2.cell? ⟨gH, v * 5 + 1, none⟩ = some (I 1) := y1q
  clear y1q
  obtain ⟨xck, xcn, xcm, xcl, xcf⟩ := H2.out.bd (i := c) HCS.out
  go_wp2_with fail
  go_quiet (fail)
  try clear f0 f1 f2 f3 f4 f5 ff
  try clear y0 y1 y2 y3 y4 yf
  try clear xpk xpn xpm xpl xpf
  try clear xck xcn xcm xcl xcf
  try clear xzk xzn xzm xzl xzf
  have H3 : Hid (UB (w2.drewN nq) base bb gB cB gH cH al nh s lk ix hs pv dv now D) := H2.out.drewN nq
  have F3 : Hid (UF base w1 (w2.drewN nq)) := F2.out.drewN nq
  generalize hgw : w2.drewN nq = w3 at *
  clear hgw
  have d3a : w3.cell? ⟨db, 0, none⟩ = some (I 3) := (F3.out.cell D1.out (by decide) (by decide) (by decide) (by decide)).trans (by rw [jcell D1.out]; rfl)
  have d3b : w3.cell? ⟨db, 1, none⟩ = some (I K) := (F3.out.cell D1.out (by decide) (by decide) (by decide) (by decide)).trans (by rw [jcell D1.out]; rfl)
  clear nq
  obtain ⟨f0, f1, f2, f3, f4, f5, ff⟩ := H3.out.fb
  obtain ⟨y0, y1, y2, y3, y4, yf⟩ := H3.out.hd hv
  rw [HQ.out] at y1 y2 y3 y4
  dsimp only at y1 y2 y3 y4
  have y1q := y1
  clear y1
  have y1 : w3.cell? ⟨gH, v * 5 + 1, none⟩ = some (I 1) := y1q
  clear y1q
  obtain ⟨xck, xcn, xcm, xcl, xcf⟩ := H3.out.bd (i := c) HCS.out
  have H4 := Lib.hid (H3.out.iset hv false)
  have F4 := Lib.hid (F3.out.trans (H3.out.ufH (v * 5 + 4) (.bool false)))
  go_wp2
  go_ret
  exact ⟨rfl, ⟨gB, cB, H4.out.hs_eq (by rw [HQ.out])⟩, F01.out.trans F4.out⟩
set_option maxRecDepth 100000 in
set_option maxHeartbeats 8000000 in
theorem ulazy_13e (h : UB w base bb gB cB gH cH al nh s lk ix hs pv dv now D) (hv : v < nh) (hq : hs v = ⟨1, p, c, is_⟩) (hps : p < s.sz) (hcs : c < s.sz) (hge : ¬ s.key c < K) (he : s.key c = K) (hm : s.mrk c = false) :
    Calls Try.prog 41 #[jp bb, .pointer (some ⟨gH, v * 5, none⟩), .agg #[I 3, I K]] w (RetH base bb gH cH al nh ix hs pv dv now D v ⟨s, lk, ⟨1, p, c, true⟩, .none, true⟩ w) := by
  have hbz := h.bbase
  obtain ⟨w0, hw0⟩ : ∃ x, x = w.alloc (.cells #[I 3, I K] 50) := ⟨_, rfl⟩
  have H0 : Hid (UB w0 base bb gB cB gH cH al nh s lk ix hs pv dv now D) := by rw [hw0]; exact h.keep ((Below.refl _ _).alloc (Nat.le_refl _) _)
  have F0 : Hid (UF base w w0) := by rw [hw0]; exact (UF.refl _ _).alloc hbz _
  have D0 : Hid (w0.heap[w.heap.size]? = some (.cells #[I 3, I K] 50 (0, 0))) := by rw [hw0]; exact heap_alloc_new _ _
  obtain ⟨db, hdb⟩ : ∃ x, w.heap.size = x := ⟨_, rfl⟩
  rw [hdb] at D0
  have hc0 : (0 : Int) ≤ (c : Int) := by omega
  have hcz : (c : Int) < (s.sz : Int) := by omega
  have hp0 : (0 : Int) ≤ (p : Int) := by omega
  have hpz : (p : Int) < (s.sz : Int) := by omega
  have hkb : (s.key c == K) = true := by simp [he]
  clear he
  obtain ⟨f0, f1, f2, f3, f4, f5, ff⟩ := H0.out.fb
  obtain ⟨y0, y1, y2, y3, y4, yf⟩ := H0.out.hd hv
  rw [hq] at y1 y2 y3 y4
  dsimp only at y1 y2 y3 y4
  have HQ := Lib.hid hq
  have HPS := Lib.hid hps
  have HCS := Lib.hid hcs
  clear h hbz hps hcs hq
  go_enter Try.func41, Try.ntmps41
  go_upto_region 1 with fail
  rw [← hw0]
  try rw [hdb]
  clear hw0 hdb
  go_quiet (fail)
  have H1 := Lib.hid (H0.out.drewN nq)
  have F01 := Lib.hid (F0.out.drewN nq)
  have D1 : Hid ((w0.drewN nq).heap[db]? = some (.cells #[I 3, I K] 50 (0, 0))) := D0.out
  clear H0 F0 D0
  try clear f0 f1 f2 f3 f4 f5 ff
  try clear y0 y1 y2 y3 y4 yf
  try clear xpk xpn xpm xpl xpf
  try clear xck xcn xcm xcl xcf
  try clear xzk xzn xzm xzl xzf
  generalize hgw : w0.drewN nq = w1 at *
  clear hgw nq
  have F1 := Lib.hid (UF.refl base w1)
  have d1a : w1.cell? ⟨db, 0, none⟩ = some (I 3) := (F1.out.cell D1.out (by decide) (by decide) (by decide) (by decide)).trans (by rw [jcell D1.out]; rfl)
  have d1b : w1.cell? ⟨db, 1, none⟩ = some (I K) := (F1.out.cell D1.out (by decide) (by decide) (by decide) (by decide)).trans (by rw [jcell D1.out]; rfl)
  obtain ⟨f0, f1, f2, f3, f4, f5, ff⟩ := H1.out.fb
  obtain ⟨y0, y1, y2, y3, y4, yf⟩ := H1.out.hd hv
  rw [HQ.out] at y1 y2 y3 y4
  dsimp only at y1 y2 y3 y4
  have y1q := y1
  clear y1
  have y1 : w1.cell? ⟨gH, v * 5 + 1, none⟩ = some (I 1) := y1q
  clear y1q
  obtain ⟨xck, xcn, xcm, xcl, xcf⟩ := H1.out.bd (i := c) HCS.out
  go_wp2_with fail
  go_quiet (fail)
  try clear f0 f1 f2 f3 f4 f5 ff
  try clear y0 y1 y2 y3 y4 yf
  try clear xpk xpn xpm xpl xpf
  try clear xck xcn xcm xcl xcf
  try clear xzk xzn xzm xzl xzf
  have H2 : Hid (UB (w1.drewN nq) base bb gB cB gH cH al nh s lk ix hs pv dv now D) := H1.out.drewN nq
  have F2 : Hid (UF base w1 (w1.drewN nq)) := F1.out.drewN nq
  generalize hgw : w1.drewN nq = w2 at *
  clear hgw
  have d2a : w2.cell? ⟨db, 0, none⟩ = some (I 3) := (F2.out.cell D1.out (by decide) (by decide) (by decide) (by decide)).trans (by rw [jcell D1.out]; rfl)
  have d2b : w2.cell? ⟨db, 1, none⟩ = some (I K) := (F2.out.cell D1.out (by decide) (by decide) (by decide) (by decide)).trans (by rw [jcell D1.out]; rfl)
  clear nq
  obtain ⟨f0, f1, f2, f3, f4, f5, ff⟩ := H2.out.fb
  obtain ⟨y0, y1, y2, y3, y4, yf⟩ := H2.out.hd hv
  rw [HQ.out] at y1 y2 y3 y4
  dsimp only at y1 y2 y3 y4
  have y1q := y1
  clear y1
  have y1 : w2.cell? ⟨gH, v * 5 + 1, none⟩ = some (I 1) := y1q
  clear y1q
  obtain ⟨xck, xcn, xcm, xcl, xcf⟩ := H2.out.bd (i := c) HCS.out
  go_wp2_with fail
  go_quiet (fail)
  try clear f0 f1 f2 f3 f4 f5 ff
  try clear y0 y1 y2 y3 y4 yf
  try clear xpk xpn xpm xpl xpf
  try clear xck xcn xcm xcl xcf
  try clear xzk xzn xzm xzl xzf
  have H3 : Hid (UB (w2.drewN nq) base bb gB cB gH cH al nh s lk ix hs pv dv now D) := H2.out.drewN nq
  have F3 : Hid (UF base w1 (w2.drewN nq)) := F2.out.drewN nq
  generalize hgw : w2.drewN nq = w3 at *
  clear hgw
  have d3a : w3.cell? ⟨db, 0, none⟩ = some (I 3) := (F3.out.cell D1.out (by decide) (by decide) (by decide) (by decide)).trans (by rw [jcell D1.out]; rfl)
  have d3b : w3.cell? ⟨db, 1, none⟩ = some (I K) := (F3.out.cell D1.out (by decide) (by decide) (by decide) (by decide)).trans (by rw [jcell D1.out]; rfl)
  clear nq
  obtain ⟨f0, f1, f2, f3, f4, f5, ff⟩ := H3.out.fb
  obtain ⟨y0, y1, y2, y3, y4, yf⟩ := H3.out.hd hv
  rw [HQ.out] at y1 y2 y3 y4
  dsimp only at y1 y2 y3 y4
  have y1q := y1
  clear y1
  have y1 : w3.cell? ⟨gH, v * 5 + 1, none⟩ = some (I 1) := y1q
  clear y1q
  obtain ⟨xck, xcn, xcm, xcl, xcf⟩ := H3.out.bd (i := c) HCS.out
  rw [hm] at xcm
  have H4 := Lib.hid (H3.out.iset hv true)
  have F4 := Lib.hid (F3.out.trans (H3.out.ufH (v * 5 + 4) (.bool true)))
  go_wp2
  go_ret
  exact ⟨rfl, ⟨gB, cB, H4.out.hs_eq (by rw [HQ.out])⟩, F01.out.trans F4.out⟩
set_option maxRecDepth 100000 in
set_option maxHeartbeats 8000000 in
theorem ulazy_13m (h : UB w base bb gB cB gH cH al nh s lk ix hs pv dv now D) (hv : v < nh) (hq : hs v = ⟨1, p, c, is_⟩) (hps : p < s.sz) (hcs : c < s.sz) (hge : ¬ s.key c < K) (he : s.key c = K) (hm : s.mrk c = true) :
    Calls Try.prog 41 #[jp bb, .pointer (some ⟨gH, v * 5, none⟩), .agg #[I 3, I K]] w (RetH base bb gH cH al nh ix hs pv dv now D v ⟨s, lk, ⟨1, p, c, false⟩, .none, true⟩ w) := by
  have hbz := h.bbase
  obtain ⟨w0, hw0⟩ : ∃ x, x = w.alloc (.cells #[I 3, I K] 50) := ⟨_, rfl⟩
  have H0 : Hid (UB w0 base bb gB cB gH cH al nh s lk ix hs pv dv now D) := by rw [hw0]; exact h.keep ((Below.refl _ _).alloc (Nat.le_refl _) _)
  have F0 : Hid (UF base w w0) := by rw [hw0]; exact (UF.refl _ _).alloc hbz _
  have D0 : Hid (w0.heap[w.heap.size]? = some (.cells #[I 3, I K] 50 (0, 0))) := by rw [hw0]; exact heap_alloc_new _ _
  obtain ⟨db, hdb⟩ : ∃ x, w.heap.size = x := ⟨_, rfl⟩
  rw [hdb] at D0
  have hc0 : (0 : Int) ≤ (c : Int) := by omega
  have hcz : (c : Int) < (s.sz : Int) := by omega
  have hp0 : (0 : Int) ≤ (p : Int) := by omega
  have hpz : (p : Int) < (s.sz : Int) := by omega
  have hkb : (s.key c == K) = true := by simp [he]
  clear he
  obtain ⟨f0, f1, f2, f3, f4, f5, ff⟩ := H0.out.fb
  obtain ⟨y0, y1, y2, y3, y4, yf⟩ := H0.out.hd hv
  rw [hq] at y1 y2 y3 y4
  dsimp only at y1 y2 y3 y4
  have HQ := Lib.hid hq
  have HPS := Lib.hid hps
  have HCS := Lib.hid hcs
  clear h hbz hps hcs hq
  go_enter Try.func41, Try.ntmps41
  go_upto_region 1 with fail
  rw [← hw0]
  try rw [hdb]
  clear hw0 hdb
  go_quiet (fail)
  have H1 := Lib.hid (H0.out.drewN nq)
  have F01 := Lib.hid (F0.out.drewN nq)
  have D1 : Hid ((w0.drewN nq).heap[db]? = some (.cells #[I 3, I K] 50 (0, 0))) := D0.out
  clear H0 F0 D0
  try clear f0 f1 f2 f3 f4 f5 ff
  try clear y0 y1 y2 y3 y4 yf
  try clear xpk xpn xpm xpl xpf
  try clear xck xcn xcm xcl xcf
  try clear xzk xzn xzm xzl xzf
  generalize hgw : w0.drewN nq = w1 at *
  clear hgw nq
  have F1 := Lib.hid (UF.refl base w1)
  have d1a : w1.cell? ⟨db, 0, none⟩ = some (I 3) := (F1.out.cell D1.out (by decide) (by decide) (by decide) (by decide)).trans (by rw [jcell D1.out]; rfl)
  have d1b : w1.cell? ⟨db, 1, none⟩ = some (I K) := (F1.out.cell D1.out (by decide) (by decide) (by decide) (by decide)).trans (by rw [jcell D1.out]; rfl)
  obtain ⟨f0, f1, f2, f3, f4, f5, ff⟩ := H1.out.fb
  obtain ⟨y0, y1, y2, y3, y4, yf⟩ := H1.out.hd hv
  rw [HQ.out] at y1 y2 y3 y4
  dsimp only at y1 y2 y3 y4
  have y1q := y1
  clear y1
  have y1 : w1.cell? ⟨gH, v * 5 + 1, none⟩ = some (I 1) := y1q
  clear y1q
  obtain ⟨xck, xcn, xcm, xcl, xcf⟩ := H1.out.bd (i := c) HCS.out
  go_wp2_with fail
  go_quiet (fail)
  try clear f0 f1 f2 f3 f4 f5 ff
  try clear y0 y1 y2 y3 y4 yf
  try clear xpk xpn xpm xpl xpf
  try clear xck xcn xcm xcl xcf
  try clear xzk xzn xzm xzl xzf
  have H2 : Hid (UB (w1.drewN nq) base bb gB cB gH cH al nh s lk ix hs pv dv now D) := H1.out.drewN nq
  have F2 : Hid (UF base w1 (w1.drewN nq)) := F1.out.drewN nq
  generalize hgw : w1.drewN nq = w2 at *
  clear hgw
  have d2a : w2.cell? ⟨db, 0, none⟩ = some (I 3) := (F2.out.cell D1.out (by decide) (by decide) (by decide) (by decide)).trans (by rw [jcell D1.out]; rfl)
  have d2b : w2.cell? ⟨db, 1, none⟩ = some (I K) := (F2.out.cell D1.out (by decide) (by decide) (by decide) (by decide)).trans (by rw [jcell D1.out]; rfl)
  clear nq
  obtain ⟨f0, f1, f2, f3, f4, f5, ff⟩ := H2.out.fb
  obtain ⟨y0, y1, y2, y3, y4, yf⟩ := H2.out.hd hv
  rw [HQ.out] at y1 y2 y3 y4
  dsimp only at y1 y2 y3 y4
  have y1q := y1
  clear y1
  have y1 : w2.cell? ⟨gH, v * 5 + 1, none⟩ = some (I 1) := y1q
  clear y1q
  obtain ⟨xck, xcn, xcm, xcl, xcf⟩ := H2.out.bd (i := c) HCS.out
  go_wp2_with fail
  go_quiet (fail)
  try clear f0 f1 f2 f3 f4 f5 ff
  try clear y0 y1 y2 y3 y4 yf
  try clear xpk xpn xpm xpl xpf
  try clear xck xcn xcm xcl xcf
  try clear xzk xzn xzm xzl xzf
  have H3 : Hid (UB (w2.drewN nq) base bb gB cB gH cH al nh s lk ix hs pv dv now D) := H2.out.drewN nq
  have F3 : Hid (UF base w1 (w2.drewN nq)) := F2.out.drewN nq
  generalize hgw : w2.drewN nq = w3 at *
  clear hgw
  have d3a : w3.cell? ⟨db, 0, none⟩ = some (I 3) := (F3.out.cell D1.out (by decide) (by decide) (by decide) (by decide)).trans (by rw [jcell D1.out]; rfl)
  have d3b : w3.cell? ⟨db, 1, none⟩ = some (I K) := (F3.out.cell D1.out (by decide) (by decide) (by decide) (by decide)).trans (by rw [jcell D1.out]; rfl)
  clear nq
  obtain ⟨f0, f1, f2, f3, f4, f5, ff⟩ := H3.out.fb
  obtain ⟨y0, y1, y2, y3, y4, yf⟩ := H3.out.hd hv
  rw [HQ.out] at y1 y2 y3 y4
  dsimp only at y1 y2 y3 y4
  have y1q := y1
  clear y1
  have y1 : w3.cell? ⟨gH, v * 5 + 1, none⟩ = some (I 1) := y1q
  clear y1q
  obtain ⟨xck, xcn, xcm, xcl, xcf⟩ := H3.out.bd (i := c) HCS.out
  rw [hm] at xcm
  have H4 := Lib.hid (H3.out.iset hv false)
  have F4 := Lib.hid (F3.out.trans (H3.out.ufH (v * 5 + 4) (.bool false)))
  go_wp2
  go_ret
  exact ⟨rfl, ⟨gB, cB, H4.out.hs_eq (by rw [HQ.out])⟩, F01.out.trans F4.out⟩
set_option maxRecDepth 100000 in
set_option maxHeartbeats 8000000 in
theorem ulazy_12 (h : UB w base bb gB cB gH cH al nh s lk ix hs pv dv now D) (hv : v < nh) (hq : hs v = ⟨1, p, c, is_⟩) (hps : p < s.sz) (hcs : c < s.sz) (hge : ¬ s.key c < K) (hkd : kd ≠ 3) {r : Rel} (ho : r.over = false) (HR : ∀ w', UB w' base bb gB cB gH cH al nh s lk ix (upd hs v ⟨2, p, c, is_⟩) pv dv now D → Calls Try.prog 41 #[jp bb, .pointer (some ⟨gH, v * 5, none⟩), .agg #[I kd, I K]] w' (RetH base bb gH cH al nh ix (upd hs v ⟨2, p, c, is_⟩) pv dv now D v r w')) :
    Calls Try.prog 41 #[jp bb, .pointer (some ⟨gH, v * 5, none⟩), .agg #[I kd, I K]] w (RetH base bb gH cH al nh ix hs pv dv now D v r w) := by
  have hbz := h.bbase
  obtain ⟨w0, hw0⟩ : ∃ x, x = w.alloc (.cells #[I kd, I K] 50) := ⟨_, rfl⟩
  have H0 : Hid (UB w0 base bb gB cB gH cH al nh s lk ix hs pv dv now D) := by rw [hw0]; exact h.keep ((Below.refl _ _).alloc (Nat.le_refl _) _)
  have F0 : Hid (UF base w w0) := by rw [hw0]; exact (UF.refl _ _).alloc hbz _
  have D0 : Hid (w0.heap[w.heap.size]? = some (.cells #[I kd, I K] 50 (0, 0))) := by rw [hw0]; exact heap_alloc_new _ _
  obtain ⟨db, hdb⟩ : ∃ x, w.heap.size = x := ⟨_, rfl⟩
  rw [hdb] at D0
  have hc0 : (0 : Int) ≤ (c : Int) := by omega
  have hcz : (c : Int) < (s.sz : Int) := by omega
  have hp0 : (0 : Int) ≤ (p : Int) := by omega
  have hpz : (p : Int) < (s.sz : Int) := by omega
  have HRH := Lib.hid HR
  have HO := Lib.hid ho
  clear HR ho
  obtain ⟨f0, f1, f2, f3, f4, f5, ff⟩ := H0.out.fb
  obtain ⟨y0, y1, y2, y3, y4, yf⟩ := H0.out.hd hv
  rw [hq] at y1 y2 y3 y4
  dsimp only at y1 y2 y3 y4
  have HQ := Lib.hid hq
  have HPS := Lib.hid hps
  have HCS := Lib.hid hcs
  clear h hbz hps hcs hq
  go_enter Try.func41, Try.ntmps41
  go_upto_region 1 with fail
  rw [← hw0]
  try rw [hdb]
  clear hw0 hdb
  go_quiet (fail)
  have H1 := Lib.hid (H0.out.drewN nq)
  have F01 := Lib.hid (F0.out.drewN nq)
  have D1 : Hid ((w0.drewN nq).heap[db]? = some (.cells #[I kd, I K] 50 (0, 0))) := D0.out
  clear H0 F0 D0
  try clear f0 f1 f2 f3 f4 f5 ff
  try clear y0 y1 y2 y3 y4 yf
  try clear xpk xpn xpm xpl xpf
  try clear xck xcn xcm xcl xcf
  try clear xzk xzn xzm xzl xzf
  generalize hgw : w0.drewN nq = w1 at *
  clear hgw nq
  have F1 := Lib.hid (UF.refl base w1)
  have d1a : w1.cell? ⟨db, 0, none⟩ = some (I kd) := (F1.out.cell D1.out (by decide) (by decide) (by decide) (by decide)).trans (by rw [jcell D1.out]; rfl)
  have d1b : w1.cell? ⟨db, 1, none⟩ = some (I K) := (F1.out.cell D1.out (by decide) (by decide) (by decide) (by decide)).trans (by rw [jcell D1.out]; rfl)
  obtain ⟨f0, f1, f2, f3, f4, f5, ff⟩ := H1.out.fb
  obtain ⟨y0, y1, y2, y3, y4, yf⟩ := H1.out.hd hv
  rw [HQ.out] at y1 y2 y3 y4
  dsimp only at y1 y2 y3 y4
  have y1q := y1
  clear y1
  have y1 : w1.cell? ⟨gH, v * 5 + 1, none⟩ = some (I 1) := y1q
  clear y1q
  obtain ⟨xck, xcn, xcm, xcl, xcf⟩ := H1.out.bd (i := c) HCS.out
  go_wp2_with fail
  go_quiet (fail)
  try clear f0 f1 f2 f3 f4 f5 ff
  try clear y0 y1 y2 y3 y4 yf
  try clear xpk xpn xpm xpl xpf
  try clear xck xcn xcm xcl xcf
  try clear xzk xzn xzm xzl xzf
  have H2 : Hid (UB (w1.drewN nq) base bb gB cB gH cH al nh s lk ix hs pv dv now D) := H1.out.drewN nq
  have F2 : Hid (UF base w1 (w1.drewN nq)) := F1.out.drewN nq
  generalize hgw : w1.drewN nq = w2 at *
  clear hgw
  have d2a : w2.cell? ⟨db, 0, none⟩ = some (I kd) := (F2.out.cell D1.out (by decide) (by decide) (by decide) (by decide)).trans (by rw [jcell D1.out]; rfl)
  have d2b : w2.cell? ⟨db, 1, none⟩ = some (I K) := (F2.out.cell D1.out (by decide) (by decide) (by decide) (by decide)).trans (by rw [jcell D1.out]; rfl)
  clear nq
  obtain ⟨f0, f1, f2, f3, f4, f5, ff⟩ := H2.out.fb
  obtain ⟨y0, y1, y2, y3, y4, yf⟩ := H2.out.hd hv
  rw [HQ.out] at y1 y2 y3 y4
  dsimp only at y1 y2 y3 y4
  have y1q := y1
  clear y1
  have y1 : w2.cell? ⟨gH, v * 5 + 1, none⟩ = some (I 1) := y1q
  clear y1q
  obtain ⟨xck, xcn, xcm, xcl, xcf⟩ := H2.out.bd (i := c) HCS.out
  go_wp2_with fail
  go_quiet (fail)
  try clear f0 f1 f2 f3 f4 f5 ff
  try clear y0 y1 y2 y3 y4 yf
  try clear xpk xpn xpm xpl xpf
  try clear xck xcn xcm xcl xcf
  try clear xzk xzn xzm xzl xzf
  have H3 : Hid (UB (w2.drewN nq) base bb gB cB gH cH al nh s lk ix hs pv dv now D) := H2.out.drewN nq
  have F3 : Hid (UF base w1 (w2.drewN nq)) := F2.out.drewN nq
  generalize hgw : w2.drewN nq = w3 at *
  clear hgw
  have d3a : w3.cell? ⟨db, 0, none⟩ = some (I kd) := (F3.out.cell D1.out (by decide) (by decide) (by decide) (by decide)).trans (by rw [jcell D1.out]; rfl)
  have d3b : w3.cell? ⟨db, 1, none⟩ = some (I K) := (F3.out.cell D1.out (by decide) (by decide) (by decide) (by decide)).trans (by rw [jcell D1.out]; rfl)
  clear nq
  obtain ⟨f0, f1, f2, f3, f4, f5, ff⟩ := H3.out.fb
  obtain ⟨y0, y1, y2, y3, y4, yf⟩ := H3.out.hd hv
  rw [HQ.out] at y1 y2 y3 y4
  dsimp only at y1 y2 y3 y4
  have y1q := y1
  clear y1
  have y1 : w3.cell? ⟨gH, v * 5 + 1, none⟩ = some (I 1) := y1q
  clear y1q
  try clear f0 f1 f2 f3 f4 f5 ff
  try clear y0 y1 y2 y3 y4 yf
  try clear xpk xpn xpm xpl xpf
  try clear xck xcn xcm xcl xcf
  try clear xzk xzn xzm xzl xzf
  have H4 : Hid (UB (w3.setCell ⟨gH, v * 5 + 1, none⟩ (I 2)) base bb gB cB gH cH al nh s lk ix (upd hs v ⟨2, p, c, is_⟩) pv dv now D) := (H3.out.aset hv 2).hs_eq (by rw [HQ.out])
  have F4 : Hid (UF base w1 (w3.setCell ⟨gH, v * 5 + 1, none⟩ (I 2))) := F3.out.trans (H3.out.ufH _ _)
  have d4a : (w3.setCell ⟨gH, v * 5 + 1, none⟩ (I 2)).cell? ⟨db, 0, none⟩ = some (I kd) := (F4.out.cell D1.out (by decide) (by decide) (by decide) (by decide)).trans (by rw [jcell D1.out]; rfl)
  have d4b : (w3.setCell ⟨gH, v * 5 + 1, none⟩ (I 2)).cell? ⟨db, 1, none⟩ = some (I K) := (F4.out.cell D1.out (by decide) (by decide) (by decide) (by decide)).trans (by rw [jcell D1.out]; rfl)
  obtain ⟨-, y1, -, -, -, yf⟩ := H3.out.hd hv
  have HA4 := Lib.hid (HRH.out _ H4.out)
  go_wp2_with fail
  refine HA4.out.mono ?_
  rintro e w5 ⟨rfl, ⟨gB5, cB5, h5⟩, f5'⟩
  rw [HO.out]
  have H5 := Lib.hid h5
  have F5 := Lib.hid (F4.out.trans f5')
  clear h5 f5'
  go_wp2
  go_ret
  exact ⟨by rw [HO.out]; rfl, ⟨gB5, cB5, H5.out.hs_eq (by rw [upd_upd])⟩, F01.out.trans F5.out⟩
set_option maxRecDepth 100000 in
set_option maxHeartbeats 8000000 in
theorem ulazy_2f (h : UB w base bb gB cB gH cH al nh s lk ix hs pv dv now D) (hv : v < nh) (hq : hs v = ⟨2, p, c, is_⟩) (hps : p < s.sz) (hcs : c < s.sz) (hl : lk p = false) :
    Calls Try.prog 41 #[jp bb, .pointer (some ⟨gH, v * 5, none⟩), .agg #[I kd, I K]] w (RetH base bb gH cH al nh ix hs pv dv now D v ⟨s, upd lk p true, ⟨3, p, c, is_⟩, .none, false⟩ w) := by
  have hbz := h.bbase
  obtain ⟨w0, hw0⟩ : ∃ x, x = w.alloc (.cells #[I kd, I K] 50) := ⟨_, rfl⟩
  have H0 : Hid (UB w0 base bb gB cB gH cH al nh s lk ix hs pv dv now D) := by rw [hw0]; exact h.keep ((Below.refl _ _).alloc (Nat.le_refl _) _)
  have F0 : Hid (UF base w w0) := by rw [hw0]; exact (UF.refl _ _).alloc hbz _
  have D0 : Hid (w0.heap[w.heap.size]? = some (.cells #[I kd, I K] 50 (0, 0))) := by rw [hw0]; exact heap_alloc_new _ _
  obtain ⟨db, hdb⟩ : ∃ x, w.heap.size = x := ⟨_, rfl⟩
  rw [hdb] at D0
  have hc0 : (0 : Int) ≤ (c : Int) := by omega
  have hcz : (c : Int) < (s.sz : Int) := by omega
  have hp0 : (0 : Int) ≤ (p : Int) := by omega
  have hpz : (p : Int) < (s.sz : Int) := by omega
  obtain ⟨f0, f1, f2, f3, f4, f5, ff⟩ := H0.out.fb
  obtain ⟨y0, y1, y2, y3, y4, yf⟩ := H0.out.hd hv
  rw [hq] at y1 y2 y3 y4
  dsimp only at y1 y2 y3 y4
  have HQ := Lib.hid hq
  have HPS := Lib.hid hps
  have HCS := Lib.hid hcs
  clear h hbz hps hcs hq
  go_enter Try.func41, Try.ntmps41
  go_upto_region 1 with fail
  rw [← hw0]
  try rw [hdb]
  clear hw0 hdb
  go_quiet (fail)
  have H1 := Lib.hid (H0.out.drewN nq)
  have F01 := Lib.hid (F0.out.drewN nq)
  have D1 : Hid ((w0.drewN nq).heap[db]? = some (.cells #[I kd, I K] 50 (0, 0))) := D0.out
  clear H0 F0 D0
  try clear f0 f1 f2 f3 f4 f5 ff
  try clear y0 y1 y2 y3 y4 yf
  try clear xpk xpn xpm xpl xpf
  try clear xck xcn xcm xcl xcf
  try clear xzk xzn xzm xzl xzf
  generalize hgw : w0.drewN nq = w1 at *
  clear hgw nq
  have F1 := Lib.hid (UF.refl base w1)
  have d1a : w1.cell? ⟨db, 0, none⟩ = some (I kd) := (F1.out.cell D1.out (by decide) (by decide) (by decide) (by decide)).trans (by rw [jcell D1.out]; rfl)
  have d1b : w1.cell? ⟨db, 1, none⟩ = some (I K) := (F1.out.cell D1.out (by decide) (by decide) (by decide) (by decide)).trans (by rw [jcell D1.out]; rfl)
  obtain ⟨f0, f1, f2, f3, f4, f5, ff⟩ := H1.out.fb
  obtain ⟨y0, y1, y2, y3, y4, yf⟩ := H1.out.hd hv
  rw [HQ.out] at y1 y2 y3 y4
  dsimp only at y1 y2 y3 y4
  have y1q := y1
  clear y1
  have y1 : w1.cell? ⟨gH, v * 5 + 1, none⟩ = some (I 2) := y1q
  clear y1q
  obtain ⟨xck, xcn, xcm, xcl, xcf⟩ := H1.out.bd (i := c) HCS.out
  go_wp2_with fail
  go_quiet (fail)
  try clear f0 f1 f2 f3 f4 f5 ff
  try clear y0 y1 y2 y3 y4 yf
  try clear xpk xpn xpm xpl xpf
  try clear xck xcn xcm xcl xcf
  try clear xzk xzn xzm xzl xzf
  have H2 : Hid (UB (w1.drewN nq) base bb gB cB gH cH al nh s lk ix hs pv dv now D) := H1.out.drewN nq
  have F2 : Hid (UF base w1 (w1.drewN nq)) := F1.out.drewN nq
  generalize hgw : w1.drewN nq = w2 at *
  clear hgw
  have d2a : w2.cell? ⟨db, 0, none⟩ = some (I kd) := (F2.out.cell D1.out (by decide) (by decide) (by decide) (by decide)).trans (by rw [jcell D1.out]; rfl)
  have d2b : w2.cell? ⟨db, 1, none⟩ = some (I K) := (F2.out.cell D1.out (by decide) (by decide) (by decide) (by decide)).trans (by rw [jcell D1.out]; rfl)
  clear nq
  obtain ⟨f0, f1, f2, f3, f4, f5, ff⟩ := H2.out.fb
  obtain ⟨y0, y1, y2, y3, y4, yf⟩ := H2.out.hd hv
  rw [HQ.out] at y1 y2 y3 y4
  dsimp only at y1 y2 y3 y4
  have y1q := y1
  clear y1
  have y1 : w2.cell? ⟨gH, v * 5 + 1, none⟩ = some (I 2) := y1q
  clear y1q
  obtain ⟨xpk, xpn, xpm, xpl, xpf⟩ := H2.out.bd (i := p) HPS.out
  rw [hl] at xpl
  have H3 := Lib.hid (H2.out.lkset HPS.out true)
  obtain ⟨-, y1', -, -, -, yf'⟩ := H3.out.hd hv
  have H4 := Lib.hid (H3.out.aset hv 3)
  have F4 := Lib.hid ((F2.out.trans (H2.out.ufB (p * 4 + 3) (.bool true))).trans (H3.out.ufH (v * 5 + 1) (I 3)))
  go_wp2
  go_ret
  exact ⟨rfl, ⟨gB, cB, H4.out.hs_eq (by rw [HQ.out])⟩, F01.out.trans F4.out⟩
set_option maxRecDepth 100000 in
set_option maxHeartbeats 8000000 in
theorem ulazy_2t (h : UB w base bb gB cB gH cH al nh s lk ix hs pv dv now D) (hv : v < nh) (hq : hs v = ⟨2, p, c, is_⟩) (hps : p < s.sz) (hcs : c < s.sz) (hl : lk p = true) :
    Calls Try.prog 41 #[jp bb, .pointer (some ⟨gH, v * 5, none⟩), .agg #[I kd, I K]] w (RetH base bb gH cH al nh ix hs pv dv now D v ⟨s, lk, ⟨2, p, c, is_⟩, .none, false⟩ w) := by
  have hbz := h.bbase
  obtain ⟨w0, hw0⟩ : ∃ x, x = w.alloc (.cells #[I kd, I K] 50) := ⟨_, rfl⟩
  have H0 : Hid (UB w0 base bb gB cB gH cH al nh s lk ix hs pv dv now D) := by rw [hw0]; exact h.keep ((Below.refl _ _).alloc (Nat.le_refl _) _)
  have F0 : Hid (UF base w w0) := by rw [hw0]; exact (UF.refl _ _).alloc hbz _
  have D0 : Hid (w0.heap[w.heap.size]? = some (.cells #[I kd, I K] 50 (0, 0))) := by rw [hw0]; exact heap_alloc_new _ _
  obtain ⟨db, hdb⟩ : ∃ x, w.heap.size = x := ⟨_, rfl⟩
  rw [hdb] at D0
  have hc0 : (0 : Int) ≤ (c : Int) := by omega
  have hcz : (c : Int) < (s.sz : Int) := by omega
  have hp0 : (0 : Int) ≤ (p : Int) := by omega
  have hpz : (p : Int) < (s.sz : Int) := by omega
  obtain ⟨f0, f1, f2, f3, f4, f5, ff⟩ := H0.out.fb
  obtain ⟨y0, y1, y2, y3, y4, yf⟩ := H0.out.hd hv
  rw [hq] at y1 y2 y3 y4
  dsimp only at y1 y2 y3 y4
  have HQ := Lib.hid hq
  have HPS := Lib.hid hps
  have HCS := Lib.hid hcs
  clear h hbz hps hcs hq
  go_enter Try.func41, Try.ntmps41
  go_upto_region 1 with fail
  rw [← hw0]
  try rw [hdb]
  clear hw0 hdb
  go_quiet (fail)
  have H1 := Lib.hid (H0.out.drewN nq)
  have F01 := Lib.hid (F0.out.drewN nq)
  have D1 : Hid ((w0.drewN nq).heap[db]? = some (.cells #[I kd, I K] 50 (0, 0))) := D0.out
  clear H0 F0 D0
  try clear f0 f1 f2 f3 f4 f5 ff
  try clear y0 y1 y2 y3 y4 yf
  try clear xpk xpn xpm xpl xpf
  try clear xck xcn xcm xcl xcf
  try clear xzk xzn xzm xzl xzf
  generalize hgw : w0.drewN nq = w1 at *
  clear hgw nq
  have F1 := Lib.hid (UF.refl base w1)
  have d1a : w1.cell? ⟨db, 0, none⟩ = some (I kd) := (F1.out.cell D1.out (by decide) (by decide) (by decide) (by decide)).trans (by rw [jcell D1.out]; rfl)
  have d1b : w1.cell? ⟨db, 1, none⟩ = some (I K) := (F1.out.cell D1.out (by decide) (by decide) (by decide) (by decide)).trans (by rw [jcell D1.out]; rfl)
  obtain ⟨f0, f1, f2, f3, f4, f5, ff⟩ := H1.out.fb
  obtain ⟨y0, y1, y2, y3, y4, yf⟩ := H1.out.hd hv
  rw [HQ.out] at y1 y2 y3 y4
  dsimp only at y1 y2 y3 y4
  have y1q := y1
  clear y1
  have y1 : w1.cell? ⟨gH, v * 5 + 1, none⟩ = some (I 2) := y1q
  clear y1q
  obtain ⟨xck, xcn, xcm, xcl, xcf⟩ := H1.out.bd (i := c) HCS.out
  go_wp2_with fail
  go_quiet (fail)
  try clear f0 f1 f2 f3 f4 f5 ff
  try clear y0 y1 y2 y3 y4 yf
  try clear xpk xpn xpm xpl xpf
  try clear xck xcn xcm xcl xcf
  try clear xzk xzn xzm xzl xzf
  have H2 : Hid (UB (w1.drewN nq) base bb gB cB gH cH al nh s lk ix hs pv dv now D) := H1.out.drewN nq
  have F2 : Hid (UF base w1 (w1.drewN nq)) := F1.out.drewN nq
  generalize hgw : w1.drewN nq = w2 at *
  clear hgw
  have d2a : w2.cell? ⟨db, 0, none⟩ = some (I kd) := (F2.out.cell D1.out (by decide) (by decide) (by decide) (by decide)).trans (by rw [jcell D1.out]; rfl)
  have d2b : w2.cell? ⟨db, 1, none⟩ = some (I K) := (F2.out.cell D1.out (by decide) (by decide) (by decide) (by decide)).trans (by rw [jcell D1.out]; rfl)
  clear nq
  obtain ⟨f0, f1, f2, f3, f4, f5, ff⟩ := H2.out.fb
  obtain ⟨y0, y1, y2, y3, y4, yf⟩ := H2.out.hd hv
  rw [HQ.out] at y1 y2 y3 y4
  dsimp only at y1 y2 y3 y4
  have y1q := y1
  clear y1
  have y1 : w2.cell? ⟨gH, v * 5 + 1, none⟩ = some (I 2) := y1q
  clear y1q
  obtain ⟨xpk, xpn, xpm, xpl, xpf⟩ := H2.out.bd (i := p) HPS.out
  rw [hl] at xpl
  go_wp2
  go_ret
  exact ⟨rfl, ⟨gB, cB, H2.out.hs_eq (by rw [← HQ.out, upd_id])⟩, F01.out.trans F2.out⟩
set_option maxRecDepth 100000 in
set_option maxHeartbeats 8000000 in
theorem ulazy_3f (h : UB w base bb gB cB gH cH al nh s lk ix hs pv dv now D) (hv : v < nh) (hq : hs v = ⟨3, p, c, is_⟩) (hps : p < s.sz) (hcs : c < s.sz) (hl : lk c = false) :
    Calls Try.prog 41 #[jp bb, .pointer (some ⟨gH, v * 5, none⟩), .agg #[I kd, I K]] w (RetH base bb gH cH al nh ix hs pv dv now D v ⟨s, upd lk c true, ⟨4, p, c, is_⟩, .none, false⟩ w) := by
  have hbz := h.bbase
  obtain ⟨w0, hw0⟩ : ∃ x, x = w.alloc (.cells #[I kd, I K] 50) := ⟨_, rfl⟩
  have H0 : Hid (UB w0 base bb gB cB gH cH al nh s lk ix hs pv dv now D) := by rw [hw0]; exact h.keep ((Below.refl _ _).alloc (Nat.le_refl _) _)
  have F0 : Hid (UF base w w0) := by rw [hw0]; exact (UF.refl _ _).alloc hbz _
  have D0 : Hid (w0.heap[w.heap.size]? = some (.cells #[I kd, I K] 50 (0, 0))) := by rw [hw0]; exact heap_alloc_new _ _
  obtain ⟨db, hdb⟩ : ∃ x, w.heap.size = x := ⟨_, rfl⟩
  rw [hdb] at D0
  have hc0 : (0 : Int) ≤ (c : Int) := by omega
  have hcz : (c : Int) < (s.sz : Int) := by omega
  have hp0 : (0 : Int) ≤ (p : Int) := by omega
  have hpz : (p : Int) < (s.sz : Int) := by omega
  obtain ⟨f0, f1, f2, f3, f4, f5, ff⟩ := H0.out.fb
  obtain ⟨y0, y1, y2, y3, y4, yf⟩ := H0.out.hd hv
  rw [hq] at y1 y2 y3 y4
  dsimp only at y1 y2 y3 y4
  have HQ := Lib.hid hq
  have HPS := Lib.hid hps
  have HCS := Lib.hid hcs
  clear h hbz hps hcs hq
  go_enter Try.func41, Try.ntmps41
  go_upto_region 1 with fail
  rw [← hw0]
  try rw [hdb]
  clear hw0 hdb
  go_quiet (fail)
  have H1 := Lib.hid (H0.out.drewN nq)
  have F01 := Lib.hid (F0.out.drewN nq)
  have D1 : Hid ((w0.drewN nq).heap[db]? = some (.cells #[I kd, I K] 50 (0, 0))) := D0.out
  clear H0 F0 D0
  try clear f0 f1 f2 f3 f4 f5 ff
  try clear y0 y1 y2 y3 y4 yf
  try clear xpk xpn xpm xpl xpf
  try clear xck xcn xcm xcl xcf
  try clear xzk xzn xzm xzl xzf
  generalize hgw : w0.drewN nq = w1 at *
  clear hgw nq
  have F1 := Lib.hid (UF.refl base w1)
  have d1a : w1.cell? ⟨db, 0, none⟩ = some (I kd) := (F1.out.cell D1.out (by decide) (by decide) (by decide) (by decide)).trans (by rw [jcell D1.out]; rfl)
  have d1b : w1.cell? ⟨db, 1, none⟩ = some (I K) := (F1.out.cell D1.out (by decide) (by decide) (by decide) (by decide)).trans (by rw [jcell D1.out]; rfl)
  obtain ⟨f0, f1, f2, f3, f4, f5, ff⟩ := H1.out.fb
  obtain ⟨y0, y1, y2, y3, y4, yf⟩ := H1.out.hd hv
  rw [HQ.out] at y1 y2 y3 y4
  dsimp only at y1 y2 y3 y4
  have y1q := y1
  clear y1
  have y1 : w1.cell? ⟨gH, v * 5 + 1, none⟩ = some (I 3) := y1q
  clear y1q
  obtain ⟨xck, xcn, xcm, xcl, xcf⟩ := H1.out.bd (i := c) HCS.out
  go_wp2_with fail
  go_quiet (fail)
  try clear f0 f1 f2 f3 f4 f5 ff
  try clear y0 y1 y2 y3 y4 yf
  try clear xpk xpn xpm xpl xpf
  try clear xck xcn xcm xcl xcf
  try clear xzk xzn xzm xzl xzf
  have H2 : Hid (UB (w1.drewN nq) base bb gB cB gH cH al nh s lk ix hs pv dv now D) := H1.out.drewN nq
  have F2 : Hid (UF base w1 (w1.drewN nq)) := F1.out.drewN nq
  generalize hgw : w1.drewN nq = w2 at *
  clear hgw
  have d2a : w2.cell? ⟨db, 0, none⟩ = some (I kd) := (F2.out.cell D1.out (by decide) (by decide) (by decide) (by decide)).trans (by rw [jcell D1.out]; rfl)
  have d2b : w2.cell? ⟨db, 1, none⟩ = some (I K) := (F2.out.cell D1.out (by decide) (by decide) (by decide) (by decide)).trans (by rw [jcell D1.out]; rfl)
  clear nq
  obtain ⟨f0, f1, f2, f3, f4, f5, ff⟩ := H2.out.fb
  obtain ⟨y0, y1, y2, y3, y4, yf⟩ := H2.out.hd hv
  rw [HQ.out] at y1 y2 y3 y4
  dsimp only at y1 y2 y3 y4
  have y1q := y1
  clear y1
  have y1 : w2.cell? ⟨gH, v * 5 + 1, none⟩ = some (I 3) := y1q
  clear y1q
  obtain ⟨xck, xcn, xcm, xcl, xcf⟩ := H2.out.bd (i := c) HCS.out
  rw [hl] at xcl
  have H3 := Lib.hid (H2.out.lkset HCS.out true)
  obtain ⟨-, y1', -, -, -, yf'⟩ := H3.out.hd hv
  have H4 := Lib.hid (H3.out.aset hv 4)
  have F4 := Lib.hid ((F2.out.trans (H2.out.ufB (c * 4 + 3) (.bool true))).trans (H3.out.ufH (v * 5 + 1) (I 4)))
  go_wp2
  go_ret
  exact ⟨rfl, ⟨gB, cB, H4.out.hs_eq (by rw [HQ.out])⟩, F01.out.trans F4.out⟩
set_option maxRecDepth 100000 in
set_option maxHeartbeats 8000000 in
theorem ulazy_3t (h : UB w base bb gB cB gH cH al nh s lk ix hs pv dv now D) (hv : v < nh) (hq : hs v = ⟨3, p, c, is_⟩) (hps : p < s.sz) (hcs : c < s.sz) (hl : lk c = true) :
    Calls Try.prog 41 #[jp bb, .pointer (some ⟨gH, v * 5, none⟩), .agg #[I kd, I K]] w (RetH base bb gH cH al nh ix hs pv dv now D v ⟨s, lk, ⟨3, p, c, is_⟩, .none, false⟩ w) := by
  have hbz := h.bbase
  obtain ⟨w0, hw0⟩ : ∃ x, x = w.alloc (.cells #[I kd, I K] 50) := ⟨_, rfl⟩
  have H0 : Hid (UB w0 base bb gB cB gH cH al nh s lk ix hs pv dv now D) := by rw [hw0]; exact h.keep ((Below.refl _ _).alloc (Nat.le_refl _) _)
  have F0 : Hid (UF base w w0) := by rw [hw0]; exact (UF.refl _ _).alloc hbz _
  have D0 : Hid (w0.heap[w.heap.size]? = some (.cells #[I kd, I K] 50 (0, 0))) := by rw [hw0]; exact heap_alloc_new _ _
  obtain ⟨db, hdb⟩ : ∃ x, w.heap.size = x := ⟨_, rfl⟩
  rw [hdb] at D0
  have hc0 : (0 : Int) ≤ (c : Int) := by omega
  have hcz : (c : Int) < (s.sz : Int) := by omega
  have hp0 : (0 : Int) ≤ (p : Int) := by omega
  have hpz : (p : Int) < (s.sz : Int) := by omega
  obtain ⟨f0, f1, f2, f3, f4, f5, ff⟩ := H0.out.fb
  obtain ⟨y0, y1, y2, y3, y4, yf⟩ := H0.out.hd hv
  rw [hq] at y1 y2 y3 y4
  dsimp only at y1 y2 y3 y4
  have HQ := Lib.hid hq
  have HPS := Lib.hid hps
  have HCS := Lib.hid hcs
  clear h hbz hps hcs hq
  go_enter Try.func41, Try.ntmps41
  go_upto_region 1 with fail
  rw [← hw0]
  try rw [hdb]
  clear hw0 hdb
  go_quiet (fail)
  have H1 := Lib.hid (H0.out.drewN nq)
  have F01 := Lib.hid (F0.out.drewN nq)
  have D1 : Hid ((w0.drewN nq).heap[db]? = some (.cells #[I kd, I K] 50 (0, 0))) := D0.out
  clear H0 F0 D0
  try clear f0 f1 f2 f3 f4 f5 ff
  try clear y0 y1 y2 y3 y4 yf
  try clear xpk xpn xpm xpl xpf
  try clear xck xcn xcm xcl xcf
  try clear xzk xzn xzm xzl xzf
  generalize hgw : w0.drewN nq = w1 at *
  clear hgw nq
  have F1 := Lib.hid (UF.refl base w1)
  have d1a : w1.cell? ⟨db, 0, none⟩ = some (I kd) := (F1.out.cell D1.out (by decide) (by decide) (by decide) (by decide)).trans (by rw [jcell D1.out]; rfl)
  have d1b : w1.cell? ⟨db, 1, none⟩ = some (I K) := (F1.out.cell D1.out (by decide) (by decide) (by decide) (by decide)).trans (by rw [jcell D1.out]; rfl)
  obtain ⟨f0, f1, f2, f3, f4, f5, ff⟩ := H1.out.fb
  obtain ⟨y0, y1, y2, y3, y4, yf⟩ := H1.out.hd hv
  rw [HQ.out] at y1 y2 y3 y4
  dsimp only at y1 y2 y3 y4
  have y1q := y1
  clear y1
  have y1 : w1.cell? ⟨gH, v * 5 + 1, none⟩ = some (I 3) := y1q
  clear y1q
  obtain ⟨xck, xcn, xcm, xcl, xcf⟩ := H1.out.bd (i := c) HCS.out
  go_wp2_with fail
  go_quiet (fail)
  try clear f0 f1 f2 f3 f4 f5 ff
  try clear y0 y1 y2 y3 y4 yf
  try clear xpk xpn xpm xpl xpf
  try clear xck xcn xcm xcl xcf
  try clear xzk xzn xzm xzl xzf
  have H2 : Hid (UB (w1.drewN nq) base bb gB cB gH cH al nh s lk ix hs pv dv now D) := H1.out.drewN nq
  have F2 : Hid (UF base w1 (w1.drewN nq)) := F1.out.drewN nq
  generalize hgw : w1.drewN nq = w2 at *
  clear hgw
  have d2a : w2.cell? ⟨db, 0, none⟩ = some (I kd) := (F2.out.cell D1.out (by decide) (by decide) (by decide) (by decide)).trans (by rw [jcell D1.out]; rfl)
  have d2b : w2.cell? ⟨db, 1, none⟩ = some (I K) := (F2.out.cell D1.out (by decide) (by decide) (by decide) (by decide)).trans (by rw [jcell D1.out]; rfl)
  clear nq
  obtain ⟨f0, f1, f2, f3, f4, f5, ff⟩ := H2.out.fb
  obtain ⟨y0, y1, y2, y3, y4, yf⟩ := H2.out.hd hv
  rw [HQ.out] at y1 y2 y3 y4
  dsimp only at y1 y2 y3 y4
  have y1q := y1
  clear y1
  have y1 : w2.cell? ⟨gH, v * 5 + 1, none⟩ = some (I 3) := y1q
  clear y1q
  obtain ⟨xck, xcn, xcm, xcl, xcf⟩ := H2.out.bd (i := c) HCS.out
  rw [hl] at xcl
  go_wp2
  go_ret
  exact ⟨rfl, ⟨gB, cB, H2.out.hs_eq (by rw [← HQ.out, upd_id])⟩, F01.out.trans F2.out⟩
end
end Go.Proofs.Ytfmdpmebllepeaa

/-
  hedgref's Bench: lookTwice, to check and to cut. Written by tools/gen_ubench.py.
-/
namespace Go.Proofs.Ytfmdpmebllepeaa
open Go.RowKit

section
variable {w : World} {base bb gB cB gH cH al nh : Nat} {s : Bs} {lk : Nat → Bool} {ix : Nat → Nat} {hs : Nat → Hd} {pv dv : Value} {now : Nat} {D : List Dn} {v p c : Nat} {is_ : Bool} {kd K : Int}
set_option maxRecDepth 100000 in
set_option maxHeartbeats 8000000 in
theorem ulazy_4p (h : UB w base bb gB cB gH cH al nh s lk ix hs pv dv now D) (hv : v < nh) (hq : hs v = ⟨4, p, c, is_⟩) (hps : p < s.sz) (hcs : c < s.sz) (hmp : s.mrk p = true) :
    Calls Try.prog 41 #[jp bb, .pointer (some ⟨gH, v * 5, none⟩), .agg #[I kd, I K]] w (RetH base bb gH cH al nh ix hs pv dv now D v ⟨s, (fre lk ⟨9, p, c, false⟩), ⟨0, p, c, is_⟩, .none, false⟩ w) := by
  have hbz := h.bbase
  obtain ⟨w0, hw0⟩ : ∃ x, x = w.alloc (.cells #[I kd, I K] 50) := ⟨_, rfl⟩
  have H0 : Hid (UB w0 base bb gB cB gH cH al nh s lk ix hs pv dv now D) := by rw [hw0]; exact h.keep ((Below.refl _ _).alloc (Nat.le_refl _) _)
  have F0 : Hid (UF base w w0) := by rw [hw0]; exact (UF.refl _ _).alloc hbz _
  have D0 : Hid (w0.heap[w.heap.size]? = some (.cells #[I kd, I K] 50 (0, 0))) := by rw [hw0]; exact heap_alloc_new _ _
  obtain ⟨db, hdb⟩ : ∃ x, w.heap.size = x := ⟨_, rfl⟩
  rw [hdb] at D0
  have hc0 : (0 : Int) ≤ (c : Int) := by omega
  have hcz : (c : Int) < (s.sz : Int) := by omega
  have hp0 : (0 : Int) ≤ (p : Int) := by omega
  have hpz : (p : Int) < (s.sz : Int) := by omega
  obtain ⟨f0, f1, f2, f3, f4, f5, ff⟩ := H0.out.fb
  obtain ⟨y0, y1, y2, y3, y4, yf⟩ := H0.out.hd hv
  rw [hq] at y1 y2 y3 y4
  dsimp only at y1 y2 y3 y4
  have HQ := Lib.hid hq
  have HPS := Lib.hid hps
  have HCS := Lib.hid hcs
  clear h hbz hps hcs hq
  go_enter Try.func41, Try.ntmps41
  go_upto_region 1 with fail
  rw [← hw0]
  try rw [hdb]
  clear hw0 hdb
  go_quiet (fail)
  have H1 := Lib.hid (H0.out.drewN nq)
  have F01 := Lib.hid (F0.out.drewN nq)
  have D1 : Hid ((w0.drewN nq).heap[db]? = some (.cells #[I kd, I K] 50 (0, 0))) := D0.out
  clear H0 F0 D0
  try clear f0 f1 f2 f3 f4 f5 ff
  try clear y0 y1 y2 y3 y4 yf
  try clear xpk xpn xpm xpl xpf
  try clear xck xcn xcm xcl xcf
  try clear xzk xzn xzm xzl xzf
  generalize hgw : w0.drewN nq = w1 at *
  clear hgw nq
  have F1 := Lib.hid (UF.refl base w1)
  have d1a : w1.cell? ⟨db, 0, none⟩ = some (I kd) := (F1.out.cell D1.out (by decide) (by decide) (by decide) (by decide)).trans (by rw [jcell D1.out]; rfl)
  have d1b : w1.cell? ⟨db, 1, none⟩ = some (I K) := (F1.out.cell D1.out (by decide) (by decide) (by decide) (by decide)).trans (by rw [jcell D1.out]; rfl)
  obtain ⟨f0, f1, f2, f3, f4, f5, ff⟩ := H1.out.fb
  obtain ⟨y0, y1, y2, y3, y4, yf⟩ := H1.out.hd hv
  rw [HQ.out] at y1 y2 y3 y4
  dsimp only at y1 y2 y3 y4
  have y1q := y1
  clear y1
  have y1 : w1.cell? ⟨gH, v * 5 + 1, none⟩ = some (I 4) := y1q
  clear y1q
  obtain ⟨xck, xcn, xcm, xcl, xcf⟩ := H1.out.bd (i := c) HCS.out
  go_wp2_with fail
  go_quiet (fail)
  try clear f0 f1 f2 f3 f4 f5 ff
  try clear y0 y1 y2 y3 y4 yf
  try clear xpk xpn xpm xpl xpf
  try clear xck xcn xcm xcl xcf
  try clear xzk xzn xzm xzl xzf
  have H2 : Hid (UB (w1.drewN nq) base bb gB cB gH cH al nh s lk ix hs pv dv now D) := H1.out.drewN nq
  have F2 : Hid (UF base w1 (w1.drewN nq)) := F1.out.drewN nq
  generalize hgw : w1.drewN nq = w2 at *
  clear hgw
  have d2a : w2.cell? ⟨db, 0, none⟩ = some (I kd) := (F2.out.cell D1.out (by decide) (by decide) (by decide) (by decide)).trans (by rw [jcell D1.out]; rfl)
  have d2b : w2.cell? ⟨db, 1, none⟩ = some (I K) := (F2.out.cell D1.out (by decide) (by decide) (by decide) (by decide)).trans (by rw [jcell D1.out]; rfl)
  clear nq
  obtain ⟨f0, f1, f2, f3, f4, f5, ff⟩ := H2.out.fb
  obtain ⟨y0, y1, y2, y3, y4, yf⟩ := H2.out.hd hv
  rw [HQ.out] at y1 y2 y3 y4
  dsimp only at y1 y2 y3 y4
  have y1q := y1
  clear y1
  have y1 : w2.cell? ⟨gH, v * 5 + 1, none⟩ = some (I 4) := y1q
  clear y1q
  obtain ⟨xpk, xpn, xpm, xpl, xpf⟩ := H2.out.bd (i := p) HPS.out
  rw [hmp] at xpm
  obtain ⟨xck, xcn, xcm, xcl, xcf⟩ := H2.out.bd (i := c) HCS.out
  go_wp2_with fail
  go_quiet (fail)
  try clear f0 f1 f2 f3 f4 f5 ff
  try clear y0 y1 y2 y3 y4 yf
  try clear xpk xpn xpm xpl xpf
  try clear xck xcn xcm xcl xcf
  try clear xzk xzn xzm xzl xzf
  have H3 : Hid (UB (w2.drewN nq) base bb gB cB gH cH al nh s lk ix hs pv dv now D) := H2.out.drewN nq
  have F3 : Hid (UF base w1 (w2.drewN nq)) := F2.out.drewN nq
  generalize hgw : w2.drewN nq = w3 at *
  clear hgw
  have d3a : w3.cell? ⟨db, 0, none⟩ = some (I kd) := (F3.out.cell D1.out (by decide) (by decide) (by decide) (by decide)).trans (by rw [jcell D1.out]; rfl)
  have d3b : w3.cell? ⟨db, 1, none⟩ = some (I K) := (F3.out.cell D1.out (by decide) (by decide) (by decide) (by decide)).trans (by rw [jcell D1.out]; rfl)
  clear nq
  obtain ⟨f0, f1, f2, f3, f4, f5, ff⟩ := H3.out.fb
  obtain ⟨y0, y1, y2, y3, y4, yf⟩ := H3.out.hd hv
  rw [HQ.out] at y1 y2 y3 y4
  dsimp only at y1 y2 y3 y4
  have y1q := y1
  clear y1
  have y1 : w3.cell? ⟨gH, v * 5 + 1, none⟩ = some (I 4) := y1q
  clear y1q
  have HA3 := Lib.hid (ufree_any (p := p) (c := c) H3.out hv (by rw [HQ.out]) (by rw [HQ.out]) HPS.out HCS.out)
  go_wp2_with fail
  refine HA3.out.mono ?_
  rintro e w4 ⟨rfl, h4, f4'⟩
  try clear f0 f1 f2 f3 f4 f5 ff
  try clear y0 y1 y2 y3 y4 yf
  try clear xpk xpn xpm xpl xpf
  try clear xck xcn xcm xcl xcf
  try clear xzk xzn xzm xzl xzf
  have H4 : Hid (UB w4 base bb gB cB gH cH al nh s (fre lk ⟨9, p, c, false⟩) ix hs pv dv now D) := h4.all_eq rfl (by unfold fre; rw [HQ.out]) rfl
  have F4 := Lib.hid (F3.out.trans f4')
  clear h4 f4'
  have d4a : w4.cell? ⟨db, 0, none⟩ = some (I kd) := (F4.out.cell D1.out (by decide) (by decide) (by decide) (by decide)).trans (by rw [jcell D1.out]; rfl)
  have d4b : w4.cell? ⟨db, 1, none⟩ = some (I K) := (F4.out.cell D1.out (by decide) (by decide) (by decide) (by decide)).trans (by rw [jcell D1.out]; rfl)
  obtain ⟨f0, f1, f2, f3, f4, f5, ff⟩ := H4.out.fb
  obtain ⟨y0, y1, y2, y3, y4, yf⟩ := H4.out.hd hv
  rw [HQ.out] at y1 y2 y3 y4
  dsimp only at y1 y2 y3 y4
  have y1q := y1
  clear y1
  have y1 : w4.cell? ⟨gH, v * 5 + 1, none⟩ = some (I 4) := y1q
  clear y1q
  have H5 := Lib.hid (H4.out.aset hv 0)
  have F5 := Lib.hid (F4.out.trans (H4.out.ufH (v * 5 + 1) (I 0)))
  go_wp2
  go_ret
  exact ⟨rfl, ⟨gB, cB, H5.out.hs_eq (by rw [HQ.out])⟩, F01.out.trans F5.out⟩
set_option maxRecDepth 100000 in
set_option maxHeartbeats 8000000 in
theorem ulazy_4c (h : UB w base bb gB cB gH cH al nh s lk ix hs pv dv now D) (hv : v < nh) (hq : hs v = ⟨4, p, c, is_⟩) (hps : p < s.sz) (hcs : c < s.sz) (hmp : s.mrk p = false) (hmc : s.mrk c = true) :
    Calls Try.prog 41 #[jp bb, .pointer (some ⟨gH, v * 5, none⟩), .agg #[I kd, I K]] w (RetH base bb gH cH al nh ix hs pv dv now D v ⟨s, (fre lk ⟨9, p, c, false⟩), ⟨0, p, c, is_⟩, .none, false⟩ w) := by
  have hbz := h.bbase
  obtain ⟨w0, hw0⟩ : ∃ x, x = w.alloc (.cells #[I kd, I K] 50) := ⟨_, rfl⟩
  have H0 : Hid (UB w0 base bb gB cB gH cH al nh s lk ix hs pv dv now D) := by rw [hw0]; exact h.keep ((Below.refl _ _).alloc (Nat.le_refl _) _)
  have F0 : Hid (UF base w w0) := by rw [hw0]; exact (UF.refl _ _).alloc hbz _
  have D0 : Hid (w0.heap[w.heap.size]? = some (.cells #[I kd, I K] 50 (0, 0))) := by rw [hw0]; exact heap_alloc_new _ _
  obtain ⟨db, hdb⟩ : ∃ x, w.heap.size = x := ⟨_, rfl⟩
  rw [hdb] at D0
  have hc0 : (0 : Int) ≤ (c : Int) := by omega
  have hcz : (c : Int) < (s.sz : Int) := by omega
  have hp0 : (0 : Int) ≤ (p : Int) := by omega
  have hpz : (p : Int) < (s.sz : Int) := by omega
  obtain ⟨f0, f1, f2, f3, f4, f5, ff⟩ := H0.out.fb
  obtain ⟨y0, y1, y2, y3, y4, yf⟩ := H0.out.hd hv
  rw [hq] at y1 y2 y3 y4
  dsimp only at y1 y2 y3 y4
  have HQ := Lib.hid hq
  have HPS := Lib.hid hps
  have HCS := Lib.hid hcs
  clear h hbz hps hcs hq
  go_enter Try.func41, Try.ntmps41
  go_upto_region 1 with fail
  rw [← hw0]
  try rw [hdb]
  clear hw0 hdb
  go_quiet (fail)
  have H1 := Lib.hid (H0.out.drewN nq)
  have F01 := Lib.hid (F0.out.drewN nq)
  have D1 : Hid ((w0.drewN nq).heap[db]? = some (.cells #[I kd, I K] 50 (0, 0))) := D0.out
  clear H0 F0 D0
  try clear f0 f1 f2 f3 f4 f5 ff
  try clear y0 y1 y2 y3 y4 yf
  try clear xpk xpn xpm xpl xpf
  try clear xck xcn xcm xcl xcf
  try clear xzk xzn xzm xzl xzf
  generalize hgw : w0.drewN nq = w1 at *
  clear hgw nq
  have F1 := Lib.hid (UF.refl base w1)
  have d1a : w1.cell? ⟨db, 0, none⟩ = some (I kd) := (F1.out.cell D1.out (by decide) (by decide) (by decide) (by decide)).trans (by rw [jcell D1.out]; rfl)
  have d1b : w1.cell? ⟨db, 1, none⟩ = some (I K) := (F1.out.cell D1.out (by decide) (by decide) (by decide) (by decide)).trans (by rw [jcell D1.out]; rfl)
  obtain ⟨f0, f1, f2, f3, f4, f5, ff⟩ := H1.out.fb
  obtain ⟨y0, y1, y2, y3, y4, yf⟩ := H1.out.hd hv
  rw [HQ.out] at y1 y2 y3 y4
  dsimp only at y1 y2 y3 y4
  have y1q := y1
  clear y1
  have y1 : w1.cell? ⟨gH, v * 5 + 1, none⟩ = some (I 4) := y1q
  clear y1q
  obtain ⟨xck, xcn, xcm, xcl, xcf⟩ := H1.out.bd (i := c) HCS.out
  go_wp2_with fail
  go_quiet (fail)
  try clear f0 f1 f2 f3 f4 f5 ff
  try clear y0 y1 y2 y3 y4 yf
  try clear xpk xpn xpm xpl xpf
  try clear xck xcn xcm xcl xcf
  try clear xzk xzn xzm xzl xzf
  have H2 : Hid (UB (w1.drewN nq) base bb gB cB gH cH al nh s lk ix hs pv dv now D) := H1.out.drewN nq
  have F2 : Hid (UF base w1 (w1.drewN nq)) := F1.out.drewN nq
  generalize hgw : w1.drewN nq = w2 at *
  clear hgw
  have d2a : w2.cell? ⟨db, 0, none⟩ = some (I kd) := (F2.out.cell D1.out (by decide) (by decide) (by decide) (by decide)).trans (by rw [jcell D1.out]; rfl)
  have d2b : w2.cell? ⟨db, 1, none⟩ = some (I K) := (F2.out.cell D1.out (by decide) (by decide) (by decide) (by decide)).trans (by rw [jcell D1.out]; rfl)
  clear nq
  obtain ⟨f0, f1, f2, f3, f4, f5, ff⟩ := H2.out.fb
  obtain ⟨y0, y1, y2, y3, y4, yf⟩ := H2.out.hd hv
  rw [HQ.out] at y1 y2 y3 y4
  dsimp only at y1 y2 y3 y4
  have y1q := y1
  clear y1
  have y1 : w2.cell? ⟨gH, v * 5 + 1, none⟩ = some (I 4) := y1q
  clear y1q
  obtain ⟨xpk, xpn, xpm, xpl, xpf⟩ := H2.out.bd (i := p) HPS.out
  rw [hmp] at xpm
  obtain ⟨xck, xcn, xcm, xcl, xcf⟩ := H2.out.bd (i := c) HCS.out
  rw [hmc] at xcm
  go_wp2_with fail
  go_quiet (fail)
  try clear f0 f1 f2 f3 f4 f5 ff
  try clear y0 y1 y2 y3 y4 yf
  try clear xpk xpn xpm xpl xpf
  try clear xck xcn xcm xcl xcf
  try clear xzk xzn xzm xzl xzf
  have H3 : Hid (UB (w2.drewN nq) base bb gB cB gH cH al nh s lk ix hs pv dv now D) := H2.out.drewN nq
  have F3 : Hid (UF base w1 (w2.drewN nq)) := F2.out.drewN nq
  generalize hgw : w2.drewN nq = w3 at *
  clear hgw
  have d3a : w3.cell? ⟨db, 0, none⟩ = some (I kd) := (F3.out.cell D1.out (by decide) (by decide) (by decide) (by decide)).trans (by rw [jcell D1.out]; rfl)
  have d3b : w3.cell? ⟨db, 1, none⟩ = some (I K) := (F3.out.cell D1.out (by decide) (by decide) (by decide) (by decide)).trans (by rw [jcell D1.out]; rfl)
  clear nq
  obtain ⟨f0, f1, f2, f3, f4, f5, ff⟩ := H3.out.fb
  obtain ⟨y0, y1, y2, y3, y4, yf⟩ := H3.out.hd hv
  rw [HQ.out] at y1 y2 y3 y4
  dsimp only at y1 y2 y3 y4
  have y1q := y1
  clear y1
  have y1 : w3.cell? ⟨gH, v * 5 + 1, none⟩ = some (I 4) := y1q
  clear y1q
  have HA3 := Lib.hid (ufree_any (p := p) (c := c) H3.out hv (by rw [HQ.out]) (by rw [HQ.out]) HPS.out HCS.out)
  go_wp2_with fail
  refine HA3.out.mono ?_
  rintro e w4 ⟨rfl, h4, f4'⟩
  try clear f0 f1 f2 f3 f4 f5 ff
  try clear y0 y1 y2 y3 y4 yf
  try clear xpk xpn xpm xpl xpf
  try clear xck xcn xcm xcl xcf
  try clear xzk xzn xzm xzl xzf
  have H4 : Hid (UB w4 base bb gB cB gH cH al nh s (fre lk ⟨9, p, c, false⟩) ix hs pv dv now D) := h4.all_eq rfl (by unfold fre; rw [HQ.out]) rfl
  have F4 := Lib.hid (F3.out.trans f4')
  clear h4 f4'
  have d4a : w4.cell? ⟨db, 0, none⟩ = some (I kd) := (F4.out.cell D1.out (by decide) (by decide) (by decide) (by decide)).trans (by rw [jcell D1.out]; rfl)
  have d4b : w4.cell? ⟨db, 1, none⟩ = some (I K) := (F4.out.cell D1.out (by decide) (by decide) (by decide) (by decide)).trans (by rw [jcell D1.out]; rfl)
  obtain ⟨f0, f1, f2, f3, f4, f5, ff⟩ := H4.out.fb
  obtain ⟨y0, y1, y2, y3, y4, yf⟩ := H4.out.hd hv
  rw [HQ.out] at y1 y2 y3 y4
  dsimp only at y1 y2 y3 y4
  have y1q := y1
  clear y1
  have y1 : w4.cell? ⟨gH, v * 5 + 1, none⟩ = some (I 4) := y1q
  clear y1q
  have H5 := Lib.hid (H4.out.aset hv 0)
  have F5 := Lib.hid (F4.out.trans (H4.out.ufH (v * 5 + 1) (I 0)))
  go_wp2
  go_ret
  exact ⟨rfl, ⟨gB, cB, H5.out.hs_eq (by rw [HQ.out])⟩, F01.out.trans F5.out⟩
set_option maxRecDepth 100000 in
set_option maxHeartbeats 8000000 in
theorem ulazy_4n (h : UB w base bb gB cB gH cH al nh s lk ix hs pv dv now D) (hv : v < nh) (hq : hs v = ⟨4, p, c, is_⟩) (hps : p < s.sz) (hcs : c < s.sz) (hmp : s.mrk p = false) (hmc : s.mrk c = false) (hpt : p ≠ s.tl) (hn : s.nx p ≠ c) :
    Calls Try.prog 41 #[jp bb, .pointer (some ⟨gH, v * 5, none⟩), .agg #[I kd, I K]] w (RetH base bb gH cH al nh ix hs pv dv now D v ⟨s, (fre lk ⟨9, p, c, false⟩), ⟨0, p, c, is_⟩, .none, false⟩ w) := by
  have hbz := h.bbase
  obtain ⟨w0, hw0⟩ : ∃ x, x = w.alloc (.cells #[I kd, I K] 50) := ⟨_, rfl⟩
  have H0 : Hid (UB w0 base bb gB cB gH cH al nh s lk ix hs pv dv now D) := by rw [hw0]; exact h.keep ((Below.refl _ _).alloc (Nat.le_refl _) _)
  have F0 : Hid (UF base w w0) := by rw [hw0]; exact (UF.refl _ _).alloc hbz _
  have D0 : Hid (w0.heap[w.heap.size]? = some (.cells #[I kd, I K] 50 (0, 0))) := by rw [hw0]; exact heap_alloc_new _ _
  obtain ⟨db, hdb⟩ : ∃ x, w.heap.size = x := ⟨_, rfl⟩
  rw [hdb] at D0
  have hc0 : (0 : Int) ≤ (c : Int) := by omega
  have hcz : (c : Int) < (s.sz : Int) := by omega
  have hp0 : (0 : Int) ≤ (p : Int) := by omega
  have hpz : (p : Int) < (s.sz : Int) := by omega
  obtain ⟨n, hnn⟩ : ∃ n, s.nx p = n := ⟨_, rfl⟩
  have hnb : ((n : Int) == (c : Int)) = false := by rw [← hnn]; simp; omega
  have HNN := Lib.hid hnn
  clear hn hnn
  obtain ⟨f0, f1, f2, f3, f4, f5, ff⟩ := H0.out.fb
  obtain ⟨y0, y1, y2, y3, y4, yf⟩ := H0.out.hd hv
  rw [hq] at y1 y2 y3 y4
  dsimp only at y1 y2 y3 y4
  have HQ := Lib.hid hq
  have HPS := Lib.hid hps
  have HCS := Lib.hid hcs
  clear h hbz hps hcs hq
  go_enter Try.func41, Try.ntmps41
  go_upto_region 1 with fail
  rw [← hw0]
  try rw [hdb]
  clear hw0 hdb
  go_quiet (fail)
  have H1 := Lib.hid (H0.out.drewN nq)
  have F01 := Lib.hid (F0.out.drewN nq)
  have D1 : Hid ((w0.drewN nq).heap[db]? = some (.cells #[I kd, I K] 50 (0, 0))) := D0.out
  clear H0 F0 D0
  try clear f0 f1 f2 f3 f4 f5 ff
  try clear y0 y1 y2 y3 y4 yf
  try clear xpk xpn xpm xpl xpf
  try clear xck xcn xcm xcl xcf
  try clear xzk xzn xzm xzl xzf
  generalize hgw : w0.drewN nq = w1 at *
  clear hgw nq
  have F1 := Lib.hid (UF.refl base w1)
  have d1a : w1.cell? ⟨db, 0, none⟩ = some (I kd) := (F1.out.cell D1.out (by decide) (by decide) (by decide) (by decide)).trans (by rw [jcell D1.out]; rfl)
  have d1b : w1.cell? ⟨db, 1, none⟩ = some (I K) := (F1.out.cell D1.out (by decide) (by decide) (by decide) (by decide)).trans (by rw [jcell D1.out]; rfl)
  obtain ⟨f0, f1, f2, f3, f4, f5, ff⟩ := H1.out.fb
  obtain ⟨y0, y1, y2, y3, y4, yf⟩ := H1.out.hd hv
  rw [HQ.out] at y1 y2 y3 y4
  dsimp only at y1 y2 y3 y4
  have y1q := y1
  clear y1
  have y1 : w1.cell? ⟨gH, v * 5 + 1, none⟩ = some (I 4) := y1q
  clear y1q
  obtain ⟨xck, xcn, xcm, xcl, xcf⟩ := H1.out.bd (i := c) HCS.out
  go_wp2_with fail
  go_quiet (fail)
  try clear f0 f1 f2 f3 f4 f5 ff
  try clear y0 y1 y2 y3 y4 yf
  try clear xpk xpn xpm xpl xpf
  try clear xck xcn xcm xcl xcf
  try clear xzk xzn xzm xzl xzf
  have H2 : Hid (UB (w1.drewN nq) base bb gB cB gH cH al nh s lk ix hs pv dv now D) := H1.out.drewN nq
  have F2 : Hid (UF base w1 (w1.drewN nq)) := F1.out.drewN nq
  generalize hgw : w1.drewN nq = w2 at *
  clear hgw
  have d2a : w2.cell? ⟨db, 0, none⟩ = some (I kd) := (F2.out.cell D1.out (by decide) (by decide) (by decide) (by decide)).trans (by rw [jcell D1.out]; rfl)
  have d2b : w2.cell? ⟨db, 1, none⟩ = some (I K) := (F2.out.cell D1.out (by decide) (by decide) (by decide) (by decide)).trans (by rw [jcell D1.out]; rfl)
  clear nq
  obtain ⟨f0, f1, f2, f3, f4, f5, ff⟩ := H2.out.fb
  obtain ⟨y0, y1, y2, y3, y4, yf⟩ := H2.out.hd hv
  rw [HQ.out] at y1 y2 y3 y4
  dsimp only at y1 y2 y3 y4
  have y1q := y1
  clear y1
  have y1 : w2.cell? ⟨gH, v * 5 + 1, none⟩ = some (I 4) := y1q
  clear y1q
  obtain ⟨xpk, xpn, xpm, xpl, xpf⟩ := H2.out.bd (i := p) HPS.out
  rw [nxI_ne hpt] at xpn
  rw [HNN.out] at xpn
  rw [hmp] at xpm
  obtain ⟨xck, xcn, xcm, xcl, xcf⟩ := H2.out.bd (i := c) HCS.out
  rw [hmc] at xcm
  go_wp2_with fail
  go_quiet (fail)
  try clear f0 f1 f2 f3 f4 f5 ff
  try clear y0 y1 y2 y3 y4 yf
  try clear xpk xpn xpm xpl xpf
  try clear xck xcn xcm xcl xcf
  try clear xzk xzn xzm xzl xzf
  have H3 : Hid (UB (w2.drewN nq) base bb gB cB gH cH al nh s lk ix hs pv dv now D) := H2.out.drewN nq
  have F3 : Hid (UF base w1 (w2.drewN nq)) := F2.out.drewN nq
  generalize hgw : w2.drewN nq = w3 at *
  clear hgw
  have d3a : w3.cell? ⟨db, 0, none⟩ = some (I kd) := (F3.out.cell D1.out (by decide) (by decide) (by decide) (by decide)).trans (by rw [jcell D1.out]; rfl)
  have d3b : w3.cell? ⟨db, 1, none⟩ = some (I K) := (F3.out.cell D1.out (by decide) (by decide) (by decide) (by decide)).trans (by rw [jcell D1.out]; rfl)
  clear nq
  obtain ⟨f0, f1, f2, f3, f4, f5, ff⟩ := H3.out.fb
  obtain ⟨y0, y1, y2, y3, y4, yf⟩ := H3.out.hd hv
  rw [HQ.out] at y1 y2 y3 y4
  dsimp only at y1 y2 y3 y4
  have y1q := y1
  clear y1
  have y1 : w3.cell? ⟨gH, v * 5 + 1, none⟩ = some (I 4) := y1q
  clear y1q
  have HA3 := Lib.hid (ufree_any (p := p) (c := c) H3.out hv (by rw [HQ.out]) (by rw [HQ.out]) HPS.out HCS.out)
  go_wp2_with fail
  refine HA3.out.mono ?_
  rintro e w4 ⟨rfl, h4, f4'⟩
  try clear f0 f1 f2 f3 f4 f5 ff
  try clear y0 y1 y2 y3 y4 yf
  try clear xpk xpn xpm xpl xpf
  try clear xck xcn xcm xcl xcf
  try clear xzk xzn xzm xzl xzf
  have H4 : Hid (UB w4 base bb gB cB gH cH al nh s (fre lk ⟨9, p, c, false⟩) ix hs pv dv now D) := h4.all_eq rfl (by unfold fre; rw [HQ.out]) rfl
  have F4 := Lib.hid (F3.out.trans f4')
  clear h4 f4'
  have d4a : w4.cell? ⟨db, 0, none⟩ = some (I kd) := (F4.out.cell D1.out (by decide) (by decide) (by decide) (by decide)).trans (by rw [jcell D1.out]; rfl)
  have d4b : w4.cell? ⟨db, 1, none⟩ = some (I K) := (F4.out.cell D1.out (by decide) (by decide) (by decide) (by decide)).trans (by rw [jcell D1.out]; rfl)
  obtain ⟨f0, f1, f2, f3, f4, f5, ff⟩ := H4.out.fb
  obtain ⟨y0, y1, y2, y3, y4, yf⟩ := H4.out.hd hv
  rw [HQ.out] at y1 y2 y3 y4
  dsimp only at y1 y2 y3 y4
  have y1q := y1
  clear y1
  have y1 : w4.cell? ⟨gH, v * 5 + 1, none⟩ = some (I 4) := y1q
  clear y1q
  have H5 := Lib.hid (H4.out.aset hv 0)
  have F5 := Lib.hid (F4.out.trans (H4.out.ufH (v * 5 + 1) (I 0)))
  go_wp2
  go_ret
  exact ⟨rfl, ⟨gB, cB, H5.out.hs_eq (by rw [HQ.out])⟩, F01.out.trans F5.out⟩
set_option maxRecDepth 100000 in
set_option maxHeartbeats 8000000 in
theorem ulazy_41e (h : UB w base bb gB cB gH cH al nh s lk ix hs pv dv now D) (hv : v < nh) (hq : hs v = ⟨4, p, c, is_⟩) (hps : p < s.sz) (hcs : c < s.sz) (hmp : s.mrk p = false) (hmc : s.mrk c = false) (hn : s.nx p = c) (he : s.key c = K) (hpt : p ≠ s.tl) :
    Calls Try.prog 41 #[jp bb, .pointer (some ⟨gH, v * 5, none⟩), .agg #[I 1, I K]] w (RetH base bb gH cH al nh ix hs pv dv now D v ⟨s, (fre lk ⟨9, p, c, false⟩), ⟨4, p, c, false⟩, .none, true⟩ w) := by
  have hbz := h.bbase
  obtain ⟨w0, hw0⟩ : ∃ x, x = w.alloc (.cells #[I 1, I K] 50) := ⟨_, rfl⟩
  have H0 : Hid (UB w0 base bb gB cB gH cH al nh s lk ix hs pv dv now D) := by rw [hw0]; exact h.keep ((Below.refl _ _).alloc (Nat.le_refl _) _)
  have F0 : Hid (UF base w w0) := by rw [hw0]; exact (UF.refl _ _).alloc hbz _
  have D0 : Hid (w0.heap[w.heap.size]? = some (.cells #[I 1, I K] 50 (0, 0))) := by rw [hw0]; exact heap_alloc_new _ _
  obtain ⟨db, hdb⟩ : ∃ x, w.heap.size = x := ⟨_, rfl⟩
  rw [hdb] at D0
  have hc0 : (0 : Int) ≤ (c : Int) := by omega
  have hcz : (c : Int) < (s.sz : Int) := by omega
  have hp0 : (0 : Int) ≤ (p : Int) := by omega
  have hpz : (p : Int) < (s.sz : Int) := by omega
  have hnb : ((c : Int) == (c : Int)) = true := by simp
  have hkb : (s.key c == K) = true := by simp [he]
  clear he
  have HNN := Lib.hid hn
  clear hn
  obtain ⟨f0, f1, f2, f3, f4, f5, ff⟩ := H0.out.fb
  obtain ⟨y0, y1, y2, y3, y4, yf⟩ := H0.out.hd hv
  rw [hq] at y1 y2 y3 y4
  dsimp only at y1 y2 y3 y4
  have HQ := Lib.hid hq
  have HPS := Lib.hid hps
  have HCS := Lib.hid hcs
  clear h hbz hps hcs hq
  go_enter Try.func41, Try.ntmps41
  go_upto_region 1 with fail
  rw [← hw0]
  try rw [hdb]
  clear hw0 hdb
  go_quiet (fail)
  have H1 := Lib.hid (H0.out.drewN nq)
  have F01 := Lib.hid (F0.out.drewN nq)
  have D1 : Hid ((w0.drewN nq).heap[db]? = some (.cells #[I 1, I K] 50 (0, 0))) := D0.out
  clear H0 F0 D0
  try clear f0 f1 f2 f3 f4 f5 ff
  try clear y0 y1 y2 y3 y4 yf
  try clear xpk xpn xpm xpl xpf
  try clear xck xcn xcm xcl xcf
  try clear xzk xzn xzm xzl xzf
  generalize hgw : w0.drewN nq = w1 at *
  clear hgw nq
  have F1 := Lib.hid (UF.refl base w1)
  have d1a : w1.cell? ⟨db, 0, none⟩ = some (I 1) := (F1.out.cell D1.out (by decide) (by decide) (by decide) (by decide)).trans (by rw [jcell D1.out]; rfl)
  have d1b : w1.cell? ⟨db, 1, none⟩ = some (I K) := (F1.out.cell D1.out (by decide) (by decide) (by decide) (by decide)).trans (by rw [jcell D1.out]; rfl)
  obtain ⟨f0, f1, f2, f3, f4, f5, ff⟩ := H1.out.fb
  obtain ⟨y0, y1, y2, y3, y4, yf⟩ := H1.out.hd hv
  rw [HQ.out] at y1 y2 y3 y4
  dsimp only at y1 y2 y3 y4
  have y1q := y1
  clear y1
  have y1 : w1.cell? ⟨gH, v * 5 + 1, none⟩ = some (I 4) := y1q
  clear y1q
  obtain ⟨xck, xcn, xcm, xcl, xcf⟩ := H1.out.bd (i := c) HCS.out
  go_wp2_with fail
  go_quiet (fail)
  try clear f0 f1 f2 f3 f4 f5 ff
  try clear y0 y1 y2 y3 y4 yf
  try clear xpk xpn xpm xpl xpf
  try clear xck xcn xcm xcl xcf
  try clear xzk xzn xzm xzl xzf
  have H2 : Hid (UB (w1.drewN nq) base bb gB cB gH cH al nh s lk ix hs pv dv now D) := H1.out.drewN nq
  have F2 : Hid (UF base w1 (w1.drewN nq)) := F1.out.drewN nq
  generalize hgw : w1.drewN nq = w2 at *
  clear hgw
  have d2a : w2.cell? ⟨db, 0, none⟩ = some (I 1) := (F2.out.cell D1.out (by decide) (by decide) (by decide) (by decide)).trans (by rw [jcell D1.out]; rfl)
  have d2b : w2.cell? ⟨db, 1, none⟩ = some (I K) := (F2.out.cell D1.out (by decide) (by decide) (by decide) (by decide)).trans (by rw [jcell D1.out]; rfl)
  clear nq
  obtain ⟨f0, f1, f2, f3, f4, f5, ff⟩ := H2.out.fb
  obtain ⟨y0, y1, y2, y3, y4, yf⟩ := H2.out.hd hv
  rw [HQ.out] at y1 y2 y3 y4
  dsimp only at y1 y2 y3 y4
  have y1q := y1
  clear y1
  have y1 : w2.cell? ⟨gH, v * 5 + 1, none⟩ = some (I 4) := y1q
  clear y1q
  obtain ⟨xpk, xpn, xpm, xpl, xpf⟩ := H2.out.bd (i := p) HPS.out
  rw [nxI_ne hpt] at xpn
  rw [HNN.out] at xpn
  rw [hmp] at xpm
  obtain ⟨xck, xcn, xcm, xcl, xcf⟩ := H2.out.bd (i := c) HCS.out
  rw [hmc] at xcm
  go_wp2_with fail
  go_quiet (fail)
  try clear f0 f1 f2 f3 f4 f5 ff
  try clear y0 y1 y2 y3 y4 yf
  try clear xpk xpn xpm xpl xpf
  try clear xck xcn xcm xcl xcf
  try clear xzk xzn xzm xzl xzf
  have H3 : Hid (UB (w2.drewN nq) base bb gB cB gH cH al nh s lk ix hs pv dv now D) := H2.out.drewN nq
  have F3 : Hid (UF base w1 (w2.drewN nq)) := F2.out.drewN nq
  generalize hgw : w2.drewN nq = w3 at *
  clear hgw
  have d3a : w3.cell? ⟨db, 0, none⟩ = some (I 1) := (F3.out.cell D1.out (by decide) (by decide) (by decide) (by decide)).trans (by rw [jcell D1.out]; rfl)
  have d3b : w3.cell? ⟨db, 1, none⟩ = some (I K) := (F3.out.cell D1.out (by decide) (by decide) (by decide) (by decide)).trans (by rw [jcell D1.out]; rfl)
  clear nq
  obtain ⟨f0, f1, f2, f3, f4, f5, ff⟩ := H3.out.fb
  obtain ⟨y0, y1, y2, y3, y4, yf⟩ := H3.out.hd hv
  rw [HQ.out] at y1 y2 y3 y4
  dsimp only at y1 y2 y3 y4
  have y1q := y1
  clear y1
  have y1 : w3.cell? ⟨gH, v * 5 + 1, none⟩ = some (I 4) := y1q
  clear y1q
  obtain ⟨xck, xcn, xcm, xcl, xcf⟩ := H3.out.bd (i := c) HCS.out
  rw [hmc] at xcm
  try clear f0 f1 f2 f3 f4 f5 ff
  try clear y0 y1 y2 y3 y4 yf
  try clear xpk xpn xpm xpl xpf
  try clear xck xcn xcm xcl xcf
  try clear xzk xzn xzm xzl xzf
  have H4 : Hid (UB (w3.setCell ⟨gH, v * 5 + 4, none⟩ (.bool false)) base bb gB cB gH cH al nh s lk ix (upd hs v ⟨4, p, c, false⟩) pv dv now D) := (H3.out.iset hv false).hs_eq (by rw [HQ.out])
  have F4 : Hid (UF base w1 (w3.setCell ⟨gH, v * 5 + 4, none⟩ (.bool false))) := F3.out.trans (H3.out.ufH _ _)
  have d4a : (w3.setCell ⟨gH, v * 5 + 4, none⟩ (.bool false)).cell? ⟨db, 0, none⟩ = some (I 1) := (F4.out.cell D1.out (by decide) (by decide) (by decide) (by decide)).trans (by rw [jcell D1.out]; rfl)
  have d4b : (w3.setCell ⟨gH, v * 5 + 4, none⟩ (.bool false)).cell? ⟨db, 1, none⟩ = some (I K) := (F4.out.cell D1.out (by decide) (by decide) (by decide) (by decide)).trans (by rw [jcell D1.out]; rfl)
  obtain ⟨-, -, -, -, y4, yf⟩ := H3.out.hd hv
  have HA4 := Lib.hid (ufree_any (p := p) (c := c) H4.out hv (by rw [upd_same]) (by rw [upd_same]) HPS.out HCS.out)
  go_wp2_with fail
  refine HA4.out.mono ?_
  rintro e w5 ⟨rfl, h5, f5'⟩
  try clear f0 f1 f2 f3 f4 f5 ff
  try clear y0 y1 y2 y3 y4 yf
  try clear xpk xpn xpm xpl xpf
  try clear xck xcn xcm xcl xcf
  try clear xzk xzn xzm xzl xzf
  have H5 : Hid (UB w5 base bb gB cB gH cH al nh s (fre lk ⟨9, p, c, false⟩) ix (upd hs v ⟨4, p, c, false⟩) pv dv now D) := h5.all_eq rfl (by unfold fre; rw [upd_same]) rfl
  have F5 := Lib.hid (F4.out.trans f5')
  clear h5 f5'
  have d5a : w5.cell? ⟨db, 0, none⟩ = some (I 1) := (F5.out.cell D1.out (by decide) (by decide) (by decide) (by decide)).trans (by rw [jcell D1.out]; rfl)
  have d5b : w5.cell? ⟨db, 1, none⟩ = some (I K) := (F5.out.cell D1.out (by decide) (by decide) (by decide) (by decide)).trans (by rw [jcell D1.out]; rfl)
  obtain ⟨f0, f1, f2, f3, f4, f5, ff⟩ := H5.out.fb
  obtain ⟨y0, y1, y2, y3, y4, yf⟩ := H5.out.hd hv
  rw [upd_same] at y1 y2 y3 y4
  dsimp only at y1 y2 y3 y4
  have y1q := y1
  clear y1
  have y1 : w5.cell? ⟨gH, v * 5 + 1, none⟩ = some (I 4) := y1q
  clear y1q
  go_wp2
  go_ret
  exact ⟨rfl, ⟨gB, cB, H5.out⟩, F01.out.trans F5.out⟩
set_option maxRecDepth 100000 in
set_option maxHeartbeats 8000000 in
theorem ulazy_41n (h : UB w base bb gB cB gH cH al nh s lk ix hs pv dv now D) (hv : v < nh) (hq : hs v = ⟨4, p, c, is_⟩) (hps : p < s.sz) (hcs : c < s.sz) (hmp : s.mrk p = false) (hmc : s.mrk c = false) (hn : s.nx p = c) (he : s.key c ≠ K) (hpt : p ≠ s.tl) (ht : s.tl < s.sz) (hl : lk s.sz = false) (hsz : s.sz ≤ 10000) :
    Calls Try.prog 41 #[jp bb, .pointer (some ⟨gH, v * 5, none⟩), .agg #[I 1, I K]] w (RetH base bb gH cH al nh ix hs pv dv now D v ⟨s.insc p c K, (fre lk ⟨9, p, c, false⟩), ⟨4, p, c, true⟩, .add K, true⟩ w) := by
  have hbz := h.bbase
  obtain ⟨w0, hw0⟩ : ∃ x, x = w.alloc (.cells #[I 1, I K] 50) := ⟨_, rfl⟩
  have H0 : Hid (UB w0 base bb gB cB gH cH al nh s lk ix hs pv dv now D) := by rw [hw0]; exact h.keep ((Below.refl _ _).alloc (Nat.le_refl _) _)
  have F0 : Hid (UF base w w0) := by rw [hw0]; exact (UF.refl _ _).alloc hbz _
  have D0 : Hid (w0.heap[w.heap.size]? = some (.cells #[I 1, I K] 50 (0, 0))) := by rw [hw0]; exact heap_alloc_new _ _
  obtain ⟨db, hdb⟩ : ∃ x, w.heap.size = x := ⟨_, rfl⟩
  rw [hdb] at D0
  have hc0 : (0 : Int) ≤ (c : Int) := by omega
  have hcz : (c : Int) < (s.sz : Int) := by omega
  have hp0 : (0 : Int) ≤ (p : Int) := by omega
  have hpz : (p : Int) < (s.sz : Int) := by omega
  have hnb : ((c : Int) == (c : Int)) = true := by simp
  have hkb : (s.key c == K) = false := by simp [he]
  clear he
  have HLS := Lib.hid (fre_sz (a := 9) (i := false) hps hcs hl)
  have HSZ := Lib.hid hsz
  clear hl hsz
  have HNN := Lib.hid hn
  clear hn
  obtain ⟨f0, f1, f2, f3, f4, f5, ff⟩ := H0.out.fb
  obtain ⟨y0, y1, y2, y3, y4, yf⟩ := H0.out.hd hv
  rw [hq] at y1 y2 y3 y4
  dsimp only at y1 y2 y3 y4
  have HQ := Lib.hid hq
  have HPS := Lib.hid hps
  have HCS := Lib.hid hcs
  clear h hbz hps hcs hq
  go_enter Try.func41, Try.ntmps41
  go_upto_region 1 with fail
  rw [← hw0]
  try rw [hdb]
  clear hw0 hdb
  go_quiet (fail)
  have H1 := Lib.hid (H0.out.drewN nq)
  have F01 := Lib.hid (F0.out.drewN nq)
  have D1 : Hid ((w0.drewN nq).heap[db]? = some (.cells #[I 1, I K] 50 (0, 0))) := D0.out
  clear H0 F0 D0
  try clear f0 f1 f2 f3 f4 f5 ff
  try clear y0 y1 y2 y3 y4 yf
  try clear xpk xpn xpm xpl xpf
  try clear xck xcn xcm xcl xcf
  try clear xzk xzn xzm xzl xzf
  generalize hgw : w0.drewN nq = w1 at *
  clear hgw nq
  have F1 := Lib.hid (UF.refl base w1)
  have d1a : w1.cell? ⟨db, 0, none⟩ = some (I 1) := (F1.out.cell D1.out (by decide) (by decide) (by decide) (by decide)).trans (by rw [jcell D1.out]; rfl)
  have d1b : w1.cell? ⟨db, 1, none⟩ = some (I K) := (F1.out.cell D1.out (by decide) (by decide) (by decide) (by decide)).trans (by rw [jcell D1.out]; rfl)
  obtain ⟨f0, f1, f2, f3, f4, f5, ff⟩ := H1.out.fb
  obtain ⟨y0, y1, y2, y3, y4, yf⟩ := H1.out.hd hv
  rw [HQ.out] at y1 y2 y3 y4
  dsimp only at y1 y2 y3 y4
  have y1q := y1
  clear y1
  have y1 : w1.cell? ⟨gH, v * 5 + 1, none⟩ = some (I 4) := y1q
  clear y1q
  obtain ⟨xck, xcn, xcm, xcl, xcf⟩ := H1.out.bd (i := c) HCS.out
  go_wp2_with fail
  go_quiet (fail)
  try clear f0 f1 f2 f3 f4 f5 ff
  try clear y0 y1 y2 y3 y4 yf
  try clear xpk xpn xpm xpl xpf
  try clear xck xcn xcm xcl xcf
  try clear xzk xzn xzm xzl xzf
  have H2 : Hid (UB (w1.drewN nq) base bb gB cB gH cH al nh s lk ix hs pv dv now D) := H1.out.drewN nq
  have F2 : Hid (UF base w1 (w1.drewN nq)) := F1.out.drewN nq
  generalize hgw : w1.drewN nq = w2 at *
  clear hgw
  have d2a : w2.cell? ⟨db, 0, none⟩ = some (I 1) := (F2.out.cell D1.out (by decide) (by decide) (by decide) (by decide)).trans (by rw [jcell D1.out]; rfl)
  have d2b : w2.cell? ⟨db, 1, none⟩ = some (I K) := (F2.out.cell D1.out (by decide) (by decide) (by decide) (by decide)).trans (by rw [jcell D1.out]; rfl)
  clear nq
  obtain ⟨f0, f1, f2, f3, f4, f5, ff⟩ := H2.out.fb
  obtain ⟨y0, y1, y2, y3, y4, yf⟩ := H2.out.hd hv
  rw [HQ.out] at y1 y2 y3 y4
  dsimp only at y1 y2 y3 y4
  have y1q := y1
  clear y1
  have y1 : w2.cell? ⟨gH, v * 5 + 1, none⟩ = some (I 4) := y1q
  clear y1q
  obtain ⟨xpk, xpn, xpm, xpl, xpf⟩ := H2.out.bd (i := p) HPS.out
  rw [nxI_ne hpt] at xpn
  rw [HNN.out] at xpn
  rw [hmp] at xpm
  obtain ⟨xck, xcn, xcm, xcl, xcf⟩ := H2.out.bd (i := c) HCS.out
  rw [hmc] at xcm
  go_wp2_with fail
  go_quiet (fail)
  try clear f0 f1 f2 f3 f4 f5 ff
  try clear y0 y1 y2 y3 y4 yf
  try clear xpk xpn xpm xpl xpf
  try clear xck xcn xcm xcl xcf
  try clear xzk xzn xzm xzl xzf
  have H3 : Hid (UB (w2.drewN nq) base bb gB cB gH cH al nh s lk ix hs pv dv now D) := H2.out.drewN nq
  have F3 : Hid (UF base w1 (w2.drewN nq)) := F2.out.drewN nq
  generalize hgw : w2.drewN nq = w3 at *
  clear hgw
  have d3a : w3.cell? ⟨db, 0, none⟩ = some (I 1) := (F3.out.cell D1.out (by decide) (by decide) (by decide) (by decide)).trans (by rw [jcell D1.out]; rfl)
  have d3b : w3.cell? ⟨db, 1, none⟩ = some (I K) := (F3.out.cell D1.out (by decide) (by decide) (by decide) (by decide)).trans (by rw [jcell D1.out]; rfl)
  clear nq
  obtain ⟨f0, f1, f2, f3, f4, f5, ff⟩ := H3.out.fb
  obtain ⟨y0, y1, y2, y3, y4, yf⟩ := H3.out.hd hv
  rw [HQ.out] at y1 y2 y3 y4
  dsimp only at y1 y2 y3 y4
  have y1q := y1
  clear y1
  have y1 : w3.cell? ⟨gH, v * 5 + 1, none⟩ = some (I 4) := y1q
  clear y1q
  obtain ⟨xck, xcn, xcm, xcl, xcf⟩ := H3.out.bd (i := c) HCS.out
  rw [hmc] at xcm
  try clear f0 f1 f2 f3 f4 f5 ff
  try clear y0 y1 y2 y3 y4 yf
  try clear xpk xpn xpm xpl xpf
  try clear xck xcn xcm xcl xcf
  try clear xzk xzn xzm xzl xzf
  have H4 : Hid (UB (w3.setCell ⟨gH, v * 5 + 4, none⟩ (.bool true)) base bb gB cB gH cH al nh s lk ix (upd hs v ⟨4, p, c, true⟩) pv dv now D) := (H3.out.iset hv true).hs_eq (by rw [HQ.out])
  have F4 : Hid (UF base w1 (w3.setCell ⟨gH, v * 5 + 4, none⟩ (.bool true))) := F3.out.trans (H3.out.ufH _ _)
  have d4a : (w3.setCell ⟨gH, v * 5 + 4, none⟩ (.bool true)).cell? ⟨db, 0, none⟩ = some (I 1) := (F4.out.cell D1.out (by decide) (by decide) (by decide) (by decide)).trans (by rw [jcell D1.out]; rfl)
  have d4b : (w3.setCell ⟨gH, v * 5 + 4, none⟩ (.bool true)).cell? ⟨db, 1, none⟩ = some (I K) := (F4.out.cell D1.out (by decide) (by decide) (by decide) (by decide)).trans (by rw [jcell D1.out]; rfl)
  obtain ⟨-, -, -, -, y4, yf⟩ := H3.out.hd hv
  have HA4 := Lib.hid (ufree_any (p := p) (c := c) H4.out hv (by rw [upd_same]) (by rw [upd_same]) HPS.out HCS.out)
  go_wp2_with fail
  refine HA4.out.mono ?_
  rintro e w5 ⟨rfl, h5, f5'⟩
  try clear f0 f1 f2 f3 f4 f5 ff
  try clear y0 y1 y2 y3 y4 yf
  try clear xpk xpn xpm xpl xpf
  try clear xck xcn xcm xcl xcf
  try clear xzk xzn xzm xzl xzf
  have H5 : Hid (UB w5 base bb gB cB gH cH al nh s (fre lk ⟨9, p, c, false⟩) ix (upd hs v ⟨4, p, c, true⟩) pv dv now D) := h5.all_eq rfl (by unfold fre; rw [upd_same]) rfl
  have F5 := Lib.hid (F4.out.trans f5')
  clear h5 f5'
  have d5a : w5.cell? ⟨db, 0, none⟩ = some (I 1) := (F5.out.cell D1.out (by decide) (by decide) (by decide) (by decide)).trans (by rw [jcell D1.out]; rfl)
  have d5b : w5.cell? ⟨db, 1, none⟩ = some (I K) := (F5.out.cell D1.out (by decide) (by decide) (by decide) (by decide)).trans (by rw [jcell D1.out]; rfl)
  obtain ⟨f0, f1, f2, f3, f4, f5, ff⟩ := H5.out.fb
  obtain ⟨y0, y1, y2, y3, y4, yf⟩ := H5.out.hd hv
  rw [upd_same] at y1 y2 y3 y4
  dsimp only at y1 y2 y3 y4
  have y1q := y1
  clear y1
  have y1 : w5.cell? ⟨gH, v * 5 + 1, none⟩ = some (I 4) := y1q
  clear y1q
  have HA5 := Lib.hid (uinsert_any (p := p) (c := c) (K := K) H5.out hv (by rw [upd_same]) (by rw [upd_same]) HPS.out hpt ht HLS.out HSZ.out)
  go_wp2_with fail
  refine HA5.out.mono ?_
  rintro e w6 ⟨rfl, ⟨gB6, cB6, h6⟩, f6'⟩
  try clear f0 f1 f2 f3 f4 f5 ff
  try clear y0 y1 y2 y3 y4 yf
  try clear xpk xpn xpm xpl xpf
  try clear xck xcn xcm xcl xcf
  try clear xzk xzn xzm xzl xzf
  have H6 : Hid (UB w6 base bb gB6 cB6 gH cH al nh (s.insc p c K) (fre lk ⟨9, p, c, false⟩) ix (upd hs v ⟨4, p, c, true⟩) pv dv now D) := h6
  have F6 := Lib.hid (F5.out.trans f6')
  clear h6 f6'
  have d6a : w6.cell? ⟨db, 0, none⟩ = some (I 1) := (F6.out.cell D1.out (by decide) (by decide) (by decide) (by decide)).trans (by rw [jcell D1.out]; rfl)
  have d6b : w6.cell? ⟨db, 1, none⟩ = some (I K) := (F6.out.cell D1.out (by decide) (by decide) (by decide) (by decide)).trans (by rw [jcell D1.out]; rfl)
  go_wp2
  go_ret
  exact ⟨rfl, ⟨gB6, cB6, H6.out⟩, F01.out.trans F6.out⟩
set_option maxRecDepth 100000 in
set_option maxHeartbeats 8000000 in
theorem ulazy_42e (h : UB w base bb gB cB gH cH al nh s lk ix hs pv dv now D) (hv : v < nh) (hq : hs v = ⟨4, p, c, is_⟩) (hps : p < s.sz) (hcs : c < s.sz) (hmp : s.mrk p = false) (hmc : s.mrk c = false) (hn : s.nx p = c) (he : s.key c = K) (hpt : p ≠ s.tl) :
    Calls Try.prog 41 #[jp bb, .pointer (some ⟨gH, v * 5, none⟩), .agg #[I 2, I K]] w (RetH base bb gH cH al nh ix hs pv dv now D v ⟨s.mark c, lk, ⟨5, p, c, true⟩, .del K, false⟩ w) := by
  have hbz := h.bbase
  obtain ⟨w0, hw0⟩ : ∃ x, x = w.alloc (.cells #[I 2, I K] 50) := ⟨_, rfl⟩
  have H0 : Hid (UB w0 base bb gB cB gH cH al nh s lk ix hs pv dv now D) := by rw [hw0]; exact h.keep ((Below.refl _ _).alloc (Nat.le_refl _) _)
  have F0 : Hid (UF base w w0) := by rw [hw0]; exact (UF.refl _ _).alloc hbz _
  have D0 : Hid (w0.heap[w.heap.size]? = some (.cells #[I 2, I K] 50 (0, 0))) := by rw [hw0]; exact heap_alloc_new _ _
  obtain ⟨db, hdb⟩ : ∃ x, w.heap.size = x := ⟨_, rfl⟩
  rw [hdb] at D0
  have hc0 : (0 : Int) ≤ (c : Int) := by omega
  have hcz : (c : Int) < (s.sz : Int) := by omega
  have hp0 : (0 : Int) ≤ (p : Int) := by omega
  have hpz : (p : Int) < (s.sz : Int) := by omega
  have hnb : ((c : Int) == (c : Int)) = true := by simp
  have hkb : (s.key c == K) = true := by simp [he]
  clear he
  have HNN := Lib.hid hn
  clear hn
  obtain ⟨f0, f1, f2, f3, f4, f5, ff⟩ := H0.out.fb
  obtain ⟨y0, y1, y2, y3, y4, yf⟩ := H0.out.hd hv
  rw [hq] at y1 y2 y3 y4
  dsimp only at y1 y2 y3 y4
  have HQ := Lib.hid hq
  have HPS := Lib.hid hps
  have HCS := Lib.hid hcs
  clear h hbz hps hcs hq
  go_enter Try.func41, Try.ntmps41
  go_upto_region 1 with fail
  rw [← hw0]
  try rw [hdb]
  clear hw0 hdb
  go_quiet (fail)
  have H1 := Lib.hid (H0.out.drewN nq)
  have F01 := Lib.hid (F0.out.drewN nq)
  have D1 : Hid ((w0.drewN nq).heap[db]? = some (.cells #[I 2, I K] 50 (0, 0))) := D0.out
  clear H0 F0 D0
  try clear f0 f1 f2 f3 f4 f5 ff
  try clear y0 y1 y2 y3 y4 yf
  try clear xpk xpn xpm xpl xpf
  try clear xck xcn xcm xcl xcf
  try clear xzk xzn xzm xzl xzf
  generalize hgw : w0.drewN nq = w1 at *
  clear hgw nq
  have F1 := Lib.hid (UF.refl base w1)
  have d1a : w1.cell? ⟨db, 0, none⟩ = some (I 2) := (F1.out.cell D1.out (by decide) (by decide) (by decide) (by decide)).trans (by rw [jcell D1.out]; rfl)
  have d1b : w1.cell? ⟨db, 1, none⟩ = some (I K) := (F1.out.cell D1.out (by decide) (by decide) (by decide) (by decide)).trans (by rw [jcell D1.out]; rfl)
  obtain ⟨f0, f1, f2, f3, f4, f5, ff⟩ := H1.out.fb
  obtain ⟨y0, y1, y2, y3, y4, yf⟩ := H1.out.hd hv
  rw [HQ.out] at y1 y2 y3 y4
  dsimp only at y1 y2 y3 y4
  have y1q := y1
  clear y1
  have y1 : w1.cell? ⟨gH, v * 5 + 1, none⟩ = some (I 4) := y1q
  clear y1q
  obtain ⟨xck, xcn, xcm, xcl, xcf⟩ := H1.out.bd (i := c) HCS.out
  go_wp2_with fail
  go_quiet (fail)
  try clear f0 f1 f2 f3 f4 f5 ff
  try clear y0 y1 y2 y3 y4 yf
  try clear xpk xpn xpm xpl xpf
  try clear xck xcn xcm xcl xcf
  try clear xzk xzn xzm xzl xzf
  have H2 : Hid (UB (w1.drewN nq) base bb gB cB gH cH al nh s lk ix hs pv dv now D) := H1.out.drewN nq
  have F2 : Hid (UF base w1 (w1.drewN nq)) := F1.out.drewN nq
  generalize hgw : w1.drewN nq = w2 at *
  clear hgw
  have d2a : w2.cell? ⟨db, 0, none⟩ = some (I 2) := (F2.out.cell D1.out (by decide) (by decide) (by decide) (by decide)).trans (by rw [jcell D1.out]; rfl)
  have d2b : w2.cell? ⟨db, 1, none⟩ = some (I K) := (F2.out.cell D1.out (by decide) (by decide) (by decide) (by decide)).trans (by rw [jcell D1.out]; rfl)
  clear nq
  obtain ⟨f0, f1, f2, f3, f4, f5, ff⟩ := H2.out.fb
  obtain ⟨y0, y1, y2, y3, y4, yf⟩ := H2.out.hd hv
  rw [HQ.out] at y1 y2 y3 y4
  dsimp only at y1 y2 y3 y4
  have y1q := y1
  clear y1
  have y1 : w2.cell? ⟨gH, v * 5 + 1, none⟩ = some (I 4) := y1q
  clear y1q
  obtain ⟨xpk, xpn, xpm, xpl, xpf⟩ := H2.out.bd (i := p) HPS.out
  rw [nxI_ne hpt] at xpn
  rw [HNN.out] at xpn
  rw [hmp] at xpm
  obtain ⟨xck, xcn, xcm, xcl, xcf⟩ := H2.out.bd (i := c) HCS.out
  rw [hmc] at xcm
  go_wp2_with fail
  go_quiet (fail)
  try clear f0 f1 f2 f3 f4 f5 ff
  try clear y0 y1 y2 y3 y4 yf
  try clear xpk xpn xpm xpl xpf
  try clear xck xcn xcm xcl xcf
  try clear xzk xzn xzm xzl xzf
  have H3 : Hid (UB (w2.drewN nq) base bb gB cB gH cH al nh s lk ix hs pv dv now D) := H2.out.drewN nq
  have F3 : Hid (UF base w1 (w2.drewN nq)) := F2.out.drewN nq
  generalize hgw : w2.drewN nq = w3 at *
  clear hgw
  have d3a : w3.cell? ⟨db, 0, none⟩ = some (I 2) := (F3.out.cell D1.out (by decide) (by decide) (by decide) (by decide)).trans (by rw [jcell D1.out]; rfl)
  have d3b : w3.cell? ⟨db, 1, none⟩ = some (I K) := (F3.out.cell D1.out (by decide) (by decide) (by decide) (by decide)).trans (by rw [jcell D1.out]; rfl)
  clear nq
  obtain ⟨f0, f1, f2, f3, f4, f5, ff⟩ := H3.out.fb
  obtain ⟨y0, y1, y2, y3, y4, yf⟩ := H3.out.hd hv
  rw [HQ.out] at y1 y2 y3 y4
  dsimp only at y1 y2 y3 y4
  have y1q := y1
  clear y1
  have y1 : w3.cell? ⟨gH, v * 5 + 1, none⟩ = some (I 4) := y1q
  clear y1q
  obtain ⟨xck, xcn, xcm, xcl, xcf⟩ := H3.out.bd (i := c) HCS.out
  rw [hmc] at xcm
  try clear f0 f1 f2 f3 f4 f5 ff
  try clear y0 y1 y2 y3 y4 yf
  try clear xpk xpn xpm xpl xpf
  try clear xck xcn xcm xcl xcf
  try clear xzk xzn xzm xzl xzf
  have H4 : Hid (UB (w3.setCell ⟨gH, v * 5 + 4, none⟩ (.bool true)) base bb gB cB gH cH al nh s lk ix (upd hs v ⟨4, p, c, true⟩) pv dv now D) := (H3.out.iset hv true).hs_eq (by rw [HQ.out])
  have F4 : Hid (UF base w1 (w3.setCell ⟨gH, v * 5 + 4, none⟩ (.bool true))) := F3.out.trans (H3.out.ufH _ _)
  have d4a : (w3.setCell ⟨gH, v * 5 + 4, none⟩ (.bool true)).cell? ⟨db, 0, none⟩ = some (I 2) := (F4.out.cell D1.out (by decide) (by decide) (by decide) (by decide)).trans (by rw [jcell D1.out]; rfl)
  have d4b : (w3.setCell ⟨gH, v * 5 + 4, none⟩ (.bool true)).cell? ⟨db, 1, none⟩ = some (I K) := (F4.out.cell D1.out (by decide) (by decide) (by decide) (by decide)).trans (by rw [jcell D1.out]; rfl)
  obtain ⟨-, -, -, -, y4, yf⟩ := H3.out.hd hv
  obtain ⟨-, -, xcm, -, xcf⟩ := H4.out.bd (i := c) HCS.out
  have H5 := Lib.hid (H4.out.mkset HCS.out)
  obtain ⟨-, y1, -, -, -, yf'⟩ := H5.out.hd hv
  obtain ⟨-, y1', -, -, -, yf'⟩ := H4.out.hd hv
  have H6 := Lib.hid (H5.out.aset hv 5)
  have F6 := Lib.hid ((F4.out.trans (H4.out.ufB (c * 4 + 2) (.bool true))).trans (H5.out.ufH (v * 5 + 1) (I 5)))
  go_wp2
  go_ret
  exact ⟨rfl, ⟨gB, cB, H6.out.hs_eq (by rw [upd_upd, upd_same])⟩, F01.out.trans F6.out⟩
set_option maxRecDepth 100000 in
set_option maxHeartbeats 8000000 in
theorem ulazy_42n (h : UB w base bb gB cB gH cH al nh s lk ix hs pv dv now D) (hv : v < nh) (hq : hs v = ⟨4, p, c, is_⟩) (hps : p < s.sz) (hcs : c < s.sz) (hmp : s.mrk p = false) (hmc : s.mrk c = false) (hn : s.nx p = c) (he : s.key c ≠ K) (hpt : p ≠ s.tl) :
    Calls Try.prog 41 #[jp bb, .pointer (some ⟨gH, v * 5, none⟩), .agg #[I 2, I K]] w (RetH base bb gH cH al nh ix hs pv dv now D v ⟨s, (fre lk ⟨9, p, c, false⟩), ⟨4, p, c, false⟩, .none, true⟩ w) := by
  have hbz := h.bbase
  obtain ⟨w0, hw0⟩ : ∃ x, x = w.alloc (.cells #[I 2, I K] 50) := ⟨_, rfl⟩
  have H0 : Hid (UB w0 base bb gB cB gH cH al nh s lk ix hs pv dv now D) := by rw [hw0]; exact h.keep ((Below.refl _ _).alloc (Nat.le_refl _) _)
  have F0 : Hid (UF base w w0) := by rw [hw0]; exact (UF.refl _ _).alloc hbz _
  have D0 : Hid (w0.heap[w.heap.size]? = some (.cells #[I 2, I K] 50 (0, 0))) := by rw [hw0]; exact heap_alloc_new _ _
  obtain ⟨db, hdb⟩ : ∃ x, w.heap.size = x := ⟨_, rfl⟩
  rw [hdb] at D0
  have hc0 : (0 : Int) ≤ (c : Int) := by omega
  have hcz : (c : Int) < (s.sz : Int) := by omega
  have hp0 : (0 : Int) ≤ (p : Int) := by omega
  have hpz : (p : Int) < (s.sz : Int) := by omega
  have hnb : ((c : Int) == (c : Int)) = true := by simp
  have hkb : (s.key c == K) = false := by simp [he]
  clear he
  have HNN := Lib.hid hn
  clear hn
  obtain ⟨f0, f1, f2, f3, f4, f5, ff⟩ := H0.out.fb
  obtain ⟨y0, y1, y2, y3, y4, yf⟩ := H0.out.hd hv
  rw [hq] at y1 y2 y3 y4
  dsimp only at y1 y2 y3 y4
  have HQ := Lib.hid hq
  have HPS := Lib.hid hps
  have HCS := Lib.hid hcs
  clear h hbz hps hcs hq
  go_enter Try.func41, Try.ntmps41
  go_upto_region 1 with fail
  rw [← hw0]
  try rw [hdb]
  clear hw0 hdb
  go_quiet (fail)
  have H1 := Lib.hid (H0.out.drewN nq)
  have F01 := Lib.hid (F0.out.drewN nq)
  have D1 : Hid ((w0.drewN nq).heap[db]? = some (.cells #[I 2, I K] 50 (0, 0))) := D0.out
  clear H0 F0 D0
  try clear f0 f1 f2 f3 f4 f5 ff
  try clear y0 y1 y2 y3 y4 yf
  try clear xpk xpn xpm xpl xpf
  try clear xck xcn xcm xcl xcf
  try clear xzk xzn xzm xzl xzf
  generalize hgw : w0.drewN nq = w1 at *
  clear hgw nq
  have F1 := Lib.hid (UF.refl base w1)
  have d1a : w1.cell? ⟨db, 0, none⟩ = some (I 2) := (F1.out.cell D1.out (by decide) (by decide) (by decide) (by decide)).trans (by rw [jcell D1.out]; rfl)
  have d1b : w1.cell? ⟨db, 1, none⟩ = some (I K) := (F1.out.cell D1.out (by decide) (by decide) (by decide) (by decide)).trans (by rw [jcell D1.out]; rfl)
  obtain ⟨f0, f1, f2, f3, f4, f5, ff⟩ := H1.out.fb
  obtain ⟨y0, y1, y2, y3, y4, yf⟩ := H1.out.hd hv
  rw [HQ.out] at y1 y2 y3 y4
  dsimp only at y1 y2 y3 y4
  have y1q := y1
  clear y1
  have y1 : w1.cell? ⟨gH, v * 5 + 1, none⟩ = some (I 4) := y1q
  clear y1q
  obtain ⟨xck, xcn, xcm, xcl, xcf⟩ := H1.out.bd (i := c) HCS.out
  go_wp2_with fail
  go_quiet (fail)
  try clear f0 f1 f2 f3 f4 f5 ff
  try clear y0 y1 y2 y3 y4 yf
  try clear xpk xpn xpm xpl xpf
  try clear xck xcn xcm xcl xcf
  try clear xzk xzn xzm xzl xzf
  have H2 : Hid (UB (w1.drewN nq) base bb gB cB gH cH al nh s lk ix hs pv dv now D) := H1.out.drewN nq
  have F2 : Hid (UF base w1 (w1.drewN nq)) := F1.out.drewN nq
  generalize hgw : w1.drewN nq = w2 at *
  clear hgw
  have d2a : w2.cell? ⟨db, 0, none⟩ = some (I 2) := (F2.out.cell D1.out (by decide) (by decide) (by decide) (by decide)).trans (by rw [jcell D1.out]; rfl)
  have d2b : w2.cell? ⟨db, 1, none⟩ = some (I K) := (F2.out.cell D1.out (by decide) (by decide) (by decide) (by decide)).trans (by rw [jcell D1.out]; rfl)
  clear nq
  obtain ⟨f0, f1, f2, f3, f4, f5, ff⟩ := H2.out.fb
  obtain ⟨y0, y1, y2, y3, y4, yf⟩ := H2.out.hd hv
  rw [HQ.out] at y1 y2 y3 y4
  dsimp only at y1 y2 y3 y4
  have y1q := y1
  clear y1
  have y1 : w2.cell? ⟨gH, v * 5 + 1, none⟩ = some (I 4) := y1q
  clear y1q
  obtain ⟨xpk, xpn, xpm, xpl, xpf⟩ := H2.out.bd (i := p) HPS.out
  rw [nxI_ne hpt] at xpn
  rw [HNN.out] at xpn
  rw [hmp] at xpm
  obtain ⟨xck, xcn, xcm, xcl, xcf⟩ := H2.out.bd (i := c) HCS.out
  rw [hmc] at xcm
  go_wp2_with fail
  go_quiet (fail)
  try clear f0 f1 f2 f3 f4 f5 ff
  try clear y0 y1 y2 y3 y4 yf
  try clear xpk xpn xpm xpl xpf
  try clear xck xcn xcm xcl xcf
  try clear xzk xzn xzm xzl xzf
  have H3 : Hid (UB (w2.drewN nq) base bb gB cB gH cH al nh s lk ix hs pv dv now D) := H2.out.drewN nq
  have F3 : Hid (UF base w1 (w2.drewN nq)) := F2.out.drewN nq
  generalize hgw : w2.drewN nq = w3 at *
  clear hgw
  have d3a : w3.cell? ⟨db, 0, none⟩ = some (I 2) := (F3.out.cell D1.out (by decide) (by decide) (by decide) (by decide)).trans (by rw [jcell D1.out]; rfl)
  have d3b : w3.cell? ⟨db, 1, none⟩ = some (I K) := (F3.out.cell D1.out (by decide) (by decide) (by decide) (by decide)).trans (by rw [jcell D1.out]; rfl)
  clear nq
  obtain ⟨f0, f1, f2, f3, f4, f5, ff⟩ := H3.out.fb
  obtain ⟨y0, y1, y2, y3, y4, yf⟩ := H3.out.hd hv
  rw [HQ.out] at y1 y2 y3 y4
  dsimp only at y1 y2 y3 y4
  have y1q := y1
  clear y1
  have y1 : w3.cell? ⟨gH, v * 5 + 1, none⟩ = some (I 4) := y1q
  clear y1q
  obtain ⟨xck, xcn, xcm, xcl, xcf⟩ := H3.out.bd (i := c) HCS.out
  rw [hmc] at xcm
  try clear f0 f1 f2 f3 f4 f5 ff
  try clear y0 y1 y2 y3 y4 yf
  try clear xpk xpn xpm xpl xpf
  try clear xck xcn xcm xcl xcf
  try clear xzk xzn xzm xzl xzf
  have H4 : Hid (UB (w3.setCell ⟨gH, v * 5 + 4, none⟩ (.bool false)) base bb gB cB gH cH al nh s lk ix (upd hs v ⟨4, p, c, false⟩) pv dv now D) := (H3.out.iset hv false).hs_eq (by rw [HQ.out])
  have F4 : Hid (UF base w1 (w3.setCell ⟨gH, v * 5 + 4, none⟩ (.bool false))) := F3.out.trans (H3.out.ufH _ _)
  have d4a : (w3.setCell ⟨gH, v * 5 + 4, none⟩ (.bool false)).cell? ⟨db, 0, none⟩ = some (I 2) := (F4.out.cell D1.out (by decide) (by decide) (by decide) (by decide)).trans (by rw [jcell D1.out]; rfl)
  have d4b : (w3.setCell ⟨gH, v * 5 + 4, none⟩ (.bool false)).cell? ⟨db, 1, none⟩ = some (I K) := (F4.out.cell D1.out (by decide) (by decide) (by decide) (by decide)).trans (by rw [jcell D1.out]; rfl)
  obtain ⟨-, -, -, -, y4, yf⟩ := H3.out.hd hv
  have HA4 := Lib.hid (ufree_any (p := p) (c := c) H4.out hv (by rw [upd_same]) (by rw [upd_same]) HPS.out HCS.out)
  go_wp2_with fail
  refine HA4.out.mono ?_
  rintro e w5 ⟨rfl, h5, f5'⟩
  try clear f0 f1 f2 f3 f4 f5 ff
  try clear y0 y1 y2 y3 y4 yf
  try clear xpk xpn xpm xpl xpf
  try clear xck xcn xcm xcl xcf
  try clear xzk xzn xzm xzl xzf
  have H5 : Hid (UB w5 base bb gB cB gH cH al nh s (fre lk ⟨9, p, c, false⟩) ix (upd hs v ⟨4, p, c, false⟩) pv dv now D) := h5.all_eq rfl (by unfold fre; rw [upd_same]) rfl
  have F5 := Lib.hid (F4.out.trans f5')
  clear h5 f5'
  have d5a : w5.cell? ⟨db, 0, none⟩ = some (I 2) := (F5.out.cell D1.out (by decide) (by decide) (by decide) (by decide)).trans (by rw [jcell D1.out]; rfl)
  have d5b : w5.cell? ⟨db, 1, none⟩ = some (I K) := (F5.out.cell D1.out (by decide) (by decide) (by decide) (by decide)).trans (by rw [jcell D1.out]; rfl)
  obtain ⟨f0, f1, f2, f3, f4, f5, ff⟩ := H5.out.fb
  obtain ⟨y0, y1, y2, y3, y4, yf⟩ := H5.out.hd hv
  rw [upd_same] at y1 y2 y3 y4
  dsimp only at y1 y2 y3 y4
  have y1q := y1
  clear y1
  have y1 : w5.cell? ⟨gH, v * 5 + 1, none⟩ = some (I 4) := y1q
  clear y1q
  go_wp2
  go_ret
  exact ⟨rfl, ⟨gB, cB, H5.out⟩, F01.out.trans F5.out⟩
set_option maxRecDepth 100000 in
set_option maxHeartbeats 8000000 in
theorem ulazy_5 (h : UB w base bb gB cB gH cH al nh s lk ix hs pv dv now D) (hv : v < nh) (hq : hs v = ⟨5, p, c, is_⟩) (hps : p < s.sz) (hcs : c < s.sz) (hpt : p ≠ s.tl) (hct : c ≠ s.tl) :
    Calls Try.prog 41 #[jp bb, .pointer (some ⟨gH, v * 5, none⟩), .agg #[I kd, I K]] w (RetH base bb gH cH al nh ix hs pv dv now D v ⟨s.cut p c, (fre lk ⟨9, p, c, false⟩), ⟨5, p, c, is_⟩, .none, true⟩ w) := by
  have hbz := h.bbase
  obtain ⟨w0, hw0⟩ : ∃ x, x = w.alloc (.cells #[I kd, I K] 50) := ⟨_, rfl⟩
  have H0 : Hid (UB w0 base bb gB cB gH cH al nh s lk ix hs pv dv now D) := by rw [hw0]; exact h.keep ((Below.refl _ _).alloc (Nat.le_refl _) _)
  have F0 : Hid (UF base w w0) := by rw [hw0]; exact (UF.refl _ _).alloc hbz _
  have D0 : Hid (w0.heap[w.heap.size]? = some (.cells #[I kd, I K] 50 (0, 0))) := by rw [hw0]; exact heap_alloc_new _ _
  obtain ⟨db, hdb⟩ : ∃ x, w.heap.size = x := ⟨_, rfl⟩
  rw [hdb] at D0
  have hc0 : (0 : Int) ≤ (c : Int) := by omega
  have hcz : (c : Int) < (s.sz : Int) := by omega
  have hp0 : (0 : Int) ≤ (p : Int) := by omega
  have hpz : (p : Int) < (s.sz : Int) := by omega
  obtain ⟨f0, f1, f2, f3, f4, f5, ff⟩ := H0.out.fb
  obtain ⟨y0, y1, y2, y3, y4, yf⟩ := H0.out.hd hv
  rw [hq] at y1 y2 y3 y4
  dsimp only at y1 y2 y3 y4
  have HQ := Lib.hid hq
  have HPS := Lib.hid hps
  have HCS := Lib.hid hcs
  clear h hbz hps hcs hq
  go_enter Try.func41, Try.ntmps41
  go_upto_region 1 with fail
  rw [← hw0]
  try rw [hdb]
  clear hw0 hdb
  go_quiet (fail)
  have H1 := Lib.hid (H0.out.drewN nq)
  have F01 := Lib.hid (F0.out.drewN nq)
  have D1 : Hid ((w0.drewN nq).heap[db]? = some (.cells #[I kd, I K] 50 (0, 0))) := D0.out
  clear H0 F0 D0
  try clear f0 f1 f2 f3 f4 f5 ff
  try clear y0 y1 y2 y3 y4 yf
  try clear xpk xpn xpm xpl xpf
  try clear xck xcn xcm xcl xcf
  try clear xzk xzn xzm xzl xzf
  generalize hgw : w0.drewN nq = w1 at *
  clear hgw nq
  have F1 := Lib.hid (UF.refl base w1)
  have d1a : w1.cell? ⟨db, 0, none⟩ = some (I kd) := (F1.out.cell D1.out (by decide) (by decide) (by decide) (by decide)).trans (by rw [jcell D1.out]; rfl)
  have d1b : w1.cell? ⟨db, 1, none⟩ = some (I K) := (F1.out.cell D1.out (by decide) (by decide) (by decide) (by decide)).trans (by rw [jcell D1.out]; rfl)
  obtain ⟨f0, f1, f2, f3, f4, f5, ff⟩ := H1.out.fb
  obtain ⟨y0, y1, y2, y3, y4, yf⟩ := H1.out.hd hv
  rw [HQ.out] at y1 y2 y3 y4
  dsimp only at y1 y2 y3 y4
  have y1q := y1
  clear y1
  have y1 : w1.cell? ⟨gH, v * 5 + 1, none⟩ = some (I 5) := y1q
  clear y1q
  obtain ⟨xck, xcn, xcm, xcl, xcf⟩ := H1.out.bd (i := c) HCS.out
  go_wp2_with fail
  go_quiet (fail)
  try clear f0 f1 f2 f3 f4 f5 ff
  try clear y0 y1 y2 y3 y4 yf
  try clear xpk xpn xpm xpl xpf
  try clear xck xcn xcm xcl xcf
  try clear xzk xzn xzm xzl xzf
  have H2 : Hid (UB (w1.drewN nq) base bb gB cB gH cH al nh s lk ix hs pv dv now D) := H1.out.drewN nq
  have F2 : Hid (UF base w1 (w1.drewN nq)) := F1.out.drewN nq
  generalize hgw : w1.drewN nq = w2 at *
  clear hgw
  have d2a : w2.cell? ⟨db, 0, none⟩ = some (I kd) := (F2.out.cell D1.out (by decide) (by decide) (by decide) (by decide)).trans (by rw [jcell D1.out]; rfl)
  have d2b : w2.cell? ⟨db, 1, none⟩ = some (I K) := (F2.out.cell D1.out (by decide) (by decide) (by decide) (by decide)).trans (by rw [jcell D1.out]; rfl)
  clear nq
  obtain ⟨f0, f1, f2, f3, f4, f5, ff⟩ := H2.out.fb
  obtain ⟨y0, y1, y2, y3, y4, yf⟩ := H2.out.hd hv
  rw [HQ.out] at y1 y2 y3 y4
  dsimp only at y1 y2 y3 y4
  have y1q := y1
  clear y1
  have y1 : w2.cell? ⟨gH, v * 5 + 1, none⟩ = some (I 5) := y1q
  clear y1q
  obtain ⟨xpk, xpn, xpm, xpl, xpf⟩ := H2.out.bd (i := p) HPS.out
  obtain ⟨xck, xcn, xcm, xcl, xcf⟩ := H2.out.bd (i := c) HCS.out
  rw [nxI_ne hct] at xcn
  have H3 : Hid (UB (w2.setCell ⟨gB, p * 4 + 1, none⟩ (I (s.nx c))) base bb gB cB gH cH al nh (s.cut p c) lk ix hs pv dv now D) := H2.out.nxset HPS.out hpt (s.nx c)
  have F3 := Lib.hid (F2.out.trans (H2.out.ufB (p * 4 + 1) (I (s.nx c))))
  have HA3 := Lib.hid (ufree_any (p := p) (c := c) H3.out hv (by rw [HQ.out]) (by rw [HQ.out]) HPS.out HCS.out)
  go_wp2_with fail
  refine HA3.out.mono ?_
  rintro e w4 ⟨rfl, h4, f4'⟩
  have H4 := Lib.hid (h4.all_eq rfl (show _ = fre lk ⟨9, p, c, false⟩ by unfold fre; rw [HQ.out]) rfl)
  have F4 := Lib.hid (F3.out.trans f4')
  clear h4 f4'
  go_wp2
  go_ret
  exact ⟨rfl, ⟨gB, cB, H4.out.hs_eq (by rw [← HQ.out, upd_id])⟩, F01.out.trans F4.out⟩
end
end Go.Proofs.Ytfmdpmebllepeaa
