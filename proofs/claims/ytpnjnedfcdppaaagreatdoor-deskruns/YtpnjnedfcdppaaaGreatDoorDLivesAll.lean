/-
  Joined texts: YtpnjnedfcdppaaaGreatDoorDAnswer, YtpnjnedfcdppaaaGreatDoorDAnsw, YtpnjnedfcdppaaaGreatDoorDLines, YtpnjnedfcdppaaaGreatDoorDRun, YtpnjnedfcdppaaaGreatDoorDRun2, YtpnjnedfcdppaaaGreatDoorDLives.
-/
import Derived.Test.YtpnjnedfcdppaaaGreatDoorDWay3All
import Derived.Defers
import Derived.Recover
import Derived.Maps.AppendAt
/-
  The desk: answer, with what catches a slip.
-/
namespace Go.Proofs.YtpnjnedfcdppaaaGreatDoor
open Go.RowKit

theorem ta_slip (v : Int) (w : World) : (Instr.typeAssert (.iface 156 (I v)) 20 156 true).run Tryz.prog w = .ok (.tuple #[I v, .bool true]) w := by kernel_rfl
theorem ta_nil (w : World) : (Instr.typeAssert .nilIface 20 156 true).run Tryz.prog w = .ok (.tuple #[I 0, .bool false]) w := by kernel_rfl
set_option maxRecDepth 100000 in
theorem catch_slip (p : Addr) (x : Value) (er : Nat) (hne : er < 1000) (w : World) (hL : LD w) (hc : w.cell? p = some x) (hz : w.frozen? p = false) (hlt : p.block < w.heap.size) :
    CallsD Tryz.prog 91 #[.pointer (some p)] (.panicking (slipC er)) w fun e u' w' =>
      e = .returned (.tuple #[]) ∧ u' = .panicking [{ v := .iface 156 (I er), recovered := true }] ∧ ∃ w1, Below w.heap.size w w1 ∧ w' = w1.setCell p (.string (bsv (errT er))) := by
  have HE := Lib.hid (errorText_any er (by omega) w hL)
  refine callsD_of_wpS Tryz.func91 rfl fun c₀ cs hu => ?_
  apply wpS_seq
  apply wpS_region
  simp [wpOpsS, go_sem, recoverD, hu, Tryz.ntmps91, Exit.thenS, slipC, ta_slip, Array.replicate, List.replicate]
  refine wpS_of_wp ?_
  generalize hQ : (fun (e : Exit) (a' : Act) (w' : World) => _) = Q
  have HQ := Lib.hid hQ
  clear hQ
  go_wp2_with fail
  refine HE.out.mono ?_
  rintro e w1 ⟨rfl, hb⟩
  have hc1 : w1.cell? p = some x := (hb.cell hlt).trans hc
  have hz1 : w1.frozen? p = false := (hb.frozen hlt).trans hz
  have HB := Lib.hid hb
  clear hb hc hz
  go_wp2
  rw [← HQ.out]
  exact ⟨rfl, _, rfl, .tuple #[], results_none rfl _ _ _, rfl, rfl, w1, HB.out, rfl⟩
set_option maxRecDepth 100000 in
theorem catch_idle (p : Addr) (w : World) :
    CallsD Tryz.prog 91 #[.pointer (some p)] .returning w fun e u' w' => e = .returned (.tuple #[]) ∧ u' = .returning ∧ w' = w := by
  refine callsD_of_wpS Tryz.func91 rfl fun c₀ cs hu => ?_
  apply wpS_seq
  apply wpS_region
  simp [wpOpsS, go_sem, recoverD, hu, Tryz.ntmps91, Exit.thenS, ta_nil, Array.replicate, List.replicate]
  refine wpS_of_wp ?_
  generalize hQ : (fun (e : Exit) (a' : Act) (w' : World) => _) = Q
  have HQ := Lib.hid hQ
  clear hQ
  go_wp2
  rw [← HQ.out]
  refine ⟨rfl, .returning, ?_, .tuple #[], results_none rfl _ _ _, rfl, rfl, rfl⟩
  rw [← hu]
end Go.Proofs.YtpnjnedfcdppaaaGreatDoor

/-
  The desk: answer.
-/
namespace Go.Proofs.YtpnjnedfcdppaaaGreatDoor
open Go.RowKit

theorem door_ret {R : Ending → World → Prop} {tmps : Array Value} {w9 : World} {p : Addr} {s : ByteArray} (h4 : tmps.getD 4 undef = .pointer (some p)) (hc : w9.cell? p = some (.string s)) (hR : R (.returned (.string s)) w9) :
    bodyPostD Tryz.prog Tryz.f46 R Exit.ret { tmps := tmps, defers := [{ target := Target.fn (Fn.func 91) #[.pointer (some p)], args := #[] }] } w9 := by
  show Leaves _ _ _ _ _ _ _
  refine leaves_cons (f := 91) (args := #[.pointer (some p)]) (by simp) (by simp [go_sem]) ?_
  refine (catch_idle p w9).mono ?_
  rintro e u' w'' ⟨rfl, rfl, rfl⟩
  refine ⟨.string s, ?_, hR⟩
  have h4' : tmps[4]?.getD undef = .pointer (some p) := by simpa using h4
  simp [results, Tryz.results46, go_sem, h4', hc]
theorem door_slip {R : Ending → World → Prop} {tmps : Array Value} {w9 : World} {p : Addr} {x : Value} {er : Nat} (h4 : tmps.getD 4 undef = .pointer (some p)) (her : er < 1000) (hL : LD w9) (hc : w9.cell? p = some x) (hz : w9.frozen? p = false) (hlt : p.block < w9.heap.size)
    (hR : ∀ w1, Below w9.heap.size w9 w1 → R (.returned (.string (bsv (errT er)))) (w1.setCell p (.string (bsv (errT er))))) :
    bodyPostD Tryz.prog Tryz.f46 R (Exit.panic (slipC er)) { tmps := tmps, defers := [{ target := Target.fn (Fn.func 91) #[.pointer (some p)], args := #[] }] } w9 := by
  show Leaves _ _ _ _ _ _ _
  refine leaves_cons (f := 91) (args := #[.pointer (some p)]) (by simp) (by simp [go_sem]) ?_
  refine (catch_slip p x er her w9 hL hc hz hlt).mono ?_
  rintro e u' w'' ⟨rfl, rfl, w1, hb, rfl⟩
  refine ⟨.string (bsv (errT er)), ?_, hR w1 hb⟩
  have h4' : tmps[4]?.getD undef = .pointer (some p) := by simpa using h4
  have hc1 : w1.cell? p = some x := (hb.cell hlt).trans hc
  have hc2 : (w1.setCell p (.string (bsv (errT er)))).cell? p = some (.string (bsv (errT er))) := World.cell?_setCell_same _ _ _ hc1
  simp [results, Tryz.results46, go_sem, h4', hc2]
def DRetAns (kb : Nat) (ops : List OP) (ws : List (List UInt8)) (w : World) (e : Ending) (w' : World) : Prop :=
  e = .returned (.string (bsv (dAns ops ws).1)) ∧ DK w' kb (dAns ops ws).2 ∧ KpB kb w w'
theorem DB.setStr {w : World} {kb : Nat} {l : PL} {ops : List OP} {p : Addr} {cs : Array Value} {fz : Nat × Nat} {v : Value} (h : DB w kb l ops) (hp : w.heap[p.block]? = some (.cells cs 9 fz)) (hne : p.block ≠ kb) : DB (w.setCell p v) kb l ops := by
  obtain ⟨pA, pn, pc, ov, h1, h2, h3, h4⟩ := h
  have hs : ∀ k, k ≠ p.block → (w.setCell p v).heap[k]? = w.heap[k]? := fun k hk => Below.heap_setCell _ _ _ _ hk
  refine ⟨pA, pn, pc, ov, (hs kb (fun e => hne e.symm)).trans h1, pt_keep h2 (by simp [World.setCell]) (fun ad e => hs _ fun e2 => ?_), h3, own_keep h4 fun g hg => hs g fun e2 => ?_⟩
  · obtain ⟨cs', fz', hc⟩ := h2.ty ad e
    rw [e2, hp] at hc
    cases hc
  · obtain ⟨cs', fz', hc⟩ := own_row h4 g hg
    rw [e2, hp] at hc
    cases hc
theorem KpB.setNew {kb : Nat} {w w8 : World} {p : Addr} {v : Value} (h : KpB kb w w8) (hp : w.heap.size ≤ p.block) (hk : kb < w.heap.size) : KpB kb w (w8.setCell p v) := by
  refine ⟨h.bel.setCell (by omega) _, fun k o hk' hne ho => ?_⟩
  have hlt := (Array.getElem?_eq_some_iff.1 hk').1
  exact (Below.heap_setCell _ _ _ _ (by omega)).trans (h.oth k o hk' hne ho)
theorem ans_slip {kb : Nat} {ops : List OP} {ws : List (List UInt8)} {w w9 w1 : World} {er : Nat} (h : DK w kb ops) (ha : dAns ops ws = (errT er, ops)) (hb : Below w.heap.size w w9) (hb1 : Below w9.heap.size w9 w1) (v : Value) :
    DRetAns kb ops ws w (.returned (.string (bsv (errT er)))) (w1.setCell ⟨w.heap.size, 0, none⟩ v) := by
  have hB : Below w.heap.size w (w1.setCell ⟨w.heap.size, 0, none⟩ v) := (hb.trans (hb1.mono hb.size)).setCell (p := ⟨w.heap.size, 0, none⟩) (Nat.le_refl _) _
  refine ⟨by rw [ha], ?_, KpB.of hB h.db.lt⟩
  rw [ha]
  exact h.below hB
theorem ans_read {kb : Nat} {ops : List OP} {ws : List (List UInt8)} {w w9 : World} {t : List UInt8} (h : DK w kb ops) (ha : dAns ops ws = (t, ops)) (hb : Below w.heap.size w w9) (v : Value) :
    DRetAns kb ops ws w (.returned (.string (bsv t))) (w9.setCell ⟨w.heap.size, 0, none⟩ v) := by
  have hB : Below w.heap.size w (w9.setCell ⟨w.heap.size, 0, none⟩ v) := hb.setCell (p := ⟨w.heap.size, 0, none⟩) (Nat.le_refl _) _
  refine ⟨by rw [ha], ?_, KpB.of hB h.db.lt⟩
  rw [ha]
  exact h.below hB
theorem doA_er {l : PL} {kind key : Int} (hc : chk l = 0) : ∃ er : Nat, (doA l kind key).e = er ∧ er < 1000 := by
  unfold doA
  rw [if_neg (by rw [hc]; decide)]
  split
  · exact ⟨1, rfl, by decide⟩
  · split
    · unfold putA
      repeat' split
      · exact ⟨0, rfl, by decide⟩
      · exact ⟨2, rfl, by decide⟩
      · exact ⟨0, rfl, by decide⟩
    · split
      · unfold getA
        split <;> exact ⟨0, rfl, by decide⟩
      · unfold lookA getA pairA
        repeat' split
        all_goals exact ⟨0, rfl, by decide⟩
theorem nmA_bd : ∀ (l : List UInt8) (v k n : Nat), v < 10 ^ k → nmA v l = some n → n < 10 ^ (k + l.length)
  | [], v, k, n, hv, h => by cases h; simpa using hv
  | b :: t, v, k, n, hv, h => by
    by_cases hb : 48 ≤ b.toNat ∧ b.toNat ≤ 57
    · rw [nmA_some hb] at h
      have := nmA_bd t _ (k + 1) n (pow_next (d := b.toNat - 48) hv (by omega)) h
      rw [List.length_cons, show k + (t.length + 1) = k + 1 + t.length by omega]
      exact this
    · rw [nmA_none hb] at h
      cases h
theorem nmb_bd {l : List UInt8} {n : Nat} (h : nmb l = some n) : n < 10000000 := by
  unfold nmb at h
  split at h
  · cases h
  · have h1 := nmA_bd l 0 0 n (by decide) h
    have h2 : 10 ^ (0 + l.length) ≤ 10 ^ 7 := Nat.pow_le_pow_right (by omega) (by omega)
    have h3 : (10 : Nat) ^ 7 = 10000000 := by decide
    omega
theorem nmsL_bd : ∀ {l : List (List UInt8)} {ks : List Nat}, nmsL l = some ks → ∀ n ∈ ks, n < 10000000
  | [], ks, h, n, hn => by cases h; cases hn
  | x :: t, ks, h, n, hn => by
    unfold nmsL at h
    cases hx : nmb x with
    | none => rw [hx] at h; cases h
    | some m =>
      rw [hx] at h
      cases ht : nmsL t with
      | none => rw [ht] at h; cases h
      | some r =>
        rw [ht] at h
        cases h
        rcases List.mem_cons.mp hn with rfl | hn
        · exact nmb_bd hx
        · exact nmsL_bd ht n hn
theorem nms_bd {many : Nat} {l : List (List UInt8)} {ks : List Nat} (h : nms many l = some ks) : ∀ n ∈ ks, n < 10000000 := by
  unfold nms at h
  split at h
  · exact nmsL_bd h
  · cases h
theorem dOp_bd {kind : Nat} {l : List (List UInt8)} {k a b : Int} (h : dOp kind l = some (k, a, b)) : k = kind ∧ 0 ≤ a ∧ a < 100000000 ∧ 0 ≤ b ∧ b < 100000000 := by
  unfold dOp at h
  split at h
  · next hk =>
    cases hr : nms 2 l with
    | none => rw [hr] at h; cases h
    | some ks =>
      rw [hr] at h
      have hb := nms_bd hr
      match ks, h, hb with
      | [x, y], h, hb =>
        cases h
        have h1 := hb x (by simp)
        have h2 := hb y (by simp)
        exact ⟨by rw [hk]; rfl, by omega, by omega, by omega, by omega⟩
      | [], h, _ => cases h
      | [_], h, _ => cases h
      | _ :: _ :: _ :: _, h, _ => cases h
  · cases hr : nms 1 l with
    | none => rw [hr] at h; cases h
    | some ks =>
      rw [hr] at h
      have hb := nms_bd hr
      match ks, h, hb with
      | [x], h, hb =>
        cases h
        have h1 := hb x (by simp)
        exact ⟨rfl, by omega, by omega, by omega, by omega⟩
      | [], h, _ => cases h
      | _ :: _ :: _, h, _ => cases h
theorem ans_do {kb : Nat} {ops : List OP} {ws : List (List UInt8)} {w w0 w8 : World} {k a b : Int} {t : List UInt8} (h : DK w kb ops) (hl : ops.length < 300) (ha : dAns ops ws = (t, ops ++ [(k, a, b)])) (hop : 0 ≤ a ∧ a < 100000000 ∧ 0 ≤ b ∧ b < 100000000)
    (h0 : w0 = w.alloc (.cells #[.string ⟨#[]⟩] 9)) {wx : World} (hx : Below w0.heap.size w0 wx) (hdb : DB w8 kb (doL (runR ops).1 k a b) (ops ++ [(k, a, b)])) (hkp : KpB kb wx w8) (v : Value) :
    DRetAns kb ops ws w (.returned (.string (bsv t))) (w8.setCell ⟨w.heap.size, 0, none⟩ v) := by
  have hkw := h.db.lt
  have hz : w0.heap.size = w.heap.size + 1 := by rw [h0, World.size_alloc]
  have hbx : Below w.heap.size w wx := by
    have h1 : Below w.heap.size w w0 := by rw [h0]; exact (Below.refl _ _).alloc (Nat.le_refl _) _
    exact h1.trans (hx.mono (by omega))
  have hbox : wx.heap[w.heap.size]? = some (.cells #[.string ⟨#[]⟩] 9 (0, 0)) := by
    rw [hx.block _ (by omega), h0]
    exact heap_alloc_new _ _
  have hbox8 := hkp.oth _ _ hbox (fun e => by have := Option.some.inj e; omega) (fun cs fz e => by cases e)
  have hK : KpB kb w w8 := (KpB.of hbx hkw).trans hkp
  have hKs := hK.setNew (p := ⟨w.heap.size, 0, none⟩) (v := v) (Nat.le_refl _) hkw
  refine ⟨by rw [ha], ?_, hKs⟩
  rw [ha]
  refine ⟨?_, h.ld.below hKs.bel h.kb hKs.bel.size, h.kb, by simp; omega, ⟨fun o ho => ?_⟩⟩
  · rw [runR_snoc]
    exact hdb.setStr hbox8 (by show w.heap.size ≠ kb; omega)
  · rcases List.mem_append.mp ho with ho | ho
    · exact h.bd.each o ho
    · rw [List.mem_singleton.mp ho]
      exact hop
set_option maxRecDepth 100000 in
set_option maxHeartbeats 8000000 in
theorem answer_any (kb : Nat) (ops : List OP) (wA : Option Addr) (wn wc : Nat) (ws : List (List UInt8)) (w : World) (h : DK w kb ops) (hl : ops.length < 300) (hW : WS w wA wn wc ws) (hne : ws ≠ []) (hwn : wc ≤ 9223372036854775807) :
    Calls Tryz.prog 46 #[.pointer (some ⟨kb, 0, none⟩), .slice wA wn wc] w (DRetAns kb ops ws w) := by
  obtain ⟨first, rest, rfl⟩ : ∃ a b, ws = a :: b := by cases ws with | nil => exact absurd rfl hne | cons a b => exact ⟨a, b, rfl⟩
  obtain ⟨n, rfl⟩ : ∃ n, wn = n + 1 := ⟨rest.length, by have := hW.len; simp at this; omega⟩
  have hcap := hW.cap
  obtain ⟨b, off, rfl, hb, hc⟩ := hW.at_ (by omega)
  have hfirst : w.cell? ⟨b, off, none⟩ = some (.string (bsv first)) := hc 0 (by omega)
  have HW := Lib.hid hW
  have HD := Lib.hid h
  have HKB := Lib.hid h.db.lt
  obtain ⟨w0, hw0⟩ : ∃ x, x = w.alloc (.cells #[.string ⟨#[]⟩] 9) := ⟨_, rfl⟩
  have hb0 : Below w.heap.size w w0 := by rw [hw0]; exact (Below.refl _ _).alloc (Nat.le_refl _) _
  have hz0 : w0.heap.size = w.heap.size + 1 := by rw [hw0, World.size_alloc]
  have hbox : w0.heap[w.heap.size]? = some (.cells #[.string ⟨#[]⟩] 9 (0, 0)) := by rw [hw0]; exact heap_alloc_new _ _
  have HB0 := Lib.hid hb0
  have HZ0 := Lib.hid hz0
  have HBOX := Lib.hid hbox
  have HF : Hid (w0.cell? ⟨b, off, none⟩ = some (.string (bsv first))) := (hb0.cell (p := ⟨b, off, none⟩) hb).trans hfirst
  have HW0 : Hid (w0 = w.alloc (.cells #[.string ⟨#[]⟩] 9)) := hw0
  have hmf : ∀ (fn : Fn) (first cap : Array Value) (w : World), (Instr.makeFunc fn first cap).run Tryz.prog w = .ok (.func fn first cap) w := fun _ _ _ _ => rfl
  have hn1 : (1 : Int) ≤ (n : Int) + 1 := by omega
  have hc1 : (n : Int) + 1 ≤ (wc : Int) := by omega
  have hc2 : (1 : Int) ≤ (wc : Int) := by omega
  have hn0 : (0 : Int) < (n : Int) + 1 := by omega
  clear h hW hne hc hfirst hb0 hz0 hbox
  go_enter_defers Tryz.func46, Tryz.ntmps46
  go_upto_region 2 with fail
  rw [← hw0]
  clear hw0
  go_cut [5, 6] from 8 (fun s5 s6 wx => ∃ (A' : Option Addr) (c' : Nat), s5 = .string (bsv first) ∧ s6 = .slice A' n c' ∧ Hid (WS wx A' n c' rest ∧ Below w0.heap.size w0 wx))
  case first =>
    have hF := HF.out
    by_cases h1 : wc = 1
    · obtain rfl : n = 0 := by omega
      subst h1
      go_quiet (fail)
      go_wp2_with fail
      go_meet
      case rel => exact ⟨_, _, rfl, rfl, Lib.hid ⟨(WS.tail HW.out (fun b' off' e h0 => absurd h0 (by omega))).below (below_drewN HB0.out _), below_drewN (Below.refl _ _) _⟩⟩
    · go_quiet (fail)
      go_wp2_with fail
      go_meet
      case rel => exact ⟨_, _, rfl, rfl, Lib.hid ⟨(WS.tail HW.out (fun b' off' e h0 => by cases e; rfl)).below (below_drewN HB0.out _), below_drewN (Below.refl _ _) _⟩⟩
  case rest =>
  obtain ⟨A', c', rfl, rfl, HWX⟩ := hcut
  obtain ⟨w1, rfl⟩ : ∃ x, x = wc := ⟨wc, rfl⟩
  have hbx : ∀ wz, Below w0.heap.size w0 wz → wz.cell? ⟨w.heap.size, 0, none⟩ = some (.string ⟨#[]⟩) ∧ wz.frozen? ⟨w.heap.size, 0, none⟩ = false ∧ w.heap.size < wz.heap.size := fun wz hz => by
    have h1 : wz.heap[w.heap.size]? = some (.cells #[.string ⟨#[]⟩] 9 (0, 0)) := (hz.block _ (by have := HZ0.out; omega)).trans HBOX.out
    exact ⟨by simp [World.cell?, h1], by simp [World.frozen?, h1], (Array.getElem?_eq_some_iff.1 h1).1⟩
  have HBX := Lib.hid hbx
  have hB1x := HWX.out.2
  have hB1 : Below w.heap.size w w1 := HB0.out.trans (hB1x.mono HB0.out.size)
  have HB1x := Lib.hid hB1x
  have HB1 := Lib.hid hB1
  have HD1 : Hid (DK w1 kb ops) := Lib.hid (HD.out.below hB1)
  have HWR : Hid (WS w1 A' n c' rest) := Lib.hid HWX.out.1
  have f : ∀ m, (first == m) = decide (first = m) := fun m => by rw [Bool.eq_iff_iff]; simp
  have HKI := Lib.hid (kindOf_any first w1)
  clear hbx hB1x hB1 HWX hn1 hc1 hc2 hn0
  by_cases hk : kindB first = 0
  · have hk0 : (kindB first : Int) = 0 := by omega
    have hq0 : ((kindB first : Int) != 0) = false := by rw [hk0]; rfl
    have HK0 := Lib.hid hk
    clear hk hk0
    by_cases h0 : first = [112, 97, 116, 104]
    · have hdummy : True := trivial
      have g0 : (first == [112, 97, 116, 104]) = true := by rw [f]; simp [h0]
      have HA0 : Hid (dAns ops (first :: rest) = pathR ops (nms 1 rest)) := by
        show _ = _
        unfold dAns
        simp only [HK0.out, ne_eq, not_true_eq_false, if_false]
        rw [if_pos h0]
      clear f h0
      have HNS := Lib.hid (numbersOf_any A' n c' 1 rest w1 HWR.out (by omega))
      obtain ⟨R, hR⟩ : ∃ R, nms 1 rest = R := ⟨_, rfl⟩
      rw [hR] at HNS HA0
      have HLN : Hid (∀ ks, R = some ks → ks.length = 1) := fun ks e => nms_len (by rw [hR, e])
      clear hR
      go_wp2_with fail
      refine HKI.out.mono ?_
      rintro e x ⟨rfl, hx⟩
      subst hx
      go_wp2_with fail
      refine HNS.out.mono ?_
      rintro e w2 hr
      cases R with
      | none =>
        obtain ⟨rfl, hb2⟩ := hr
        have hB2x := HB1x.out.trans (hb2.mono HB1x.out.size)
        have hB2 := HB1.out.trans (hb2.mono HB1.out.size)
        clear hb2
        go_wp2
        exact door_slip (er := 1) rfl (by first | decide | omega) (HD.out.below hB2).ld (HBX.out _ hB2x).1 (HBX.out _ hB2x).2.1 (HBX.out _ hB2x).2.2 (fun wq hq => ans_slip HD.out HA0.out hB2 hq _)
      | some ks =>
        have h2 := HLN.out ks rfl
        obtain ⟨k, rfl⟩ : ∃ k, ks = [k] := by
          match ks, h2 with
          | [k], _ => exact ⟨k, rfl⟩
        obtain ⟨g, rfl, hI, hg, hb2⟩ := hr
        have c0 : w2.cell? ⟨g, 0, none⟩ = some (I k) := by rw [hI.cell]; rfl
        have HB2x := Lib.hid (HB1x.out.trans (hb2.mono HB1x.out.size))
        have HB2 := Lib.hid (HB1.out.trans (hb2.mono HB1.out.size))
        have HD2 := Lib.hid (HD1.out.below hb2)
        clear hb2 hI hg h2
        cases hky : kyB (k : Int) with
        | true =>
          have HP := Lib.hid (path_ok kb ops k w2 HD2.out hky)
          have HA : Hid (dAns ops (first :: rest) = (orN (jnd ((stops (kys (runR ops).1) k).map Prod.snd)), ops)) := by show _ = _; rw [HA0.out]; exact pathR_t hky
          go_wp2_with fail
          refine HP.out.mono ?_
          rintro e w3 ⟨rfl, hb3⟩
          have hB3x := HB2x.out.trans (hb3.mono HB2x.out.size)
          have HB3 := Lib.hid (HB2.out.trans (hb3.mono HB2.out.size))
          obtain ⟨b0, b1, b2⟩ := HBX.out _ hB3x
          clear hb3 hB3x
          go_wp2
          exact door_ret rfl (World.cell?_setCell_same _ _ _ b0) (ans_read HD.out HA.out HB3.out _)
        | false =>
          have HP := Lib.hid (path_bad kb ops k w2 HD2.out hky)
          have HA : Hid (dAns ops (first :: rest) = (e1T, ops)) := by show _ = _; rw [HA0.out]; exact pathR_f hky
          go_wp2_with fail
          refine HP.out.mono ?_
          rintro e w3 ⟨rfl, hb3⟩
          have hB3x := HB2x.out.trans (hb3.mono HB2x.out.size)
          have hB3 := HB2.out.trans (hb3.mono HB2.out.size)
          clear hb3
          go_wp2
          exact door_slip (er := 1) rfl (by first | decide | omega) (HD.out.below hB3).ld (HBX.out _ hB3x).1 (HBX.out _ hB3x).2.1 (HBX.out _ hB3x).2.2 (fun wq hq => ans_slip HD.out HA.out hB3 hq _)
    · by_cases h1 : first = [114, 111, 119, 115]
      · have hdummy : True := trivial
        have g0 : (first == [112, 97, 116, 104]) = false := by rw [f]; simp [h0]
        have g1 : (first == [114, 111, 119, 115]) = true := by rw [f]; simp [h1]
        have HA0 : Hid (dAns ops (first :: rest) = (if rest.length = 0 then orN (rowsT (rowsL (kys (runR ops).1))) else e1T, ops)) := by
          show _ = _
          unfold dAns
          simp only [HK0.out, ne_eq, not_true_eq_false, if_false]
          rw [if_neg h0]
          rw [if_pos h1]
        clear f h0 h1
        by_cases hn0 : n = 0
        · have HC : Hid (Calls Tryz.prog 97 #[.slice A' n c', I 0] w1 fun e w' => e = .returned (.tuple #[]) ∧ w1 = w') := by
            have := count_ok A' n c' w1
            rw [hn0] at this ⊢
            exact this
          have HP := Lib.hid (rows_dany kb ops w1 HD1.out)
          have HA : Hid (dAns ops (first :: rest) = (orN (rowsT (rowsL (kys (runR ops).1))), ops)) := by show _ = _; rw [HA0.out, if_pos (by rw [HWR.out.len]; exact hn0)]
          clear hn0
          go_wp2_with fail
          refine HKI.out.mono ?_
          rintro e x ⟨rfl, hx⟩
          subst hx
          go_wp2_with fail
          refine HC.out.mono ?_
          rintro e x ⟨rfl, hx⟩
          subst hx
          go_wp2_with fail
          refine HP.out.mono ?_
          rintro e w3 ⟨rfl, hb3⟩
          have hB3x := HB1x.out.trans (hb3.mono HB1x.out.size)
          have HB3 := Lib.hid (HB1.out.trans (hb3.mono HB1.out.size))
          obtain ⟨b0, b1, b2⟩ := HBX.out _ hB3x
          clear hb3 hB3x
          go_wp2
          exact door_ret rfl (World.cell?_setCell_same _ _ _ b0) (ans_read HD.out HA.out HB3.out _)
        · have HC := Lib.hid (count_bad A' n c' 0 hn0 w1)
          have HA : Hid (dAns ops (first :: rest) = (e1T, ops)) := by show _ = _; rw [HA0.out, if_neg (by rw [HWR.out.len]; exact hn0)]
          clear hn0
          go_wp2_with fail
          refine HKI.out.mono ?_
          rintro e x ⟨rfl, hx⟩
          subst hx
          go_wp2_with fail
          refine HC.out.mono ?_
          rintro e x ⟨rfl, hx⟩
          subst hx
          have hB1 := HB1.out
          have hB1x := HB1x.out
          go_wp2
          exact door_slip (er := 1) rfl (by first | decide | omega) (HD.out.below hB1).ld (HBX.out _ hB1x).1 (HBX.out _ hB1x).2.1 (HBX.out _ hB1x).2.2 (fun wq hq => ans_slip HD.out HA.out hB1 hq _)
      · by_cases h2 : first = [116, 114, 101, 101]
        · have hdummy : True := trivial
          have g0 : (first == [112, 97, 116, 104]) = false := by rw [f]; simp [h0]
          have g1 : (first == [114, 111, 119, 115]) = false := by rw [f]; simp [h1]
          have g2 : (first == [116, 114, 101, 101]) = true := by rw [f]; simp [h2]
          have HA0 : Hid (dAns ops (first :: rest) = ordR ops rest) := by
            show _ = _
            unfold dAns
            simp only [HK0.out, ne_eq, not_true_eq_false, if_false]
            rw [if_neg h0]
            rw [if_neg h1]
            rw [if_pos h2]
          clear f h0 h1 h2
          by_cases hn1 : n = 1
          · subst hn1
            have HC := Lib.hid (count_ok A' 1 c' w1)
            obtain ⟨x, hx⟩ : ∃ x, rest = [x] := by
              have := HWR.out.len
              match rest, this with
              | [x], _ => exact ⟨x, rfl⟩
            obtain ⟨b', off', rfl, hb', hc'⟩ := HWR.out.at_ (by omega)
            have hx0 : w1.cell? ⟨b', off', none⟩ = some (.string (bsv x)) := by
              have := hc' 0 (by omega)
              simp only [hx] at this
              exact this
            have HP := Lib.hid (order_dany kb ops x w1 HD1.out)
            have HAX : Hid (dAns ops (first :: rest) = ordR ops [x]) := by show _ = _; rw [HA0.out, hx]
            clear hc' hx
            go_wp2_with fail
            refine HKI.out.mono ?_
            rintro e x ⟨rfl, hx⟩
            subst hx
            go_wp2_with fail
            refine HC.out.mono ?_
            rintro e y ⟨rfl, hy⟩
            subst hy
            go_wp2_with fail
            refine HP.out.mono ?_
            rintro e w3 hr
            cases hd : dTree ops x with
            | none =>
              rw [hd] at hr
              obtain ⟨rfl, hb3⟩ := hr
              have HA : Hid (dAns ops (first :: rest) = (e1T, ops)) := by show _ = _; rw [HAX.out]; exact ordR_none hd
              have hB3x := HB1x.out.trans (hb3.mono HB1x.out.size)
              have hB3 := HB1.out.trans (hb3.mono HB1.out.size)
              clear hb3 hd
              go_wp2
              exact door_slip (er := 1) rfl (by first | decide | omega) (HD.out.below hB3).ld (HBX.out _ hB3x).1 (HBX.out _ hB3x).2.1 (HBX.out _ hB3x).2.2 (fun wq hq => ans_slip HD.out HA.out hB3 hq _)
            | some t =>
              rw [hd] at hr
              obtain ⟨rfl, hb3⟩ := hr
              have HA : Hid (dAns ops (first :: rest) = (orN (jnd t.pre), ops)) := by show _ = _; rw [HAX.out]; exact ordR_some hd
              have hB3x := HB1x.out.trans (hb3.mono HB1x.out.size)
              have HB3 := Lib.hid (HB1.out.trans (hb3.mono HB1.out.size))
              obtain ⟨b0, b1, b2⟩ := HBX.out _ hB3x
              clear hb3 hB3x hd
              go_wp2
              exact door_ret rfl (World.cell?_setCell_same _ _ _ b0) (ans_read HD.out HA.out HB3.out _)
          · have HC := Lib.hid (count_bad A' n c' 1 hn1 w1)
            have HA : Hid (dAns ops (first :: rest) = (e1T, ops)) := by
              show _ = _
              rw [HA0.out]
              have hl := HWR.out.len
              match rest, hl with
              | [], _ => rfl
              | [_], hl => exact absurd hl.symm hn1
              | _ :: _ :: _, _ => rfl
            clear hn1
            go_wp2_with fail
            refine HKI.out.mono ?_
            rintro e x ⟨rfl, hx⟩
            subst hx
            go_wp2_with fail
            refine HC.out.mono ?_
            rintro e x ⟨rfl, hx⟩
            subst hx
            have hB1 := HB1.out
            have hB1x := HB1x.out
            go_wp2
            exact door_slip (er := 1) rfl (by first | decide | omega) (HD.out.below hB1).ld (HBX.out _ hB1x).1 (HBX.out _ hB1x).2.1 (HBX.out _ hB1x).2.2 (fun wq hq => ans_slip HD.out HA.out hB1 hq _)
        · by_cases h3 : first = [100, 101, 101, 112]
          · have hdummy : True := trivial
            have g0 : (first == [112, 97, 116, 104]) = false := by rw [f]; simp [h0]
            have g1 : (first == [114, 111, 119, 115]) = false := by rw [f]; simp [h1]
            have g2 : (first == [116, 114, 101, 101]) = false := by rw [f]; simp [h2]
            have g3 : (first == [100, 101, 101, 112]) = true := by rw [f]; simp [h3]
            have HA0 : Hid (dAns ops (first :: rest) = deepR ops rest) := by
              show _ = _
              unfold dAns
              simp only [HK0.out, ne_eq, not_true_eq_false, if_false]
              rw [if_neg h0]
              rw [if_neg h1]
              rw [if_neg h2]
              rw [if_pos h3]
            clear f h0 h1 h2 h3
            by_cases hn1 : n = 1
            · subst hn1
              have HC := Lib.hid (count_ok A' 1 c' w1)
              obtain ⟨x, hx⟩ : ∃ x, rest = [x] := by
                have := HWR.out.len
                match rest, this with
                | [x], _ => exact ⟨x, rfl⟩
              obtain ⟨b', off', rfl, hb', hc'⟩ := HWR.out.at_ (by omega)
              have hx0 : w1.cell? ⟨b', off', none⟩ = some (.string (bsv x)) := by
                have := hc' 0 (by omega)
                simp only [hx] at this
                exact this
              have HP := Lib.hid (deep_dany kb ops x w1 HD1.out)
              have HAX : Hid (dAns ops (first :: rest) = deepR ops [x]) := by show _ = _; rw [HA0.out, hx]
              clear hc' hx
              go_wp2_with fail
              refine HKI.out.mono ?_
              rintro e x ⟨rfl, hx⟩
              subst hx
              go_wp2_with fail
              refine HC.out.mono ?_
              rintro e y ⟨rfl, hy⟩
              subst hy
              go_wp2_with fail
              refine HP.out.mono ?_
              rintro e w3 hr
              cases hd : dTree ops x with
              | none =>
                rw [hd] at hr
                obtain ⟨rfl, hb3⟩ := hr
                have HA : Hid (dAns ops (first :: rest) = (e1T, ops)) := by show _ = _; rw [HAX.out]; exact deepR_none hd
                have hB3x := HB1x.out.trans (hb3.mono HB1x.out.size)
                have hB3 := HB1.out.trans (hb3.mono HB1.out.size)
                clear hb3 hd
                go_wp2
                exact door_slip (er := 1) rfl (by first | decide | omega) (HD.out.below hB3).ld (HBX.out _ hB3x).1 (HBX.out _ hB3x).2.1 (HBX.out _ hB3x).2.2 (fun wq hq => ans_slip HD.out HA.out hB3 hq _)
              | some t =>
                rw [hd] at hr
                obtain ⟨rfl, hb3⟩ := hr
                have HA : Hid (dAns ops (first :: rest) = (deepT t, ops)) := by show _ = _; rw [HAX.out]; exact deepR_some hd
                have hB3x := HB1x.out.trans (hb3.mono HB1x.out.size)
                have HB3 := Lib.hid (HB1.out.trans (hb3.mono HB1.out.size))
                obtain ⟨b0, b1, b2⟩ := HBX.out _ hB3x
                clear hb3 hB3x hd
                go_wp2
                exact door_ret rfl (World.cell?_setCell_same _ _ _ b0) (ans_read HD.out HA.out HB3.out _)
            · have HC := Lib.hid (count_bad A' n c' 1 hn1 w1)
              have HA : Hid (dAns ops (first :: rest) = (e1T, ops)) := by
                show _ = _
                rw [HA0.out]
                have hl := HWR.out.len
                match rest, hl with
                | [], _ => rfl
                | [_], hl => exact absurd hl.symm hn1
                | _ :: _ :: _, _ => rfl
              clear hn1
              go_wp2_with fail
              refine HKI.out.mono ?_
              rintro e x ⟨rfl, hx⟩
              subst hx
              go_wp2_with fail
              refine HC.out.mono ?_
              rintro e x ⟨rfl, hx⟩
              subst hx
              have hB1 := HB1.out
              have hB1x := HB1x.out
              go_wp2
              exact door_slip (er := 1) rfl (by first | decide | omega) (HD.out.below hB1).ld (HBX.out _ hB1x).1 (HBX.out _ hB1x).2.1 (HBX.out _ hB1x).2.2 (fun wq hq => ans_slip HD.out HA.out hB1 hq _)
          · have hdummy : True := trivial
            have g0 : (first == [112, 97, 116, 104]) = false := by rw [f]; simp [h0]
            have g1 : (first == [114, 111, 119, 115]) = false := by rw [f]; simp [h1]
            have g2 : (first == [116, 114, 101, 101]) = false := by rw [f]; simp [h2]
            have g3 : (first == [100, 101, 101, 112]) = false := by rw [f]; simp [h3]
            have HA0 : Hid (dAns ops (first :: rest) = (e1T, ops)) := by
              show _ = _
              unfold dAns
              simp only [HK0.out, ne_eq, not_true_eq_false, if_false]
              rw [if_neg h0]
              rw [if_neg h1]
              rw [if_neg h2]
              rw [if_neg h3]

            clear f h0 h1 h2 h3
            go_wp2_with fail
            refine HKI.out.mono ?_
            rintro e x ⟨rfl, hx⟩
            subst hx
            have hB1 := HB1.out
            have hB1x := HB1x.out
            go_wp2
            exact door_slip (er := 1) rfl (by first | decide | omega) (HD.out.below hB1).ld (HBX.out _ hB1x).1 (HBX.out _ hB1x).2.1 (HBX.out _ hB1x).2.2 (fun wq hq => ans_slip HD.out HA0.out hB1 hq _)
  · have hq0 : ((kindB first : Int) != 0) = true := by simp; omega
    have HOP := Lib.hid (opOf_any (kindB first) A' n c' rest w1 HWR.out)
    have HA0 : Hid (dAns ops (first :: rest) = opR ops (dOp (kindB first) rest)) := by
      show _ = _
      show (if kindB first ≠ 0 then opR ops (dOp (kindB first) rest) else _) = _
      rw [if_pos hk]
    obtain ⟨kq, hkq⟩ : ∃ k, kindB first = k := ⟨_, rfl⟩
    rw [hkq] at hq0 HOP HA0 HKI
    cases hd : dOp kq rest with
    | none =>
      rw [hd] at HOP HA0
      clear f hk hkq hd
      go_wp2_with fail
      refine HKI.out.mono ?_
      rintro e x ⟨rfl, hx⟩
      subst hx
      go_wp2_with fail
      refine HOP.out.mono ?_
      rintro e w2 ⟨rfl, hb2⟩
      have hB2x := HB1x.out.trans (hb2.mono HB1x.out.size)
      have hB2 := HB1.out.trans (hb2.mono HB1.out.size)
      clear hb2
      go_wp2
      exact door_slip (er := 1) rfl (by first | decide | omega) (HD.out.below hB2).ld (HBX.out _ hB2x).1 (HBX.out _ hB2x).2.1 (HBX.out _ hB2x).2.2 (fun wq hq => ans_slip HD.out HA0.out hB2 hq _)
    | some o =>
      obtain ⟨k, a, b2⟩ := o
      have hob := dOp_bd hd
      rw [hd] at HOP HA0
      clear f hk hkq hd
      go_wp2_with fail
      refine HKI.out.mono ?_
      rintro e x ⟨rfl, hx⟩
      subst hx
      go_wp2_with fail
      refine HOP.out.mono ?_
      rintro e w2 ⟨rfl, hb2⟩
      have hB2x := HB1x.out.trans (hb2.mono HB1x.out.size)
      have hB2 := HB1.out.trans (hb2.mono HB1.out.size)
      have HB2x := Lib.hid hB2x
      have HB2 := Lib.hid hB2
      have hD2 := HD.out.below hB2
      have HDO := Lib.hid (ddo_any kb (runR ops).1 ops k a b2 w2 hD2.db (by omega) hD2.ld hD2.kb (chk_runR ops) (fun _ => doA_bd (chk_runR ops) (runR_vals _ ops rfl HD.out.bd)))
      have HOBD := Lib.hid hob
      clear hb2 hB2x hB2 hD2 hob
      go_wp2_with fail
      refine HDO.out.mono ?_
      rintro e w3 hr
      rcases hr with ⟨hne, rfl, hb3⟩ | ⟨he0, rfl, hdb, hkp⟩
      · obtain ⟨er, her, hel⟩ := doA_er (l := (runR ops).1) (kind := k) (key := a) (chk_runR ops)
        have HA : Hid (dAns ops (first :: rest) = (errT er, ops)) := by show _ = _; rw [HA0.out]; unfold opR; simp only []; rw [if_pos hne, her]; rfl
        have hB3x := HB2x.out.trans (hb3.mono HB2x.out.size)
        have hB3 := HB2.out.trans (hb3.mono HB2.out.size)
        rw [her]
        clear hb3 hne her
        go_wp2
        exact door_slip (er := er) rfl (by first | decide | omega) (HD.out.below hB3).ld (HBX.out _ hB3x).1 (HBX.out _ hB3x).2.1 (HBX.out _ hB3x).2.2 (fun wq hq => ans_slip HD.out HA.out hB3 hq _)
      · have HA : Hid (dAns ops (first :: rest) = (dTold k (doA (runR ops).1 k a), ops ++ [(k, a, b2)])) := by show _ = _; rw [HA0.out]; unfold opR; simp only []; rw [if_neg (by rw [he0]; simp)]
        have hbox3 := hkp.oth _ _ ((HB2x.out.block _ (by have := HZ0.out; omega)).trans HBOX.out) (fun e => by have := Option.some.inj e; have := HKB.out; omega) (fun cs fz e => by cases e)
        have b0 : w3.cell? ⟨w.heap.size, 0, none⟩ = some (.string ⟨#[]⟩) := by simp [World.cell?, hbox3]
        have b1 : w3.frozen? ⟨w.heap.size, 0, none⟩ = false := by simp [World.frozen?, hbox3]
        have HDB := Lib.hid hdb
        have HKP := Lib.hid hkp
        clear hdb hkp hbox3 he0
        go_wp2
        exact door_ret rfl (World.cell?_setCell_same _ _ _ b0) (ans_do HD.out hl HA.out ⟨HOBD.out.2.1, HOBD.out.2.2.1, HOBD.out.2.2.2.1, HOBD.out.2.2.2.2⟩ HW0.out HB2x.out HDB.out HKP.out _)
end Go.Proofs.YtpnjnedfcdppaaaGreatDoor

/-
  The desk: linesOf.
-/
namespace Go.Proofs.YtpnjnedfcdppaaaGreatDoor
open Go.RowKit

set_option maxRecDepth 100000 in
theorem isBlank_any (x : Nat) (W : World) : Calls Tryz.prog 89 #[.int .i32 (x : Int)] W fun e w' => e = .returned (.bool (blkN x)) ∧ ∃ q, w' = W.drewN q := by
  by_cases h1 : x = 32
  · subst h1
    go_enter Tryz.func89, Tryz.ntmps89
    go_wp2
    go_ret
    exact ⟨rfl, 0, rfl⟩
  · have h1b : ((x : Int) == 32) = false := by rw [beq_eq_false_iff_ne]; omega
    by_cases h2 : x = 9
    · subst h2
      clear h1 h1b
      go_enter Tryz.func89, Tryz.ntmps89
      go_wp2
      go_ret
      exact ⟨rfl, 0, rfl⟩
    · have h2b : ((x : Int) == 9) = false := by rw [beq_eq_false_iff_ne]; omega
      have HB : Hid (blkN x = false) := by show _ = _; unfold blkN; simp [h1, h2]
      clear h1 h2
      go_enter Tryz.func89, Tryz.ntmps89
      go_wp2
      go_ret
      exact ⟨by rw [HB.out]; simp, 0, rfl⟩
theorem isBlank_pred (w : World) : PredAtRunes Tryz.prog 89 #[] blkN w := fun W x _ _ => isBlank_any x W
theorem isBlank_enters (args : Array Value) (w : World) : (callFunc 89 args).run Tryz.prog w = .ok (.enter 89 args) w := enters_of Tryz.func89 (by kernel_rfl) rfl args w

def Ln (w : World) (v : Value) (ws : List (List UInt8)) : Prop :=
  ∃ g c cs fz, v = .slice (some ⟨g, 0, none⟩) ws.length c ∧ w.heap[g]? = some (.cells cs 9 fz) ∧ WS w (some ⟨g, 0, none⟩) ws.length c ws ∧ c ≤ 1000000
theorem Ln.keep {w w' : World} {v : Value} {ws : List (List UInt8)} (h : Ln w v ws) (hs : w.heap.size ≤ w'.heap.size) (hk : ∀ (k : Nat) (cs : Array Value) (fz : Nat × Nat), w.heap[k]? = some (.cells cs 9 fz) → w'.heap[k]? = w.heap[k]?) : Ln w' v ws := by
  obtain ⟨g, c, cs, fz, e, hc, hw, hb⟩ := h
  have hg := hk g cs fz hc
  refine ⟨g, c, cs, fz, e, hg.trans hc, ⟨hw.len, hw.rd.1, fun hn => ?_⟩, hb⟩
  obtain ⟨b, off, e1, hlt, hcl⟩ := hw.rd.2 hn
  cases e1
  exact ⟨g, 0, rfl, by omega, fun i hi j hj => (World.cell?_of_block (a := ⟨g, 0 + (i * 1 + j), none⟩) hg).trans (hcl i hi j hj)⟩
theorem Ln.below {w w' : World} {v : Value} {ws : List (List UInt8)} (h : Ln w v ws) (hb : Below w.heap.size w w') : Ln w' v ws :=
  h.keep hb.size fun k cs fz hc => hb.block k (Array.getElem?_eq_some_iff.1 hc).1
def LnR (w : World) (base : Nat) (v : Value) (Ls : List (List (List UInt8))) : Prop :=
  ∃ vals : List Value, vals.length = Ls.length ∧ w.ownsRow base 30 1 v Ls.length vals ∧ ∀ i (hi : i < Ls.length), ∃ u, vals[i]? = some u ∧ Ln w u Ls[i]
theorem LnR.below {w w' : World} {base : Nat} {v : Value} {Ls : List (List (List UInt8))} (h : LnR w base v Ls) (hb : Below w.heap.size w w') : LnR w' base v Ls := by
  obtain ⟨vals, h1, h2, h3⟩ := h
  exact ⟨vals, h1, own_below h2 hb, fun i hi => let ⟨u, a, b⟩ := h3 i hi; ⟨u, a, b.below hb⟩⟩
theorem LnR.is_ {w : World} {base : Nat} {v : Value} {Ls : List (List (List UInt8))} (h : LnR w base v Ls) : ∃ A c, v = .slice A Ls.length c ∧ (∀ i (hi : i < Ls.length), ∃ b off u, A = some ⟨b, off, none⟩ ∧ b < w.heap.size ∧ base ≤ b ∧ w.cell? ⟨b, off + i, none⟩ = some u ∧ Ln w u Ls[i]) := by
  obtain ⟨vals, h1, h2, h3⟩ := h
  rcases h2.2 with ⟨e, h0⟩ | ⟨g, cap, cur, e, hb, hc, hn, hm, hsz, htk⟩
  · exact ⟨none, 0, by rw [e, h0], fun i hi => by omega⟩
  · refine ⟨_, cap, e, fun i hi => ?_⟩
    obtain ⟨u, hu, hl⟩ := h3 i hi
    refine ⟨g, 0, u, rfl, (Array.getElem?_eq_some_iff.1 hc).1, hb, ?_, hl⟩
    rw [Nat.zero_add, cell_of_row _ _ _ _ _ _ hc, ← Array.getElem?_toList]
    rw [← htk, List.getElem?_take, if_pos (by omega)] at hu
    exact hu
theorem LnR.weaken {w : World} {base base' : Nat} {v : Value} {Ls : List (List (List UInt8))} (h : LnR w base v Ls) (hb : base' ≤ base) : LnR w base' v Ls := by
  obtain ⟨vals, h1, h2, h3⟩ := h
  refine ⟨vals, h1, ⟨h2.1, ?_⟩, h3⟩
  rcases h2.2 with h0 | ⟨g, cap, cur, e, hg, hr⟩
  · exact .inl h0
  · exact .inr ⟨g, cap, cur, e, Nat.le_trans hb hg, hr⟩
theorem strs_info : (Tryz.prog.info? 30).map (fun i => (i.zero, i.size, i.bytes)) = some (some (.slice none 0 0), 1, 24) := by kernel_rfl
theorem LnR.more {w w' X : World} {base : Nat} {v v' u : Value} {Ls : List (List (List UInt8))} {ws : List (List UInt8)} {vals : List Value} (h1 : vals.length = Ls.length) (h2 : w.ownsRow base 30 1 v Ls.length vals) (h3 : ∀ i (hi : i < Ls.length), ∃ u, vals[i]? = some u ∧ Ln w u Ls[i])
    (hX : Below w.heap.size w X) (hu : Ln X u ws) (hg : X.grownBy w' v.ownBlock) (hown : w'.ownsRow base 30 1 v' (Ls.length + 1) (vals ++ [u])) : LnR w' base v' (Ls ++ [ws]) := by
  have hk : ∀ (k : Nat) (cs : Array Value) (fz : Nat × Nat), X.heap[k]? = some (.cells cs 9 fz) → w'.heap[k]? = X.heap[k]? := fun k cs fz hc => by
    refine hg.block k (Array.getElem?_eq_some_iff.1 hc).1 fun e => ?_
    obtain ⟨cs', fz', hc'⟩ := own_row h2 k e.symm
    rw [hX.block k (Array.getElem?_eq_some_iff.1 hc').1, hc'] at hc
    cases hc
  refine ⟨vals ++ [u], by simp [h1], by rw [List.length_append]; exact hown, fun i hi => ?_⟩
  rw [List.length_append, List.length_singleton] at hi
  rcases Nat.lt_or_ge i Ls.length with hlt | hge
  · obtain ⟨u', a, b⟩ := h3 i hlt
    refine ⟨u', by rw [List.getElem?_append_left (by omega)]; exact a, ?_⟩
    rw [List.getElem_append_left hlt]
    exact (b.below hX).keep hg.size hk
  · obtain rfl : i = Ls.length := by omega
    refine ⟨u, by rw [List.getElem?_append_right (by omega), h1, Nat.sub_self]; rfl, ?_⟩
    rw [List.getElem_append_right (Nat.le_refl _)]
    simp only [Nat.sub_self, List.getElem_cons_zero]
    exact hu.keep hg.size hk
def dlnK (P : List (List UInt8)) (k : Nat) : List (List (List UInt8)) := ((P.take k).map fun x => wds (x.takeWhile (· != 59))).filter (fun x => !x.isEmpty)
theorem dlnK_some {P : List (List UInt8)} {k : Nat} (hk : k < P.length) {ws : List (List UInt8)} (h : wds (P[k].takeWhile (· != 59)) = ws) (hne : ws ≠ []) : dlnK P (k + 1) = dlnK P k ++ [ws] := by
  unfold dlnK
  rw [List.take_succ_eq_append_getElem hk, List.map_append, List.filter_append]
  congr 1
  simp only [List.map_cons, List.map_nil, h]
  cases ws with
  | nil => exact absurd rfl hne
  | cons a t => rfl
theorem dlnK_none {P : List (List UInt8)} {k : Nat} (hk : k < P.length) (h : wds (P[k].takeWhile (· != 59)) = []) : dlnK P (k + 1) = dlnK P k := by
  unfold dlnK
  rw [List.take_succ_eq_append_getElem hk, List.map_append, List.filter_append]
  simp [h]
theorem dlnK_len (P : List (List UInt8)) (k : Nat) : (dlnK P k).length ≤ k := by
  unfold dlnK
  refine Nat.le_trans (List.length_filter_le _ _) ?_
  rw [List.length_map, List.length_take]
  omega
theorem wgo_len : ∀ (l cur : List UInt8), (wgo cur l).length ≤ l.length + 1
  | [], cur => by unfold wgo; split <;> simp
  | b :: t, cur => by
    unfold wgo
    split
    · split
      · have := wgo_len t []; simp; omega
      · have := wgo_len t []; simp; omega
    · have := wgo_len t (cur ++ [b]); simp; omega
theorem tw_len (l : List UInt8) : (l.takeWhile (· != 59)).length ≤ l.length := by
  induction l with
  | nil => simp
  | cons a t ih => rw [List.takeWhile_cons]; split <;> simp; omega
theorem spl_mem : ∀ {c : UInt8} {l x : List UInt8}, x ∈ spl c l → x.length ≤ l.length
  | c, [], x, h => by simp [spl] at h; subst h; simp
  | c, b :: t, x, h => by
    unfold spl at h
    split at h
    · rcases List.mem_cons.mp h with rfl | h
      · simp
      · have := spl_mem h; simp; omega
    · split at h
      · rw [List.mem_singleton] at h; subst h; simp
      · next y r hq =>
        rcases List.mem_cons.mp h with rfl | h
        · have := spl_mem (c := c) (l := t) (x := y) (by rw [hq]; simp)
          simp; omega
        · have := spl_mem (c := c) (l := t) (x := x) (by rw [hq]; simp [h])
          simp; omega
def RetLn (Ls : List (List (List UInt8))) (w : World) (e : Ending) (w' : World) : Prop := ∃ v, e = .returned v ∧ LnR w' w.heap.size v Ls ∧ Below w.heap.size w w'
theorem dsplit_any (l : List UInt8) (c : UInt8) (w : World) (hl : l.length ≤ 4000000000) (hL : LD w) :
    Calls Tryz.prog 18 #[.string (bsv l), .string (bsv [c])] w fun e w' => e = .returned (.slice (some ⟨w.heap.size, 0, none⟩) (spl c l).length (spl c l).length) ∧ TBk w' w.heap.size (spl c l) ∧ Below w.heap.size w w' := by
  obtain ⟨m, hm⟩ := hL.ml
  have h1 : (1 : Nat) ≤ (bsv [c]).size := by rw [bsv_size]; exact Nat.le_refl 1
  have hsp := splitB_spl (bsv [c]) c (by simp) (bsv l)
  rw [bsv_data] at hsp
  have hlen : Lib.countB (bsv l) (bsv [c]) + 1 = (spl c l).length := by
    rw [← hsp, List.length_map]
    exact (Lib.splitB_all (bsv [c]) h1 0 _ (bsv l) rfl).symm
  have hcells : (Lib.splitB (bsv [c]) 0 (Lib.countB (bsv l) (bsv [c])) (bsv l)).map Value.string = (spl c l).map fun x => Value.string (bsv x) := by
    rw [← hsp, List.map_map]
    congr 1
  refine (Tryz.strings_Split (bsv l) (bsv [c]) m w (by rw [bsv_size]; omega) hm h1).mono ?_
  rintro e w' ⟨rfl, rfl⟩
  rw [hlen, hcells]
  exact ⟨rfl, TBk.new _ _, (Below.refl _ _).alloc (Nat.le_refl _) _⟩
theorem cut_any2 (l : List UInt8) (w : World) (hl : l.length ≤ 4000000000) (hL : LD w) :
    Calls Tryz.prog 87 #[.string (bsv l), .string (bsv [59])] w fun e w' => ∃ x b, e = .returned (.tuple #[.string (bsv (l.takeWhile (· != 59))), .string x, .bool b]) ∧ ∃ n, w' = w.drewN n := by
  obtain ⟨m, hm⟩ := hL.ml
  refine (Tryz.strings_Cut (bsv l) (bsv [59]) m w (by rw [bsv_size]; omega) hm).mono ?_
  rintro e w' ⟨rfl, n, rfl⟩
  have h1 : (bsv l).data.toList = l := by simp
  have h2 : (bsv [59]).data.toList = [59] := by simp
  rw [h1, h2, cut_tw]
  exact ⟨_, _, rfl, n, rfl⟩
theorem fields_any (l : List UInt8) (w : World) (hl : l.length ≤ 900000) :
    Calls Tryz.prog 88 #[.string (bsv l), .func (.func 89) #[] #[]] w fun e w' => ∃ v, e = .returned v ∧ Ln w' v (wds l) ∧ Below w.heap.size w w' := by
  refine (Tryz.strings_FieldsFunc_runes 89 #[] isBlank_enters blkN (bsv l) w (by rw [bsv_size]; omega) (isBlank_pred w)).mono ?_
  rintro e w' ⟨A, rfl, hA, hown, hb⟩
  have hf := fields_wds (bsv l)
  rw [bsv_data] at hf
  have hlen : (Lib.goFieldsP blkN (bsv l)).length = (wds l).length := by rw [← hf, List.length_map]
  have hcells : (Lib.goFieldsP blkN (bsv l)).map Value.string = (wds l).map fun x => Value.string (bsv x) := by
    rw [← hf, List.map_map]
    congr 1
  rw [hlen, hcells] at hown
  rw [hlen]
  refine ⟨_, rfl, ?_, hb⟩
  rcases hown.2 with ⟨e, _⟩ | ⟨g, cap, cur, e, hbb, hc, hn, hm, hsz, htk⟩
  · cases e
  · cases e
    have hwl : (wds l).length ≤ 1000000 := by have := wgo_len l []; unfold wds; omega
    refine ⟨_, _, cur, (0, 0), rfl, hc, ⟨rfl, Nat.le_refl _, fun _ => ⟨_, 0, rfl, (Array.getElem?_eq_some_iff.1 hc).1, fun i hi j hj => ?_⟩⟩, hwl⟩
    obtain rfl : j = 0 := by omega
    have e1 : 0 + (i * 1 + 0) = i := by omega
    rw [e1, cell_of_row _ _ _ _ _ _ hc, ← Array.getElem?_toList]
    have h2 : (cur.toList.take ((wds l).length * 1))[i]? = some (Value.string (bsv ((wds l)[i]))) := by rw [htk, List.getElem?_map, List.getElem?_eq_getElem hi]; rfl
    rw [List.getElem?_take, if_pos (by omega)] at h2
    rw [h2]
    simp [wf, List.getElem?_eq_getElem hi]
theorem slice_one (w : World) (A : Option Addr) (n c t : Nat) : ∀ j u, [Value.slice A n c][j]? = some u → (w.alloc (.cells #[.slice A n c] t)).cell? ((⟨w.heap.size, 0, none⟩ : Addr).add j) = some u := by
  intro j u hu
  rw [addn, Nat.zero_add]
  have := heap_alloc_new w (.cells #[.slice A n c] t)
  rw [cell_of_row _ _ _ _ _ _ this]
  simpa using hu
set_option maxRecDepth 100000 in
set_option maxHeartbeats 8000000 in
theorem linesOf_any (l : List UInt8) (w : World) (hl : l.length ≤ 10000) (hL : LD w) :
    Calls Tryz.prog 44 #[.string (bsv l)] w (RetLn (dln l) w) := by
  have HS := Lib.hid (dsplit_any l 10 w (by omega) hL)
  have HLD := Lib.hid hL
  have hPL := spl_length 10 l
  have hPM : ∀ x ∈ spl 10 l, x.length ≤ l.length := fun x hx => spl_mem hx
  obtain ⟨P, hP⟩ : ∃ P, spl 10 l = P := ⟨_, rfl⟩
  have HDL : Hid (dln l = dlnK P P.length) := by show _ = _; unfold dln dlnK; rw [hP, List.take_length]
  rw [hP] at HS hPL hPM
  have hN : P.length ≤ 10001 := by rw [hPL]; have := List.count_le_length (a := (10 : UInt8)) (l := l); omega
  have HPM : Hid (∀ x ∈ P, x.length ≤ 10000) := fun x hx => Nat.le_trans (hPM x hx) hl
  obtain ⟨N, hNe⟩ : ∃ N, P.length = N := ⟨_, rfl⟩
  rw [hNe] at HS HDL hN
  have HN := Lib.hid hNe
  obtain ⟨i0, hi, hz0, hz1, hz2⟩ := info_parts strs_info
  have HI := Lib.hid hi
  have HZ0 := Lib.hid hz0
  have HZ1 := Lib.hid hz1
  have HZ2 := Lib.hid hz2
  clear hP hPL hPM hL hl hNe hi hz0 hz1 hz2
  go_enter Tryz.func44, Tryz.ntmps44
  go_wp2_with fail
  refine HS.out.mono ?_
  rintro e w1 ⟨rfl, hT1, hb1⟩
  have HT1 := Lib.hid hT1
  have HB1 := Lib.hid hb1
  have HLD1 := Lib.hid (HLD.out.next hb1)
  clear hT1 hb1
  go_wp2
  go_loopw [3, 10] (fun sv iv wr => ∃ k : Nat, k ≤ N ∧ iv = .int .i64 k ∧ Hid (LnR wr w1.heap.size sv (dlnK P k)) ∧ Hid (Below w1.heap.size w1 wr)) (fun _ iv _ => N - (intOf iv).toNat)
  case atStart =>
    refine ⟨0, Nat.zero_le _, rfl, ?_, Below.refl _ _⟩
    show LnR _ _ _ _
    exact ⟨[], rfl, World.ownsRow_nil _ _ _ _, fun i hi => by cases hi⟩
  case round =>
    obtain ⟨k, hk, rfl, HR, HB⟩ := hrel
    obtain ⟨vA, vc, hsv, -⟩ := HR.out.is_
    obtain ⟨vn, hvn⟩ : ∃ n, (dlnK P k).length = n := ⟨_, rfl⟩
    have hvk : vn ≤ k := by rw [← hvn]; exact dlnK_len P k
    rw [hvn] at hsv
    subst hsv
    have HVN := Lib.hid hvn
    clear hvn
    by_cases hkn : k < N
    · have hkl : k < P.length := by rw [HN.out]; exact hkn
      have htr : TBk wr w.heap.size P := HT1.out.below HB.out HT1.out.lt
      have hck := htr.cell k
      rw [List.getElem?_eq_getElem hkl, Option.map_some] at hck
      have hxl := HPM.out _ (List.getElem_mem hkl)
      obtain ⟨x, hx⟩ : ∃ x, P[k] = x := ⟨_, rfl⟩
      have hsome := fun (ws : List (List UInt8)) (h : wds (x.takeWhile (· != 59)) = ws) (hne : ws ≠ []) => dlnK_some hkl (ws := ws) (by rw [hx]; exact h) hne
      have hnone := fun (h : wds (x.takeWhile (· != 59)) = []) => dlnK_none hkl (by rw [hx]; exact h)
      rw [hx] at hck hxl
      have HSO := Lib.hid hsome
      have HNO := Lib.hid hnone
      have HC := Lib.hid (cut_any2 x wr (by omega) (HLD1.out.next HB.out))
      have htw := tw_len x
      obtain ⟨y, hy⟩ : ∃ y, x.takeWhile (· != 59) = y := ⟨_, rfl⟩
      rw [hy] at HC HSO HNO htw
      have HF := Lib.hid fun wz => fields_any y wz (by omega)
      clear htr hx hsome hnone hy
      go_wp2_with fail
      refine HC.out.mono ?_
      rintro e w2 ⟨x2, b2, rfl, q, rfl⟩
      go_wp2_with fail
      refine (HF.out _).mono ?_
      rintro e w3 ⟨v3, rfl, hln, hb3⟩
      have HB3 : Hid (Below wr.heap.size wr w3) := (below_drewN (Below.refl _ _) q).trans hb3
      have HLN := Lib.hid hln
      have HR3 := Lib.hid (HR.out.below HB3.out)
      have HBB := Lib.hid (HB.out.trans (HB3.out.mono HB.out.size))
      obtain ⟨ws, hws⟩ : ∃ ws, wds y = ws := ⟨_, rfl⟩
      have HWS := Lib.hid hws
      rw [hws] at HLN hln
      obtain ⟨g, c, cs, fz, rfl, -, -, -⟩ := hln
      obtain ⟨m, hm⟩ : ∃ m, ws.length = m := ⟨_, rfl⟩
      have HM := Lib.hid hm
      rw [hm] at HLN ⊢
      clear hb3 hws hm
      by_cases h0 : m = 0
      · subst h0
        have HE : Hid (dlnK P (k + 1) = dlnK P k) := Lib.hid (HNO.out (by rw [HWS.out]; exact List.eq_nil_of_length_eq_zero HM.out))
        go_wp2
        go_roundw
        case rel => exact ⟨k + 1, by omega, by go_num, by show LnR _ _ _ _; rw [HE.out]; exact HR3.out, HBB.out⟩
        case measure => simp [intOf]; omega
      · have h0i : decide (0 < m) = true := by simp; omega
        have h0p : 0 < m := by omega
        have HE : Hid (dlnK P (k + 1) = dlnK P k ++ [ws]) := Lib.hid (HSO.out ws HWS.out (by intro e; rw [e] at HM; have := HM.out; simp at this; omega))
        obtain ⟨vals, hv1, hv2, hv3⟩ := HR3.out
        have HV1 := Lib.hid hv1
        have HV3 := Lib.hid hv3
        have HVO := Lib.hid hv2
        rw [HVN.out] at hv2
        have HV2 := Lib.hid hv2
        clear hv1 hv2 hv3 h0
        go_wp2_with (first
          | (at_builtin
             refine wpList_append_own_at _ rfl (.tmp 25) (.tmp 27) 24 rfl w1.heap.size 30 i0 _ 1 24 Tryz.underlying24 HI.out HZ0.out HZ1.out HZ2.out rfl (by omega) _ vn vals rfl (own_below HV2.out ((Below.refl _ _).alloc (Nat.le_refl _) _)) ⟨w3.heap.size, 0, none⟩ 1 1 [.slice (some ⟨g, 0, none⟩) m c] rfl rfl (slice_one w3 _ m c _) (fun u hu => by rw [List.mem_singleton.mp hu]; rfl) (by unfold maxLen; omega) (by omega) (by rw [World.size_alloc]; have := HBB.out.size; omega) ?_
             intro v4 w4 hown4 hgrow4 _ hat4)
          | fail)
        go_roundw
        case rel =>
          refine ⟨k + 1, by omega, by go_num, ?_, ?_⟩
          · show LnR _ _ _ _
            rw [HE.out]
            exact LnR.more HV1.out HVO.out HV3.out ((Below.refl _ _).alloc (Nat.le_refl _) _) (HLN.out.below ((Below.refl _ _).alloc (Nat.le_refl _) _)) hgrow4 (by rw [HVN.out]; exact hown4)
          · exact Below.grown (HBB.out.alloc HBB.out.size _) hgrow4 (by rw [World.size_alloc]; have := HBB.out.size; omega) (own_ge1 HV2.out)
        case measure => simp [intOf]; omega
    · obtain rfl : N = k := by omega
      have HR2 := HR.out
      rw [← HDL.out] at HR2
      have HRR := Lib.hid HR2
      clear HR2
      go_wp2
      go_ret
      exact ⟨_, rfl, HRR.out.weaken HB1.out.size, HB1.out.trans (HB.out.mono HB1.out.size)⟩
end Go.Proofs.YtpnjnedfcdppaaaGreatDoor

/-
  The desk: Run.
-/
namespace Go.Proofs.YtpnjnedfcdppaaaGreatDoor
open Go.RowKit

def dStep (s : List UInt8 × List OP) (ws : List (List UInt8)) : List UInt8 × List OP := (s.1 ++ (dAns s.2 ws).1 ++ [10], (dAns s.2 ws).2)
def stK (Ls : List (List (List UInt8))) (k : Nat) : List UInt8 × List OP := (Ls.take k).foldl dStep ([], [])
theorem stK_succ {Ls : List (List (List UInt8))} {k : Nat} (hk : k < Ls.length) : stK Ls (k + 1) = dStep (stK Ls k) Ls[k] := by
  unfold stK
  rw [List.take_succ_eq_append_getElem hk, List.foldl_append]
  rfl
theorem dRunL_fold : ∀ (Ls : List (List (List UInt8))) (o : List UInt8) (ops : List OP), (Ls.foldl dStep (o, ops)).1 = o ++ dRunL ops Ls
  | [], o, ops => by simp [dRunL]
  | w :: r, o, ops => by
    rw [List.foldl_cons]
    show (r.foldl dStep (o ++ (dAns ops w).1 ++ [10], (dAns ops w).2)).1 = _
    rw [dRunL_fold r]
    simp [dRunL]
theorem stK_all (Ls : List (List (List UInt8))) : (stK Ls Ls.length).1 = dRunL [] Ls := by
  unfold stK
  rw [List.take_length, dRunL_fold]
  rfl
theorem errT_len (e : Nat) : (errT e).length ≤ 30 := by
  unfold errT
  have := dg_len e
  simp
  omega
theorem orN_len (l : List UInt8) : (orN l).length ≤ l.length + 4 := by
  unfold orN
  split
  · simp
  · omega
theorem dTold_len (kind : Int) (a : An) : (dTold kind a).length ≤ 200000 := by
  unfold dTold
  repeat' split
  · simp
  · simp
  · simp
  · have := jnd_len (l := [a.k, a.v]) (by simp); omega
  · have := dg_len a.v.toNat; omega
theorem dAns_len (ops : List OP) (ws : List (List UInt8)) : (dAns ops ws).1.length ≤ 3000000 ∧ (dAns ops ws).2.length ≤ ops.length + 1 := by
  have he := errT_len 1
  have hr := rise_kys (chk_runR ops)
  have hord : ∀ x t, dTree ops x = some t → (orN (jnd t.pre)).length ≤ 3000000 := fun x t h => by
    have h1 := orN_len (jnd t.pre)
    have h2 := jnd_len (l := t.pre) (by rw [pre_length]; have := (dTree_tree h).2; omega)
    omega
  cases ws with
  | nil => exact ⟨by show (0 : Nat) ≤ _; omega, by show ops.length ≤ _; omega⟩
  | cons first rest =>
    show (if kindB first ≠ 0 then opR ops (dOp (kindB first) rest)
    else if first = [112, 97, 116, 104] then pathR ops (nms 1 rest)
    else if first = [114, 111, 119, 115] then (if rest.length = 0 then orN (rowsT (rowsL (kys (runR ops).1))) else e1T, ops)
    else if first = [116, 114, 101, 101] then ordR ops rest
    else if first = [100, 101, 101, 112] then deepR ops rest
    else (e1T, ops)).1.length ≤ _ ∧ (if kindB first ≠ 0 then opR ops (dOp (kindB first) rest)
    else if first = [112, 97, 116, 104] then pathR ops (nms 1 rest)
    else if first = [114, 111, 119, 115] then (if rest.length = 0 then orN (rowsT (rowsL (kys (runR ops).1))) else e1T, ops)
    else if first = [116, 114, 101, 101] then ordR ops rest
    else if first = [100, 101, 101, 112] then deepR ops rest
    else (e1T, ops)).2.length ≤ _
    split
    · cases dOp (kindB first) rest with
      | none => exact ⟨by show (errT 1).length ≤ _; omega, by show ops.length ≤ _; omega⟩
      | some o =>
        obtain ⟨k, a, b⟩ := o
        show (if _ then _ else _ : List UInt8 × List OP).1.length ≤ _ ∧ (if _ then _ else _ : List UInt8 × List OP).2.length ≤ _
        split
        · exact ⟨by have := errT_len (doA (runR ops).1 k a).e.toNat; show (errT _).length ≤ _; omega, by show ops.length ≤ _; omega⟩
        · exact ⟨by have := dTold_len k (doA (runR ops).1 k a); show (dTold _ _).length ≤ _; omega, by show (ops ++ [_]).length ≤ _; simp⟩
    · split
      · cases nms 1 rest with
        | none => exact ⟨by show (errT 1).length ≤ _; omega, by show ops.length ≤ _; omega⟩
        | some ks =>
          match ks with
          | [] => exact ⟨by show (errT 1).length ≤ _; omega, by show ops.length ≤ _; omega⟩
          | [k] =>
            refine ⟨?_, by show ops.length ≤ _; omega⟩
            show (if _ then _ else _ : List UInt8).length ≤ _
            split
            · have h1 := orN_len (jnd ((stops (kys (runR ops).1) k).map Prod.snd))
              have h3 : (stops (kys (runR ops).1) k).length ≤ 12 * (kys (runR ops).1).length := stTo_len _ _ 12
              have h4 := hr.len
              have h2 := jnd_len (l := (stops (kys (runR ops).1) k).map Prod.snd) (by rw [List.length_map]; omega)
              omega
            · show (errT 1).length ≤ _; omega
          | _ :: _ :: _ => exact ⟨by show (errT 1).length ≤ _; omega, by show ops.length ≤ _; omega⟩
      · split
        · refine ⟨?_, by show ops.length ≤ _; omega⟩
          show (if _ then _ else _ : List UInt8).length ≤ _
          split
          · have h1 := orN_len (rowsT (rowsL (kys (runR ops).1)))
            have h2 := rows_txt (L := rowsL (kys (runR ops).1)) (by rw [rowsL_len]; exact hiR_le _) (fun r hr' => by
              obtain ⟨i, _, rfl⟩ := List.mem_map.mp hr'
              exact Nat.le_trans (rowL_len _ i) hr.len)
            omega
          · show (errT 1).length ≤ _; omega
        · split
          · match rest with
            | [] => exact ⟨by show (errT 1).length ≤ _; omega, by show ops.length ≤ _; omega⟩
            | [x] =>
              cases hd : dTree ops x with
              | none => rw [ordR_none hd]; exact ⟨by show (errT 1).length ≤ _; omega, by show ops.length ≤ _; omega⟩
              | some t => rw [ordR_some hd]; exact ⟨hord x t hd, by show ops.length ≤ _; omega⟩
            | _ :: _ :: _ => exact ⟨by show (errT 1).length ≤ _; omega, by show ops.length ≤ _; omega⟩
          · split
            · match rest with
              | [] => exact ⟨by show (errT 1).length ≤ _; omega, by show ops.length ≤ _; omega⟩
              | [x] =>
                cases hd : dTree ops x with
                | none => rw [deepR_none hd]; exact ⟨by show (errT 1).length ≤ _; omega, by show ops.length ≤ _; omega⟩
                | some t =>
                  rw [deepR_some hd]
                  refine ⟨?_, by show ops.length ≤ _; omega⟩
                  show (deepT t).length ≤ _
                  unfold deepT
                  split
                  · simp
                  · have := dg_len (t.tall - 1); omega
              | _ :: _ :: _ => exact ⟨by show (errT 1).length ≤ _; omega, by show ops.length ≤ _; omega⟩
            · exact ⟨by show (errT 1).length ≤ _; omega, by show ops.length ≤ _; omega⟩
theorem stK_len (Ls : List (List (List UInt8))) : ∀ k, k ≤ Ls.length → (stK Ls k).1.length ≤ 3000001 * k ∧ (stK Ls k).2.length ≤ k
  | 0, _ => by simp [stK]
  | k + 1, h => by
    rw [stK_succ (by omega)]
    obtain ⟨h1, h2⟩ := stK_len Ls k (by omega)
    obtain ⟨h3, h4⟩ := dAns_len (stK Ls k).2 (Ls[k]'(by omega))
    refine ⟨?_, ?_⟩
    · show ((stK Ls k).1 ++ _ ++ [10]).length ≤ _
      simp only [List.length_append, List.length_singleton]
      omega
    · show (dAns _ _).2.length ≤ _
      omega
end Go.Proofs.YtpnjnedfcdppaaaGreatDoor

/-
  The desk: Run, walked.
-/
namespace Go.Proofs.YtpnjnedfcdppaaaGreatDoor
open Go.RowKit

abbrev BLD (kb : Nat) (out : List UInt8) (w : World) : Prop := Lib.IsBuilderF 91 5 (kb + 1) (kb + 1) (Lib.byteCells out) w
theorem builder_keep {T e B b : Nat} {p : Value} {bs : List Value} {w w' : World} (h : Lib.BuilderAtF T e B b p bs w) (hk : ∀ (k : Nat) (cs : Array Value) (t : Nat) (fz : Nat × Nat), w.heap[k]? = some (.cells cs t fz) → t = T ∨ t = e → w'.heap[k]? = w.heap[k]?) : Lib.BuilderAtF T e B b p bs w' := by
  obtain ⟨hB, v, hb, hown, hne⟩ := h
  refine ⟨hB, v, (hk _ _ _ _ hb (.inl rfl)).trans hb, ⟨hown.1, ?_⟩, hne⟩
  rcases hown.2 with h0 | ⟨g, cap, cur, fz, e1, hbb, hc, rest⟩
  · exact .inl h0
  · exact .inr ⟨g, cap, cur, fz, e1, hbb, (hk _ _ _ _ hc (.inr rfl)).trans hc, rest⟩
theorem bld_keep {kb : Nat} {out : List UInt8} {w w' : World} (h : BLD kb out w) (hk : ∀ (k : Nat) (cs : Array Value) (t : Nat) (fz : Nat × Nat), w.heap[k]? = some (.cells cs t fz) → t = 91 ∨ t = 5 → w'.heap[k]? = w.heap[k]?) : BLD kb out w' :=
  h.elim (fun x => .inl (builder_keep x hk)) (fun x => .inr (builder_keep x hk))
theorem bld_at {kb : Nat} {out : List UInt8} {w : World} (h : BLD kb out w) : ∃ cs, w.heap[kb + 1]? = some (.cells cs 91 (0, 0)) := by
  rcases h with ⟨_, v, hb, _⟩ | ⟨_, v, hb, _⟩
  · exact ⟨_, hb⟩
  · exact ⟨_, hb⟩
theorem bld_kp {kb : Nat} {out : List UInt8} {w w' : World} {cs : Array Value} {fz : Nat × Nat} (h : BLD kb out w) (hd : w.heap[kb]? = some (.cells cs 87 fz)) (hk : KpB kb w w') : BLD kb out w' := by
  refine bld_keep h fun k cs' t fz' hc ht => ?_
  have hne : k ≠ kb := fun e => by
    rw [e, hd] at hc
    cases hc
    rcases ht with ht | ht
    · exact absurd ht (by decide)
    · exact absurd ht (by decide)
  rw [hk.oth k _ hc (by simpa using hne) (fun c f e => by
    cases e
    rcases ht with ht | ht
    · exact absurd ht (by decide)
    · exact absurd ht (by decide)), hc]
theorem DK.oth {w w' : World} {kb : Nat} {ops : List OP} {cs : Array Value} {fz : Nat × Nat} (h : DK w kb ops) (hb : Below (kb + 1) w w') (ho : Lib.OthersKept 5 (some (kb + 1)) w w') (hbl : w.heap[kb + 1]? = some (.cells cs 91 fz)) : DK w' kb ops := by
  refine ⟨?_, h.ld.below hb (by have := h.kb; omega) hb.size, h.kb, h.len, h.bd⟩
  obtain ⟨pA, pn, pc, ov, h1, h2, h3, h4⟩ := h.db
  refine ⟨pA, pn, pc, ov, (hb.block kb (by omega)).trans h1, pt_keep h2 hb.size (fun ad e => ?_), h3, own_keep h4 fun g hg => ?_⟩
  · obtain ⟨cs', fz', hc⟩ := h2.ty ad e
    rw [ho ad.block _ hc (fun e2 => by
      have e3 := Option.some.inj e2
      rw [e3, hbl] at hc
      cases hc) (fun c f e2 => by cases e2), hc]
  · obtain ⟨cs', fz', hc⟩ := own_row h4 g hg
    rw [ho g _ hc (fun e2 => by
      have e3 := Option.some.inj e2
      rw [e3, hbl] at hc
      cases hc) (fun c f e2 => by cases e2), hc]
theorem DK.at_ {w : World} {kb : Nat} {ops : List OP} (h : DK w kb ops) : ∃ cs, w.heap[kb]? = some (.cells cs 87 (0, 0)) := by
  obtain ⟨pA, pn, pc, ov, h1, _⟩ := h.db
  exact ⟨_, h1⟩
theorem dln_ne {l : List UInt8} {x : List (List UInt8)} (h : x ∈ dln l) : x ≠ [] := by
  unfold dln at h
  have := (List.mem_filter.mp h).2
  intro e
  subst e
  simp at this
theorem desk_new (w : World) (hL : LD w) (o : Obj) : DK ((w.alloc (.cells #[.slice none 0 0, .slice none 0 0] 87)).alloc o) w.heap.size [] := by
  have hb : Below w.heap.size w ((w.alloc (.cells #[.slice none 0 0, .slice none 0 0] 87)).alloc o) := ((Below.refl _ _).alloc (Nat.le_refl _) _).alloc (by rw [World.size_alloc]; omega) _
  refine ⟨⟨none, 0, 0, .slice none 0 0, ?_, ⟨?_, fun ad e => (by cases e)⟩, fun ad e => (by cases e), ?_⟩, hL.next hb, hL.lo, by simp, ⟨fun o h => by cases h⟩⟩
  · rw [Below.heap_alloc _ _ _ (by rw [World.size_alloc]; omega)]
    exact heap_alloc_new _ _
  · exact ⟨rfl, Nat.le_refl _, fun h => absurd h (by omega)⟩
  · exact World.ownsRow_nil _ _ _ _
theorem bld_new (w : World) (o : Obj) : BLD w.heap.size [] ((w.alloc o).alloc (.cells #[.pointer none, .slice none 0 0] 91)) := by
  refine .inl ⟨Nat.le_refl _, .slice none 0 0, ?_, World.ownsRowF_nil _ _ _ _, by simp [Value.ownBlock]⟩
  have := heap_alloc_new (w.alloc o) (.cells #[.pointer none, .slice none 0 0] 91)
  rw [World.size_alloc] at this
  exact this
theorem byteCells_len (l : List UInt8) : (Lib.byteCells l).length = l.length := by unfold Lib.byteCells; simp
theorem byteCells_app (a b : List UInt8) : Lib.byteCells (a ++ b) = Lib.byteCells a ++ Lib.byteCells b := by unfold Lib.byteCells; simp
theorem err_line (o : List UInt8) : bsv o ++ bsv [10] = bsv (o ++ [10]) := bsv_app _ _
theorem RetTx.drew {t : List UInt8} {w w1 : World} (h : Below w.heap.size w w1) : RetTx t w (.returned (.string (bsv t))) w1 := ⟨rfl, h⟩
set_option maxRecDepth 100000 in
set_option maxHeartbeats 8000000 in
theorem Run_dany (l : List UInt8) (w : World) (hl : l.length ≤ 1000000000) (hL : LD w) :
    Calls Tryz.prog 11 #[.string (bsv l)] w (RetTx (deskP l) w) := by
  have HE : Hid (∀ wz, LD wz → Calls Tryz.prog 43 #[.int .i64 2] wz fun e w' => e = .returned (.string (bsv (errT 2))) ∧ Below wz.heap.size wz w') := fun wz h => errorText_any 2 (by omega) wz h
  have HLD := Lib.hid hL
  have he2 := errT_len 2
  obtain ⟨n, hn⟩ : ∃ n, l.length = n := ⟨_, rfl⟩
  have hsz : (bsv l).size = n := by rw [bsv_size, hn]
  by_cases h1 : 8192 < n
  · have HP : Hid (errT 2 ++ [10] = deskP l) := by
      show _ = _
      unfold deskP
      rw [hn, if_pos h1]
    have f1 : (8192 : Int) < (n : Int) := by omega
    obtain ⟨et, het⟩ : ∃ et, errT 2 = et := ⟨_, rfl⟩
    rw [het] at HE HP he2
    have hs1 : (bsv et).size = et.length := bsv_size et
    have hcat : ¬ (9223372036854775807 < et.length + 1) := by omega
    clear he2 hn het h1
    go_enter Tryz.func11, Tryz.ntmps11
    go_wp2_with fail
    refine (HE.out _ HLD.out).mono ?_
    rintro e w1 ⟨rfl, hb1⟩
    have HB1 := Lib.hid hb1
    clear hb1
    go_wp2
    go_ret
    rw [← HP.out]
    exact ⟨congrArg (fun s => Ending.returned (.string s)) (err_line et), HB1.out⟩
  have hdl := Lib.hid (fun x hx => dln_ne (l := l) (x := x) hx)
  have HLN := Lib.hid (linesOf_any l w (by omega) hL)
  obtain ⟨Ls, hLs⟩ : ∃ Ls, dln l = Ls := ⟨_, rfl⟩
  rw [hLs] at hdl HLN
  obtain ⟨m, hm⟩ : ∃ m, Ls.length = m := ⟨_, rfl⟩
  by_cases h2 : 100 < m
  · have HP : Hid (errT 2 ++ [10] = deskP l) := by
      show _ = _
      unfold deskP
      rw [hn, if_neg h1, hLs, hm, if_pos h2]
    have f1 : ¬ (8192 : Int) < (n : Int) := by omega
    have f2 : (100 : Int) < (m : Int) := by omega
    obtain ⟨et, het⟩ : ∃ et, errT 2 = et := ⟨_, rfl⟩
    rw [het] at HE HP he2
    have hs1 : (bsv et).size = et.length := bsv_size et
    have hcat : ¬ (9223372036854775807 < et.length + 1) := by omega
    have HM := Lib.hid hm
    clear he2 hn het h1 h2 hLs hm
    go_enter Tryz.func11, Tryz.ntmps11
    go_wp2_with fail
    refine HLN.out.mono ?_
    rintro e w1 ⟨v, rfl, hln, hb1⟩
    obtain ⟨vA, vc, rfl, -⟩ := hln.is_
    rw [HM.out]
    have HB1 := Lib.hid hb1
    clear hb1 hln
    go_wp2_with fail
    refine (HE.out _ (HLD.out.next HB1.out)).mono ?_
    rintro e w2 ⟨rfl, hb2⟩
    have HB2 := Lib.hid hb2
    clear hb2
    go_wp2
    go_ret
    rw [← HP.out]
    exact ⟨congrArg (fun s => Ending.returned (.string s)) (err_line et), HB1.out.trans (HB2.out.mono HB1.out.size)⟩
  have HP : Hid (dRunL [] Ls = deskP l) := by
    show _ = _
    unfold deskP
    rw [hn, if_neg h1, hLs, hm, if_neg h2]
  have f1 : ¬ (8192 : Int) < (n : Int) := by omega
  have f2 : ¬ (100 : Int) < (m : Int) := by omega
  have hm100 : m ≤ 100 := by omega
  have HM := Lib.hid hm
  have HSL := Lib.hid (stK_len Ls)
  clear he2 hn h1 h2 hLs hm hL
  go_enter Tryz.func11, Tryz.ntmps11
  go_wp2_with fail
  refine HLN.out.mono ?_
  rintro e w1 ⟨v, rfl, hln, hb1⟩
  obtain ⟨vA, vc, rfl, hat⟩ := hln.is_
  rw [HM.out]
  have HLR := Lib.hid hln
  have HB1 := Lib.hid hb1
  have HLD1 := Lib.hid (HLD.out.next hb1)
  clear hb1 hln hat
  go_wp2
  have hd0 := desk_new w1 HLD1.out (.cells #[.pointer none, .slice none 0 0] 91)
  have hb0 := bld_new w1 (.cells #[.slice none 0 0, .slice none 0 0] 87)
  have hx0 : Below w1.heap.size w1 ((w1.alloc (.cells #[.slice none 0 0, .slice none 0 0] 87)).alloc (.cells #[.pointer none, .slice none 0 0] 91)) := ((Below.refl _ _).alloc (Nat.le_refl _) _).alloc (by rw [World.size_alloc]; omega) _
  have HD0 := Lib.hid hd0
  have HBD0 := Lib.hid hb0
  have HX0 := Lib.hid hx0
  obtain ⟨kb, hkb⟩ : ∃ kb, w1.heap.size = kb := ⟨_, rfl⟩
  rw [hkb] at HD0 HBD0
  rw [hkb]
  have HKB := Lib.hid hkb
  clear hd0 hb0 hx0 hkb
  go_loopw [22] (fun iv wr => ∃ k : Nat, k ≤ m ∧ iv = .int .i64 k ∧ Hid (DK wr kb (stK Ls k).2) ∧ Hid (BLD kb (stK Ls k).1 wr) ∧ Hid (Below w1.heap.size w1 wr)) (fun iv _ => m - (intOf iv).toNat)
  case atStart =>
    exact ⟨0, Nat.zero_le _, rfl, HD0.out, HBD0.out, HX0.out⟩
  case round =>
    obtain ⟨k, hk, rfl, HD, HBD, HB⟩ := hrel
    by_cases hkm : k < m
    · have hkl : k < Ls.length := by rw [HM.out]; exact hkm
      obtain ⟨A', c', e', hat⟩ := (HLR.out.below HB.out).is_
      rw [HM.out] at e'
      cases e'
      obtain ⟨b, off, u, rfl, hblt, -, hcell, hln⟩ := hat k hkl
      obtain ⟨g, c, cs, fz, rfl, -, hws, hc⟩ := hln
      have hne := hdl.out _ (List.getElem_mem hkl)
      have hst := stK_succ hkl
      have hsl := HSL.out k (by omega)
      have hal := dAns_len (stK Ls k).2 Ls[k]
      obtain ⟨ws, hwsE⟩ : ∃ ws, Ls[k] = ws := ⟨_, rfl⟩
      rw [hwsE] at hws hne hst hal hcell
      obtain ⟨⟨out, ops⟩, hsk⟩ : ∃ s, stK Ls k = s := ⟨_, rfl⟩
      rw [hsk] at HD HBD hst hsl hal
      simp only at hst hsl hal
      replace HD : Hid (DK wr kb ops) := HD
      replace HBD : Hid (BLD kb out wr) := HBD
      have HA := Lib.hid (answer_any kb ops _ ws.length c ws wr HD.out (by have := hsl.2; omega) hws hne (by omega))
      have HST := Lib.hid hst
      have hol : out.length ≤ 3000001 * k := hsl.1
      have hal1 := hal.1
      obtain ⟨wn, hwn⟩ : ∃ n, ws.length = n := ⟨_, rfl⟩
      rw [hwn] at HA hcell
      obtain ⟨⟨at_, ops'⟩, hao⟩ : ∃ x, dAns ops ws = x := ⟨_, rfl⟩
      rw [hao] at hal1
      have HAO := Lib.hid hao
      have has : (bsv at_).size = at_.length := bsv_size at_
      clear hat hws hne hst hsl hal hwsE hsk hwn hao hkl
      go_wp2_with fail
      refine HA.out.mono ?_
      rintro e w3 ⟨rfl, hd3, hk3⟩
      rw [HAO.out] at hd3
      have hb3 := bld_kp HBD.out HD.out.at_.choose_spec hk3
      obtain ⟨bcs, hbc⟩ := bld_at hb3
      have HD3 := Lib.hid hd3
      have HK3 := Lib.hid hk3
      have HB3 := Lib.hid hb3
      have HBC := Lib.hid hbc
      rw [HAO.out]
      clear hd3 hk3 hb3 hbc
      go_wp2_with fail
      refine (Tryz.Builder_WriteString_k (kb + 1) (kb + 1) (Lib.byteCells out) (bsv at_) w3 HB3.out (by rw [byteCells_len, has]; omega) (by have := HD3.out.db.lt; omega)).mono ?_
      rintro e w4 ⟨rfl, hb4, hw4, ho4⟩
      have hd4 := HD3.out.oth hw4 ho4 HBC.out
      have hbd4 : BLD kb (out ++ at_) w4 := .inr (by rw [byteCells_app]; exact hb4)
      obtain ⟨bcs4, hbc4⟩ := bld_at hbd4
      have HD4 := Lib.hid hd4
      have HBD4 := Lib.hid hbd4
      have HW4 := Lib.hid hw4
      have HBC4 := Lib.hid hbc4
      clear hb4 hw4 ho4 hd4 hbd4 hbc4
      go_wp2_with fail
      refine (Tryz.Builder_WriteByte_k (kb + 1) (kb + 1) (Lib.byteCells (out ++ at_)) 10 w4 HBD4.out (by rw [byteCells_len, List.length_append]; omega) (by have := HD4.out.db.lt; omega)).mono ?_
      rintro e w5 ⟨rfl, hb5, hw5, ho5⟩
      have hd5 := HD4.out.oth hw5 ho5 HBC4.out
      have hbd5 : BLD kb (out ++ at_ ++ [10]) w5 := .inr (by rw [byteCells_app]; exact hb5)
      have HD5 := Lib.hid hd5
      have HBD5 := Lib.hid hbd5
      have HB5 : Hid (Below w1.heap.size w1 w5) := by
        show Below _ _ _
        rw [HKB.out]
        exact (((HKB.out ▸ HB.out : Below kb w1 wr).trans HK3.out.bel).trans (HW4.out.mono (by omega))).trans (hw5.mono (by omega))
      have HS : Hid (stK Ls (k + 1) = (out ++ at_ ++ [10], ops')) := by
        show _ = _
        rw [HST.out]
        unfold dStep
        rw [HAO.out]
      clear hb5 hw5 ho5 hd5 hbd5
      go_wp2
      go_roundw
      case rel => exact ⟨k + 1, by omega, by go_num, by rw [HS.out]; exact HD5, by rw [HS.out]; exact HBD5, HB5⟩
      case measure => simp [intOf]; omega
    · obtain rfl : m = k := by omega
      have hall := stK_all Ls
      rw [HM.out] at hall
      rw [hall, HP.out] at HBD
      go_wp2_with fail
      refine (Tryz.Builder_String_any_k (kb + 1) (kb + 1) (deskP l) wr HBD.out (by have := HD.out.db.lt; have := bld_at HBD.out; omega)).mono ?_
      rintro e w4 ⟨rfl, -, hw4, -⟩
      have HW4 := Lib.hid hw4
      clear hw4
      go_wp2
      go_ret
      refine ⟨rfl, ?_⟩
      have hbk : Below kb w1 w4 := (HKB.out ▸ HB.out : Below kb w1 wr).trans (HW4.out.mono (by omega))
      exact HB1.out.trans (hbk.mono (by rw [← HKB.out]; exact HB1.out.size))
end Go.Proofs.YtpnjnedfcdppaaaGreatDoor

/-
  The desk: it lives.
-/
namespace Go.Proofs.YtpnjnedfcdppaaaGreatDoor
open Go.RowKit

def RetYes (w : World) (e : Ending) (w' : World) : Prop := e = .returned (.bool true) ∧ Below w.heap.size w w'
end Go.Proofs.YtpnjnedfcdppaaaGreatDoor
