/-
  The desk: answer.
-/
import Derived.Test.YtpnjnedfcdppaaaGreatDoorDAnswerAll
namespace Go.Proofs.YtpnjnedfcdppaaaGreatDoor
open Go.RowKit

theorem door_ret {R : Ending → World → Prop} {tmps : Array Value} {w9 : World} {p : Addr} {s : ByteArray} (h4 : tmps.getD 4 undef = .pointer (some p)) (hc : w9.cell? p = some (.string s)) (hR : R (.returned (.string s)) w9) :
    bodyPostD Tryz.prog Tryz.f46 R Exit.ret { tmps := tmps, defers := [{ target := Target.fn (Fn.func 91) #[.pointer (some p)], args := #[] }] } w9 := by
  show Leaves _ _ _ _ _ _ _
  refine leaves_cons (f := 91) (args := #[.pointer (some p)]) (by simp) (by simp [go_sem]) ?_
  refine (catch_idle p w9).mono ?_
  rintro e u' w'' ⟨rfl, rfl, rfl⟩
  refine ⟨.string s, ?_, hR⟩
  have h4' : tmps[4]?.getD undef = .pointer (some p) := by simpa using h4
  simp [results, Tryz.results46, go_sem, h4', hc]
theorem door_slip {R : Ending → World → Prop} {tmps : Array Value} {w9 : World} {p : Addr} {x : Value} {er : Nat} (h4 : tmps.getD 4 undef = .pointer (some p)) (her : er < 1000) (hL : LD w9) (hc : w9.cell? p = some x) (hz : w9.frozen? p = false) (hlt : p.block < w9.heap.size)
    (hR : ∀ w1, Below w9.heap.size w9 w1 → R (.returned (.string (bsv (errT er)))) (w1.setCell p (.string (bsv (errT er))))) :
    bodyPostD Tryz.prog Tryz.f46 R (Exit.panic (slipC er)) { tmps := tmps, defers := [{ target := Target.fn (Fn.func 91) #[.pointer (some p)], args := #[] }] } w9 := by
  show Leaves _ _ _ _ _ _ _
  refine leaves_cons (f := 91) (args := #[.pointer (some p)]) (by simp) (by simp [go_sem]) ?_
  refine (catch_slip p x er her w9 hL hc hz hlt).mono ?_
  rintro e u' w'' ⟨rfl, rfl, w1, hb, rfl⟩
  refine ⟨.string (bsv (errT er)), ?_, hR w1 hb⟩
  have h4' : tmps[4]?.getD undef = .pointer (some p) := by simpa using h4
  have hc1 : w1.cell? p = some x := (hb.cell hlt).trans hc
  have hc2 : (w1.setCell p (.string (bsv (errT er)))).cell? p = some (.string (bsv (errT er))) := World.cell?_setCell_same _ _ _ hc1
  simp [results, Tryz.results46, go_sem, h4', hc2]
/-- what a line's answer comes to -/
def DRetAns (kb : Nat) (ops : List OP) (ws : List (List UInt8)) (w : World) (e : Ending) (w' : World) : Prop :=
  e = .returned (.string (bsv (dAns ops ws).1)) ∧ DK w' kb (dAns ops ws).2 ∧ KpB kb w w'
theorem DB.setStr {w : World} {kb : Nat} {l : PL} {ops : List OP} {p : Addr} {cs : Array Value} {fz : Nat × Nat} {v : Value} (h : DB w kb l ops) (hp : w.heap[p.block]? = some (.cells cs 9 fz)) (hne : p.block ≠ kb) : DB (w.setCell p v) kb l ops := by
  obtain ⟨pA, pn, pc, ov, h1, h2, h3, h4⟩ := h
  have hs : ∀ k, k ≠ p.block → (w.setCell p v).heap[k]? = w.heap[k]? := fun k hk => Below.heap_setCell _ _ _ _ hk
  refine ⟨pA, pn, pc, ov, (hs kb (fun e => hne e.symm)).trans h1, pt_keep h2 (by simp [World.setCell]) (fun ad e => hs _ fun e2 => ?_), h3, own_keep h4 fun g hg => hs g fun e2 => ?_⟩
  · obtain ⟨cs', fz', hc⟩ := h2.ty ad e
    rw [e2, hp] at hc
    cases hc
  · obtain ⟨cs', fz', hc⟩ := own_row h4 g hg
    rw [e2, hp] at hc
    cases hc
theorem KpB.setNew {kb : Nat} {w w8 : World} {p : Addr} {v : Value} (h : KpB kb w w8) (hp : w.heap.size ≤ p.block) (hk : kb < w.heap.size) : KpB kb w (w8.setCell p v) := by
  refine ⟨h.bel.setCell (by omega) _, fun k o hk' hne ho => ?_⟩
  have hlt := (Array.getElem?_eq_some_iff.1 hk').1
  exact (Below.heap_setCell _ _ _ _ (by omega)).trans (h.oth k o hk' hne ho)
/-- a slip, told -/
theorem ans_slip {kb : Nat} {ops : List OP} {ws : List (List UInt8)} {w w9 w1 : World} {er : Nat} (h : DK w kb ops) (ha : dAns ops ws = (errT er, ops)) (hb : Below w.heap.size w w9) (hb1 : Below w9.heap.size w9 w1) (v : Value) :
    DRetAns kb ops ws w (.returned (.string (bsv (errT er)))) (w1.setCell ⟨w.heap.size, 0, none⟩ v) := by
  have hB : Below w.heap.size w (w1.setCell ⟨w.heap.size, 0, none⟩ v) := (hb.trans (hb1.mono hb.size)).setCell (p := ⟨w.heap.size, 0, none⟩) (Nat.le_refl _) _
  refine ⟨by rw [ha], ?_, KpB.of hB h.db.lt⟩
  rw [ha]
  exact h.below hB
/-- what is told without a change -/
theorem ans_read {kb : Nat} {ops : List OP} {ws : List (List UInt8)} {w w9 : World} {t : List UInt8} (h : DK w kb ops) (ha : dAns ops ws = (t, ops)) (hb : Below w.heap.size w w9) (v : Value) :
    DRetAns kb ops ws w (.returned (.string (bsv t))) (w9.setCell ⟨w.heap.size, 0, none⟩ v) := by
  have hB : Below w.heap.size w (w9.setCell ⟨w.heap.size, 0, none⟩ v) := hb.setCell (p := ⟨w.heap.size, 0, none⟩) (Nat.le_refl _) _
  refine ⟨by rw [ha], ?_, KpB.of hB h.db.lt⟩
  rw [ha]
  exact h.below hB
theorem doA_er {l : PL} {kind key : Int} (hc : chk l = 0) : ∃ er : Nat, (doA l kind key).e = er ∧ er < 1000 := by
  unfold doA
  rw [if_neg (by rw [hc]; decide)]
  split
  · exact ⟨1, rfl, by decide⟩
  · split
    · unfold putA
      repeat' split
      · exact ⟨0, rfl, by decide⟩
      · exact ⟨2, rfl, by decide⟩
      · exact ⟨0, rfl, by decide⟩
    · split
      · unfold getA
        split <;> exact ⟨0, rfl, by decide⟩
      · unfold lookA getA pairA
        repeat' split
        all_goals exact ⟨0, rfl, by decide⟩
theorem nmA_bd : ∀ (l : List UInt8) (v k n : Nat), v < 10 ^ k → nmA v l = some n → n < 10 ^ (k + l.length)
  | [], v, k, n, hv, h => by cases h; simpa using hv
  | b :: t, v, k, n, hv, h => by
    by_cases hb : 48 ≤ b.toNat ∧ b.toNat ≤ 57
    · rw [nmA_some hb] at h
      have := nmA_bd t _ (k + 1) n (pow_next (d := b.toNat - 48) hv (by omega)) h
      rw [List.length_cons, show k + (t.length + 1) = k + 1 + t.length by omega]
      exact this
    · rw [nmA_none hb] at h
      cases h
theorem nmb_bd {l : List UInt8} {n : Nat} (h : nmb l = some n) : n < 10000000 := by
  unfold nmb at h
  split at h
  · cases h
  · have h1 := nmA_bd l 0 0 n (by decide) h
    have h2 : 10 ^ (0 + l.length) ≤ 10 ^ 7 := Nat.pow_le_pow_right (by omega) (by omega)
    have h3 : (10 : Nat) ^ 7 = 10000000 := by decide
    omega
theorem nmsL_bd : ∀ {l : List (List UInt8)} {ks : List Nat}, nmsL l = some ks → ∀ n ∈ ks, n < 10000000
  | [], ks, h, n, hn => by cases h; cases hn
  | x :: t, ks, h, n, hn => by
    unfold nmsL at h
    cases hx : nmb x with
    | none => rw [hx] at h; cases h
    | some m =>
      rw [hx] at h
      cases ht : nmsL t with
      | none => rw [ht] at h; cases h
      | some r =>
        rw [ht] at h
        cases h
        rcases List.mem_cons.mp hn with rfl | hn
        · exact nmb_bd hx
        · exact nmsL_bd ht n hn
theorem nms_bd {many : Nat} {l : List (List UInt8)} {ks : List Nat} (h : nms many l = some ks) : ∀ n ∈ ks, n < 10000000 := by
  unfold nms at h
  split at h
  · exact nmsL_bd h
  · cases h
theorem dOp_bd {kind : Nat} {l : List (List UInt8)} {k a b : Int} (h : dOp kind l = some (k, a, b)) : k = kind ∧ 0 ≤ a ∧ a < 100000000 ∧ 0 ≤ b ∧ b < 100000000 := by
  unfold dOp at h
  split at h
  · next hk =>
    cases hr : nms 2 l with
    | none => rw [hr] at h; cases h
    | some ks =>
      rw [hr] at h
      have hb := nms_bd hr
      match ks, h, hb with
      | [x, y], h, hb =>
        cases h
        have h1 := hb x (by simp)
        have h2 := hb y (by simp)
        exact ⟨by rw [hk]; rfl, by omega, by omega, by omega, by omega⟩
      | [], h, _ => cases h
      | [_], h, _ => cases h
      | _ :: _ :: _ :: _, h, _ => cases h
  · cases hr : nms 1 l with
    | none => rw [hr] at h; cases h
    | some ks =>
      rw [hr] at h
      have hb := nms_bd hr
      match ks, h, hb with
      | [x], h, hb =>
        cases h
        have h1 := hb x (by simp)
        exact ⟨rfl, by omega, by omega, by omega, by omega⟩
      | [], h, _ => cases h
      | _ :: _ :: _, h, _ => cases h
/-- an op, done -/
theorem ans_do {kb : Nat} {ops : List OP} {ws : List (List UInt8)} {w w0 w8 : World} {k a b : Int} {t : List UInt8} (h : DK w kb ops) (hl : ops.length < 300) (ha : dAns ops ws = (t, ops ++ [(k, a, b)])) (hop : 0 ≤ a ∧ a < 100000000 ∧ 0 ≤ b ∧ b < 100000000)
    (h0 : w0 = w.alloc (.cells #[.string ⟨#[]⟩] 9)) {wx : World} (hx : Below w0.heap.size w0 wx) (hdb : DB w8 kb (doL (runR ops).1 k a b) (ops ++ [(k, a, b)])) (hkp : KpB kb wx w8) (v : Value) :
    DRetAns kb ops ws w (.returned (.string (bsv t))) (w8.setCell ⟨w.heap.size, 0, none⟩ v) := by
  have hkw := h.db.lt
  have hz : w0.heap.size = w.heap.size + 1 := by rw [h0, World.size_alloc]
  have hbx : Below w.heap.size w wx := by
    have h1 : Below w.heap.size w w0 := by rw [h0]; exact (Below.refl _ _).alloc (Nat.le_refl _) _
    exact h1.trans (hx.mono (by omega))
  have hbox : wx.heap[w.heap.size]? = some (.cells #[.string ⟨#[]⟩] 9 (0, 0)) := by
    rw [hx.block _ (by omega), h0]
    exact heap_alloc_new _ _
  have hbox8 := hkp.oth _ _ hbox (fun e => by have := Option.some.inj e; omega) (fun cs fz e => by cases e)
  have hK : KpB kb w w8 := (KpB.of hbx hkw).trans hkp
  have hKs := hK.setNew (p := ⟨w.heap.size, 0, none⟩) (v := v) (Nat.le_refl _) hkw
  refine ⟨by rw [ha], ?_, hKs⟩
  rw [ha]
  refine ⟨?_, h.ld.below hKs.bel h.kb hKs.bel.size, h.kb, by simp; omega, ⟨fun o ho => ?_⟩⟩
  · rw [runR_snoc]
    exact hdb.setStr hbox8 (by show w.heap.size ≠ kb; omega)
  · rcases List.mem_append.mp ho with ho | ho
    · exact h.bd.each o ho
    · rw [List.mem_singleton.mp ho]
      exact hop
set_option maxRecDepth 100000 in
set_option maxHeartbeats 8000000 in
theorem answer_any (kb : Nat) (ops : List OP) (wA : Option Addr) (wn wc : Nat) (ws : List (List UInt8)) (w : World) (h : DK w kb ops) (hl : ops.length < 300) (hW : WS w wA wn wc ws) (hne : ws ≠ []) (hwn : wc ≤ 9223372036854775807) :
    Calls Tryz.prog 46 #[.pointer (some ⟨kb, 0, none⟩), .slice wA wn wc] w (DRetAns kb ops ws w) := by
  obtain ⟨first, rest, rfl⟩ : ∃ a b, ws = a :: b := by cases ws with | nil => exact absurd rfl hne | cons a b => exact ⟨a, b, rfl⟩
  obtain ⟨n, rfl⟩ : ∃ n, wn = n + 1 := ⟨rest.length, by have := hW.len; simp at this; omega⟩
  have hcap := hW.cap
  obtain ⟨b, off, rfl, hb, hc⟩ := hW.at_ (by omega)
  have hfirst : w.cell? ⟨b, off, none⟩ = some (.string (bsv first)) := hc 0 (by omega)
  have HW := Lib.hid hW
  have HD := Lib.hid h
  have HKB := Lib.hid h.db.lt
  obtain ⟨w0, hw0⟩ : ∃ x, x = w.alloc (.cells #[.string ⟨#[]⟩] 9) := ⟨_, rfl⟩
  have hb0 : Below w.heap.size w w0 := by rw [hw0]; exact (Below.refl _ _).alloc (Nat.le_refl _) _
  have hz0 : w0.heap.size = w.heap.size + 1 := by rw [hw0, World.size_alloc]
  have hbox : w0.heap[w.heap.size]? = some (.cells #[.string ⟨#[]⟩] 9 (0, 0)) := by rw [hw0]; exact heap_alloc_new _ _
  have HB0 := Lib.hid hb0
  have HZ0 := Lib.hid hz0
  have HBOX := Lib.hid hbox
  have HF : Hid (w0.cell? ⟨b, off, none⟩ = some (.string (bsv first))) := (hb0.cell (p := ⟨b, off, none⟩) hb).trans hfirst
  have HW0 : Hid (w0 = w.alloc (.cells #[.string ⟨#[]⟩] 9)) := hw0
  have hmf : ∀ (fn : Fn) (first cap : Array Value) (w : World), (Instr.makeFunc fn first cap).run Tryz.prog w = .ok (.func fn first cap) w := fun _ _ _ _ => rfl
  have hn1 : (1 : Int) ≤ (n : Int) + 1 := by omega
  have hc1 : (n : Int) + 1 ≤ (wc : Int) := by omega
  have hc2 : (1 : Int) ≤ (wc : Int) := by omega
  have hn0 : (0 : Int) < (n : Int) + 1 := by omega
  clear h hW hne hc hfirst hb0 hz0 hbox
  go_enter_defers Tryz.func46, Tryz.ntmps46
  go_upto_region 2 with fail
  rw [← hw0]
  clear hw0
  go_cut [5, 6] from 8 (fun s5 s6 wx => ∃ (A' : Option Addr) (c' : Nat), s5 = .string (bsv first) ∧ s6 = .slice A' n c' ∧ Hid (WS wx A' n c' rest ∧ Below w0.heap.size w0 wx))
  case first =>
    have hF := HF.out
    by_cases h1 : wc = 1
    · obtain rfl : n = 0 := by omega
      subst h1
      go_quiet (fail)
      go_wp2_with fail
      go_meet
      case rel => exact ⟨_, _, rfl, rfl, Lib.hid ⟨(WS.tail HW.out (fun b' off' e h0 => absurd h0 (by omega))).below (below_drewN HB0.out _), below_drewN (Below.refl _ _) _⟩⟩
    · go_quiet (fail)
      go_wp2_with fail
      go_meet
      case rel => exact ⟨_, _, rfl, rfl, Lib.hid ⟨(WS.tail HW.out (fun b' off' e h0 => by cases e; rfl)).below (below_drewN HB0.out _), below_drewN (Below.refl _ _) _⟩⟩
  case rest =>
  obtain ⟨A', c', rfl, rfl, HWX⟩ := hcut
  obtain ⟨w1, rfl⟩ : ∃ x, x = wc := ⟨wc, rfl⟩
  -- WAYS
  have hbx : ∀ wz, Below w0.heap.size w0 wz → wz.cell? ⟨w.heap.size, 0, none⟩ = some (.string ⟨#[]⟩) ∧ wz.frozen? ⟨w.heap.size, 0, none⟩ = false ∧ w.heap.size < wz.heap.size := fun wz hz => by
    have h1 : wz.heap[w.heap.size]? = some (.cells #[.string ⟨#[]⟩] 9 (0, 0)) := (hz.block _ (by have := HZ0.out; omega)).trans HBOX.out
    exact ⟨by simp [World.cell?, h1], by simp [World.frozen?, h1], (Array.getElem?_eq_some_iff.1 h1).1⟩
  have HBX := Lib.hid hbx
  have hB1x := HWX.out.2
  have hB1 : Below w.heap.size w w1 := HB0.out.trans (hB1x.mono HB0.out.size)
  have HB1x := Lib.hid hB1x
  have HB1 := Lib.hid hB1
  have HD1 : Hid (DK w1 kb ops) := Lib.hid (HD.out.below hB1)
  have HWR : Hid (WS w1 A' n c' rest) := Lib.hid HWX.out.1
  have f : ∀ m, (first == m) = decide (first = m) := fun m => by rw [Bool.eq_iff_iff]; simp
  have HKI := Lib.hid (kindOf_any first w1)
  clear hbx hB1x hB1 HWX hn1 hc1 hc2 hn0
  by_cases hk : kindB first = 0
  · have hk0 : (kindB first : Int) = 0 := by omega
    have hq0 : ((kindB first : Int) != 0) = false := by rw [hk0]; rfl
    have HK0 := Lib.hid hk
    clear hk hk0
    by_cases h0 : first = [112, 97, 116, 104]
    · have hdummy : True := trivial
      have g0 : (first == [112, 97, 116, 104]) = true := by rw [f]; simp [h0]
      have HA0 : Hid (dAns ops (first :: rest) = pathR ops (nms 1 rest)) := by
        show _ = _
        unfold dAns
        simp only [HK0.out, ne_eq, not_true_eq_false, if_false]
        rw [if_pos h0]
      clear f h0
      have HNS := Lib.hid (numbersOf_any A' n c' 1 rest w1 HWR.out (by omega))
      obtain ⟨R, hR⟩ : ∃ R, nms 1 rest = R := ⟨_, rfl⟩
      rw [hR] at HNS HA0
      have HLN : Hid (∀ ks, R = some ks → ks.length = 1) := fun ks e => nms_len (by rw [hR, e])
      clear hR
      go_wp2_with fail
      refine HKI.out.mono ?_
      rintro e x ⟨rfl, hx⟩
      subst hx
      go_wp2_with fail
      refine HNS.out.mono ?_
      rintro e w2 hr
      cases R with
      | none =>
        obtain ⟨rfl, hb2⟩ := hr
        have hB2x := HB1x.out.trans (hb2.mono HB1x.out.size)
        have hB2 := HB1.out.trans (hb2.mono HB1.out.size)
        clear hb2
        go_wp2
        exact door_slip (er := 1) rfl (by first | decide | omega) (HD.out.below hB2).ld (HBX.out _ hB2x).1 (HBX.out _ hB2x).2.1 (HBX.out _ hB2x).2.2 (fun wq hq => ans_slip HD.out HA0.out hB2 hq _)
      | some ks =>
        have h2 := HLN.out ks rfl
        obtain ⟨k, rfl⟩ : ∃ k, ks = [k] := by
          match ks, h2 with
          | [k], _ => exact ⟨k, rfl⟩
        obtain ⟨g, rfl, hI, hg, hb2⟩ := hr
        have c0 : w2.cell? ⟨g, 0, none⟩ = some (I k) := by rw [hI.cell]; rfl
        have HB2x := Lib.hid (HB1x.out.trans (hb2.mono HB1x.out.size))
        have HB2 := Lib.hid (HB1.out.trans (hb2.mono HB1.out.size))
        have HD2 := Lib.hid (HD1.out.below hb2)
        clear hb2 hI hg h2
        cases hky : kyB (k : Int) with
        | true =>
          have HP := Lib.hid (path_ok kb ops k w2 HD2.out hky)
          have HA : Hid (dAns ops (first :: rest) = (orN (jnd ((stops (kys (runR ops).1) k).map Prod.snd)), ops)) := by show _ = _; rw [HA0.out]; exact pathR_t hky
          go_wp2_with fail
          refine HP.out.mono ?_
          rintro e w3 ⟨rfl, hb3⟩
          have hB3x := HB2x.out.trans (hb3.mono HB2x.out.size)
          have HB3 := Lib.hid (HB2.out.trans (hb3.mono HB2.out.size))
          obtain ⟨b0, b1, b2⟩ := HBX.out _ hB3x
          clear hb3 hB3x
          go_wp2
          exact door_ret rfl (World.cell?_setCell_same _ _ _ b0) (ans_read HD.out HA.out HB3.out _)
        | false =>
          have HP := Lib.hid (path_bad kb ops k w2 HD2.out hky)
          have HA : Hid (dAns ops (first :: rest) = (e1T, ops)) := by show _ = _; rw [HA0.out]; exact pathR_f hky
          go_wp2_with fail
          refine HP.out.mono ?_
          rintro e w3 ⟨rfl, hb3⟩
          have hB3x := HB2x.out.trans (hb3.mono HB2x.out.size)
          have hB3 := HB2.out.trans (hb3.mono HB2.out.size)
          clear hb3
          go_wp2
          exact door_slip (er := 1) rfl (by first | decide | omega) (HD.out.below hB3).ld (HBX.out _ hB3x).1 (HBX.out _ hB3x).2.1 (HBX.out _ hB3x).2.2 (fun wq hq => ans_slip HD.out HA.out hB3 hq _)
    · by_cases h1 : first = [114, 111, 119, 115]
      · have hdummy : True := trivial
        have g0 : (first == [112, 97, 116, 104]) = false := by rw [f]; simp [h0]
        have g1 : (first == [114, 111, 119, 115]) = true := by rw [f]; simp [h1]
        have HA0 : Hid (dAns ops (first :: rest) = (if rest.length = 0 then orN (rowsT (rowsL (kys (runR ops).1))) else e1T, ops)) := by
          show _ = _
          unfold dAns
          simp only [HK0.out, ne_eq, not_true_eq_false, if_false]
          rw [if_neg h0]
          rw [if_pos h1]
        clear f h0 h1
        by_cases hn0 : n = 0
        · have HC : Hid (Calls Tryz.prog 97 #[.slice A' n c', I 0] w1 fun e w' => e = .returned (.tuple #[]) ∧ w1 = w') := by
            have := count_ok A' n c' w1
            rw [hn0] at this ⊢
            exact this
          have HP := Lib.hid (rows_dany kb ops w1 HD1.out)
          have HA : Hid (dAns ops (first :: rest) = (orN (rowsT (rowsL (kys (runR ops).1))), ops)) := by show _ = _; rw [HA0.out, if_pos (by rw [HWR.out.len]; exact hn0)]
          clear hn0
          go_wp2_with fail
          refine HKI.out.mono ?_
          rintro e x ⟨rfl, hx⟩
          subst hx
          go_wp2_with fail
          refine HC.out.mono ?_
          rintro e x ⟨rfl, hx⟩
          subst hx
          go_wp2_with fail
          refine HP.out.mono ?_
          rintro e w3 ⟨rfl, hb3⟩
          have hB3x := HB1x.out.trans (hb3.mono HB1x.out.size)
          have HB3 := Lib.hid (HB1.out.trans (hb3.mono HB1.out.size))
          obtain ⟨b0, b1, b2⟩ := HBX.out _ hB3x
          clear hb3 hB3x
          go_wp2
          exact door_ret rfl (World.cell?_setCell_same _ _ _ b0) (ans_read HD.out HA.out HB3.out _)
        · have HC := Lib.hid (count_bad A' n c' 0 hn0 w1)
          have HA : Hid (dAns ops (first :: rest) = (e1T, ops)) := by show _ = _; rw [HA0.out, if_neg (by rw [HWR.out.len]; exact hn0)]
          clear hn0
          go_wp2_with fail
          refine HKI.out.mono ?_
          rintro e x ⟨rfl, hx⟩
          subst hx
          go_wp2_with fail
          refine HC.out.mono ?_
          rintro e x ⟨rfl, hx⟩
          subst hx
          have hB1 := HB1.out
          have hB1x := HB1x.out
          go_wp2
          exact door_slip (er := 1) rfl (by first | decide | omega) (HD.out.below hB1).ld (HBX.out _ hB1x).1 (HBX.out _ hB1x).2.1 (HBX.out _ hB1x).2.2 (fun wq hq => ans_slip HD.out HA.out hB1 hq _)
      · by_cases h2 : first = [116, 114, 101, 101]
        · have hdummy : True := trivial
          have g0 : (first == [112, 97, 116, 104]) = false := by rw [f]; simp [h0]
          have g1 : (first == [114, 111, 119, 115]) = false := by rw [f]; simp [h1]
          have g2 : (first == [116, 114, 101, 101]) = true := by rw [f]; simp [h2]
          have HA0 : Hid (dAns ops (first :: rest) = ordR ops rest) := by
            show _ = _
            unfold dAns
            simp only [HK0.out, ne_eq, not_true_eq_false, if_false]
            rw [if_neg h0]
            rw [if_neg h1]
            rw [if_pos h2]
          clear f h0 h1 h2
          by_cases hn1 : n = 1
          · subst hn1
            have HC := Lib.hid (count_ok A' 1 c' w1)
            obtain ⟨x, hx⟩ : ∃ x, rest = [x] := by
              have := HWR.out.len
              match rest, this with
              | [x], _ => exact ⟨x, rfl⟩
            obtain ⟨b', off', rfl, hb', hc'⟩ := HWR.out.at_ (by omega)
            have hx0 : w1.cell? ⟨b', off', none⟩ = some (.string (bsv x)) := by
              have := hc' 0 (by omega)
              simp only [hx] at this
              exact this
            have HP := Lib.hid (order_dany kb ops x w1 HD1.out)
            have HAX : Hid (dAns ops (first :: rest) = ordR ops [x]) := by show _ = _; rw [HA0.out, hx]
            clear hc' hx
            go_wp2_with fail
            refine HKI.out.mono ?_
            rintro e x ⟨rfl, hx⟩
            subst hx
            go_wp2_with fail
            refine HC.out.mono ?_
            rintro e y ⟨rfl, hy⟩
            subst hy
            go_wp2_with fail
            refine HP.out.mono ?_
            rintro e w3 hr
            cases hd : dTree ops x with
            | none =>
              rw [hd] at hr
              obtain ⟨rfl, hb3⟩ := hr
              have HA : Hid (dAns ops (first :: rest) = (e1T, ops)) := by show _ = _; rw [HAX.out]; exact ordR_none hd
              have hB3x := HB1x.out.trans (hb3.mono HB1x.out.size)
              have hB3 := HB1.out.trans (hb3.mono HB1.out.size)
              clear hb3 hd
              go_wp2
              exact door_slip (er := 1) rfl (by first | decide | omega) (HD.out.below hB3).ld (HBX.out _ hB3x).1 (HBX.out _ hB3x).2.1 (HBX.out _ hB3x).2.2 (fun wq hq => ans_slip HD.out HA.out hB3 hq _)
            | some t =>
              rw [hd] at hr
              obtain ⟨rfl, hb3⟩ := hr
              have HA : Hid (dAns ops (first :: rest) = (orN (jnd t.pre), ops)) := by show _ = _; rw [HAX.out]; exact ordR_some hd
              have hB3x := HB1x.out.trans (hb3.mono HB1x.out.size)
              have HB3 := Lib.hid (HB1.out.trans (hb3.mono HB1.out.size))
              obtain ⟨b0, b1, b2⟩ := HBX.out _ hB3x
              clear hb3 hB3x hd
              go_wp2
              exact door_ret rfl (World.cell?_setCell_same _ _ _ b0) (ans_read HD.out HA.out HB3.out _)
          · have HC := Lib.hid (count_bad A' n c' 1 hn1 w1)
            have HA : Hid (dAns ops (first :: rest) = (e1T, ops)) := by
              show _ = _
              rw [HA0.out]
              have hl := HWR.out.len
              match rest, hl with
              | [], _ => rfl
              | [_], hl => exact absurd hl.symm hn1
              | _ :: _ :: _, _ => rfl
            clear hn1
            go_wp2_with fail
            refine HKI.out.mono ?_
            rintro e x ⟨rfl, hx⟩
            subst hx
            go_wp2_with fail
            refine HC.out.mono ?_
            rintro e x ⟨rfl, hx⟩
            subst hx
            have hB1 := HB1.out
            have hB1x := HB1x.out
            go_wp2
            exact door_slip (er := 1) rfl (by first | decide | omega) (HD.out.below hB1).ld (HBX.out _ hB1x).1 (HBX.out _ hB1x).2.1 (HBX.out _ hB1x).2.2 (fun wq hq => ans_slip HD.out HA.out hB1 hq _)
        · by_cases h3 : first = [100, 101, 101, 112]
          · have hdummy : True := trivial
            have g0 : (first == [112, 97, 116, 104]) = false := by rw [f]; simp [h0]
            have g1 : (first == [114, 111, 119, 115]) = false := by rw [f]; simp [h1]
            have g2 : (first == [116, 114, 101, 101]) = false := by rw [f]; simp [h2]
            have g3 : (first == [100, 101, 101, 112]) = true := by rw [f]; simp [h3]
            have HA0 : Hid (dAns ops (first :: rest) = deepR ops rest) := by
              show _ = _
              unfold dAns
              simp only [HK0.out, ne_eq, not_true_eq_false, if_false]
              rw [if_neg h0]
              rw [if_neg h1]
              rw [if_neg h2]
              rw [if_pos h3]
            clear f h0 h1 h2 h3
            by_cases hn1 : n = 1
            · subst hn1
              have HC := Lib.hid (count_ok A' 1 c' w1)
              obtain ⟨x, hx⟩ : ∃ x, rest = [x] := by
                have := HWR.out.len
                match rest, this with
                | [x], _ => exact ⟨x, rfl⟩
              obtain ⟨b', off', rfl, hb', hc'⟩ := HWR.out.at_ (by omega)
              have hx0 : w1.cell? ⟨b', off', none⟩ = some (.string (bsv x)) := by
                have := hc' 0 (by omega)
                simp only [hx] at this
                exact this
              have HP := Lib.hid (deep_dany kb ops x w1 HD1.out)
              have HAX : Hid (dAns ops (first :: rest) = deepR ops [x]) := by show _ = _; rw [HA0.out, hx]
              clear hc' hx
              go_wp2_with fail
              refine HKI.out.mono ?_
              rintro e x ⟨rfl, hx⟩
              subst hx
              go_wp2_with fail
              refine HC.out.mono ?_
              rintro e y ⟨rfl, hy⟩
              subst hy
              go_wp2_with fail
              refine HP.out.mono ?_
              rintro e w3 hr
              cases hd : dTree ops x with
              | none =>
                rw [hd] at hr
                obtain ⟨rfl, hb3⟩ := hr
                have HA : Hid (dAns ops (first :: rest) = (e1T, ops)) := by show _ = _; rw [HAX.out]; exact deepR_none hd
                have hB3x := HB1x.out.trans (hb3.mono HB1x.out.size)
                have hB3 := HB1.out.trans (hb3.mono HB1.out.size)
                clear hb3 hd
                go_wp2
                exact door_slip (er := 1) rfl (by first | decide | omega) (HD.out.below hB3).ld (HBX.out _ hB3x).1 (HBX.out _ hB3x).2.1 (HBX.out _ hB3x).2.2 (fun wq hq => ans_slip HD.out HA.out hB3 hq _)
              | some t =>
                rw [hd] at hr
                obtain ⟨rfl, hb3⟩ := hr
                have HA : Hid (dAns ops (first :: rest) = (deepT t, ops)) := by show _ = _; rw [HAX.out]; exact deepR_some hd
                have hB3x := HB1x.out.trans (hb3.mono HB1x.out.size)
                have HB3 := Lib.hid (HB1.out.trans (hb3.mono HB1.out.size))
                obtain ⟨b0, b1, b2⟩ := HBX.out _ hB3x
                clear hb3 hB3x hd
                go_wp2
                exact door_ret rfl (World.cell?_setCell_same _ _ _ b0) (ans_read HD.out HA.out HB3.out _)
            · have HC := Lib.hid (count_bad A' n c' 1 hn1 w1)
              have HA : Hid (dAns ops (first :: rest) = (e1T, ops)) := by
                show _ = _
                rw [HA0.out]
                have hl := HWR.out.len
                match rest, hl with
                | [], _ => rfl
                | [_], hl => exact absurd hl.symm hn1
                | _ :: _ :: _, _ => rfl
              clear hn1
              go_wp2_with fail
              refine HKI.out.mono ?_
              rintro e x ⟨rfl, hx⟩
              subst hx
              go_wp2_with fail
              refine HC.out.mono ?_
              rintro e x ⟨rfl, hx⟩
              subst hx
              have hB1 := HB1.out
              have hB1x := HB1x.out
              go_wp2
              exact door_slip (er := 1) rfl (by first | decide | omega) (HD.out.below hB1).ld (HBX.out _ hB1x).1 (HBX.out _ hB1x).2.1 (HBX.out _ hB1x).2.2 (fun wq hq => ans_slip HD.out HA.out hB1 hq _)
          · have hdummy : True := trivial
            have g0 : (first == [112, 97, 116, 104]) = false := by rw [f]; simp [h0]
            have g1 : (first == [114, 111, 119, 115]) = false := by rw [f]; simp [h1]
            have g2 : (first == [116, 114, 101, 101]) = false := by rw [f]; simp [h2]
            have g3 : (first == [100, 101, 101, 112]) = false := by rw [f]; simp [h3]
            have HA0 : Hid (dAns ops (first :: rest) = (e1T, ops)) := by
              show _ = _
              unfold dAns
              simp only [HK0.out, ne_eq, not_true_eq_false, if_false]
              rw [if_neg h0]
              rw [if_neg h1]
              rw [if_neg h2]
              rw [if_neg h3]

            clear f h0 h1 h2 h3
            go_wp2_with fail
            refine HKI.out.mono ?_
            rintro e x ⟨rfl, hx⟩
            subst hx
            have hB1 := HB1.out
            have hB1x := HB1x.out
            go_wp2
            exact door_slip (er := 1) rfl (by first | decide | omega) (HD.out.below hB1).ld (HBX.out _ hB1x).1 (HBX.out _ hB1x).2.1 (HBX.out _ hB1x).2.2 (fun wq hq => ans_slip HD.out HA0.out hB1 hq _)
  · have hq0 : ((kindB first : Int) != 0) = true := by simp; omega
    have HOP := Lib.hid (opOf_any (kindB first) A' n c' rest w1 HWR.out)
    have HA0 : Hid (dAns ops (first :: rest) = opR ops (dOp (kindB first) rest)) := by
      show _ = _
      show (if kindB first ≠ 0 then opR ops (dOp (kindB first) rest) else _) = _
      rw [if_pos hk]
    obtain ⟨kq, hkq⟩ : ∃ k, kindB first = k := ⟨_, rfl⟩
    rw [hkq] at hq0 HOP HA0 HKI
    cases hd : dOp kq rest with
    | none =>
      rw [hd] at HOP HA0
      clear f hk hkq hd
      go_wp2_with fail
      refine HKI.out.mono ?_
      rintro e x ⟨rfl, hx⟩
      subst hx
      go_wp2_with fail
      refine HOP.out.mono ?_
      rintro e w2 ⟨rfl, hb2⟩
      have hB2x := HB1x.out.trans (hb2.mono HB1x.out.size)
      have hB2 := HB1.out.trans (hb2.mono HB1.out.size)
      clear hb2
      go_wp2
      exact door_slip (er := 1) rfl (by first | decide | omega) (HD.out.below hB2).ld (HBX.out _ hB2x).1 (HBX.out _ hB2x).2.1 (HBX.out _ hB2x).2.2 (fun wq hq => ans_slip HD.out HA0.out hB2 hq _)
    | some o =>
      obtain ⟨k, a, b2⟩ := o
      have hob := dOp_bd hd
      rw [hd] at HOP HA0
      clear f hk hkq hd
      go_wp2_with fail
      refine HKI.out.mono ?_
      rintro e x ⟨rfl, hx⟩
      subst hx
      go_wp2_with fail
      refine HOP.out.mono ?_
      rintro e w2 ⟨rfl, hb2⟩
      have hB2x := HB1x.out.trans (hb2.mono HB1x.out.size)
      have hB2 := HB1.out.trans (hb2.mono HB1.out.size)
      have HB2x := Lib.hid hB2x
      have HB2 := Lib.hid hB2
      have hD2 := HD.out.below hB2
      have HDO := Lib.hid (ddo_any kb (runR ops).1 ops k a b2 w2 hD2.db (by omega) hD2.ld hD2.kb (chk_runR ops) (fun _ => doA_bd (chk_runR ops) (runR_vals _ ops rfl HD.out.bd)))
      have HOBD := Lib.hid hob
      clear hb2 hB2x hB2 hD2 hob
      go_wp2_with fail
      refine HDO.out.mono ?_
      rintro e w3 hr
      rcases hr with ⟨hne, rfl, hb3⟩ | ⟨he0, rfl, hdb, hkp⟩
      · obtain ⟨er, her, hel⟩ := doA_er (l := (runR ops).1) (kind := k) (key := a) (chk_runR ops)
        have HA : Hid (dAns ops (first :: rest) = (errT er, ops)) := by show _ = _; rw [HA0.out]; unfold opR; simp only []; rw [if_pos hne, her]; rfl
        have hB3x := HB2x.out.trans (hb3.mono HB2x.out.size)
        have hB3 := HB2.out.trans (hb3.mono HB2.out.size)
        rw [her]
        clear hb3 hne her
        go_wp2
        exact door_slip (er := er) rfl (by first | decide | omega) (HD.out.below hB3).ld (HBX.out _ hB3x).1 (HBX.out _ hB3x).2.1 (HBX.out _ hB3x).2.2 (fun wq hq => ans_slip HD.out HA.out hB3 hq _)
      · have HA : Hid (dAns ops (first :: rest) = (dTold k (doA (runR ops).1 k a), ops ++ [(k, a, b2)])) := by show _ = _; rw [HA0.out]; unfold opR; simp only []; rw [if_neg (by rw [he0]; simp)]
        have hbox3 := hkp.oth _ _ ((HB2x.out.block _ (by have := HZ0.out; omega)).trans HBOX.out) (fun e => by have := Option.some.inj e; have := HKB.out; omega) (fun cs fz e => by cases e)
        have b0 : w3.cell? ⟨w.heap.size, 0, none⟩ = some (.string ⟨#[]⟩) := by simp [World.cell?, hbox3]
        have b1 : w3.frozen? ⟨w.heap.size, 0, none⟩ = false := by simp [World.frozen?, hbox3]
        have HDB := Lib.hid hdb
        have HKP := Lib.hid hkp
        clear hdb hkp hbox3 he0
        go_wp2
        exact door_ret rfl (World.cell?_setCell_same _ _ _ b0) (ans_do HD.out hl HA.out ⟨HOBD.out.2.1, HOBD.out.2.2.1, HOBD.out.2.2.2.1, HOBD.out.2.2.2.2⟩ HW0.out HB2x.out HDB.out HKP.out _)
end Go.Proofs.YtpnjnedfcdppaaaGreatDoor
