/-
  Joined texts: YtpnjnedfcdppaaaGreatDoorOWout, YtpnjnedfcdppaaaGreatDoorOLop, YtpnjnedfcdppaaaGreatDoorOStand, YtpnjnedfcdppaaaGreatDoorGRefT.
-/
import Derived.Test.YtpnjnedfcdppaaaGreatDoorOIns2All
import Derived.Test.YtpnjnedfcdppaaaGreatDoorOLeafAll
import Derived.Test.YtpnjnedfcdppaaaGreatDoorSParAll
import Derived.BigRegion
import Derived.BigQuiet
import Derived.Deep.QuietTactic
import Derived.Test.YtpnjnedfcdppaaaGreatDoorOPureAll
import Derived.Test.YtpnjnedfcdppaaaGreatDoorSpotBAll
import Derived.Test.YtpnjnedfcdppaaaGreatDoorKTowAll
import Derived.Test.YtpnjnedfcdppaaaGreatDoorDOpAll
import Derived.Test.YtpnjnedfcdppaaaGreatDoorGHeapAll
import Derived.Deep.LoopGhost
import Derived.Test.YtpnjnedfcdppaaaGreatDoorChecked
import Derived.Test.YtpnjnedfcdppaaaGreatDoorStepsAll
import Derived.Deep.RegionHeld3
/-
  package goat: without, lopsided.
-/
namespace Go.Proofs.YtpnjnedfcdppaaaGreatDoor
open Go.RowKit

def RetW (g cap k : Nat) (L : PL) (w : World) (e : Ending) (w' : World) : Prop := e = .returned (.slice (some ⟨g, 0, none⟩) k cap) ∧ RB w' g 82 cap L ∧ Below g w w'

set_option maxRecDepth 100000 in
set_option maxHeartbeats 4000000 in
/-- with none on one side -/
theorem owo_one (base k g cap p f t : Nat) (L : PL) (w : World) (hr : RB w g 82 cap L) (hl : L.length = k + 1) (hm : cap ≤ maxLen) (hn : k ≤ 999) (hp : p ≤ k) (hf : frR L p = f) (ht : toR L p = t) (hone : ¬ (f < p ∧ p + 1 < t)) (hd : ∀ i, -1000 ≤ dp L i ∧ dp L i ≤ 1000) (hb : base ≤ g) :
    Calls Tryz.prog 139 #[.slice (some ⟨g, 0, none⟩) ((k + 1 : Nat)) cap, I p] w (RetW g cap k ((shf L f t (-1)).take p ++ (shf L f t (-1)).drop (p + 1)) w) := by
  have hps := hr.ps
  rw [hl] at hps
  have HP := Lib.hid (opartOf_any _ (k + 1) cap p L w hps (by omega) (by omega))
  rw [hf, ht] at HP
  have hfp : f ≤ p := by rw [← hf]; exact frR_le L p
  have htb := toR_bd L p (by omega)
  rw [ht, hl] at htb
  obtain ⟨htp, htk⟩ := htb
  have HR := Lib.hid hr
  have HL := Lib.hid hl
  have HD := Lib.hid hd
  have hgw := hr.lt
  have hcap := hr.le
  rw [hl] at hcap
  have HDEL : Hid (∀ w', RB w' g 82 cap (shf L f t (-1)) → Calls Tryz.prog 198 #[.slice (some ⟨g, 0, none⟩) ((k + 1 : Nat)) cap, I p, I ((p : Int) + 1)] w' fun e w'' => e = .returned (.slice (some ⟨g, 0, none⟩) k cap) ∧ RB w'' g 82 cap ((shf L f t (-1)).take p ++ (shf L f t (-1)).drop (p + 1)) ∧ Below g w' w'') := fun w' h' =>
    odel_any base k g cap p _ w' h' (by rw [shf_length L f t (-1) (by omega), hl]) hm (by omega) hp hb
  have hw1 : IntKind.i64.wrap ((p : Int) + 1) = (p : Int) + 1 := by rw [IntKind.wrap_i64]; omega
  have LOOP : ∀ (w1 : World), Below w.heap.size w w1 → Hid (RB w1 g 82 cap L ∧ Below g w w1) := fun w1 hb1 => ⟨hr.below hb1 hgw, hb1.mono (by omega)⟩
  clear hr hps hl hf ht hd hm
  by_cases hfp2 : f < p
  · have hpt : ¬ ((p : Int) + 1 < (t : Int)) := fun h => hone ⟨hfp2, by omega⟩
    clear hone
    go_enter Tryz.func139, Tryz.ntmps139
    go_wp2_with fail
    refine HP.out.mono ?_
    rintro e w1 ⟨rfl, hb1⟩
    have HW := LOOP w1 hb1
    clear hb1 HP LOOP
    go_wp2
    go_loopw [7] (fun i wr => ∃ j : Nat, f ≤ j ∧ j ≤ t ∧ i = .int .i64 j ∧ RB wr g 82 cap (shf L f j (-1)) ∧ Below g w wr) (fun i _ => t - (intOf i).toNat)
    case atStart => exact ⟨f, Nat.le_refl _, by omega, rfl, by rw [shf_none]; exact HW.out.1, HW.out.2⟩
    case round =>
      obtain ⟨j, hj1, hj2, rfl, hrb, hnx⟩ := hrel
      by_cases hlt : j < t
      · have hjl : j < L.length := by rw [HL.out]; omega
        have hsl := shf_length L f j (-1) hj1
        have hfar := shf_far L f j (-1) hj1 hjl
        have hdj := HD.out j
        have hcell := (hrb.sb.cell j (by omega)).2
        rw [hfar] at hcell
        have hfz : wr.frozen? ⟨g, j * 2 + 1, none⟩ = false := hrb.sb.frozen _
        have hset := hrb.set1 j (dp L j - 1) (by omega)
        have hst := shf_step L f j (-1) hj1 hjl
        rw [hfar, show dp L j + -1 = dp L j - 1 by omega] at hst
        rw [hst] at hset
        have HSET := Lib.hid hset
        have HNX := Lib.hid hnx
        have hjk : j < k + 1 := by omega
        clear hsl hfar hset hst hrb hnx hjl
        generalize dp L j = dd at *
        obtain ⟨q1, q2⟩ := hdj
        go_wp2
        go_roundw
        case rel => exact ⟨j + 1, by omega, by omega, by go_num, HSET.out, HNX.out.setCell (Nat.le_refl _) _⟩
        case measure => simp [intOf]; omega
      · obtain rfl : j = t := by omega
        have HC := Lib.hid (HDEL.out wr hrb)
        have HNX := Lib.hid hnx
        clear hrb hnx HDEL
        go_wp2_with fail
        refine HC.out.mono ?_
        rintro e w2 ⟨rfl, hrb2, hb2⟩
        have HRB2 := Lib.hid hrb2
        have HB2 := Lib.hid (HNX.out.trans hb2)
        clear hrb2 hb2
        go_wp2
        go_ret
        exact ⟨rfl, HRB2.out, HB2.out⟩
  · clear hone
    go_enter Tryz.func139, Tryz.ntmps139
    go_wp2_with fail
    refine HP.out.mono ?_
    rintro e w1 ⟨rfl, hb1⟩
    have HW := LOOP w1 hb1
    clear hb1 HP LOOP
    go_wp2
    go_loopw [7] (fun i wr => ∃ j : Nat, f ≤ j ∧ j ≤ t ∧ i = .int .i64 j ∧ RB wr g 82 cap (shf L f j (-1)) ∧ Below g w wr) (fun i _ => t - (intOf i).toNat)
    case atStart => exact ⟨f, Nat.le_refl _, by omega, rfl, by rw [shf_none]; exact HW.out.1, HW.out.2⟩
    case round =>
      obtain ⟨j, hj1, hj2, rfl, hrb, hnx⟩ := hrel
      by_cases hlt : j < t
      · have hjl : j < L.length := by rw [HL.out]; omega
        have hsl := shf_length L f j (-1) hj1
        have hfar := shf_far L f j (-1) hj1 hjl
        have hdj := HD.out j
        have hcell := (hrb.sb.cell j (by omega)).2
        rw [hfar] at hcell
        have hfz : wr.frozen? ⟨g, j * 2 + 1, none⟩ = false := hrb.sb.frozen _
        have hset := hrb.set1 j (dp L j - 1) (by omega)
        have hst := shf_step L f j (-1) hj1 hjl
        rw [hfar, show dp L j + -1 = dp L j - 1 by omega] at hst
        rw [hst] at hset
        have HSET := Lib.hid hset
        have HNX := Lib.hid hnx
        have hjk : j < k + 1 := by omega
        clear hsl hfar hset hst hrb hnx hjl
        generalize dp L j = dd at *
        obtain ⟨q1, q2⟩ := hdj
        go_wp2
        go_roundw
        case rel => exact ⟨j + 1, by omega, by omega, by go_num, HSET.out, HNX.out.setCell (Nat.le_refl _) _⟩
        case measure => simp [intOf]; omega
      · obtain rfl : j = t := by omega
        have HC := Lib.hid (HDEL.out wr hrb)
        have HNX := Lib.hid hnx
        clear hrb hnx HDEL
        go_wp2_with fail
        refine HC.out.mono ?_
        rintro e w2 ⟨rfl, hrb2, hb2⟩
        have HRB2 := Lib.hid hrb2
        have HB2 := Lib.hid (HNX.out.trans hb2)
        clear hrb2 hb2
        go_wp2
        go_ret
        exact ⟨rfl, HRB2.out, HB2.out⟩

/-- what stands there then -/
theorem del_left {L : PL} {p : Nat} {d : Int} {k : Int} {b : Tr} {pre post : PL} (h : At L p d .nil k b pre post) : (shf L (frR L p) (toR L p) (-1)).take p ++ (shf L (frR L p) (toR L p) (-1)).drop (p + 1) = pre ++ b.sp d ++ post := by
  have hp := h.part
  have hi := h.idx
  rw [hp.1, hp.2]
  have e := shf_at (by_ := -1) h.eq (x := pre.length) rfl (y := pre.length + (Tr.nil.size + 1 + b.size)) (by rw [sp_length]; rfl)
  rw [e, sp_shift]
  have e2 : (Tr.node .nil k b).sp (d + -1) = (k, d + -1) :: b.sp d := by
    rw [Tr.sp, show d + -1 + 1 = d by omega]
    rfl
  simp only [Tr.size, Nat.add_zero] at hi
  rw [e2, hi]
  have e3 : pre ++ (k, d + -1) :: b.sp d ++ post = pre ++ ((k, d + -1) :: (b.sp d ++ post)) := by simp
  rw [e3, List.take_left]
  have e4 : pre ++ ((k, d + -1) :: (b.sp d ++ post)) = (pre ++ [(k, d + -1)]) ++ (b.sp d ++ post) := by simp
  rw [e4, show pre.length + 1 = (pre ++ [(k, d + -1)]).length by simp, List.drop_left]
  simp
theorem del_right {L : PL} {p : Nat} {d : Int} {k : Int} {a : Tr} {pre post : PL} (h : At L p d a k .nil pre post) : (shf L (frR L p) (toR L p) (-1)).take p ++ (shf L (frR L p) (toR L p) (-1)).drop (p + 1) = pre ++ a.sp d ++ post := by
  have hp := h.part
  have hi := h.idx
  rw [hp.1, hp.2]
  have e := shf_at (by_ := -1) h.eq (x := pre.length) rfl (y := pre.length + (a.size + 1 + Tr.nil.size)) (by rw [sp_length]; rfl)
  rw [e, sp_shift]
  have e2 : (Tr.node a k .nil).sp (d + -1) = a.sp d ++ [(k, d + -1)] := by
    rw [Tr.sp, show d + -1 + 1 = d by omega]
    rfl
  have hl : (pre ++ a.sp d).length = p := by rw [List.length_append, sp_length]; omega
  rw [e2]
  have e3 : pre ++ (a.sp d ++ [(k, d + -1)]) ++ post = (pre ++ a.sp d) ++ ((k, d + -1) :: post) := by simp
  rw [e3, List.take_left' hl]
  have e4 : (pre ++ a.sp d) ++ ((k, d + -1) :: post) = (pre ++ a.sp d ++ [(k, d + -1)]) ++ post := by simp
  rw [e4, List.drop_left' (by rw [List.length_append, hl]; rfl)]

theorem ctx_le {d0 d : Int} {pre post : PL} (h : Ctx d0 d pre post) : d ≤ d0 + (pre.length + post.length : Nat) := by
  induction h with
  | hole => simp
  | left k b _ ih => simp; omega
  | right a k _ ih => simp; omega
theorem at_dp {L : PL} {p : Nat} {d : Int} {a : Tr} {k : Int} {b : Tr} {pre post : PL} (h : At L p d a k b pre post) {n : Nat} (hn : L.length ≤ n) (hn2 : n ≤ 1000) : ∀ i, -1000 ≤ dp L i ∧ dp L i ≤ 1000 := by
  intro i
  obtain ⟨t, ht⟩ := h.ctx.fill (.node a k b)
  rw [← h.eq] at ht
  rcases Nat.lt_or_ge i L.length with hi | hi
  · rw [← ht, sp_length] at hi
    have h1 := sp_ge t 0 i hi
    have h2 := dp_sp_lt t 0 i hi
    rw [ht] at h1 h2
    have h3 : t.size = L.length := by rw [← ht, sp_length]
    omega
  · have : dp L i = 0 := by simp [dp, List.getElem?_eq_none hi]
    omega

theorem least_first : ∀ (b : Tr), b ≠ .nil → ∀ d, ky (b.sp d) 0 = b.least := by
  intro b
  induction b with
  | nil => intro h; exact absurd rfl h
  | node a k c iha _ =>
    intro _ d
    by_cases ha : a = .nil
    · subst ha
      simp [Tr.sp, ky, Tr.least, Tr.isNil]
    · have hn : a.isNil = false := by cases a <;> simp_all [Tr.isNil]
      have hz : 0 < a.size := by
        cases a with
        | nil => exact absurd rfl ha
        | node x y z => simp only [Tr.size]; omega
      rw [Tr.sp, ky_left (by rw [sp_length]; exact hz), iha ha (d + 1)]
      simp [Tr.least, hn]
theorem size_pos {t : Tr} (h : t ≠ .nil) : 0 < t.size := by
  cases t with
  | nil => exact absurd rfl h
  | node a k b => simp only [Tr.size]; omega

set_option maxRecDepth 100000 in
set_option maxHeartbeats 4000000 in
/-- whoever has both: the next one comes in its place -/
theorem owo_two (base n g cap p : Nat) (L : PL) (d : Int) (a : Tr) (x : Int) (b : Tr) (pre post : PL) (w : World) (hr : RB w g 82 cap L) (hl : L.length = n + 1) (hm : cap ≤ maxLen) (hn : n ≤ 999) (hat : At L p d a x b pre post) (ha : a ≠ .nil) (hbn : b ≠ .nil) (hb : base ≤ g) :
    Calls Tryz.prog 139 #[.slice (some ⟨g, 0, none⟩) ((n + 1 : Nat)) cap, I p] w (RetW g cap n (pre ++ (Tr.node a b.least b.cutl).sp d ++ post) w) := by
  have hps := hr.ps
  rw [hl] at hps
  have hlen := hat.len
  have hidx := hat.idx
  have hsa := size_pos ha
  have hsb := size_pos hbn
  have HP := Lib.hid (opartOf_any _ (n + 1) cap p L w hps (by omega) (by omega))
  obtain ⟨f, hf⟩ : ∃ f, frR L p = f := ⟨_, rfl⟩
  obtain ⟨t, ht⟩ : ∃ t, toR L p = t := ⟨_, rfl⟩
  have hpart := hat.part
  rw [hf, ht] at hpart
  rw [hf, ht] at HP
  have h1 : f < p := by omega
  have h2 : (p : Int) + 1 < (t : Int) := by omega
  have h3 : p + 1 < n + 1 := by omega
  have hcap := hr.le
  rw [hl] at hcap
  -- the key that comes up
  have hk1 : ky L (p + 1) = b.least := by
    have hq : L = (pre ++ a.sp (d + 1) ++ [(x, d)]) ++ (b.sp (d + 1) ++ post) := by rw [hat.eq]; simp [Tr.sp]
    have hql : (pre ++ a.sp (d + 1) ++ [(x, d)]).length = p + 1 := by simp [sp_length]; omega
    rw [hq, ky_right (by omega), hql, Nat.sub_self, ky_left (by rw [sp_length]; exact hsb), least_first b hbn]
  have hL1 : L.set p (b.least, dp L p) = pre ++ (Tr.node a b.least b).sp d ++ post := by
    rw [hat.root.1]
    have hq : L = (pre ++ a.sp (d + 1)) ++ ((x, d) :: (b.sp (d + 1) ++ post)) := by rw [hat.eq]; simp [Tr.sp]
    have hql : (pre ++ a.sp (d + 1)).length = p := by simp [sp_length]; omega
    rw [hq, List.set_append_right _ _ (by omega), hql, Nat.sub_self, List.set_cons_zero]
    simp [Tr.sp]
  obtain ⟨d', c, post', c1, c2, c3⟩ := find_least b hbn (d + 1) (pre ++ a.sp (d + 1) ++ [(b.least, d)]) post (.right a b.least hat.ctx)
  have hat2 : At (pre ++ (Tr.node a b.least b).sp d ++ post) (p + 1) d' .nil b.least c (pre ++ a.sp (d + 1) ++ [(b.least, d)]) post' := by
    refine ⟨c1, ?_, ?_⟩
    · rw [← c2]
      simp [Tr.sp]
    · simp [sp_length, Tr.size]
      omega
  have hfin : pre ++ a.sp (d + 1) ++ [(b.least, d)] ++ c.sp d' ++ post' = pre ++ (Tr.node a b.least b.cutl).sp d ++ post := by
    rw [← c3]
    simp [Tr.sp]
  have hl1 : (pre ++ (Tr.node a b.least b).sp d ++ post).length = n + 1 := by rw [← hL1, List.length_set, hl]
  have HREC : Hid (∀ w', RB w' g 82 cap (pre ++ (Tr.node a b.least b).sp d ++ post) → Calls Tryz.prog 139 #[.slice (some ⟨g, 0, none⟩) ((n + 1 : Nat)) cap, I ((p : Int) + 1)] w' (RetW g cap n (pre ++ (Tr.node a b.least b.cutl).sp d ++ post) w')) := fun w' h' => by
    have hp2 := hat2.part
    have hi2 := hat2.idx
    have hln2 := hat2.len
    simp only [Tr.size] at hi2 hp2 hln2
    have := owo_one base n g cap (p + 1) _ _ _ w' h' hl1 hm hn (by omega) rfl rfl (by rw [hp2.1]; omega) (at_dp hat2 (Nat.le_of_eq hl1) (by omega)) hb
    rw [del_left hat2, hfin] at this
    exact this
  have hgw := hr.lt
  have HSET : Hid (∀ w1, Below w.heap.size w w1 → w1.cell? ⟨g, (p + 1) * 2, none⟩ = some (I b.least) ∧ (∃ old, w1.cell? ⟨g, p * 2, none⟩ = some (I old)) ∧ w1.frozen? ⟨g, p * 2, none⟩ = false ∧ RB (w1.setCell ⟨g, p * 2, none⟩ (I b.least)) g 82 cap (pre ++ (Tr.node a b.least b).sp d ++ post) ∧ Below g w (w1.setCell ⟨g, p * 2, none⟩ (I b.least))) := fun w1 hb1 => by
    have hr1 := hr.below hb1 hgw
    refine ⟨?_, ⟨_, (hr1.sb.cell p (by omega)).1⟩, hr1.sb.frozen _, ?_, ?_⟩
    · rw [← hk1]
      exact (hr1.sb.cell (p + 1) (by omega)).1
    · rw [← hL1]
      exact hr1.set0 p b.least (by omega)
    · have hb2 : Below g w w1 := hb1.mono (by omega)
      exact hb2.setCell (Nat.le_refl _) _
  generalize b.least = y at *
  generalize pre ++ (Tr.node a y b).sp d ++ post = L1 at *
  generalize pre ++ (Tr.node a y b.cutl).sp d ++ post = L2 at *
  clear hr hps hlen hidx hat hpart hk1 hL1 c1 c2 c3 hat2 hfin hl1 hf ht ha hbn hsa hsb hl hm
  go_enter Tryz.func139, Tryz.ntmps139
  go_wp2_with fail
  refine HP.out.mono ?_
  rintro e w1 ⟨rfl, hb1⟩
  obtain ⟨g1, ⟨old, g2⟩, g3, g4, g5⟩ := HSET.out w1 hb1
  have HRB := Lib.hid g4
  have HBB := Lib.hid g5
  clear hb1 HP HSET g4 g5
  go_wp2_with fail
  refine (HREC.out _ HRB.out).mono ?_
  rintro e w2 ⟨rfl, hrb2, hb2⟩
  have HRB2 := Lib.hid hrb2
  have HB2 := Lib.hid (HBB.out.trans hb2)
  clear hrb2 hb2
  go_wp2
  go_ret
  exact ⟨rfl, HRB2.out, HB2.out⟩

/-- a key is taken out of a tree's spots -/
theorem owo_any (base n g cap p : Nat) (t : Tr) (x : Int) (w : World) (hr : RB w g 82 cap (t.sp 0)) (hl : t.size = n + 1) (hm : cap ≤ maxLen) (hn : n ≤ 999) (hu : Up t.ks) (hx : x ∈ t.ks) (hp : p < t.size) (hk : ky (t.sp 0) p = x) (hb : base ≤ g) :
    Calls Tryz.prog 139 #[.slice (some ⟨g, 0, none⟩) ((n + 1 : Nat)) cap, I p] w (RetW g cap n ((t.del x).sp 0) w) := by
  obtain ⟨d, a, b, pre, post, c1, c2, c3, c4⟩ := find_key t 0 [] [] .hole hu hx
  rw [List.nil_append, List.append_nil] at c3 c4
  have hat0 : At (t.sp 0) (pre.length + a.size) d a x b pre post := ⟨c1, c3, rfl⟩
  have hpp : p = pre.length + a.size := by
    have h1 := hat0.root.2
    have h2 := hat0.len
    rw [sp_length] at h2
    rcases Nat.lt_trichotomy p (pre.length + a.size) with h | h | h
    · have := up_place (d := 0) hu (p := pre.length + a.size) (by omega) p h; omega
    · exact h
    · have := up_place (d := 0) hu hp _ h; omega
  rw [← hpp] at hat0
  have hL : (t.sp 0).length = n + 1 := by rw [sp_length, hl]
  rw [c4]
  obtain ⟨u1, u2, u3, u4⟩ := up_node.1 c2
  rw [Tr.del, if_neg (Int.lt_irrefl _), if_neg (Int.lt_irrefl _)]
  have hpart := hat0.part
  have hidx := hat0.idx
  by_cases ha : a = .nil
  · subst ha
    rw [if_pos (show Tr.nil.isNil = true from rfl)]
    simp only [Tr.size] at hpart hidx
    have := owo_one base n g cap p _ _ _ w hr hL hm hn (by omega) rfl rfl (by rw [hpart.1]; omega) (at_dp hat0 (Nat.le_of_eq hL) (by omega)) hb
    rw [del_left hat0] at this
    exact this
  · have hna : a.isNil = false := by cases a <;> simp_all [Tr.isNil]
    rw [if_neg (by simp [hna])]
    by_cases hbb : b = .nil
    · subst hbb
      rw [if_pos (show Tr.nil.isNil = true from rfl)]
      simp only [Tr.size] at hpart hidx
      have := owo_one base n g cap p _ _ _ w hr hL hm hn (by omega) rfl rfl (by rw [hpart.2]; omega) (at_dp hat0 (Nat.le_of_eq hL) (by omega)) hb
      rw [del_right hat0] at this
      exact this
    · have hnb : b.isNil = false := by cases b <;> simp_all [Tr.isNil]
      rw [if_neg (by simp [hnb]), del_least u2 hbb]
      exact owo_two base n g cap p _ d a x b pre post w hr hL hm hn hat0 ha hbb hb

end Go.Proofs.YtpnjnedfcdppaaaGreatDoor

/-
  package goat: lopsided.
-/
namespace Go.Proofs.YtpnjnedfcdppaaaGreatDoor
open Go.RowKit

/-- what lopsided tells of a row in block g -/
def lopV (g c : Nat) : Option (Nat × Nat × Int) → Value
  | none => .tuple #[.slice none 0 0, I 0]
  | some (f, t, d) => .tuple #[.slice (some ⟨g, f * 2, none⟩) (t - f) (c - f), I d]

set_option maxRecDepth 100000 in
set_option maxHeartbeats 4000000 in
theorem olop_any (g n c p m0 : Nat) (l : PL) (R : Option (Nat × Nat × Int)) (w : World) (h : PS w (some ⟨g, 0, none⟩) n c l) (hT : IsTree l) (hp : p < n) (hC : Clm l m0 (par l p) R) :
    Calls Tryz.prog 138 #[.slice (some ⟨g, 0, none⟩) n c, I p] w fun e w' => e = .returned (lopV g c R) ∧ Below w.heap.size w w' := by
  have hn : n ≤ 200 := by have := hT.1; rw [h.len] at this; exact this
  have HP := Lib.hid (Parents_ok _ n c l w h hT)
  have H := Lib.hid h
  have HL := Lib.hid h.len
  have HC := Lib.hid hC
  have hcap := h.rd.1
  clear h hT hC
  go_enter Tryz.func138, Tryz.ntmps138
  go_wp2_with fail
  refine HP.out.mono ?_
  rintro e w1 ⟨A1, n1, c1, rfl, his, hb1, _⟩
  obtain rfl : n1 = n := by rw [← his.len, parL_length]; exact HL.out
  obtain ⟨b, off, rfl, hb, hci⟩ := his.at_ (by omega)
  have HCI : Hid (∀ i, i < n1 → w1.cell? ⟨b, off + i, none⟩ = some (I (par l i))) := fun i hi => by
    have h1 := hci i hi
    have h2 := parL_at l i (by rw [HL.out]; exact hi)
    rw [List.getElem?_eq_getElem (by rw [parL_length, HL.out]; exact hi)] at h2
    rw [h1, Option.some.inj h2]
  have hc0 := HCI.out p hp
  have HB1 := Lib.hid hb1
  clear hci his hb1 HP
  go_wp2
  go_loopg [8] m0 (fun m x wr => ∃ at_ : Int, x = I at_ ∧ Clm l m at_ R ∧ Below w1.heap.size w1 wr)
  case atStart => exact ⟨_, rfl, HC.out, Below.refl _ _⟩
  case round =>
    obtain ⟨at_, rfl, hclm, hnx⟩ := hrel
    have HNX := Lib.hid hnx
    have HBX := Lib.hid (below_next HB1.out hnx)
    have hsz := hnx.size
    clear hnx
    cases hclm with
    | out =>
      go_wp2
      go_ret2
      exact ⟨rfl, HBX.out⟩
    | @hit m' i hi hlean =>
      have hi' : i < n1 := by rw [← HL.out]; exact hi
      have HPO := Lib.hid (opartOf_any _ n1 c i l wr (H.out.below HBX.out) (by omega) hi')
      have hfr := frR_le l i
      have hto := toR_bd l i hi
      rw [HL.out] at hto
      unfold leansAt at hlean
      obtain ⟨b', off', e', hbg, hcs⟩ := (H.out.below HBX.out).dat (by omega)
      cases e'
      have hcd : ∀ w2, Below wr.heap.size wr w2 → w2.cell? ⟨g, i * 2 + 1, none⟩ = some (I (dp l i)) := fun w2 hb2 => by
        have h1 := (hcs i hi').2
        rw [Nat.zero_add] at h1
        exact (hb2.cell (by exact hbg)).trans h1
      have HCD := Lib.hid hcd
      clear hcs hcd hi
      obtain ⟨f, hf⟩ : ∃ f, frR l i = f := ⟨_, rfl⟩
      obtain ⟨t, ht⟩ : ∃ t, toR l i = t := ⟨_, rfl⟩
      obtain ⟨dd, hdd⟩ : ∃ dd, dp l i = dd := ⟨_, rfl⟩
      have HV := Lib.hid (show lopV g c (some (frR l i, toR l i, dp l i)) = lopV g c (some (f, t, dd)) by rw [hf, ht, hdd])
      rw [hf, ht] at hlean HPO
      rw [hf] at hfr
      rw [ht] at hto
      rw [hdd] at HCD
      clear hf ht hdd
      go_wp2_with fail
      refine HPO.out.mono ?_
      rintro e w2 ⟨rfl, hb2⟩
      have HB2 := Lib.hid (below_next HBX.out hb2)
      have hcd := HCD.out w2 hb2
      have hfc : ¬ (c = f) := by omega
      have hft : f ≤ t := by omega
      have htc : t ≤ c := by omega
      obtain ⟨s, hs⟩ : ∃ s : Int, (if (i : Int) - (f : Int) < (t : Int) - (i : Int) - 1 then (t : Int) - (i : Int) - 1 else (i : Int) - (f : Int)) = s := ⟨_, rfl⟩
      have hl1 : 2 * ((t : Int) - (f : Int)) < 3 * s ∧ 0 ≤ s ∧ s ≤ 200 := by rw [← hs]; split <;> omega
      obtain ⟨hl1, hl2, hl3⟩ := hl1
      clear hb2 HPO HCD hlean
      go_wp2
      go_quiet (fail)
      go_wp2
      go_ret2
      exact ⟨by rw [HV.out]; rfl, below_drewN HB2.out _⟩
    | @up m' i _ hi hlean hclm' =>
      have hi' : i < n1 := by rw [← HL.out]; exact hi
      have HPO := Lib.hid (opartOf_any _ n1 c i l wr (H.out.below HBX.out) (by omega) hi')
      have hfr := frR_le l i
      have hto := toR_bd l i hi
      rw [HL.out] at hto
      unfold leansAt at hlean
      have hcp : wr.cell? ⟨b, off + i, none⟩ = some (I (par l i)) := (HNX.out.cell (by exact hb)).trans (HCI.out i hi')
      have hbw : b < wr.heap.size := by omega
      have HCL := Lib.hid hclm'
      clear hclm' hi
      generalize frR l i = f at *
      generalize toR l i = t at *
      generalize par l i = pp at *
      go_wp2_with fail
      refine HPO.out.mono ?_
      rintro e w2 ⟨rfl, hb2⟩
      have HB2 := Lib.hid (below_next HNX.out hb2)
      have hcp2 : w2.cell? ⟨b, off + i, none⟩ = some (I pp) := (hb2.cell (by exact hbw)).trans hcp
      obtain ⟨s, hs⟩ : ∃ s : Int, (if (i : Int) - (f : Int) < (t : Int) - (i : Int) - 1 then (t : Int) - (i : Int) - 1 else (i : Int) - (f : Int)) = s := ⟨_, rfl⟩
      have hl1 : ¬ 2 * ((t : Int) - (f : Int)) < 3 * s ∧ 0 ≤ s ∧ s ≤ 200 := by rw [← hs]; split <;> omega
      obtain ⟨hl1, hl2, hl3⟩ := hl1
      have hft : f ≤ t := by omega
      clear hb2 HPO hlean hcp
      go_wp2
      all_goals go_roundg m'
      all_goals first
        | omega
        | exact ⟨_, rfl, HCL.out, HB2.out⟩

end Go.Proofs.YtpnjnedfcdppaaaGreatDoor

/-
  package goat: stand, Even.
-/
namespace Go.Proofs.YtpnjnedfcdppaaaGreatDoor
open Go.RowKit

theorem RB.part {w : World} {g t cap c : Nat} {pre mid post : PL} (h : RB w g t cap (pre ++ mid ++ post)) (hc : mid.length ≤ c) : PS w (some ⟨g, pre.length * 2, none⟩) mid.length c mid := by
  have h1 := h.ps
  have h2 := h1.drop (c' := (pre ++ mid ++ post).length) pre.length (by simp) (some ⟨g, pre.length * 2, none⟩) (fun _ b off e => by cases e; simp) (by omega)
  have h3 := h2.take mid.length (by simp)
  have e : ((pre ++ mid ++ post).drop pre.length).take mid.length = mid := by
    rw [List.append_assoc, List.drop_left, List.take_left]
  rw [e] at h3
  exact ⟨h3.len, hc, h3.rd.2⟩
theorem oset_mid (pre ma mb post : PL) (k d0 d : Int) : (pre ++ (ma ++ (k, d0) :: mb) ++ post).set (pre.length + ma.length) (k, d) = pre ++ ma ++ ((k, d) :: mb ++ post) := by
  have e : pre ++ (ma ++ (k, d0) :: mb) ++ post = (pre ++ ma) ++ ((k, d0) :: (mb ++ post)) := by simp
  rw [e, List.set_append_right _ _ (by simp)]
  simp
theorem oky_mid2 (pre ma mb post : PL) (k d0 : Int) : ky (pre ++ (ma ++ (k, d0) :: mb) ++ post) (pre.length + ma.length) = k := by
  have e : pre ++ (ma ++ (k, d0) :: mb) ++ post = (pre ++ ma) ++ ((k, d0) :: (mb ++ post)) := by simp
  have := ky_mid (pre ++ ma) (mb ++ post) (k, d0)
  rw [List.length_append] at this
  rw [e]
  exact this
theorem ev_mid (ma mb : PL) (k d0 : Int) (h : ma.length = (ma.length + 1 + mb.length) / 2) : ev (kys (ma ++ (k, d0) :: mb)) = .node (ev (kys ma)) k (ev (kys mb)) := by
  have hl : (kys (ma ++ (k, d0) :: mb)).length = ma.length + 1 + mb.length := by simp [kys]; omega
  have hk : kys (ma ++ (k, d0) :: mb) = kys ma ++ k :: kys mb := by simp [kys]
  have hml : (kys ma).length = ma.length := kys_len ma
  rw [ev_eq (by rw [hk]; simp), hl, ← h, hk]
  have e1 : (kys ma ++ k :: kys mb).take ma.length = kys ma := by rw [← hml, List.take_left]
  have e2 : (kys ma ++ k :: kys mb).drop (ma.length + 1) = kys mb := by
    rw [← hml, show kys ma ++ k :: kys mb = (kys ma ++ [k]) ++ kys mb by simp, show (kys ma).length + 1 = (kys ma ++ [k]).length by simp, List.drop_left]
  have e3 : (kys ma ++ k :: kys mb)[ma.length]?.getD 0 = k := by rw [← hml]; simp
  rw [e1, e2, e3]
theorem osplit (mid : PL) (h : 0 < mid.length) : ∃ ma k d0 mb, mid = ma ++ (k, d0) :: mb ∧ ma.length = mid.length / 2 := by
  have hm : mid.length / 2 < mid.length := by omega
  refine ⟨mid.take (mid.length / 2), mid[mid.length / 2].1, mid[mid.length / 2].2, mid.drop (mid.length / 2 + 1), ?_, by rw [List.length_take]; omega⟩
  rw [show (mid[mid.length / 2].1, mid[mid.length / 2].2) = mid[mid.length / 2] from rfl, ← List.drop_eq_getElem_cons hm, List.take_append_drop]

theorem ostand_nil (A : Option Addr) (c : Nat) (d : Int) (w : World) :
    Calls Tryz.prog 67 #[.slice A 0 c, I d] w fun e w' => e = .returned (.tuple #[]) ∧ w' = w := by
  go_enter Tryz.func67, Tryz.ntmps67
  go_wp2
  refine bodyPost_ret (results_none rfl _ _ _) rfl ?_
  exact ⟨rfl, rfl⟩

def RetRB (g cap : Nat) (L : PL) (w : World) (e : Ending) (w' : World) : Prop := e = .returned (.tuple #[]) ∧ RB w' g 82 cap L ∧ Below g w w'

set_option maxRecDepth 100000 in
set_option maxHeartbeats 4000000 in
theorem ostand_any (cap : Nat) : ∀ (m g x n c : Nat) (pre mid post : PL) (d : Int) (w : World), n ≤ m → pre.length = x → mid.length = n → RB w g 82 cap (pre ++ mid ++ post) → n ≤ c → x + n ≤ 1000 → 0 ≤ d → d + n ≤ 1000 →
    Calls Tryz.prog 67 #[.slice (some ⟨g, x * 2, none⟩) n c, I d] w (RetRB g cap (pre ++ (ev (kys mid)).sp d ++ post) w) := by
  intro m
  induction m with
  | zero =>
    intro g x n c pre mid post d w hm hx hn h hc hxn hd hd2
    obtain rfl : n = 0 := by omega
    have hmid : mid = [] := List.eq_nil_of_length_eq_zero hn
    subst hmid
    refine (ostand_nil _ c d w).mono ?_
    rintro e w' ⟨rfl, rfl⟩
    exact ⟨rfl, h, Below.refl _ _⟩
  | succ m ih =>
    intro g x n c pre mid post d w hm hx hn h hc hxn hd hd2
    rcases Nat.eq_zero_or_pos n with h0 | h0
    · subst h0
      have hmid : mid = [] := List.eq_nil_of_length_eq_zero hn
      subst hmid
      refine (ostand_nil _ c d w).mono ?_
      rintro e w' ⟨rfl, rfl⟩
      exact ⟨rfl, h, Below.refl _ _⟩
    · obtain ⟨ma, k, d0, mb, rfl, hma⟩ := osplit mid (by omega)
      rw [hn] at hma
      have hlen : ma.length + 1 + mb.length = n := by rw [← hn]; simp; omega
      have hev := ev_mid ma mb k d0 (by rw [hlen]; exact hma)
      obtain ⟨y, hy⟩ : ∃ y, n / 2 = y := ⟨_, rfl⟩
      rw [hy] at hma
      have hya : ma.length = y := hma
      have hfz : w.frozen? ⟨g, x * 2 + y * 2 + 1, none⟩ = false := h.sb.frozen _
      obtain ⟨old, hcell⟩ : ∃ old, w.cell? ⟨g, x * 2 + y * 2 + 1, none⟩ = some (I old) := by
        have := (h.sb.cell (x + y) (by simp; omega)).2
        rw [Nat.add_mul] at this
        exact ⟨_, this⟩
      have HSET : Hid (RB (w.setCell ⟨g, x * 2 + y * 2 + 1, none⟩ (I d)) g 82 cap (pre ++ ma ++ ((k, d) :: mb ++ post))) := by
        have := h.set1 (x + y) d (by simp; omega)
        rw [← hx, ← hya, oky_mid2, oset_mid, hx, hya, Nat.add_mul] at this
        exact this
      have IHA : Hid (∀ w', RB w' g 82 cap (pre ++ ma ++ ((k, d) :: mb ++ post)) → Calls Tryz.prog 67 #[.slice (some ⟨g, x * 2, none⟩) y c, I (d + 1)] w' (RetRB g cap (pre ++ (ev (kys ma)).sp (d + 1) ++ ((k, d) :: mb ++ post)) w')) := fun w' hs =>
        ih g x y c pre ma ((k, d) :: mb ++ post) (d + 1) w' (by omega) hx hya hs (by omega) (by omega) (by omega) (by omega)
      have IHB : Hid (∀ w' sp c', RB w' g 82 cap (pre ++ (ev (kys ma)).sp (d + 1) ++ ((k, d) :: mb ++ post)) → (y + 1 < n → sp = some ⟨g, x * 2 + (y + 1) * 2, none⟩) → n - (y + 1) ≤ c' →
          Calls Tryz.prog 67 #[.slice sp ((n - (y + 1) : Nat)) c', I (d + 1)] w' (RetRB g cap (pre ++ (ev (kys (ma ++ (k, d0) :: mb))).sp d ++ post) w')) := fun w' sp c' hs hsp hc' => by
        have hsa : (ev (kys ma)).size = y := by rw [ev_size, kys_len]; exact hya
        have hfin : ∀ q : PL, pre ++ (ev (kys ma)).sp (d + 1) ++ [(k, d)] ++ q ++ post = pre ++ (ev (kys ma)).sp (d + 1) ++ ((k, d) :: q ++ post) := fun q => by simp
        have e : pre ++ (ev (kys (ma ++ (k, d0) :: mb))).sp d ++ post = pre ++ (ev (kys ma)).sp (d + 1) ++ ((k, d) :: (ev (kys mb)).sp (d + 1) ++ post) := by rw [hev]; simp [Tr.sp]
        rw [e]
        rcases Nat.eq_zero_or_pos mb.length with h1 | h1
        · have hmb : mb = [] := List.eq_nil_of_length_eq_zero h1
          subst hmb
          have : n - (y + 1) = 0 := by simp at hlen; omega
          rw [this]
          refine (ostand_nil sp c' (d + 1) w').mono ?_
          rintro e w2 ⟨rfl, rfl⟩
          exact ⟨rfl, hs, Below.refl _ _⟩
        · rw [hsp (by omega), show n - (y + 1) = mb.length by omega, show x * 2 + (y + 1) * 2 = (x + y + 1) * 2 by omega]
          have := ih g (x + y + 1) mb.length c' (pre ++ (ev (kys ma)).sp (d + 1) ++ [(k, d)]) mb post (d + 1) w' (by omega) (by simp [sp_length, hsa, hx]; omega) rfl (by rw [hfin]; exact hs) (by omega) (by omega) (by omega) (by omega)
          rw [hfin] at this
          exact this
      have hlt := h.lt
      have hn0 : ((n : Int) == 0) = false := by simp; omega
      have hyn : y < n := by omega
      have hyc : y + 1 ≤ n := by omega
      have hnz : ¬ n = 0 := by omega
      have hq1 : (n : Int) / 2 = (y : Int) := by omega
      have hq2 : (n : Int).tdiv 2 = (y : Int) := by rw [Int.tdiv_eq_ediv_of_nonneg (by omega)]; exact hq1
      clear ih h hn hx hy hma hya hev hlen hm
      go_enter Tryz.func67, Tryz.ntmps67
      go_wp2_with fail
      refine (IHA.out _ HSET.out).mono ?_
      rintro e w2 ⟨rfl, hs2, hb2⟩
      have HS2 := Lib.hid hs2
      have HB2 : Hid (Below g w w2) := ((Below.refl _ _).setCell (B := g) (p := ⟨g, x * 2 + y * 2 + 1, none⟩) (Nat.le_refl _) (I d)).trans hb2
      clear hs2 hb2 hcell hfz
      go_wp2_with fail
      all_goals
        refine (IHB.out _ _ _ HS2.out (by intro hlt; first | rfl | (exfalso; omega)) (by omega)).mono ?_
        rintro e w3 ⟨rfl, hs3, hb3⟩
        have HS3 := Lib.hid hs3
        have HB3 := Lib.hid (HB2.out.trans hb3)
        clear hs3 hb3
        go_wp2
        go_end0
        exact ⟨rfl, HS3.out, HB3.out⟩

/-- the first k keys, with no Depth yet -/
def esTo (l : List Int) (k : Nat) : PL := (l.take k).map (fun x => (x, (0 : Int))) ++ List.replicate (l.length - k) (0, 0)
theorem esTo_len (l : List Int) (k : Nat) (h : k ≤ l.length) : (esTo l k).length = l.length := by simp [esTo]; omega
theorem esTo_set (l : List Int) (k : Nat) (h : k < l.length) : (esTo l k).set k (l[k], dp (esTo l k) k) = esTo l (k + 1) := by
  have h1 : ((l.take k).map (fun x => (x, (0 : Int)))).length = k := by simp; omega
  have hd : dp (esTo l k) k = 0 := by
    unfold esTo
    rw [dp_right (by omega), h1, Nat.sub_self, show l.length - k = l.length - (k + 1) + 1 by omega, List.replicate_succ]
    rfl
  rw [hd]
  unfold esTo
  rw [List.set_append_right _ _ (by omega), h1, Nat.sub_self, List.take_succ_eq_append_getElem h, show l.length - k = l.length - (k + 1) + 1 by omega, List.replicate_succ, List.set_cons_zero, List.map_append, List.append_assoc]
  rfl
theorem esTo_all (l : List Int) : esTo l l.length = l.map (fun x => (x, (0 : Int))) := by simp [esTo]
theorem kys_es (l : List Int) : kys (l.map (fun x => (x, (0 : Int)))) = l := by simp [kys, Function.comp_def]

theorem Even_bad (A : Option Addr) (n c : Nat) (l : List Int) (w : World) (h : IS w A n c l) (hn : n ≤ 9223372036854775807) (E : Int) (hE : chkK l = E) (hE0 : E ≠ 0) :
    Calls Tryz.prog 28 #[.slice A n c] w fun e w' => e = .returned (.tuple #[.slice none 0 0, I E]) ∧ Below w.heap.size w w' := by
  have HR := Lib.hid (Rows_bad A n c l w h hn E hE hE0)
  have hq : (E != 0) = true := err_ne hE0
  clear h hE hE0
  go_enter Tryz.func28, Tryz.ntmps28
  go_wp2_with fail
  refine HR.out.mono ?_
  rintro e w1 ⟨rfl, hb1⟩
  have HB1 := Lib.hid hb1
  clear hb1
  go_wp2
  go_ret2
  exact ⟨rfl, HB1.out⟩

def RetEv (L : PL) (n : Nat) (w : World) (e : Ending) (w' : World) : Prop := ∃ A c, e = .returned (.tuple #[.slice A n c, I 0]) ∧ PS w' A n c L ∧ Below w.heap.size w w'

set_option maxRecDepth 100000 in
set_option maxHeartbeats 4000000 in
theorem Even_ok (A : Option Addr) (n c : Nat) (l : List Int) (w : World) (h : IS w A n c l) (hR : Rise l) (hT : Tb w) :
    Calls Tryz.prog 28 #[.slice A n c] w (RetEv ((ev l).sp 0) n w) := by
  have hn : n ≤ 200 := by rw [← h.len]; exact hR.len
  have HRW := Lib.hid (Rows_ok A n c l w h hR hT)
  have H := Lib.hid h
  have HL := Lib.hid h.len
  have hmk := fun w => run_makeP (P := Tryz.prog) 41 82 Tryz.underlying41 gspot_info n (by omega) w
  clear h hR hT
  go_enter Tryz.func28, Tryz.ntmps28
  go_wp2_with fail
  refine HRW.out.mono ?_
  rintro e w1 ⟨A1, m1, c1, rfl, _, hb1⟩
  have HB1 := Lib.hid hb1
  have H1 := Lib.hid (H.out.below hb1)
  have hz1 := hb1.size
  clear hb1
  go_wp2
  go_loopw [22] (fun i wr => ∃ k : Nat, k ≤ n ∧ i = .int .i64 k ∧ RB wr w1.heap.size 82 n (esTo l k) ∧ Below w1.heap.size w1 wr) (fun i _ => n - (intOf i).toNat)
  case atStart =>
    refine ⟨0, Nat.zero_le _, rfl, ?_, (Below.refl _ _).alloc (Nat.le_refl _) _⟩
    have := (PB.new w1 82 (List.replicate n (0, 0))).rb
    simp only [List.length_replicate] at this
    have e : esTo l 0 = List.replicate n (0, 0) := by simp [esTo, HL.out]
    rw [e]
    exact this
  case round =>
    obtain ⟨k, hk, rfl, hrb, hnx⟩ := hrel
    by_cases hlt : k < n
    · have hkl : k < l.length := by rw [HL.out]; exact hlt
      obtain ⟨b, off, rfl, hb, hc⟩ := H1.out.at_ (by omega)
      have hck : wr.cell? ⟨b, off + k, none⟩ = some (I l[k]) := (hnx.cell (by exact hb)).trans (hc k hlt)
      have hel : (esTo l k).length = l.length := esTo_len l k (by omega)
      have hfz : wr.frozen? ⟨w1.heap.size, k * 2, none⟩ = false := hrb.sb.frozen _
      obtain ⟨old, hcell⟩ : ∃ old, wr.cell? ⟨w1.heap.size, k * 2, none⟩ = some (I old) := ⟨_, (hrb.sb.cell k (by omega)).1⟩
      have HSET : Hid (RB (wr.setCell ⟨w1.heap.size, k * 2, none⟩ (I l[k])) w1.heap.size 82 n (esTo l (k + 1))) := by
        have := hrb.set0 k l[k] (by omega)
        rw [esTo_set l k hkl] at this
        exact this
      have HNX := Lib.hid hnx
      have hsz := hnx.size
      have hbw : b < wr.heap.size := by omega
      clear hc hrb hnx hel
      generalize l[k] = x at *
      go_wp2
      go_roundw
      case rel => exact ⟨k + 1, by omega, by go_num, HSET.out, HNX.out.setCell (Nat.le_refl _) _⟩
      case measure => simp [intOf]; omega
    · obtain rfl : k = n := by omega
      have HST : Hid (Calls Tryz.prog 67 #[.slice (some ⟨w1.heap.size, 0, none⟩) k k, I 0] wr (RetRB w1.heap.size k ((ev l).sp 0) wr)) := by
        have h1 : RB wr w1.heap.size 82 k ([] ++ l.map (fun x => (x, (0 : Int))) ++ []) := by
          rw [List.nil_append, List.append_nil, ← esTo_all, HL.out]
          exact hrb
        have := ostand_any k k w1.heap.size 0 k k [] (l.map (fun x => (x, (0 : Int)))) [] 0 wr (Nat.le_refl _) rfl (by simp [HL.out]) h1 (Nat.le_refl _) (by omega) (Int.le_refl _) (by omega)
        rw [kys_es, List.nil_append, List.append_nil] at this
        exact this
      have HLN : Hid (((ev l).sp 0).length = k) := by show _ = _; rw [sp_length, ev_size]; exact HL.out
      have HNX := Lib.hid hnx
      clear hrb hnx
      go_wp2_with fail
      refine HST.out.mono ?_
      rintro e w2 ⟨rfl, hs2, hb2⟩
      have HPS := Lib.hid hs2.ps
      have HB2 := Lib.hid (HB1.out.trans ((HNX.out.trans hb2).mono hz1))
      rw [HLN.out] at HPS
      clear hs2 hb2
      go_wp2
      go_ret2
      exact ⟨_, k, rfl, HPS.out, HB2.out⟩

end Go.Proofs.YtpnjnedfcdppaaaGreatDoor

/-
  package hedgref's trees: Least, Leaf, Unleafed: trees in memory that nothing changes.
-/
namespace Go.Proofs.YtpnjnedfcdppaaaGreatDoor
open Go.RowKit

/-- the pointer q is the tree t -/
def RT (w : World) : Option Addr → Tr → Prop
  | q, .nil => q = none
  | q, .node a k b => ∃ g qa qb, q = some ⟨g, 0, none⟩ ∧ w.heap[g]? = some (.cells #[I k, .pointer qa, .pointer qb] 240 (0, 0)) ∧ RT w qa a ∧ RT w qb b
theorem RT.below {w w' : World} (hb : Below w.heap.size w w') : ∀ {t : Tr} {q : Option Addr}, RT w q t → RT w' q t := by
  intro t
  induction t with
  | nil => exact fun {q} h => h
  | node a k b iha ihb =>
    rintro q ⟨g, qa, qb, rfl, hg, ha, hb'⟩
    exact ⟨g, qa, qb, rfl, (hb.block g (Array.getElem?_eq_some_iff.1 hg).1).trans hg, iha ha, ihb hb'⟩
theorem RT.drew {w : World} {t : Tr} {q : Option Addr} (h : RT w q t) : RT w.drew q t := h.below (Below.refl _ _).drew
theorem RT.alloc {w : World} {t : Tr} {q : Option Addr} (h : RT w q t) (o : Obj) : RT (w.alloc o) q t := h.below ((Below.refl _ _).alloc (Nat.le_refl _) _)
theorem tree_cells {w : World} {g : Nat} {k : Int} {x y : Value} (h : w.heap[g]? = some (.cells #[I k, x, y] 240 (0, 0))) :
    g < w.heap.size ∧ w.cell? ⟨g, 0, none⟩ = some (I k) ∧ w.cell? ⟨g, 1, none⟩ = some x ∧ w.cell? ⟨g, 2, none⟩ = some y := by
  refine ⟨(Array.getElem?_eq_some_iff.1 h).1, ?_, ?_, ?_⟩ <;> simp [World.cell?, h]
/-- a new node over two trees -/
theorem RT.box {w : World} {a b : Tr} {qa qb : Option Addr} (k : Int) (ha : RT w qa a) (hb : RT w qb b) : RT (w.alloc (.cells #[I k, .pointer qa, .pointer qb] 240)) (some ⟨w.heap.size, 0, none⟩) (.node a k b) :=
  ⟨w.heap.size, qa, qb, rfl, heap_alloc_new w _, ha.alloc _, hb.alloc _⟩
theorem RT.nil_iff {w : World} {q : Option Addr} {t : Tr} (h : RT w q t) : q = none ↔ t = .nil := by
  cases t with
  | nil => exact ⟨fun _ => rfl, fun _ => h⟩
  | node a k b =>
    obtain ⟨g, qa, qb, rfl, _⟩ := h
    simp

theorem cell_lt1 {w : World} {a : Addr} {v : Value} (h : w.cell? a = some v) : a.block < w.heap.size := by
  rcases Nat.lt_or_ge a.block w.heap.size with h1 | h1
  · exact h1
  · simp [World.cell?, Array.getElem?_eq_none h1] at h
theorem ck {w : World} {a : Addr} {v : Value} (h : w.cell? a = some v) (o : Obj) : (w.alloc o).cell? a = some v := (((Below.refl w.heap.size w).alloc (Nat.le_refl _) o).cell (cell_lt1 h)).trans h
theorem ckd {w : World} {a : Addr} {v : Value} (h : w.cell? a = some v) (o : Obj) : (w.drew.alloc o).cell? a = some v := ck (w := w.drew) h o

/-- a tree is told -/
def RetT (t : Tr) (w : World) (e : Ending) (w' : World) : Prop := ∃ q, e = .returned (.pointer q) ∧ RT w' q t ∧ Below w.heap.size w w'

set_option maxRecDepth 100000 in
set_option maxHeartbeats 4000000 in
theorem Leaf_any (x : Int) (t : Tr) : ∀ (q : Option Addr) (w : World), RT w q t → Calls Tryz.prog 174 #[.pointer q, I x] w (RetT (t.ins x) w) := by
  induction t with
  | nil =>
    intro q w h
    obtain rfl : q = none := h
    go_enter Tryz.func174, Tryz.ntmps174
    go_wp2
    go_ret
    exact ⟨_, rfl, RT.box x (a := .nil) (b := .nil) rfl rfl, (Below.refl _ _).alloc (Nat.le_refl _) _⟩
  | node a k b iha ihb =>
    intro q w h
    have H := Lib.hid h
    obtain ⟨g, qa, qb, rfl, hg, ha, hb⟩ := h
    obtain ⟨hlt, c0, c1, c2⟩ := tree_cells hg
    have HA := Lib.hid ha
    have HB := Lib.hid hb
    have IHA := Lib.hid iha
    have IHB := Lib.hid ihb
    clear hg ha hb iha ihb
    rcases Int.lt_trichotomy x k with hx | hx | hx
    · have HE := Lib.hid (show (Tr.node a k b).ins x = .node (a.ins x) k b by rw [Tr.ins, if_pos hx])
      rw [HE.out]
      go_enter Tryz.func174, Tryz.ntmps174
      go_wp2
      go_region_held3 (fun W => W.cell? ⟨g, 0, none⟩ = some (I k) ∧ W.cell? ⟨g, 1, none⟩ = some (.pointer qa) ∧ W.cell? ⟨g, 2, none⟩ = some (.pointer qb))
        (first
          | exact ⟨d0, d1, d2⟩
          | exact ⟨ck d0 _, ck d1 _, ck d2 _⟩
          | exact ⟨c0, c1, c2⟩)
        (first
          | (go_at_call 174
             refine (IHA.out qa _ HA.out.drew).mono ?_
             rintro e w2 ⟨q2, rfl, hr2, hb2⟩
             have d0 : w2.cell? ⟨g, 0, none⟩ = some (I k) := (hb2.cell (by exact hlt)).trans c0
             have d1 : w2.cell? ⟨g, 1, none⟩ = some (.pointer qa) := (hb2.cell (by exact hlt)).trans c1
             have d2 : w2.cell? ⟨g, 2, none⟩ = some (.pointer qb) := (hb2.cell (by exact hlt)).trans c2
             have HR2 := Lib.hid hr2
             have HB2 : Hid (Below w.heap.size w w2) := (Below.refl _ _).drew.trans hb2
             clear hr2 hb2))
      all_goals go_wp2
      all_goals go_ret
      all_goals exact ⟨_, rfl, RT.box k HR2.out (HB.out.below HB2.out), HB2.out.alloc HB2.out.size _⟩
    · subst hx
      have HE := Lib.hid (show (Tr.node a x b).ins x = .node a x b by rw [Tr.ins, if_neg (Int.lt_irrefl _), if_neg (Int.lt_irrefl _)])
      rw [HE.out]
      go_enter Tryz.func174, Tryz.ntmps174
      go_wp2
      go_ret
      exact ⟨_, rfl, H.out, Below.refl _ _⟩
    · have HE := Lib.hid (show (Tr.node a k b).ins x = .node a k (b.ins x) by rw [Tr.ins, if_neg (by omega), if_pos hx])
      rw [HE.out]
      have hnl : ¬ x < k := by omega
      go_enter Tryz.func174, Tryz.ntmps174
      go_wp2
      go_region_held3 (fun W => W.cell? ⟨g, 0, none⟩ = some (I k) ∧ W.cell? ⟨g, 1, none⟩ = some (.pointer qa) ∧ W.cell? ⟨g, 2, none⟩ = some (.pointer qb))
        (first
          | exact ⟨d0, d1, d2⟩
          | exact ⟨ck d0 _, ck d1 _, ck d2 _⟩
          | exact ⟨c0, c1, c2⟩)
        (first
          | (go_at_call 174
             refine (IHB.out qb _ HB.out.drew).mono ?_
             rintro e w2 ⟨q2, rfl, hr2, hb2⟩
             have d0 : w2.cell? ⟨g, 0, none⟩ = some (I k) := (hb2.cell (by exact hlt)).trans c0
             have d1 : w2.cell? ⟨g, 1, none⟩ = some (.pointer qa) := (hb2.cell (by exact hlt)).trans c1
             have d2 : w2.cell? ⟨g, 2, none⟩ = some (.pointer qb) := (hb2.cell (by exact hlt)).trans c2
             have HR2 := Lib.hid hr2
             have HB2 : Hid (Below w.heap.size w w2) := (Below.refl _ _).drew.trans hb2
             clear hr2 hb2))
      all_goals go_wp2
      all_goals go_ret
      all_goals exact ⟨_, rfl, RT.box k (HA.out.below HB2.out) HR2.out, HB2.out.alloc HB2.out.size _⟩

end Go.Proofs.YtpnjnedfcdppaaaGreatDoor
