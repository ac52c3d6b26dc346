/-
  Joined texts: YtpnjnedfcdppaaaGreatDoorOLop, YtpnjnedfcdppaaaGreatDoorOWout.
-/
import Derived.Test.YtpnjnedfcdppaaaGreatDoorOSumAll
import Derived.Test.YtpnjnedfcdppaaaGreatDoorSOrdAll
import Derived.BigRegion
import Derived.BigQuiet
import Derived.Deep.QuietTactic
import Derived.Test.YtpnjnedfcdppaaaGreatDoorOIns2All
/-
  package goat: lopsided.
-/
namespace Go.Proofs.YtpnjnedfcdppaaaGreatDoor
open Go.RowKit

def lopV (g c : Nat) : Option (Nat × Nat × Int) → Value
  | none => .tuple #[.slice none 0 0, I 0]
  | some (f, t, d) => .tuple #[.slice (some ⟨g, f * 2, none⟩) (t - f) (c - f), I d]

set_option maxRecDepth 100000 in
set_option maxHeartbeats 4000000 in
theorem olop_any (g n c p m0 : Nat) (l : PL) (R : Option (Nat × Nat × Int)) (w : World) (h : PS w (some ⟨g, 0, none⟩) n c l) (hT : IsTree l) (hp : p < n) (hC : Clm l m0 (par l p) R) :
    Calls Tryz.prog 138 #[.slice (some ⟨g, 0, none⟩) n c, I p] w fun e w' => e = .returned (lopV g c R) ∧ Below w.heap.size w w' := by
  have hn : n ≤ 200 := by have := hT.1; rw [h.len] at this; exact this
  have HP := Lib.hid (Parents_ok _ n c l w h hT)
  have H := Lib.hid h
  have HL := Lib.hid h.len
  have HC := Lib.hid hC
  have hcap := h.rd.1
  clear h hT hC
  go_enter Tryz.func138, Tryz.ntmps138
  go_wp2_with fail
  refine HP.out.mono ?_
  rintro e w1 ⟨A1, n1, c1, rfl, his, hb1, _⟩
  obtain rfl : n1 = n := by rw [← his.len, parL_length]; exact HL.out
  obtain ⟨b, off, rfl, hb, hci⟩ := his.at_ (by omega)
  have HCI : Hid (∀ i, i < n1 → w1.cell? ⟨b, off + i, none⟩ = some (I (par l i))) := fun i hi => by
    have h1 := hci i hi
    have h2 := parL_at l i (by rw [HL.out]; exact hi)
    rw [List.getElem?_eq_getElem (by rw [parL_length, HL.out]; exact hi)] at h2
    rw [h1, Option.some.inj h2]
  have hc0 := HCI.out p hp
  have HB1 := Lib.hid hb1
  clear hci his hb1 HP
  go_wp2
  go_loopg [8] m0 (fun m x wr => ∃ at_ : Int, x = I at_ ∧ Clm l m at_ R ∧ Below w1.heap.size w1 wr)
  case atStart => exact ⟨_, rfl, HC.out, Below.refl _ _⟩
  case round =>
    obtain ⟨at_, rfl, hclm, hnx⟩ := hrel
    have HNX := Lib.hid hnx
    have HBX := Lib.hid (below_next HB1.out hnx)
    have hsz := hnx.size
    clear hnx
    cases hclm with
    | out =>
      go_wp2
      go_ret2
      exact ⟨rfl, HBX.out⟩
    | @hit m' i hi hlean =>
      have hi' : i < n1 := by rw [← HL.out]; exact hi
      have HPO := Lib.hid (opartOf_any _ n1 c i l wr (H.out.below HBX.out) (by omega) hi')
      have hfr := frR_le l i
      have hto := toR_bd l i hi
      rw [HL.out] at hto
      unfold leansAt at hlean
      obtain ⟨b', off', e', hbg, hcs⟩ := (H.out.below HBX.out).dat (by omega)
      cases e'
      have hcd : ∀ w2, Below wr.heap.size wr w2 → w2.cell? ⟨g, i * 2 + 1, none⟩ = some (I (dp l i)) := fun w2 hb2 => by
        have h1 := (hcs i hi').2
        rw [Nat.zero_add] at h1
        exact (hb2.cell (by exact hbg)).trans h1
      have HCD := Lib.hid hcd
      clear hcs hcd hi
      obtain ⟨f, hf⟩ : ∃ f, frR l i = f := ⟨_, rfl⟩
      obtain ⟨t, ht⟩ : ∃ t, toR l i = t := ⟨_, rfl⟩
      obtain ⟨dd, hdd⟩ : ∃ dd, dp l i = dd := ⟨_, rfl⟩
      have HV := Lib.hid (show lopV g c (some (frR l i, toR l i, dp l i)) = lopV g c (some (f, t, dd)) by rw [hf, ht, hdd])
      rw [hf, ht] at hlean HPO
      rw [hf] at hfr
      rw [ht] at hto
      rw [hdd] at HCD
      clear hf ht hdd
      go_wp2_with fail
      refine HPO.out.mono ?_
      rintro e w2 ⟨rfl, hb2⟩
      have HB2 := Lib.hid (below_next HBX.out hb2)
      have hcd := HCD.out w2 hb2
      have hfc : ¬ (c = f) := by omega
      have hft : f ≤ t := by omega
      have htc : t ≤ c := by omega
      obtain ⟨s, hs⟩ : ∃ s : Int, (if (i : Int) - (f : Int) < (t : Int) - (i : Int) - 1 then (t : Int) - (i : Int) - 1 else (i : Int) - (f : Int)) = s := ⟨_, rfl⟩
      have hl1 : 2 * ((t : Int) - (f : Int)) < 3 * s ∧ 0 ≤ s ∧ s ≤ 200 := by rw [← hs]; split <;> omega
      obtain ⟨hl1, hl2, hl3⟩ := hl1
      clear hb2 HPO HCD hlean
      go_wp2
      go_quiet (fail)
      go_wp2
      go_ret2
      exact ⟨by rw [HV.out]; rfl, below_drewN HB2.out _⟩
    | @up m' i _ hi hlean hclm' =>
      have hi' : i < n1 := by rw [← HL.out]; exact hi
      have HPO := Lib.hid (opartOf_any _ n1 c i l wr (H.out.below HBX.out) (by omega) hi')
      have hfr := frR_le l i
      have hto := toR_bd l i hi
      rw [HL.out] at hto
      unfold leansAt at hlean
      have hcp : wr.cell? ⟨b, off + i, none⟩ = some (I (par l i)) := (HNX.out.cell (by exact hb)).trans (HCI.out i hi')
      have hbw : b < wr.heap.size := by omega
      have HCL := Lib.hid hclm'
      clear hclm' hi
      generalize frR l i = f at *
      generalize toR l i = t at *
      generalize par l i = pp at *
      go_wp2_with fail
      refine HPO.out.mono ?_
      rintro e w2 ⟨rfl, hb2⟩
      have HB2 := Lib.hid (below_next HNX.out hb2)
      have hcp2 : w2.cell? ⟨b, off + i, none⟩ = some (I pp) := (hb2.cell (by exact hbw)).trans hcp
      obtain ⟨s, hs⟩ : ∃ s : Int, (if (i : Int) - (f : Int) < (t : Int) - (i : Int) - 1 then (t : Int) - (i : Int) - 1 else (i : Int) - (f : Int)) = s := ⟨_, rfl⟩
      have hl1 : ¬ 2 * ((t : Int) - (f : Int)) < 3 * s ∧ 0 ≤ s ∧ s ≤ 200 := by rw [← hs]; split <;> omega
      obtain ⟨hl1, hl2, hl3⟩ := hl1
      have hft : f ≤ t := by omega
      clear hb2 HPO hlean hcp
      go_wp2
      all_goals go_roundg m'
      all_goals first
        | omega
        | exact ⟨_, rfl, HCL.out, HB2.out⟩

end Go.Proofs.YtpnjnedfcdppaaaGreatDoor

/-
  package goat: without, lopsided.
-/
namespace Go.Proofs.YtpnjnedfcdppaaaGreatDoor
open Go.RowKit

def RetW (g cap k : Nat) (L : PL) (w : World) (e : Ending) (w' : World) : Prop := e = .returned (.slice (some ⟨g, 0, none⟩) k cap) ∧ RB w' g 82 cap L ∧ Below g w w'

set_option maxRecDepth 100000 in
set_option maxHeartbeats 4000000 in
theorem owo_one (base k g cap p f t : Nat) (L : PL) (w : World) (hr : RB w g 82 cap L) (hl : L.length = k + 1) (hm : cap ≤ maxLen) (hn : k ≤ 999) (hp : p ≤ k) (hf : frR L p = f) (ht : toR L p = t) (hone : ¬ (f < p ∧ p + 1 < t)) (hd : ∀ i, -1000 ≤ dp L i ∧ dp L i ≤ 1000) (hb : base ≤ g) :
    Calls Tryz.prog 139 #[.slice (some ⟨g, 0, none⟩) ((k + 1 : Nat)) cap, I p] w (RetW g cap k ((shf L f t (-1)).take p ++ (shf L f t (-1)).drop (p + 1)) w) := by
  have hps := hr.ps
  rw [hl] at hps
  have HP := Lib.hid (opartOf_any _ (k + 1) cap p L w hps (by omega) (by omega))
  rw [hf, ht] at HP
  have hfp : f ≤ p := by rw [← hf]; exact frR_le L p
  have htb := toR_bd L p (by omega)
  rw [ht, hl] at htb
  obtain ⟨htp, htk⟩ := htb
  have HR := Lib.hid hr
  have HL := Lib.hid hl
  have HD := Lib.hid hd
  have hgw := hr.lt
  have hcap := hr.le
  rw [hl] at hcap
  have HDEL : Hid (∀ w', RB w' g 82 cap (shf L f t (-1)) → Calls Tryz.prog 198 #[.slice (some ⟨g, 0, none⟩) ((k + 1 : Nat)) cap, I p, I ((p : Int) + 1)] w' fun e w'' => e = .returned (.slice (some ⟨g, 0, none⟩) k cap) ∧ RB w'' g 82 cap ((shf L f t (-1)).take p ++ (shf L f t (-1)).drop (p + 1)) ∧ Below g w' w'') := fun w' h' =>
    odel_any base k g cap p _ w' h' (by rw [shf_length L f t (-1) (by omega), hl]) hm (by omega) hp hb
  have hw1 : IntKind.i64.wrap ((p : Int) + 1) = (p : Int) + 1 := by rw [IntKind.wrap_i64]; omega
  have LOOP : ∀ (w1 : World), Below w.heap.size w w1 → Hid (RB w1 g 82 cap L ∧ Below g w w1) := fun w1 hb1 => ⟨hr.below hb1 hgw, hb1.mono (by omega)⟩
  clear hr hps hl hf ht hd hm
  by_cases hfp2 : f < p
  · have hpt : ¬ ((p : Int) + 1 < (t : Int)) := fun h => hone ⟨hfp2, by omega⟩
    clear hone
    go_enter Tryz.func139, Tryz.ntmps139
    go_wp2_with fail
    refine HP.out.mono ?_
    rintro e w1 ⟨rfl, hb1⟩
    have HW := LOOP w1 hb1
    clear hb1 HP LOOP
    go_wp2
    go_loopw [7] (fun i wr => ∃ j : Nat, f ≤ j ∧ j ≤ t ∧ i = .int .i64 j ∧ RB wr g 82 cap (shf L f j (-1)) ∧ Below g w wr) (fun i _ => t - (intOf i).toNat)
    case atStart => exact ⟨f, Nat.le_refl _, by omega, rfl, by rw [shf_none]; exact HW.out.1, HW.out.2⟩
    case round =>
      obtain ⟨j, hj1, hj2, rfl, hrb, hnx⟩ := hrel
      by_cases hlt : j < t
      · have hjl : j < L.length := by rw [HL.out]; omega
        have hsl := shf_length L f j (-1) hj1
        have hfar := shf_far L f j (-1) hj1 hjl
        have hdj := HD.out j
        have hcell := (hrb.sb.cell j (by omega)).2
        rw [hfar] at hcell
        have hfz : wr.frozen? ⟨g, j * 2 + 1, none⟩ = false := hrb.sb.frozen _
        have hset := hrb.set1 j (dp L j - 1) (by omega)
        have hst := shf_step L f j (-1) hj1 hjl
        rw [hfar, show dp L j + -1 = dp L j - 1 by omega] at hst
        rw [hst] at hset
        have HSET := Lib.hid hset
        have HNX := Lib.hid hnx
        have hjk : j < k + 1 := by omega
        clear hsl hfar hset hst hrb hnx hjl
        generalize dp L j = dd at *
        obtain ⟨q1, q2⟩ := hdj
        go_wp2
        go_roundw
        case rel => exact ⟨j + 1, by omega, by omega, by go_num, HSET.out, HNX.out.setCell (Nat.le_refl _) _⟩
        case measure => simp [intOf]; omega
      · obtain rfl : j = t := by omega
        have HC := Lib.hid (HDEL.out wr hrb)
        have HNX := Lib.hid hnx
        clear hrb hnx HDEL
        go_wp2_with fail
        refine HC.out.mono ?_
        rintro e w2 ⟨rfl, hrb2, hb2⟩
        have HRB2 := Lib.hid hrb2
        have HB2 := Lib.hid (HNX.out.trans hb2)
        clear hrb2 hb2
        go_wp2
        go_ret
        exact ⟨rfl, HRB2.out, HB2.out⟩
  · clear hone
    go_enter Tryz.func139, Tryz.ntmps139
    go_wp2_with fail
    refine HP.out.mono ?_
    rintro e w1 ⟨rfl, hb1⟩
    have HW := LOOP w1 hb1
    clear hb1 HP LOOP
    go_wp2
    go_loopw [7] (fun i wr => ∃ j : Nat, f ≤ j ∧ j ≤ t ∧ i = .int .i64 j ∧ RB wr g 82 cap (shf L f j (-1)) ∧ Below g w wr) (fun i _ => t - (intOf i).toNat)
    case atStart => exact ⟨f, Nat.le_refl _, by omega, rfl, by rw [shf_none]; exact HW.out.1, HW.out.2⟩
    case round =>
      obtain ⟨j, hj1, hj2, rfl, hrb, hnx⟩ := hrel
      by_cases hlt : j < t
      · have hjl : j < L.length := by rw [HL.out]; omega
        have hsl := shf_length L f j (-1) hj1
        have hfar := shf_far L f j (-1) hj1 hjl
        have hdj := HD.out j
        have hcell := (hrb.sb.cell j (by omega)).2
        rw [hfar] at hcell
        have hfz : wr.frozen? ⟨g, j * 2 + 1, none⟩ = false := hrb.sb.frozen _
        have hset := hrb.set1 j (dp L j - 1) (by omega)
        have hst := shf_step L f j (-1) hj1 hjl
        rw [hfar, show dp L j + -1 = dp L j - 1 by omega] at hst
        rw [hst] at hset
        have HSET := Lib.hid hset
        have HNX := Lib.hid hnx
        have hjk : j < k + 1 := by omega
        clear hsl hfar hset hst hrb hnx hjl
        generalize dp L j = dd at *
        obtain ⟨q1, q2⟩ := hdj
        go_wp2
        go_roundw
        case rel => exact ⟨j + 1, by omega, by omega, by go_num, HSET.out, HNX.out.setCell (Nat.le_refl _) _⟩
        case measure => simp [intOf]; omega
      · obtain rfl : j = t := by omega
        have HC := Lib.hid (HDEL.out wr hrb)
        have HNX := Lib.hid hnx
        clear hrb hnx HDEL
        go_wp2_with fail
        refine HC.out.mono ?_
        rintro e w2 ⟨rfl, hrb2, hb2⟩
        have HRB2 := Lib.hid hrb2
        have HB2 := Lib.hid (HNX.out.trans hb2)
        clear hrb2 hb2
        go_wp2
        go_ret
        exact ⟨rfl, HRB2.out, HB2.out⟩

theorem del_left {L : PL} {p : Nat} {d : Int} {k : Int} {b : Tr} {pre post : PL} (h : At L p d .nil k b pre post) : (shf L (frR L p) (toR L p) (-1)).take p ++ (shf L (frR L p) (toR L p) (-1)).drop (p + 1) = pre ++ b.sp d ++ post := by
  have hp := h.part
  have hi := h.idx
  rw [hp.1, hp.2]
  have e := shf_at (by_ := -1) h.eq (x := pre.length) rfl (y := pre.length + (Tr.nil.size + 1 + b.size)) (by rw [sp_length]; rfl)
  rw [e, sp_shift]
  have e2 : (Tr.node .nil k b).sp (d + -1) = (k, d + -1) :: b.sp d := by
    rw [Tr.sp, show d + -1 + 1 = d by omega]
    rfl
  simp only [Tr.size, Nat.add_zero] at hi
  rw [e2, hi]
  have e3 : pre ++ (k, d + -1) :: b.sp d ++ post = pre ++ ((k, d + -1) :: (b.sp d ++ post)) := by simp
  rw [e3, List.take_left]
  have e4 : pre ++ ((k, d + -1) :: (b.sp d ++ post)) = (pre ++ [(k, d + -1)]) ++ (b.sp d ++ post) := by simp
  rw [e4, show pre.length + 1 = (pre ++ [(k, d + -1)]).length by simp, List.drop_left]
  simp
theorem del_right {L : PL} {p : Nat} {d : Int} {k : Int} {a : Tr} {pre post : PL} (h : At L p d a k .nil pre post) : (shf L (frR L p) (toR L p) (-1)).take p ++ (shf L (frR L p) (toR L p) (-1)).drop (p + 1) = pre ++ a.sp d ++ post := by
  have hp := h.part
  have hi := h.idx
  rw [hp.1, hp.2]
  have e := shf_at (by_ := -1) h.eq (x := pre.length) rfl (y := pre.length + (a.size + 1 + Tr.nil.size)) (by rw [sp_length]; rfl)
  rw [e, sp_shift]
  have e2 : (Tr.node a k .nil).sp (d + -1) = a.sp d ++ [(k, d + -1)] := by
    rw [Tr.sp, show d + -1 + 1 = d by omega]
    rfl
  have hl : (pre ++ a.sp d).length = p := by rw [List.length_append, sp_length]; omega
  rw [e2]
  have e3 : pre ++ (a.sp d ++ [(k, d + -1)]) ++ post = (pre ++ a.sp d) ++ ((k, d + -1) :: post) := by simp
  rw [e3, List.take_left' hl]
  have e4 : (pre ++ a.sp d) ++ ((k, d + -1) :: post) = (pre ++ a.sp d ++ [(k, d + -1)]) ++ post := by simp
  rw [e4, List.drop_left' (by rw [List.length_append, hl]; rfl)]

theorem ctx_le {d0 d : Int} {pre post : PL} (h : Ctx d0 d pre post) : d ≤ d0 + (pre.length + post.length : Nat) := by
  induction h with
  | hole => simp
  | left k b _ ih => simp; omega
  | right a k _ ih => simp; omega
theorem at_dp {L : PL} {p : Nat} {d : Int} {a : Tr} {k : Int} {b : Tr} {pre post : PL} (h : At L p d a k b pre post) {n : Nat} (hn : L.length ≤ n) (hn2 : n ≤ 1000) : ∀ i, -1000 ≤ dp L i ∧ dp L i ≤ 1000 := by
  intro i
  obtain ⟨t, ht⟩ := h.ctx.fill (.node a k b)
  rw [← h.eq] at ht
  rcases Nat.lt_or_ge i L.length with hi | hi
  · rw [← ht, sp_length] at hi
    have h1 := sp_ge t 0 i hi
    have h2 := dp_sp_lt t 0 i hi
    rw [ht] at h1 h2
    have h3 : t.size = L.length := by rw [← ht, sp_length]
    omega
  · have : dp L i = 0 := by simp [dp, List.getElem?_eq_none hi]
    omega

theorem least_first : ∀ (b : Tr), b ≠ .nil → ∀ d, ky (b.sp d) 0 = b.least := by
  intro b
  induction b with
  | nil => intro h; exact absurd rfl h
  | node a k c iha _ =>
    intro _ d
    by_cases ha : a = .nil
    · subst ha
      simp [Tr.sp, ky, Tr.least, Tr.isNil]
    · have hn : a.isNil = false := by cases a <;> simp_all [Tr.isNil]
      have hz : 0 < a.size := by
        cases a with
        | nil => exact absurd rfl ha
        | node x y z => simp only [Tr.size]; omega
      rw [Tr.sp, ky_left (by rw [sp_length]; exact hz), iha ha (d + 1)]
      simp [Tr.least, hn]
theorem size_pos {t : Tr} (h : t ≠ .nil) : 0 < t.size := by
  cases t with
  | nil => exact absurd rfl h
  | node a k b => simp only [Tr.size]; omega

set_option maxRecDepth 100000 in
set_option maxHeartbeats 4000000 in
theorem owo_two (base n g cap p : Nat) (L : PL) (d : Int) (a : Tr) (x : Int) (b : Tr) (pre post : PL) (w : World) (hr : RB w g 82 cap L) (hl : L.length = n + 1) (hm : cap ≤ maxLen) (hn : n ≤ 999) (hat : At L p d a x b pre post) (ha : a ≠ .nil) (hbn : b ≠ .nil) (hb : base ≤ g) :
    Calls Tryz.prog 139 #[.slice (some ⟨g, 0, none⟩) ((n + 1 : Nat)) cap, I p] w (RetW g cap n (pre ++ (Tr.node a b.least b.cutl).sp d ++ post) w) := by
  have hps := hr.ps
  rw [hl] at hps
  have hlen := hat.len
  have hidx := hat.idx
  have hsa := size_pos ha
  have hsb := size_pos hbn
  have HP := Lib.hid (opartOf_any _ (n + 1) cap p L w hps (by omega) (by omega))
  obtain ⟨f, hf⟩ : ∃ f, frR L p = f := ⟨_, rfl⟩
  obtain ⟨t, ht⟩ : ∃ t, toR L p = t := ⟨_, rfl⟩
  have hpart := hat.part
  rw [hf, ht] at hpart
  rw [hf, ht] at HP
  have h1 : f < p := by omega
  have h2 : (p : Int) + 1 < (t : Int) := by omega
  have h3 : p + 1 < n + 1 := by omega
  have hcap := hr.le
  rw [hl] at hcap
  have hk1 : ky L (p + 1) = b.least := by
    have hq : L = (pre ++ a.sp (d + 1) ++ [(x, d)]) ++ (b.sp (d + 1) ++ post) := by rw [hat.eq]; simp [Tr.sp]
    have hql : (pre ++ a.sp (d + 1) ++ [(x, d)]).length = p + 1 := by simp [sp_length]; omega
    rw [hq, ky_right (by omega), hql, Nat.sub_self, ky_left (by rw [sp_length]; exact hsb), least_first b hbn]
  have hL1 : L.set p (b.least, dp L p) = pre ++ (Tr.node a b.least b).sp d ++ post := by
    rw [hat.root.1]
    have hq : L = (pre ++ a.sp (d + 1)) ++ ((x, d) :: (b.sp (d + 1) ++ post)) := by rw [hat.eq]; simp [Tr.sp]
    have hql : (pre ++ a.sp (d + 1)).length = p := by simp [sp_length]; omega
    rw [hq, List.set_append_right _ _ (by omega), hql, Nat.sub_self, List.set_cons_zero]
    simp [Tr.sp]
  obtain ⟨d', c, post', c1, c2, c3⟩ := find_least b hbn (d + 1) (pre ++ a.sp (d + 1) ++ [(b.least, d)]) post (.right a b.least hat.ctx)
  have hat2 : At (pre ++ (Tr.node a b.least b).sp d ++ post) (p + 1) d' .nil b.least c (pre ++ a.sp (d + 1) ++ [(b.least, d)]) post' := by
    refine ⟨c1, ?_, ?_⟩
    · rw [← c2]
      simp [Tr.sp]
    · simp [sp_length, Tr.size]
      omega
  have hfin : pre ++ a.sp (d + 1) ++ [(b.least, d)] ++ c.sp d' ++ post' = pre ++ (Tr.node a b.least b.cutl).sp d ++ post := by
    rw [← c3]
    simp [Tr.sp]
  have hl1 : (pre ++ (Tr.node a b.least b).sp d ++ post).length = n + 1 := by rw [← hL1, List.length_set, hl]
  have HREC : Hid (∀ w', RB w' g 82 cap (pre ++ (Tr.node a b.least b).sp d ++ post) → Calls Tryz.prog 139 #[.slice (some ⟨g, 0, none⟩) ((n + 1 : Nat)) cap, I ((p : Int) + 1)] w' (RetW g cap n (pre ++ (Tr.node a b.least b.cutl).sp d ++ post) w')) := fun w' h' => by
    have hp2 := hat2.part
    have hi2 := hat2.idx
    have hln2 := hat2.len
    simp only [Tr.size] at hi2 hp2 hln2
    have := owo_one base n g cap (p + 1) _ _ _ w' h' hl1 hm hn (by omega) rfl rfl (by rw [hp2.1]; omega) (at_dp hat2 (Nat.le_of_eq hl1) (by omega)) hb
    rw [del_left hat2, hfin] at this
    exact this
  have hgw := hr.lt
  have HSET : Hid (∀ w1, Below w.heap.size w w1 → w1.cell? ⟨g, (p + 1) * 2, none⟩ = some (I b.least) ∧ (∃ old, w1.cell? ⟨g, p * 2, none⟩ = some (I old)) ∧ w1.frozen? ⟨g, p * 2, none⟩ = false ∧ RB (w1.setCell ⟨g, p * 2, none⟩ (I b.least)) g 82 cap (pre ++ (Tr.node a b.least b).sp d ++ post) ∧ Below g w (w1.setCell ⟨g, p * 2, none⟩ (I b.least))) := fun w1 hb1 => by
    have hr1 := hr.below hb1 hgw
    refine ⟨?_, ⟨_, (hr1.sb.cell p (by omega)).1⟩, hr1.sb.frozen _, ?_, ?_⟩
    · rw [← hk1]
      exact (hr1.sb.cell (p + 1) (by omega)).1
    · rw [← hL1]
      exact hr1.set0 p b.least (by omega)
    · have hb2 : Below g w w1 := hb1.mono (by omega)
      exact hb2.setCell (Nat.le_refl _) _
  generalize b.least = y at *
  generalize pre ++ (Tr.node a y b).sp d ++ post = L1 at *
  generalize pre ++ (Tr.node a y b.cutl).sp d ++ post = L2 at *
  clear hr hps hlen hidx hat hpart hk1 hL1 c1 c2 c3 hat2 hfin hl1 hf ht ha hbn hsa hsb hl hm
  go_enter Tryz.func139, Tryz.ntmps139
  go_wp2_with fail
  refine HP.out.mono ?_
  rintro e w1 ⟨rfl, hb1⟩
  obtain ⟨g1, ⟨old, g2⟩, g3, g4, g5⟩ := HSET.out w1 hb1
  have HRB := Lib.hid g4
  have HBB := Lib.hid g5
  clear hb1 HP HSET g4 g5
  go_wp2_with fail
  refine (HREC.out _ HRB.out).mono ?_
  rintro e w2 ⟨rfl, hrb2, hb2⟩
  have HRB2 := Lib.hid hrb2
  have HB2 := Lib.hid (HBB.out.trans hb2)
  clear hrb2 hb2
  go_wp2
  go_ret
  exact ⟨rfl, HRB2.out, HB2.out⟩

theorem owo_any (base n g cap p : Nat) (t : Tr) (x : Int) (w : World) (hr : RB w g 82 cap (t.sp 0)) (hl : t.size = n + 1) (hm : cap ≤ maxLen) (hn : n ≤ 999) (hu : Up t.ks) (hx : x ∈ t.ks) (hp : p < t.size) (hk : ky (t.sp 0) p = x) (hb : base ≤ g) :
    Calls Tryz.prog 139 #[.slice (some ⟨g, 0, none⟩) ((n + 1 : Nat)) cap, I p] w (RetW g cap n ((t.del x).sp 0) w) := by
  obtain ⟨d, a, b, pre, post, c1, c2, c3, c4⟩ := find_key t 0 [] [] .hole hu hx
  rw [List.nil_append, List.append_nil] at c3 c4
  have hat0 : At (t.sp 0) (pre.length + a.size) d a x b pre post := ⟨c1, c3, rfl⟩
  have hpp : p = pre.length + a.size := by
    have h1 := hat0.root.2
    have h2 := hat0.len
    rw [sp_length] at h2
    rcases Nat.lt_trichotomy p (pre.length + a.size) with h | h | h
    · have := up_place (d := 0) hu (p := pre.length + a.size) (by omega) p h; omega
    · exact h
    · have := up_place (d := 0) hu hp _ h; omega
  rw [← hpp] at hat0
  have hL : (t.sp 0).length = n + 1 := by rw [sp_length, hl]
  rw [c4]
  obtain ⟨u1, u2, u3, u4⟩ := up_node.1 c2
  rw [Tr.del, if_neg (Int.lt_irrefl _), if_neg (Int.lt_irrefl _)]
  have hpart := hat0.part
  have hidx := hat0.idx
  by_cases ha : a = .nil
  · subst ha
    rw [if_pos (show Tr.nil.isNil = true from rfl)]
    simp only [Tr.size] at hpart hidx
    have := owo_one base n g cap p _ _ _ w hr hL hm hn (by omega) rfl rfl (by rw [hpart.1]; omega) (at_dp hat0 (Nat.le_of_eq hL) (by omega)) hb
    rw [del_left hat0] at this
    exact this
  · have hna : a.isNil = false := by cases a <;> simp_all [Tr.isNil]
    rw [if_neg (by simp [hna])]
    by_cases hbb : b = .nil
    · subst hbb
      rw [if_pos (show Tr.nil.isNil = true from rfl)]
      simp only [Tr.size] at hpart hidx
      have := owo_one base n g cap p _ _ _ w hr hL hm hn (by omega) rfl rfl (by rw [hpart.2]; omega) (at_dp hat0 (Nat.le_of_eq hL) (by omega)) hb
      rw [del_right hat0] at this
      exact this
    · have hnb : b.isNil = false := by cases b <;> simp_all [Tr.isNil]
      rw [if_neg (by simp [hnb]), del_least u2 hbb]
      exact owo_two base n g cap p _ d a x b pre post w hr hL hm hn hat0 ha hbb hb

end Go.Proofs.YtpnjnedfcdppaaaGreatDoor
