/-
  package half: one op.
-/
import Derived.Test.YtpnjnedfcdppaaaGreatDoorQKeys
import Derived.Test.YtpnjnedfcdppaaaGreatDoorLookAll
import Derived.Test.YtpnjnedfcdppaaaGreatDoorRunAAll
namespace Go.Proofs.YtpnjnedfcdppaaaGreatDoor
open Go.RowKit Go.Maps

theorem qisKey_yes (k : Int) (w : World) (h0 : 0 ≤ k) (h1 : k ≤ 65535) : Calls Tryz.prog 146 #[I k] w fun e w' => e = .returned (.bool true) ∧ w' = w := by
  go_enter Tryz.func146, Tryz.ntmps146
  go_wp2
  go_ret
  exact ⟨rfl, rfl⟩
theorem qisKey_no (k : Int) (w : World) (h : ¬ (0 ≤ k ∧ k ≤ 65535)) : Calls Tryz.prog 146 #[I k] w fun e w' => e = .returned (.bool false) ∧ w' = w := by
  by_cases h0 : 0 ≤ k
  · have h1 : ¬ k ≤ 65535 := fun e => h ⟨h0, e⟩
    clear h
    go_enter Tryz.func146, Tryz.ntmps146
    go_wp2
    go_ret
    exact ⟨rfl, rfl⟩
  · clear h
    go_enter Tryz.func146, Tryz.ntmps146
    go_wp2
    go_ret
    exact ⟨rfl, rfl⟩
theorem keyOrNone_any (k : Int) (b : Bool) (w : World) : Calls Tryz.prog 147 #[I k, .bool b] w fun e w' => e = .returned (anV ⟨0, k, 0, b⟩) ∧ Below w.heap.size w w' := by
  have hab := AB.new w
  obtain ⟨⟨a0, a1, a2, a3⟩, f0, f1, f2, f3⟩ := hab.facts
  clear hab
  go_enter Tryz.func147, Tryz.ntmps147
  go_wp2
  exact bodyPost_ret (v := anV ⟨0, k, 0, b⟩) (by simp [results, Tryz.results147, go_sem, a0, a1, a2, a3]) rfl ⟨rfl, (Below.refl _ _).alloc (Nat.le_refl _) _⟩

def DoHR (l : List Int) (o : Int × Int × Int) (T : Nat) (F : Nat → Prop) (w : World) (e : Ending) (w' : World) : Prop :=
  ∃ (p' : Option Nat) (F' : Nat → Prop), e = .returned (.tuple #[qp p', anV (hA l o)]) ∧ QR 4 w' (T + 31) p' (· ∈ hL l o) F' ∧ (∀ x, F' x → x < w'.heap.size ∧ (F x ∨ w.heap.size ≤ x)) ∧ QK F w w'
theorem DoHR.same {l : List Int} {o : Int × Int × Int} {T : Nat} {F : Nat → Prop} {w w' : World} {p : Option Nat} {v : Value} (h : QR 4 w T p (· ∈ l) F) (hF : ∀ x, F x → x < w.heap.size) (hb : Below w.heap.size w w') (hv : v = anV (hA l o)) (hl : hL l o = l) : DoHR l o T F w (.returned (.tuple #[qp p, v])) w' := by
  subst hv
  refine ⟨p, F, rfl, ?_, fun x hx => ⟨Nat.lt_of_lt_of_le (hF x hx) hb.size, .inl hx⟩, QK.of_below hb (Nat.le_refl _)⟩
  rw [hl]
  exact (h.keep fun x hx => hb.block x (hF x hx)).mono (by omega) (fun _ e => e)
theorem hL_no {l : List Int} {o : Int × Int × Int} (h : ¬ hok o) : hL l o = l := if_neg h
theorem hL_get {l : List Int} {o : Int × Int × Int} (h1 : o.1 ≠ 1) (h3 : o.1 ≠ 3) : hL l o = l := by
  unfold hL
  split
  · simp [h1, h3]
  · rfl
theorem hL_cut0 {l : List Int} {o : Int × Int × Int} (h1 : o.1 = 3) (h : o.2.1 ∉ l) : hL l o = l := by
  unfold hL
  split
  · show _ = l
    simp only [h1, if_true]
    rw [if_neg (by decide)]
    unfold qdel
    exact List.filter_eq_self.2 fun x hx => by simp; exact fun e => h (e ▸ hx)
  · rfl

set_option maxRecDepth 100000 in
set_option maxHeartbeats 4000000 in
theorem do_form (p : Option Nat) (T : Nat) (l : List Int) (F : Nat → Prop) (kind key val : Int) (w : World) (h : QR 4 w T p (· ∈ l) F) (hF : ∀ x, F x → x < w.heap.size) (hk : ¬ (1 ≤ kind ∧ kind ≤ 5)) :
    Calls Tryz.prog 77 #[qp p, .agg #[I kind, I key, I val]] w (DoHR l (kind, key, val) T F w) := by
  have HV : Hid (anV ⟨3, 0, 0, false⟩ = anV (hA l (kind, key, val))) := by show _ = _; unfold hA; rw [if_pos hk]
  have HL := Lib.hid (hL_no (l := l) (o := (kind, key, val)) (fun e => hk ⟨e.1, e.2.1⟩))
  have H := Lib.hid h
  have HF := Lib.hid hF
  have g1 : (kind == 1) = false := beq_eq_false_iff_ne.2 (by omega)
  have g2 : (kind == 2) = false := beq_eq_false_iff_ne.2 (by omega)
  have g3 : (kind == 3) = false := beq_eq_false_iff_ne.2 (by omega)
  have g4 : (kind == 4) = false := beq_eq_false_iff_ne.2 (by omega)
  have g5 : (kind == 5) = false := beq_eq_false_iff_ne.2 (by omega)
  have hab : AB ((w.alloc (.cells #[I kind, I key, I val] 69)).alloc ansO) (w.heap.size + 1) := by
    simpa using AB.new (w.alloc (.cells #[I kind, I key, I val] 69))
  obtain ⟨⟨a0, a1, a2, a3⟩, f0, f1, f2, f3⟩ := hab.facts
  have HB : Hid (Below w.heap.size w ((w.alloc (.cells #[I kind, I key, I val] 69)).alloc ansO)) := ((Below.refl _ _).alloc (Nat.le_refl _) _).alloc (by simp) _
  obtain ⟨P, hP⟩ : ∃ P, qp p = .pointer P := ⟨_, rfl⟩
  rw [hP]
  have HP := Lib.hid hP
  clear h hF hk hab hP
  go_enter Tryz.func77, Tryz.ntmps77
  go_wp2
  refine bodyPost_ret (v := .tuple #[.pointer P, anV ⟨3, 0, 0, false⟩]) (by simp [results, Tryz.results77, go_sem, a0, a1, a2, a3]) rfl ?_
  rw [← HP.out]
  exact DoHR.same H.out HF.out (((Below.refl _ _).alloc (Nat.le_refl _) _).alloc (by simp) _) HV.out HL.out

set_option maxRecDepth 100000 in
set_option maxHeartbeats 4000000 in
theorem do_arg (p : Option Nat) (T : Nat) (l : List Int) (F : Nat → Prop) (kind key val : Int) (w : World) (h : QR 4 w T p (· ∈ l) F) (hF : ∀ x, F x → x < w.heap.size) (hk : 1 ≤ kind ∧ kind ≤ 5) (hk2 : ¬ (0 ≤ key ∧ key ≤ 65535)) :
    Calls Tryz.prog 77 #[qp p, .agg #[I kind, I key, I val]] w (DoHR l (kind, key, val) T F w) := by
  have HV : Hid (anV ⟨1, 0, 0, false⟩ = anV (hA l (kind, key, val))) := by show _ = _; unfold hA; rw [if_neg (fun e => e hk), if_pos hk2]
  have HL := Lib.hid (hL_no (l := l) (o := (kind, key, val)) (fun e => hk2 ⟨e.2.2.1, e.2.2.2⟩))
  have H := Lib.hid h
  have HF := Lib.hid hF
  obtain ⟨P, hP⟩ : ∃ P, qp p = .pointer P := ⟨_, rfl⟩
  rw [hP]
  have HP := Lib.hid hP
  have HI := Lib.hid (fun W => qisKey_no key W hk2)
  clear h hF hP hk2
  have hab : AB ((w.alloc (.cells #[I kind, I key, I val] 69)).alloc ansO) (w.heap.size + 1) := by
    simpa using AB.new (w.alloc (.cells #[I kind, I key, I val] 69))
  obtain ⟨⟨a0, a1, a2, a3⟩, f0, f1, f2, f3⟩ := hab.facts
  have HB : Hid (Below w.heap.size w ((w.alloc (.cells #[I kind, I key, I val] 69)).alloc ansO)) := ((Below.refl _ _).alloc (Nat.le_refl _) _).alloc (by simp) _
  clear hab
  rcases (show kind = 1 ∨ kind = 2 ∨ kind = 3 ∨ kind = 4 ∨ kind = 5 by omega) with rfl | rfl | rfl | rfl | rfl
  all_goals
    clear hk
    go_enter Tryz.func77, Tryz.ntmps77
    go_wp2_with fail
    refine (HI.out _).mono ?_
    rintro e w1 ⟨rfl, rfl⟩
    go_wp2
    refine bodyPost_ret (v := .tuple #[.pointer P, anV ⟨1, 0, 0, false⟩]) (by simp [results, Tryz.results77, go_sem, a0, a1, a2, a3]) rfl ?_
    rw [← HP.out]
    exact DoHR.same H.out HF.out (((Below.refl _ _).alloc (Nat.le_refl _) _).alloc (by simp) _) HV.out HL.out

set_option maxRecDepth 100000 in
set_option maxHeartbeats 4000000 in
theorem do_near (p : Option Nat) (T : Nat) (l : List Int) (F : Nat → Prop) (kind key val : Int) (w : World) (h : QR 4 w T p (· ∈ l) F) (hF : ∀ x, F x → x < w.heap.size) (hu : Up l) (hk : kind = 4 ∨ kind = 5) (h0 : 0 ≤ key) (h1 : key ≤ 65535) :
    Calls Tryz.prog 77 #[qp p, .agg #[I kind, I key, I val]] w (DoHR l (kind, key, val) T F w) := by
  have HL := Lib.hid (hL_get (l := l) (o := (kind, key, val)) (by show kind ≠ 1; omega) (by show kind ≠ 3; omega))
  have H := Lib.hid h
  have HF := Lib.hid hF
  have HI := Lib.hid (fun W => qisKey_yes key W h0 h1)
  have HKN := Lib.hid keyOrNone_any
  obtain ⟨W, hW⟩ : ∃ W, ((w.alloc (.cells #[I kind, I key, I val] 69)).alloc ansO) = W := ⟨_, rfl⟩
  have hb : Below w.heap.size w W := by rw [← hW]; exact ((Below.refl _ _).alloc (Nat.le_refl _) _).alloc (by simp) _
  have hab : AB W (w.heap.size + 1) := by
    rw [← hW]
    simpa using AB.new (w.alloc (.cells #[I kind, I key, I val] 69))
  have hsz : W.heap.size = w.heap.size + 2 := by rw [← hW]; simp
  have HB := Lib.hid hb
  have HAB := Lib.hid hab
  have HNX := Lib.hid (next_any 4 (by omega) p T (· ∈ l) F key W (h.keep fun x hx => hb.block x (hF x hx)) h0 (by rw [qq4]; omega))
  have HPV := Lib.hid (prev_any 4 (by omega) p T (· ∈ l) F key W (h.keep fun x hx => hb.block x (hF x hx)) h0 (by rw [qq4]; omega))
  have HU := Lib.hid hu
  have HKB : Hid (¬ ¬ (0 ≤ key ∧ key ≤ 65535)) := fun e => e ⟨h0, h1⟩
  obtain ⟨P, hP⟩ : ∃ P, qp p = .pointer P := ⟨_, rfl⟩
  rw [hP] at HNX HPV ⊢
  have HP := Lib.hid hP
  have HW := Lib.hid hW
  clear h hF hP h0 h1 hu hb hab hW
  rcases hk with rfl | rfl
  · go_enter Tryz.func77, Tryz.ntmps77
    go_wp2_with fail
    refine (HI.out _).mono ?_
    rintro e w1 ⟨rfl, rfl⟩
    go_wp2_with fail
    rw [HW.out]
    refine HNX.out.mono ?_
    rintro e w1 ⟨e1, j, hj⟩
    have HA1 : Hid (∃ y b, e = .returned (.tuple #[I y, .bool b]) ∧ anV ⟨0, y, 0, b⟩ = anV (hA l (4, key, val))) := by
      show ∃ _, _
      have e0 : hA l (4, key, val) = hanO (qnx key l) := by
        unfold hA
        rw [if_neg (by simp), if_neg HKB.out, if_pos rfl]
      rw [e0]
      rcases e1 with ⟨y, rfl, hy⟩ | ⟨rfl, hno⟩
      · exact ⟨y, true, rfl, by rw [qnx_is HU.out hy]; rfl⟩
      · exact ⟨0, false, rfl, by rw [qnx_none.2 (fun z hz => Int.not_lt.2 (hno z hz))]; rfl⟩
    have hb1 : Below w.heap.size w w1 := by rw [hj]; exact below_drewN HB.out j
    have hab1 : AB w1 (w.heap.size + 1) := HAB.out.below (by rw [hj]; exact below_drewN (Below.refl W.heap.size W) j) (by omega)
    have hs1 : w1.heap.size = w.heap.size + 2 := by rw [hj]; exact hsz
    have HB1 := Lib.hid hb1
    have HAB1 := Lib.hid hab1
    clear e1 hj hb1 hab1
    obtain ⟨y, b, rfl, hyb⟩ := HA1.out
    have HYB := Lib.hid hyb
    clear HA1 hyb
    go_wp2_with fail
    refine (HKN.out y b w1).mono ?_
    rintro e w2 ⟨rfl, hb2⟩
    have hab2 : AB w2 (w.heap.size + 1) := HAB1.out.below hb2 (by omega)
    have HB2 := Lib.hid (HB1.out.trans (hb2.mono (by omega)))
    obtain ⟨⟨a0, a1, a2, a3⟩, f0, f1, f2, f3⟩ := hab2.facts
    clear hb2 hab2
    go_wp2
    refine bodyPost_ret (v := .tuple #[.pointer P, anV ⟨0, y, 0, b⟩]) (by simp [results, Tryz.results77, go_sem, a0, a1, a2, a3]) rfl ?_
    rw [← HP.out]
    exact DoHR.same H.out HF.out (below_st4 HB2.out (by omega) _ _ _ _) HYB.out HL.out
  · go_enter Tryz.func77, Tryz.ntmps77
    go_wp2_with fail
    refine (HI.out _).mono ?_
    rintro e w1 ⟨rfl, rfl⟩
    go_wp2_with fail
    rw [HW.out]
    refine HPV.out.mono ?_
    rintro e w1 ⟨e1, j, hj⟩
    have HA1 : Hid (∃ y b, e = .returned (.tuple #[I y, .bool b]) ∧ anV ⟨0, y, 0, b⟩ = anV (hA l (5, key, val))) := by
      show ∃ _, _
      have e0 : hA l (5, key, val) = hanO (qpv key l) := by
        unfold hA
        rw [if_neg (by simp), if_neg HKB.out, if_neg (by simp), if_pos rfl]
      rw [e0]
      rcases e1 with ⟨y, rfl, hy⟩ | ⟨rfl, hno⟩
      · exact ⟨y, true, rfl, by rw [qpv_is HU.out hy]; rfl⟩
      · exact ⟨0, false, rfl, by rw [qpv_none.2 (fun z hz => Int.not_lt.2 (hno z hz))]; rfl⟩
    have hb1 : Below w.heap.size w w1 := by rw [hj]; exact below_drewN HB.out j
    have hab1 : AB w1 (w.heap.size + 1) := HAB.out.below (by rw [hj]; exact below_drewN (Below.refl W.heap.size W) j) (by omega)
    have hs1 : w1.heap.size = w.heap.size + 2 := by rw [hj]; exact hsz
    have HB1 := Lib.hid hb1
    have HAB1 := Lib.hid hab1
    clear e1 hj hb1 hab1
    obtain ⟨y, b, rfl, hyb⟩ := HA1.out
    have HYB := Lib.hid hyb
    clear HA1 hyb
    go_wp2_with fail
    refine (HKN.out y b w1).mono ?_
    rintro e w2 ⟨rfl, hb2⟩
    have hab2 : AB w2 (w.heap.size + 1) := HAB1.out.below hb2 (by omega)
    have HB2 := Lib.hid (HB1.out.trans (hb2.mono (by omega)))
    obtain ⟨⟨a0, a1, a2, a3⟩, f0, f1, f2, f3⟩ := hab2.facts
    clear hb2 hab2
    go_wp2
    refine bodyPost_ret (v := .tuple #[.pointer P, anV ⟨0, y, 0, b⟩]) (by simp [results, Tryz.results77, go_sem, a0, a1, a2, a3]) rfl ?_
    rw [← HP.out]
    exact DoHR.same H.out HF.out (below_st4 HB2.out (by omega) _ _ _ _) HYB.out HL.out

end Go.Proofs.YtpnjnedfcdppaaaGreatDoor
