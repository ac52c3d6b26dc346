/-
  Joined texts: YtpnjnedfcdppaaaGreatDoorQKeys, YtpnjnedfcdppaaaGreatDoorQDo, YtpnjnedfcdppaaaGreatDoorQDo2, YtpnjnedfcdppaaaGreatDoorQRun.
-/
import Derived.Test.YtpnjnedfcdppaaaGreatDoorQOutAAll
import Derived.Test.YtpnjnedfcdppaaaGreatDoorQOpsAll
import Derived.Test.YtpnjnedfcdppaaaGreatDoorGSortAll
import Derived.Test.YtpnjnedfcdppaaaGreatDoorLookAll
import Derived.Test.YtpnjnedfcdppaaaGreatDoorRunAAll
/-
  package half: the keys that are there, as a list; keys.
-/
namespace Go.Proofs.YtpnjnedfcdppaaaGreatDoor
open Go.RowKit Go.Maps

theorem qput_list {l : List Int} {k : Int} : QPut (· ∈ l) k = (· ∈ qins k l) := ks_ext fun x => by
  show (x ∈ l ∨ x = k) ↔ x ∈ qins k l
  rw [mem_qins]
  exact Or.comm
theorem qcut_list {l : List Int} {k : Int} : QCut (· ∈ l) k = (· ∈ qdel k l) := ks_ext fun x => by
  show (x ∈ l ∧ x ≠ k) ↔ x ∈ qdel k l
  rw [mem_qdel]
/-- the least one is the first one -/
theorem qends_first {l : List Int} {lo hi : Int} (hu : Up l) (he : QEnds (· ∈ l) lo hi) : ∃ h : 0 < l.length, l[0] = lo := by
  cases l with
  | nil => exact absurd he.1 (by simp)
  | cons a t =>
    refine ⟨by simp, ?_⟩
    show a = lo
    have h1 := (he.2.2 a (by simp)).1
    rw [Up, List.pairwise_cons] at hu
    rcases List.mem_cons.1 he.1 with e | e
    · exact e.symm
    · have := hu.1 lo e
      omega
theorem nx_at {l : List Int} {i : Nat} {y : Int} (hu : Up l) (hi : i < l.length) (h : NxP (· ∈ l) l[i] y) : ∃ h : i + 1 < l.length, l[i + 1] = y := by
  have := qnx_is hu h
  rw [qnx_at hu hi] at this
  obtain ⟨h1, h2⟩ := List.getElem?_eq_some_iff.1 this
  exact ⟨h1, h2⟩
theorem nx_end {l : List Int} {i : Nat} (hu : Up l) (hi : i < l.length) (h : ∀ z, z ∈ l → z ≤ l[i]) : i + 1 = l.length := by
  apply Classical.byContradiction
  intro hc
  have h1 : i + 1 < l.length := by omega
  have h2 := h l[i + 1] (List.getElem_mem h1)
  have h3 := (List.pairwise_iff_getElem.1 hu) i (i + 1) hi h1 (by omega)
  omega

theorem own_one (w : World) (k : Int) : OwnI (w.alloc (.cells #[I k] 3)) w.heap.size (.slice (some ⟨w.heap.size, 0, none⟩) 1 1) [k] := by
  refine ⟨rfl, .inr ⟨w.heap.size, 1, #[I k], rfl, Nat.le_refl _, heap_alloc_new w _, Nat.le_refl _, by decide, rfl, rfl⟩⟩
set_option maxRecDepth 100000 in
set_option maxHeartbeats 4000000 in
theorem keys_any (p : Option Nat) (T : Nat) (l : List Int) (F : Nat → Prop) (w : World) (h : QR 4 w T p (· ∈ l) F) (hF : ∀ x, F x → x < w.heap.size) (hu : Up l) (hl : l.length ≤ 1000) :
    Calls Tryz.prog 78 #[qp p] w (RetOwn l w.heap.size w) := by
  cases p with
  | none =>
    have hl0 : l = [] := by
      cases l with
      | nil => rfl
      | cons a t => exact absurd (List.mem_cons.2 (.inl rfl)) (QR.none_iff.1 h a)
    subst hl0
    clear h hF hu hl
    show Calls Tryz.prog 78 #[.pointer none] w _
    go_enter Tryz.func78, Tryz.ntmps78
    go_wp2
    go_ret
    exact ⟨_, rfl, World.ownsRow_nil _ _ _ _, Below.refl _ _⟩
  | some g =>
    obtain ⟨lo, hi, m, hq, hb, he, hbd, _⟩ := h.head
    have c1 := hb.c1
    have hlt := hb.lt
    obtain ⟨hl0, hlo⟩ := qends_first hu he
    have HU := Lib.hid hu
    have HB : Hid (∀ x ∈ l, 0 ≤ x ∧ x < qq 4) := fun x hx => hbd x hx
    have HN : Hid (∀ (k : Int) (W : World), Below w.heap.size w W → 0 ≤ k → k < qq 4 → Calls Tryz.prog 148 #[.pointer (some ⟨g, 0, none⟩), I k] W (NxR (· ∈ l) k W)) :=
      fun k W hW h0 h1 => next_any 4 (by omega) (some g) T (· ∈ l) F k W (h.keep fun x hx => hW.block x (hF x hx)) h0 h1
    have HL0 := Lib.hid hl0
    have HT1 : Hid (l.take 1 = [lo]) := by
      show _ = _
      rw [List.take_succ_eq_append_getElem hl0, hlo]
      rfl
    have HNX1 : Hid (∀ y, NxP (· ∈ l) lo y → ∃ h : 1 < l.length, l[1] = y) := fun y hy => nx_at hu hl0 (by rw [hlo]; exact hy)
    have HEN1 : Hid ((∀ z, z ∈ l → z ≤ lo) → l.length = 1) := fun hz => (nx_end hu hl0 (by rw [hlo]; exact hz)).symm
    have hlob := HB.out lo he.1
    clear h hF hb he hbd hu hl0 hlo
    obtain ⟨n, hn⟩ : ∃ n, l.length = n := ⟨_, rfl⟩
    have HLN := Lib.hid hn
    show Calls Tryz.prog 78 #[.pointer (some ⟨g, 0, none⟩)] w _
    have hal : (w.alloc (.cells #[I lo] 3)).cell? ⟨g, 1, none⟩ = some (I lo) := (World.cell?_alloc_old _ _ _ (Nat.ne_of_lt hlt)).trans c1
    go_enter Tryz.func78, Tryz.ntmps78
    go_wp2_with fail
    refine (HN.out lo (w.alloc (.cells #[I lo] 3)) ((Below.refl _ _).alloc (Nat.le_refl _) _) hlob.1 hlob.2).mono ?_
    intro e w1 hnx
    obtain ⟨e1, j1, hw1⟩ := hnx
    have HB1 : Hid (Below w.heap.size w w1) := by show Below _ _ _; rw [hw1]; exact below_drewN ((Below.refl _ _).alloc (Nat.le_refl _) _) j1
    have HO1 : Hid (OwnI w1 w.heap.size (.slice (some ⟨w.heap.size, 0, none⟩) 1 1) (l.take 1)) := by
      show OwnI _ _ _ _
      rw [HT1.out, hw1]
      exact own_below (own_one w lo) (below_drewN (Below.refl _ _) j1)
    have HS1 : Hid (∃ y b, e = .returned (.tuple #[I y, .bool b]) ∧ (b = true → ∃ h : 1 < l.length, l[1] = y) ∧ (b = false → l.length = 1)) := by
      show ∃ _, _
      rcases e1 with ⟨y, rfl, hy⟩ | ⟨rfl, hno⟩
      · exact ⟨y, true, rfl, fun _ => HNX1.out y hy, fun h => by cases h⟩
      · exact ⟨0, false, rfl, fun h => (by cases h), fun _ => HEN1.out hno⟩
    clear e1 hw1
    obtain ⟨y, b, rfl, hb1, hb2⟩ := HS1.out
    have HY1 := Lib.hid hb1
    have HY2 := Lib.hid hb2
    clear hb1 hb2 HS1
    go_wp2
    go_loopg [3, 4, 5] (n + 1) (fun mm v k is wr => ∃ (i : Nat) (y : Int) (b : Bool), 1 ≤ i ∧ i ≤ n ∧ n - i < mm ∧ k = I y ∧ is = .bool b ∧ OwnI wr w.heap.size v (l.take i) ∧ Below w.heap.size w wr ∧ (b = true → ∃ h : i < l.length, l[i] = y) ∧ (b = false → l.length = i))
    case atStart => exact ⟨1, y, b, Nat.le_refl _, by have := HL0.out; omega, by omega, rfl, rfl, HO1.out, HB1.out, HY1.out, HY2.out⟩
    case round =>
      obtain ⟨i, y, b, hi1, hin, him, rfl, rfl, hown, hbl, hy1, hy2⟩ := hrel
      have HOW := Lib.hid hown
      have HBL := Lib.hid hbl
      have hsz := hbl.size
      cases b with
      | false =>
        have HT : Hid (l.take i = l) := by show _ = _; exact List.take_of_length_le (by rw [hy2 rfl]; omega)
        clear hown hbl hy1 hy2
        go_wp2
        go_ret
        exact ⟨_, rfl, by have := HOW.out; rw [HT.out] at this; exact this, HBL.out⟩
      | true =>
        obtain ⟨hil, hyi⟩ := hy1 rfl
        have hyb := HB.out y (by rw [← hyi]; exact List.getElem_mem hil)
        have HIL := Lib.hid hil
        have HNXI : Hid (∀ z, NxP (· ∈ l) y z → ∃ h : i + 1 < l.length, l[i + 1] = z) := fun z hz => nx_at HU.out hil (by rw [hyi]; exact hz)
        have HENI : Hid ((∀ z, z ∈ l → z ≤ y) → l.length = i + 1) := fun hz => (nx_end HU.out hil (by rw [hyi]; exact hz)).symm
        have HTS : Hid (l.take (i + 1) = l.take i ++ [y]) := by show _ = _; rw [take_snoc hil, hyi]
        have htl : (l.take i).length ≤ 1000 := by rw [List.length_take]; omega
        clear hown hbl hy1 hy2 hyi hil
        go_wp2_with (first
          | (at_builtin
             refine wpList_app1 rfl (.tmp 29) (.tmp 31) 46 rfl 3 Tryz.underlying46 int_info w.heap.size u3 (l.take i) [y] (some ⟨wr.heap.size, 0, none⟩) 1 1 rfl rfl (own_below HOW.out ((Below.refl _ _).alloc (Nat.le_refl _) _)) (srcI_one wr y) (by omega) (by simp; omega) ?_
             intro v2 w2 hown2 hgrow2 hat2)
          | fail)
        have HB2 := Lib.hid ((HBL.out.alloc hsz _).grown hgrow2 (by simp; omega) (own_ge1 HOW.out))
        have HO2 : Hid (OwnI w2 w.heap.size v2 (l.take (i + 1))) := by show OwnI _ _ _ _; rw [HTS.out]; exact hown2
        clear hown2 hgrow2 hat2
        refine (HN.out y w2 HB2.out hyb.1 hyb.2).mono ?_
        intro e w3 hnx
        obtain ⟨e1, j1, hw1⟩ := hnx
        have HB3 : Hid (Below w.heap.size w w3) := by show Below _ _ _; rw [hw1]; exact below_drewN HB2.out j1
        have HO3 : Hid (OwnI w3 w.heap.size v2 (l.take (i + 1))) := by show OwnI _ _ _ _; rw [hw1]; exact own_below HO2.out (below_drewN (Below.refl _ _) j1)
        have HS3 : Hid (∃ y b, e = .returned (.tuple #[I y, .bool b]) ∧ (b = true → ∃ h : i + 1 < l.length, l[i + 1] = y) ∧ (b = false → l.length = i + 1)) := by
          show ∃ _, _
          rcases e1 with ⟨y', rfl, hy⟩ | ⟨rfl, hno⟩
          · exact ⟨y', true, rfl, fun _ => HNXI.out y' hy, fun h => by cases h⟩
          · exact ⟨0, false, rfl, fun h => (by cases h), fun _ => HENI.out hno⟩
        clear e1 hw1
        obtain ⟨y', b', rfl, hb1, hb2⟩ := HS3.out
        have HY1 := Lib.hid hb1
        have HY2 := Lib.hid hb2
        clear hb1 hb2 HS3
        go_wp2
        go_roundg (n - i)
        case measure => omega
        case rel => exact ⟨i + 1, y', b', by omega, by have := HIL.out; have := HLN.out; omega, by have := HIL.out; have := HLN.out; omega, rfl, rfl, HO3.out, HB3.out, HY1.out, HY2.out⟩

end Go.Proofs.YtpnjnedfcdppaaaGreatDoor

/-
  package half: one op.
-/
namespace Go.Proofs.YtpnjnedfcdppaaaGreatDoor
open Go.RowKit Go.Maps

theorem qisKey_yes (k : Int) (w : World) (h0 : 0 ≤ k) (h1 : k ≤ 65535) : Calls Tryz.prog 146 #[I k] w fun e w' => e = .returned (.bool true) ∧ w' = w := by
  go_enter Tryz.func146, Tryz.ntmps146
  go_wp2
  go_ret
  exact ⟨rfl, rfl⟩
theorem qisKey_no (k : Int) (w : World) (h : ¬ (0 ≤ k ∧ k ≤ 65535)) : Calls Tryz.prog 146 #[I k] w fun e w' => e = .returned (.bool false) ∧ w' = w := by
  by_cases h0 : 0 ≤ k
  · have h1 : ¬ k ≤ 65535 := fun e => h ⟨h0, e⟩
    clear h
    go_enter Tryz.func146, Tryz.ntmps146
    go_wp2
    go_ret
    exact ⟨rfl, rfl⟩
  · clear h
    go_enter Tryz.func146, Tryz.ntmps146
    go_wp2
    go_ret
    exact ⟨rfl, rfl⟩
theorem keyOrNone_any (k : Int) (b : Bool) (w : World) : Calls Tryz.prog 147 #[I k, .bool b] w fun e w' => e = .returned (anV ⟨0, k, 0, b⟩) ∧ Below w.heap.size w w' := by
  have hab := AB.new w
  obtain ⟨⟨a0, a1, a2, a3⟩, f0, f1, f2, f3⟩ := hab.facts
  clear hab
  go_enter Tryz.func147, Tryz.ntmps147
  go_wp2
  exact bodyPost_ret (v := anV ⟨0, k, 0, b⟩) (by simp [results, Tryz.results147, go_sem, a0, a1, a2, a3]) rfl ⟨rfl, (Below.refl _ _).alloc (Nat.le_refl _) _⟩

def DoHR (l : List Int) (o : Int × Int × Int) (T : Nat) (F : Nat → Prop) (w : World) (e : Ending) (w' : World) : Prop :=
  ∃ (p' : Option Nat) (F' : Nat → Prop), e = .returned (.tuple #[qp p', anV (hA l o)]) ∧ QR 4 w' (T + 31) p' (· ∈ hL l o) F' ∧ (∀ x, F' x → x < w'.heap.size ∧ (F x ∨ w.heap.size ≤ x)) ∧ QK F w w'
theorem DoHR.same {l : List Int} {o : Int × Int × Int} {T : Nat} {F : Nat → Prop} {w w' : World} {p : Option Nat} {v : Value} (h : QR 4 w T p (· ∈ l) F) (hF : ∀ x, F x → x < w.heap.size) (hb : Below w.heap.size w w') (hv : v = anV (hA l o)) (hl : hL l o = l) : DoHR l o T F w (.returned (.tuple #[qp p, v])) w' := by
  subst hv
  refine ⟨p, F, rfl, ?_, fun x hx => ⟨Nat.lt_of_lt_of_le (hF x hx) hb.size, .inl hx⟩, QK.of_below hb (Nat.le_refl _)⟩
  rw [hl]
  exact (h.keep fun x hx => hb.block x (hF x hx)).mono (by omega) (fun _ e => e)
theorem hL_no {l : List Int} {o : Int × Int × Int} (h : ¬ hok o) : hL l o = l := if_neg h
theorem hL_get {l : List Int} {o : Int × Int × Int} (h1 : o.1 ≠ 1) (h3 : o.1 ≠ 3) : hL l o = l := by
  unfold hL
  split
  · simp [h1, h3]
  · rfl
theorem hL_cut0 {l : List Int} {o : Int × Int × Int} (h1 : o.1 = 3) (h : o.2.1 ∉ l) : hL l o = l := by
  unfold hL
  split
  · show _ = l
    simp only [h1, if_true]
    rw [if_neg (by decide)]
    unfold qdel
    exact List.filter_eq_self.2 fun x hx => by simp; exact fun e => h (e ▸ hx)
  · rfl

set_option maxRecDepth 100000 in
set_option maxHeartbeats 4000000 in
theorem do_form (p : Option Nat) (T : Nat) (l : List Int) (F : Nat → Prop) (kind key val : Int) (w : World) (h : QR 4 w T p (· ∈ l) F) (hF : ∀ x, F x → x < w.heap.size) (hk : ¬ (1 ≤ kind ∧ kind ≤ 5)) :
    Calls Tryz.prog 77 #[qp p, .agg #[I kind, I key, I val]] w (DoHR l (kind, key, val) T F w) := by
  have HV : Hid (anV ⟨3, 0, 0, false⟩ = anV (hA l (kind, key, val))) := by show _ = _; unfold hA; rw [if_pos hk]
  have HL := Lib.hid (hL_no (l := l) (o := (kind, key, val)) (fun e => hk ⟨e.1, e.2.1⟩))
  have H := Lib.hid h
  have HF := Lib.hid hF
  have g1 : (kind == 1) = false := beq_eq_false_iff_ne.2 (by omega)
  have g2 : (kind == 2) = false := beq_eq_false_iff_ne.2 (by omega)
  have g3 : (kind == 3) = false := beq_eq_false_iff_ne.2 (by omega)
  have g4 : (kind == 4) = false := beq_eq_false_iff_ne.2 (by omega)
  have g5 : (kind == 5) = false := beq_eq_false_iff_ne.2 (by omega)
  have hab : AB ((w.alloc (.cells #[I kind, I key, I val] 69)).alloc ansO) (w.heap.size + 1) := by
    simpa using AB.new (w.alloc (.cells #[I kind, I key, I val] 69))
  obtain ⟨⟨a0, a1, a2, a3⟩, f0, f1, f2, f3⟩ := hab.facts
  have HB : Hid (Below w.heap.size w ((w.alloc (.cells #[I kind, I key, I val] 69)).alloc ansO)) := ((Below.refl _ _).alloc (Nat.le_refl _) _).alloc (by simp) _
  obtain ⟨P, hP⟩ : ∃ P, qp p = .pointer P := ⟨_, rfl⟩
  rw [hP]
  have HP := Lib.hid hP
  clear h hF hk hab hP
  go_enter Tryz.func77, Tryz.ntmps77
  go_wp2
  refine bodyPost_ret (v := .tuple #[.pointer P, anV ⟨3, 0, 0, false⟩]) (by simp [results, Tryz.results77, go_sem, a0, a1, a2, a3]) rfl ?_
  rw [← HP.out]
  exact DoHR.same H.out HF.out (((Below.refl _ _).alloc (Nat.le_refl _) _).alloc (by simp) _) HV.out HL.out

set_option maxRecDepth 100000 in
set_option maxHeartbeats 4000000 in
theorem do_arg (p : Option Nat) (T : Nat) (l : List Int) (F : Nat → Prop) (kind key val : Int) (w : World) (h : QR 4 w T p (· ∈ l) F) (hF : ∀ x, F x → x < w.heap.size) (hk : 1 ≤ kind ∧ kind ≤ 5) (hk2 : ¬ (0 ≤ key ∧ key ≤ 65535)) :
    Calls Tryz.prog 77 #[qp p, .agg #[I kind, I key, I val]] w (DoHR l (kind, key, val) T F w) := by
  have HV : Hid (anV ⟨1, 0, 0, false⟩ = anV (hA l (kind, key, val))) := by show _ = _; unfold hA; rw [if_neg (fun e => e hk), if_pos hk2]
  have HL := Lib.hid (hL_no (l := l) (o := (kind, key, val)) (fun e => hk2 ⟨e.2.2.1, e.2.2.2⟩))
  have H := Lib.hid h
  have HF := Lib.hid hF
  obtain ⟨P, hP⟩ : ∃ P, qp p = .pointer P := ⟨_, rfl⟩
  rw [hP]
  have HP := Lib.hid hP
  have HI := Lib.hid (fun W => qisKey_no key W hk2)
  clear h hF hP hk2
  have hab : AB ((w.alloc (.cells #[I kind, I key, I val] 69)).alloc ansO) (w.heap.size + 1) := by
    simpa using AB.new (w.alloc (.cells #[I kind, I key, I val] 69))
  obtain ⟨⟨a0, a1, a2, a3⟩, f0, f1, f2, f3⟩ := hab.facts
  have HB : Hid (Below w.heap.size w ((w.alloc (.cells #[I kind, I key, I val] 69)).alloc ansO)) := ((Below.refl _ _).alloc (Nat.le_refl _) _).alloc (by simp) _
  clear hab
  rcases (show kind = 1 ∨ kind = 2 ∨ kind = 3 ∨ kind = 4 ∨ kind = 5 by omega) with rfl | rfl | rfl | rfl | rfl
  all_goals
    clear hk
    go_enter Tryz.func77, Tryz.ntmps77
    go_wp2_with fail
    refine (HI.out _).mono ?_
    rintro e w1 ⟨rfl, rfl⟩
    go_wp2
    refine bodyPost_ret (v := .tuple #[.pointer P, anV ⟨1, 0, 0, false⟩]) (by simp [results, Tryz.results77, go_sem, a0, a1, a2, a3]) rfl ?_
    rw [← HP.out]
    exact DoHR.same H.out HF.out (((Below.refl _ _).alloc (Nat.le_refl _) _).alloc (by simp) _) HV.out HL.out

set_option maxRecDepth 100000 in
set_option maxHeartbeats 4000000 in
theorem do_near (p : Option Nat) (T : Nat) (l : List Int) (F : Nat → Prop) (kind key val : Int) (w : World) (h : QR 4 w T p (· ∈ l) F) (hF : ∀ x, F x → x < w.heap.size) (hu : Up l) (hk : kind = 4 ∨ kind = 5) (h0 : 0 ≤ key) (h1 : key ≤ 65535) :
    Calls Tryz.prog 77 #[qp p, .agg #[I kind, I key, I val]] w (DoHR l (kind, key, val) T F w) := by
  have HL := Lib.hid (hL_get (l := l) (o := (kind, key, val)) (by show kind ≠ 1; omega) (by show kind ≠ 3; omega))
  have H := Lib.hid h
  have HF := Lib.hid hF
  have HI := Lib.hid (fun W => qisKey_yes key W h0 h1)
  have HKN := Lib.hid keyOrNone_any
  obtain ⟨W, hW⟩ : ∃ W, ((w.alloc (.cells #[I kind, I key, I val] 69)).alloc ansO) = W := ⟨_, rfl⟩
  have hb : Below w.heap.size w W := by rw [← hW]; exact ((Below.refl _ _).alloc (Nat.le_refl _) _).alloc (by simp) _
  have hab : AB W (w.heap.size + 1) := by
    rw [← hW]
    simpa using AB.new (w.alloc (.cells #[I kind, I key, I val] 69))
  have hsz : W.heap.size = w.heap.size + 2 := by rw [← hW]; simp
  have HB := Lib.hid hb
  have HAB := Lib.hid hab
  have HNX := Lib.hid (next_any 4 (by omega) p T (· ∈ l) F key W (h.keep fun x hx => hb.block x (hF x hx)) h0 (by rw [qq4]; omega))
  have HPV := Lib.hid (prev_any 4 (by omega) p T (· ∈ l) F key W (h.keep fun x hx => hb.block x (hF x hx)) h0 (by rw [qq4]; omega))
  have HU := Lib.hid hu
  have HKB : Hid (¬ ¬ (0 ≤ key ∧ key ≤ 65535)) := fun e => e ⟨h0, h1⟩
  obtain ⟨P, hP⟩ : ∃ P, qp p = .pointer P := ⟨_, rfl⟩
  rw [hP] at HNX HPV ⊢
  have HP := Lib.hid hP
  have HW := Lib.hid hW
  clear h hF hP h0 h1 hu hb hab hW
  rcases hk with rfl | rfl
  · go_enter Tryz.func77, Tryz.ntmps77
    go_wp2_with fail
    refine (HI.out _).mono ?_
    rintro e w1 ⟨rfl, rfl⟩
    go_wp2_with fail
    rw [HW.out]
    refine HNX.out.mono ?_
    rintro e w1 ⟨e1, j, hj⟩
    have HA1 : Hid (∃ y b, e = .returned (.tuple #[I y, .bool b]) ∧ anV ⟨0, y, 0, b⟩ = anV (hA l (4, key, val))) := by
      show ∃ _, _
      have e0 : hA l (4, key, val) = hanO (qnx key l) := by
        unfold hA
        rw [if_neg (by simp), if_neg HKB.out, if_pos rfl]
      rw [e0]
      rcases e1 with ⟨y, rfl, hy⟩ | ⟨rfl, hno⟩
      · exact ⟨y, true, rfl, by rw [qnx_is HU.out hy]; rfl⟩
      · exact ⟨0, false, rfl, by rw [qnx_none.2 (fun z hz => Int.not_lt.2 (hno z hz))]; rfl⟩
    have hb1 : Below w.heap.size w w1 := by rw [hj]; exact below_drewN HB.out j
    have hab1 : AB w1 (w.heap.size + 1) := HAB.out.below (by rw [hj]; exact below_drewN (Below.refl W.heap.size W) j) (by omega)
    have hs1 : w1.heap.size = w.heap.size + 2 := by rw [hj]; exact hsz
    have HB1 := Lib.hid hb1
    have HAB1 := Lib.hid hab1
    clear e1 hj hb1 hab1
    obtain ⟨y, b, rfl, hyb⟩ := HA1.out
    have HYB := Lib.hid hyb
    clear HA1 hyb
    go_wp2_with fail
    refine (HKN.out y b w1).mono ?_
    rintro e w2 ⟨rfl, hb2⟩
    have hab2 : AB w2 (w.heap.size + 1) := HAB1.out.below hb2 (by omega)
    have HB2 := Lib.hid (HB1.out.trans (hb2.mono (by omega)))
    obtain ⟨⟨a0, a1, a2, a3⟩, f0, f1, f2, f3⟩ := hab2.facts
    clear hb2 hab2
    go_wp2
    refine bodyPost_ret (v := .tuple #[.pointer P, anV ⟨0, y, 0, b⟩]) (by simp [results, Tryz.results77, go_sem, a0, a1, a2, a3]) rfl ?_
    rw [← HP.out]
    exact DoHR.same H.out HF.out (below_st4 HB2.out (by omega) _ _ _ _) HYB.out HL.out
  · go_enter Tryz.func77, Tryz.ntmps77
    go_wp2_with fail
    refine (HI.out _).mono ?_
    rintro e w1 ⟨rfl, rfl⟩
    go_wp2_with fail
    rw [HW.out]
    refine HPV.out.mono ?_
    rintro e w1 ⟨e1, j, hj⟩
    have HA1 : Hid (∃ y b, e = .returned (.tuple #[I y, .bool b]) ∧ anV ⟨0, y, 0, b⟩ = anV (hA l (5, key, val))) := by
      show ∃ _, _
      have e0 : hA l (5, key, val) = hanO (qpv key l) := by
        unfold hA
        rw [if_neg (by simp), if_neg HKB.out, if_neg (by simp), if_pos rfl]
      rw [e0]
      rcases e1 with ⟨y, rfl, hy⟩ | ⟨rfl, hno⟩
      · exact ⟨y, true, rfl, by rw [qpv_is HU.out hy]; rfl⟩
      · exact ⟨0, false, rfl, by rw [qpv_none.2 (fun z hz => Int.not_lt.2 (hno z hz))]; rfl⟩
    have hb1 : Below w.heap.size w w1 := by rw [hj]; exact below_drewN HB.out j
    have hab1 : AB w1 (w.heap.size + 1) := HAB.out.below (by rw [hj]; exact below_drewN (Below.refl W.heap.size W) j) (by omega)
    have hs1 : w1.heap.size = w.heap.size + 2 := by rw [hj]; exact hsz
    have HB1 := Lib.hid hb1
    have HAB1 := Lib.hid hab1
    clear e1 hj hb1 hab1
    obtain ⟨y, b, rfl, hyb⟩ := HA1.out
    have HYB := Lib.hid hyb
    clear HA1 hyb
    go_wp2_with fail
    refine (HKN.out y b w1).mono ?_
    rintro e w2 ⟨rfl, hb2⟩
    have hab2 : AB w2 (w.heap.size + 1) := HAB1.out.below hb2 (by omega)
    have HB2 := Lib.hid (HB1.out.trans (hb2.mono (by omega)))
    obtain ⟨⟨a0, a1, a2, a3⟩, f0, f1, f2, f3⟩ := hab2.facts
    clear hb2 hab2
    go_wp2
    refine bodyPost_ret (v := .tuple #[.pointer P, anV ⟨0, y, 0, b⟩]) (by simp [results, Tryz.results77, go_sem, a0, a1, a2, a3]) rfl ?_
    rw [← HP.out]
    exact DoHR.same H.out HF.out (below_st4 HB2.out (by omega) _ _ _ _) HYB.out HL.out

end Go.Proofs.YtpnjnedfcdppaaaGreatDoor

/-
  package half: one op that puts, gets or cuts; any op.
-/
namespace Go.Proofs.YtpnjnedfcdppaaaGreatDoor
open Go.RowKit Go.Maps

theorem DoHR.step {l : List Int} {o : Int × Int × Int} {T : Nat} {F F' : Nat → Prop} {w W2 w3 w4 : World} {p' : Option Nat} {v : Value} (hF : ∀ x, F x → x < w.heap.size) (hb : Below w.heap.size w W2) (hs : w.heap.size + 2 ≤ W2.heap.size)
    (hr : QR 4 w3 (T + 31) p' (· ∈ hL l o) F') (hl : ∀ x, F' x → x < w3.heap.size ∧ (F x ∨ W2.heap.size ≤ x)) (hk : QK F W2 w3) (hk4 : QK (fun x => x = w.heap.size + 1) w3 w4) (hv : v = anV (hA l o)) :
    DoHR l o T F w (.returned (.tuple #[qp p', v])) w4 := by
  subst hv
  refine ⟨p', F', rfl, hr.keep fun x hx => hk4.block x (hl x hx).1 (fun e => ?_), fun x hx => ⟨Nat.lt_of_lt_of_le (hl x hx).1 hk4.size, ?_⟩, ?_⟩
  · rcases (hl x hx).2 with h | h
    · have := hF x h; omega
    · omega
  · rcases (hl x hx).2 with h | h
    · exact .inl h
    · exact .inr (by omega)
  · have h1 : QK F w W2 := QK.of_below hb (Nat.le_refl _)
    exact (h1.trans hk (fun _ _ e => e) (fun _ _ e => e)).trans hk4 (fun _ _ e => e) (fun x hx e => by omega)
theorem hL_one {l : List Int} {key val : Int} (h0 : 0 ≤ key) (h1 : key ≤ 65535) : hL l (1, key, val) = qins key l := by
  unfold hL
  rw [if_pos ⟨by simp, by simp, h0, h1⟩, if_pos rfl]
theorem hL_three {l : List Int} {key val : Int} (h0 : 0 ≤ key) (h1 : key ≤ 65535) : hL l (3, key, val) = qdel key l := by
  unfold hL
  rw [if_pos ⟨by simp, by simp, h0, h1⟩, if_neg (by simp), if_pos rfl]
theorem hA_is {l : List Int} {kind key val : Int} (hk : kind = 1 ∨ kind = 2 ∨ kind = 3) (h0 : 0 ≤ key) (h1 : key ≤ 65535) : hA l (kind, key, val) = ⟨0, 0, 0, decide (key ∈ l)⟩ := by
  unfold hA
  rw [if_neg (by simp; omega), if_neg (by simp; omega), if_neg (by simp; omega), if_neg (by simp; omega)]

/-- the second answer's block -/
def AC (w : World) (g : Nat) (b : Bool) : Prop := w.heap[g]? = some (.cells #[I 0, I 0, I 0, .bool b] 51 (0, 0))
theorem AC.new (w : World) (b : Bool) : AC (w.alloc (.cells #[I 0, I 0, I 0, .bool b] 51)) w.heap.size b := heap_alloc_new w _
theorem AC.keep {w w' : World} {g : Nat} {b : Bool} (h : AC w g b) (e : w'.heap[g]? = w.heap[g]?) : AC w' g b := e.trans h
theorem AC.facts {w : World} {g : Nat} {b : Bool} (h : AC w g b) : w.cell? ⟨g, 0, none⟩ = some (I 0) ∧ w.cell? ⟨g, 1, none⟩ = some (I 0) ∧ w.cell? ⟨g, 2, none⟩ = some (I 0) ∧ w.cell? ⟨g, 3, none⟩ = some (.bool b) := by
  unfold AC at h
  refine ⟨?_, ?_, ?_, ?_⟩ <;> simp [World.cell?, h]

set_option maxRecDepth 100000 in
set_option maxHeartbeats 4000000 in
theorem do_is (p : Option Nat) (T : Nat) (l : List Int) (F : Nat → Prop) (kind key val : Int) (w : World) (h : QR 4 w T p (· ∈ l) F) (hF : ∀ x, F x → x < w.heap.size) (hk : kind = 1 ∨ kind = 2 ∨ kind = 3) (h0 : 0 ≤ key) (h1 : key ≤ 65535) (hT : T + 31 ≤ 1000000) :
    Calls Tryz.prog 77 #[qp p, .agg #[I kind, I key, I val]] w (DoHR l (kind, key, val) T F w) := by
  have HHA := Lib.hid (hA_is (l := l) (val := val) hk h0 h1)
  have HL1 : Hid (kind = 1 → hL l (kind, key, val) = qins key l) := fun e => by subst e; exact hL_one h0 h1
  have HL3 : Hid (kind = 3 → hL l (kind, key, val) = qdel key l) := fun e => by subst e; exact hL_three h0 h1
  have HL2 : Hid (kind = 2 → hL l (kind, key, val) = l) := fun e => hL_get (by show kind ≠ 1; omega) (by show kind ≠ 3; omega)
  have HL4 : Hid (kind = 3 → key ∉ l → hL l (kind, key, val) = l) := fun e hn => hL_cut0 e hn
  have H := Lib.hid h
  have HF := Lib.hid hF
  have HI := Lib.hid (fun W => qisKey_yes key W h0 h1)
  obtain ⟨W, hW⟩ : ∃ W, ((w.alloc (.cells #[I kind, I key, I val] 69)).alloc ansO) = W := ⟨_, rfl⟩
  have hb : Below w.heap.size w W := by rw [← hW]; exact ((Below.refl _ _).alloc (Nat.le_refl _) _).alloc (by simp) _
  have hab : AB W (w.heap.size + 1) := by
    rw [← hW]
    simpa using AB.new (w.alloc (.cells #[I kind, I key, I val] 69))
  have hop : W.heap[w.heap.size]? = some (.cells #[I kind, I key, I val] 69 (0, 0)) := by
    rw [← hW]
    have := heap_alloc_new w (.cells #[I kind, I key, I val] 69)
    exact (Below.heap_alloc _ _ _ (by simp)).trans this
  have hsz : W.heap.size = w.heap.size + 2 := by rw [← hW]; simp
  have HB := Lib.hid hb
  have HAB := Lib.hid hab
  have HOP := Lib.hid hop
  have hq4 : key < qq 4 := by rw [qq4]; omega
  have HHS := Lib.hid (has_any 4 (by omega) p T (· ∈ l) F key W (h.keep fun x hx => hb.block x (hF x hx)) h0 hq4)
  have HWI : Hid (∀ W2 : World, Below w.heap.size w W2 → Calls Tryz.prog 151 #[qp p, I key, I 16] W2 (WiR 4 T (QPut (· ∈ l) key) F W2)) :=
    fun W2 hb2 => with_any 4 (by omega) p T (· ∈ l) F key W2 (H.out.keep fun x hx => hb2.block x (HF.out x hx)) (fun x hx => Nat.lt_of_lt_of_le (HF.out x hx) hb2.size) h0 hq4 hT
  have HWO : Hid (∀ g, p = some g → key ∈ l → ∀ W2 : World, Below w.heap.size w W2 → Calls Tryz.prog 152 #[.pointer (some ⟨g, 0, none⟩), I key] W2 (WoR 4 T (QCut (· ∈ l) key) F W2)) :=
    fun g hg hm W2 hb2 => wout_any 4 (by omega) g T (· ∈ l) F key W2 (by have := H.out.keep fun x hx => hb2.block x (HF.out x hx); rw [hg] at this; exact this) (fun x hx => Nat.lt_of_lt_of_le (HF.out x hx) hb2.size) hm hT
  have HSO : Hid (key ∈ l → ∃ g, p = some g) := fun hm => H.out.some_of hm
  have HW := Lib.hid hW
  obtain ⟨P, hP⟩ : ∃ P, qp p = .pointer P := ⟨_, rfl⟩
  rw [hP] at HHS HWI ⊢
  have HP := Lib.hid hP
  clear h hF hP h0 h1 hb hab hop hW hq4
  rcases hk with rfl | rfl | rfl
  · skip
    have HL : Hid (hL l (1, key, val) = qins key l) := HL1.out rfl
    clear HL1 HL2 HL3 HL4
    go_enter Tryz.func77, Tryz.ntmps77
    go_wp2_with fail
    refine (HI.out _).mono ?_
    rintro e w1 ⟨rfl, rfl⟩
    go_wp2_with fail
    rw [HW.out]
    refine HHS.out.mono ?_
    rintro e w1 ⟨⟨b, rfl, hbm⟩, j, hj⟩
    have HBM : Hid (b = decide (key ∈ l)) := by show b = _; cases b <;> simp_all
    have hb1 : Below w.heap.size w w1 := by rw [hj]; exact below_drewN HB.out j
    have hh1 : w1.heap = W.heap := by rw [hj]; rfl
    have hop1 : w1.heap[w.heap.size]? = some (.cells #[I 1, I key, I val] 69 (0, 0)) := by rw [hh1]; exact HOP.out
    have hab1 : AB w1 (w.heap.size + 1) := by unfold AB; rw [hh1]; exact HAB.out
    have hs1 : w1.heap.size = w.heap.size + 2 := by rw [hh1]; exact hsz
    have hb2 : Below w.heap.size w (w1.alloc (.cells #[I 0, I 0, I 0, .bool b] 51)) := hb1.alloc (by omega) _
    have hop2 := (Below.heap_alloc w1 (.cells #[I 0, I 0, I 0, .bool b] 51) w.heap.size (by omega)).trans hop1
    have hab2 : AB (w1.alloc (.cells #[I 0, I 0, I 0, .bool b] 51)) (w.heap.size + 1) := (Below.heap_alloc w1 (.cells #[I 0, I 0, I 0, .bool b] 51) (w.heap.size + 1) (by omega)).trans hab1
    have hac2 := AC.new w1 b
    rw [hs1] at hac2
    have o0 : w1.cell? ⟨w.heap.size, 0, none⟩ = some (I 1) := by simp [World.cell?, hop1]
    have o1 : w1.cell? ⟨w.heap.size, 1, none⟩ = some (I key) := by simp [World.cell?, hop1]
    have HB2 := Lib.hid hb2
    have HO2 := Lib.hid hop2
    have HA2 := Lib.hid hab2
    have HC2 := Lib.hid hac2
    have hs2 : (w1.alloc (.cells #[I 0, I 0, I 0, .bool b] 51)).heap.size = w.heap.size + 3 := by simp [hs1]
    have HS2 := Lib.hid hs2
    clear hbm hj hb1 hh1 hop1 hab1 hb2 hop2 hab2 hac2 hs2 HHS HI
    go_wp2_with fail
    refine (HWI.out _ HB2.out).mono ?_
    rintro e w3 ⟨g3, F3, rfl, hr3, hl3, hk3⟩
    have keep : ∀ x, w.heap.size ≤ x ∧ x < w.heap.size + 3 → w3.heap[x]? = (w1.alloc (.cells #[I 0, I 0, I 0, .bool b] 51)).heap[x]? := fun x hx => hk3.block x (by have := HS2.out; omega) (fun e => by have := HF.out x e; omega)
    have hop3 : w3.heap[w.heap.size]? = some (.cells #[I 1, I key, I val] 69 (0, 0)) := (keep w.heap.size (by omega)).trans HO2.out
    have hab3 : AB w3 (w.heap.size + 1) := (keep (w.heap.size + 1) (by omega)).trans HA2.out
    have hac3 : AC w3 (w.heap.size + 2) b := (keep (w.heap.size + 2) (by omega)).trans HC2.out
    have p0 : w3.cell? ⟨w.heap.size, 0, none⟩ = some (I 1) := by simp [World.cell?, hop3]
    have p1 : w3.cell? ⟨w.heap.size, 1, none⟩ = some (I key) := by simp [World.cell?, hop3]
    obtain ⟨⟨a0, a1, a2, a3⟩, f0, f1, f2, f3⟩ := hab3.facts
    obtain ⟨q0, q1, q2, q3⟩ := hac3.facts
    have HEND : Hid (∀ w4, QK (fun x => x = w.heap.size + 1) w3 w4 → DoHR l (1, key, val) T F w (.returned (.tuple #[qp (some g3), anV ⟨0, 0, 0, b⟩])) w4) := fun w4 hk4 => by
      refine DoHR.step HF.out HB2.out (by have := HS2.out; omega) (F' := F3) ?_ hl3 hk3 hk4 (by rw [HHA.out, HBM.out])
      rw [HL.out, ← qput_list]
      exact hr3
    clear keep hr3 hl3 hk3 hop3 hab3 hac3 HWI HWO HSO
    go_wp2
    go_region
    all_goals go_wp2
    all_goals
      refine bodyPost_ret (v := .tuple #[.pointer (some ⟨g3, 0, none⟩), anV ⟨0, 0, 0, b⟩]) (by simp [results, Tryz.results77, go_sem, a0, a1, a2, a3]) rfl ?_
      refine HEND.out _ ?_
      exact (((((QK.refl (fun x => x = w.heap.size + 1) w3).set rfl 0 _).set rfl 1 _).set rfl 2 _).set rfl 3 _).drew
  · skip
    have HL : Hid (hL l (2, key, val) = l) := HL2.out rfl
    clear HL1 HL2 HL3 HL4
    go_enter Tryz.func77, Tryz.ntmps77
    go_wp2_with fail
    refine (HI.out _).mono ?_
    rintro e w1 ⟨rfl, rfl⟩
    go_wp2_with fail
    rw [HW.out]
    refine HHS.out.mono ?_
    rintro e w1 ⟨⟨b, rfl, hbm⟩, j, hj⟩
    have HBM : Hid (b = decide (key ∈ l)) := by show b = _; cases b <;> simp_all
    have hb1 : Below w.heap.size w w1 := by rw [hj]; exact below_drewN HB.out j
    have hh1 : w1.heap = W.heap := by rw [hj]; rfl
    have hop1 : w1.heap[w.heap.size]? = some (.cells #[I 2, I key, I val] 69 (0, 0)) := by rw [hh1]; exact HOP.out
    have hab1 : AB w1 (w.heap.size + 1) := by unfold AB; rw [hh1]; exact HAB.out
    have hs1 : w1.heap.size = w.heap.size + 2 := by rw [hh1]; exact hsz
    have hb2 : Below w.heap.size w (w1.alloc (.cells #[I 0, I 0, I 0, .bool b] 51)) := hb1.alloc (by omega) _
    have hop2 := (Below.heap_alloc w1 (.cells #[I 0, I 0, I 0, .bool b] 51) w.heap.size (by omega)).trans hop1
    have hab2 : AB (w1.alloc (.cells #[I 0, I 0, I 0, .bool b] 51)) (w.heap.size + 1) := (Below.heap_alloc w1 (.cells #[I 0, I 0, I 0, .bool b] 51) (w.heap.size + 1) (by omega)).trans hab1
    have hac2 := AC.new w1 b
    rw [hs1] at hac2
    have o0 : w1.cell? ⟨w.heap.size, 0, none⟩ = some (I 2) := by simp [World.cell?, hop1]
    have o1 : w1.cell? ⟨w.heap.size, 1, none⟩ = some (I key) := by simp [World.cell?, hop1]
    have HB2 := Lib.hid hb2
    have HO2 := Lib.hid hop2
    have HA2 := Lib.hid hab2
    have HC2 := Lib.hid hac2
    have hs2 : (w1.alloc (.cells #[I 0, I 0, I 0, .bool b] 51)).heap.size = w.heap.size + 3 := by simp [hs1]
    have HS2 := Lib.hid hs2
    clear hbm hj hb1 hh1 hop1 hab1 hb2 hop2 hab2 hac2 hs2 HHS HI
    have keep : ∀ x, w.heap.size ≤ x ∧ x < w.heap.size + 3 → (w1.alloc (.cells #[I 0, I 0, I 0, .bool b] 51)).heap[x]? = (w1.alloc (.cells #[I 0, I 0, I 0, .bool b] 51)).heap[x]? := fun x hx => rfl
    obtain ⟨w3, hw3⟩ : ∃ w3, w1.alloc (.cells #[I 0, I 0, I 0, .bool b] 51) = w3 := ⟨_, rfl⟩
    rw [hw3] at keep HB2 HO2 HA2 HC2 HS2
    have hop3 : w3.heap[w.heap.size]? = some (.cells #[I 2, I key, I val] 69 (0, 0)) := (keep w.heap.size (by omega)).trans HO2.out
    have hab3 : AB w3 (w.heap.size + 1) := (keep (w.heap.size + 1) (by omega)).trans HA2.out
    have hac3 : AC w3 (w.heap.size + 2) b := (keep (w.heap.size + 2) (by omega)).trans HC2.out
    have p0 : w3.cell? ⟨w.heap.size, 0, none⟩ = some (I 2) := by simp [World.cell?, hop3]
    have p1 : w3.cell? ⟨w.heap.size, 1, none⟩ = some (I key) := by simp [World.cell?, hop3]
    obtain ⟨⟨a0, a1, a2, a3⟩, f0, f1, f2, f3⟩ := hab3.facts
    obtain ⟨q0, q1, q2, q3⟩ := hac3.facts
    have HEND : Hid (∀ w4, QK (fun x => x = w.heap.size + 1) w3 w4 → DoHR l (2, key, val) T F w (.returned (.tuple #[qp p, anV ⟨0, 0, 0, b⟩])) w4) := fun w4 hk4 => by
      refine DoHR.step HF.out HB2.out (by have := HS2.out; omega) (F' := F) ?_ (fun x hx => ⟨Nat.lt_of_lt_of_le (HF.out x hx) HB2.out.size, .inl hx⟩) (QK.refl F w3) hk4 (by rw [HHA.out, HBM.out])
      rw [HL.out]
      exact (H.out.keep fun x hx => HB2.out.block x (HF.out x hx)).mono (by omega) (fun _ e => e)
    rw [HP.out] at HEND
    clear keep hop3 hab3 hac3 HWI HWO HSO
    go_wp2
    go_region
    all_goals go_wp2
    all_goals
      refine bodyPost_ret (v := .tuple #[.pointer P, anV ⟨0, 0, 0, b⟩]) (by simp [results, Tryz.results77, go_sem, hw3, a0, a1, a2, a3]) rfl ?_
      refine HEND.out _ ?_
      exact (((((QK.refl (fun x => x = w.heap.size + 1) w3).set rfl 0 _).set rfl 1 _).set rfl 2 _).set rfl 3 _).drew
  · skip
    have HL : Hid (hL l (3, key, val) = qdel key l) := HL3.out rfl
    have HLN : Hid (key ∉ l → hL l (3, key, val) = l) := HL4.out rfl
    clear HL1 HL2 HL3 HL4
    go_enter Tryz.func77, Tryz.ntmps77
    go_wp2_with fail
    refine (HI.out _).mono ?_
    rintro e w1 ⟨rfl, rfl⟩
    go_wp2_with fail
    rw [HW.out]
    refine HHS.out.mono ?_
    rintro e w1 ⟨⟨b, rfl, hbm⟩, j, hj⟩
    have HBM : Hid (b = decide (key ∈ l)) := by show b = _; cases b <;> simp_all
    have hb1 : Below w.heap.size w w1 := by rw [hj]; exact below_drewN HB.out j
    have hh1 : w1.heap = W.heap := by rw [hj]; rfl
    have hop1 : w1.heap[w.heap.size]? = some (.cells #[I 3, I key, I val] 69 (0, 0)) := by rw [hh1]; exact HOP.out
    have hab1 : AB w1 (w.heap.size + 1) := by unfold AB; rw [hh1]; exact HAB.out
    have hs1 : w1.heap.size = w.heap.size + 2 := by rw [hh1]; exact hsz
    have hb2 : Below w.heap.size w (w1.alloc (.cells #[I 0, I 0, I 0, .bool b] 51)) := hb1.alloc (by omega) _
    have hop2 := (Below.heap_alloc w1 (.cells #[I 0, I 0, I 0, .bool b] 51) w.heap.size (by omega)).trans hop1
    have hab2 : AB (w1.alloc (.cells #[I 0, I 0, I 0, .bool b] 51)) (w.heap.size + 1) := (Below.heap_alloc w1 (.cells #[I 0, I 0, I 0, .bool b] 51) (w.heap.size + 1) (by omega)).trans hab1
    have hac2 := AC.new w1 b
    rw [hs1] at hac2
    have o0 : w1.cell? ⟨w.heap.size, 0, none⟩ = some (I 3) := by simp [World.cell?, hop1]
    have o1 : w1.cell? ⟨w.heap.size, 1, none⟩ = some (I key) := by simp [World.cell?, hop1]
    have HB2 := Lib.hid hb2
    have HO2 := Lib.hid hop2
    have HA2 := Lib.hid hab2
    have HC2 := Lib.hid hac2
    have hs2 : (w1.alloc (.cells #[I 0, I 0, I 0, .bool b] 51)).heap.size = w.heap.size + 3 := by simp [hs1]
    have HS2 := Lib.hid hs2
    clear hbm hj hb1 hh1 hop1 hab1 hb2 hop2 hab2 hac2 hs2 HHS HI
    cases b with
    | false =>
      go_wp2
      obtain ⟨w3, hw3⟩ : ∃ w3, w1.alloc (.cells #[I 0, I 0, I 0, .bool false] 51) = w3 := ⟨_, rfl⟩
      have hw3' : w1.alloc (.cells #[.int .i64 0, .int .i64 0, .int .i64 0, .bool false] 51) = w3 := hw3
      rw [hw3] at HB2 HA2 HC2 HS2
      rw [hw3']
      clear hw3 hw3' HO2 o0 o1
      obtain ⟨⟨a0, a1, a2, a3⟩, f0, f1, f2, f3⟩ := HA2.out.facts
      obtain ⟨q0, q1, q2, q3⟩ := HC2.out.facts
      have HEND : Hid (∀ w4, QK (fun x => x = w.heap.size + 1) w3 w4 → DoHR l (3, key, val) T F w (.returned (.tuple #[qp p, anV ⟨0, 0, 0, false⟩])) w4) := fun w4 hk4 => by
        refine DoHR.step HF.out HB2.out (by have := HS2.out; omega) (F' := F) ?_ (fun x hx => ⟨Nat.lt_of_lt_of_le (HF.out x hx) HB2.out.size, .inl hx⟩) (QK.refl F _) hk4 (by rw [HHA.out, HBM.out])
        rw [HLN.out (fun hm => by have := HBM.out; simp [hm] at this)]
        exact (H.out.keep fun x hx => HB2.out.block x (HF.out x hx)).mono (by omega) (fun _ e => e)
      rw [HP.out] at HEND
      clear HWI HWO HSO
      go_region
      all_goals go_wp2
      all_goals
        refine bodyPost_ret (v := .tuple #[.pointer P, anV ⟨0, 0, 0, false⟩]) (by simp [results, Tryz.results77, go_sem, a0, a1, a2, a3]) rfl ?_
        refine HEND.out _ ?_
        exact (((((QK.refl (fun x => x = w.heap.size + 1) w3).set rfl 0 _).set rfl 1 _).set rfl 2 _).set rfl 3 _).drew
    | true =>
      have hmem : key ∈ l := by have := HBM.out; simpa using this.symm
      obtain ⟨g, hg⟩ := HSO.out hmem
      have hPg : P = some ⟨g, 0, none⟩ := by have := HP.out; rw [hg] at this; cases this; rfl
      subst hPg
      go_wp2_with fail
      refine (HWO.out g hg hmem _ HB2.out).mono ?_
      rintro e w3 ⟨po, F3, rfl, hr3, hl3, hk3⟩
      have keep : ∀ x, w.heap.size ≤ x ∧ x < w.heap.size + 3 → w3.heap[x]? = (w1.alloc (.cells #[I 0, I 0, I 0, .bool true] 51)).heap[x]? := fun x hx => hk3.block x (by have := HS2.out; omega) (fun e => by have := HF.out x e; omega)
      have hop3 : w3.heap[w.heap.size]? = some (.cells #[I 3, I key, I val] 69 (0, 0)) := (keep w.heap.size (by omega)).trans HO2.out
      have hab3 : AB w3 (w.heap.size + 1) := (keep (w.heap.size + 1) (by omega)).trans HA2.out
      have hac3 : AC w3 (w.heap.size + 2) true := (keep (w.heap.size + 2) (by omega)).trans HC2.out
      have p0 : w3.cell? ⟨w.heap.size, 0, none⟩ = some (I 3) := by simp [World.cell?, hop3]
      have p1 : w3.cell? ⟨w.heap.size, 1, none⟩ = some (I key) := by simp [World.cell?, hop3]
      obtain ⟨⟨a0, a1, a2, a3⟩, f0, f1, f2, f3⟩ := hab3.facts
      obtain ⟨q0, q1, q2, q3⟩ := hac3.facts
      have HEND : Hid (∀ w4, QK (fun x => x = w.heap.size + 1) w3 w4 → DoHR l (3, key, val) T F w (.returned (.tuple #[qp po, anV ⟨0, 0, 0, true⟩])) w4) := fun w4 hk4 => by
        refine DoHR.step HF.out HB2.out (by have := HS2.out; omega) (F' := F3) ?_ hl3 hk3 hk4 (by rw [HHA.out, HBM.out])
        rw [HL.out, ← qcut_list]
        exact hr3
      clear keep hr3 hl3 hk3 hop3 hab3 hac3 HWI HWO HSO
      obtain ⟨PO, hPO⟩ : ∃ PO, qp po = .pointer PO := ⟨_, rfl⟩
      rw [hPO] at HEND ⊢
      clear hPO
      go_wp2
      go_region
      all_goals go_wp2
      all_goals
        refine bodyPost_ret (v := .tuple #[.pointer PO, anV ⟨0, 0, 0, true⟩]) (by simp [results, Tryz.results77, go_sem, a0, a1, a2, a3]) rfl ?_
        refine HEND.out _ ?_
        exact (((((QK.refl (fun x => x = w.heap.size + 1) w3).set rfl 0 _).set rfl 1 _).set rfl 2 _).set rfl 3 _).drew
theorem do_any (p : Option Nat) (T : Nat) (l : List Int) (F : Nat → Prop) (kind key val : Int) (w : World) (h : QR 4 w T p (· ∈ l) F) (hF : ∀ x, F x → x < w.heap.size) (hu : Up l) (hT : T + 31 ≤ 1000000) :
    Calls Tryz.prog 77 #[qp p, .agg #[I kind, I key, I val]] w (DoHR l (kind, key, val) T F w) := by
  by_cases hk : 1 ≤ kind ∧ kind ≤ 5
  · by_cases hb : 0 ≤ key ∧ key ≤ 65535
    · by_cases h4 : kind = 4 ∨ kind = 5
      · exact do_near p T l F kind key val w h hF hu h4 hb.1 hb.2
      · exact do_is p T l F kind key val w h hF (by omega) hb.1 hb.2 hT
    · exact do_arg p T l F kind key val w h hF hk hb
  · exact do_form p T l F kind key val w h hF hk

end Go.Proofs.YtpnjnedfcdppaaaGreatDoor

/-
  package half: Run.
-/
namespace Go.Proofs.YtpnjnedfcdppaaaGreatDoor
open Go.RowKit Go.Maps

def RetQR (l : List Int) (a : List An) (er : Int) (w : World) (e : Ending) (w' : World) : Prop :=
  ∃ A n c A' n' c', e = .returned (.tuple #[.slice A n c, .slice A' n' c', I er]) ∧ IS w' A n c l ∧ AS w' A' n' c' a ∧ Below w.heap.size w w'
/-- what the answers' row holds behind k rounds -/
def hTo (ops : List OP) (k : Nat) : List An := (hR (ops.take k)).2 ++ List.replicate (ops.length - k) an0
theorem hTo_len (ops : List OP) (k : Nat) (h : k ≤ ops.length) : (hTo ops k).length = ops.length := by
  simp [hTo, hR_len]; omega
theorem hTo_succ (ops : List OP) (k : Nat) (h : k < ops.length) : (hTo ops k).set k (hA (hR (ops.take k)).1 ops[k]) = hTo ops (k + 1) := by
  unfold hTo
  have hl : (hR (ops.take k)).2.length = k := by rw [hR_len, List.length_take]; omega
  rw [List.set_append_right _ _ (by omega), hl, Nat.sub_self, show ops.length - k = ops.length - (k + 1) + 1 by omega, List.replicate_succ, List.set_cons_zero, hR_succ ops k h]
  simp [hS]

set_option maxRecDepth 100000 in
set_option maxHeartbeats 1000000 in
theorem QRun_large (A : Option Addr) (n c : Nat) (w : World) (hn : 300 < n) (hm : n ≤ 9223372036854775807) :
    Calls Tryz.prog 36 #[.slice A n c] w (RetQR [] [] 2 w) := by
  go_enter Tryz.func36, Tryz.ntmps36
  go_wp2
  go_ret3
  exact ⟨none, 0, 0, none, 0, 0, rfl, ⟨rfl, Rd.none_⟩, ⟨rfl, Rd.none_⟩, Below.refl _ _⟩

set_option maxRecDepth 100000 in
set_option maxHeartbeats 4000000 in
theorem QRun_any (A : Option Addr) (n c : Nat) (ops : List OP) (w : World) (h : OS w A n c ops) (hn : n ≤ 300) :
    Calls Tryz.prog 36 #[.slice A n c] w (RetQR (hR ops).1 (hR ops).2 0 w) := by
  have hmk := fun W => run_makeA (P := Tryz.prog) 34 51 Tryz.underlying34 ans_info n (by omega) W
  have H := Lib.hid h
  have Hlen := Lib.hid h.len
  clear h
  have hb0 : Below w.heap.size w (w.alloc (.cells (flatA (List.replicate n an0)).toArray 51)) := (Below.refl _ _).alloc (Nat.le_refl _) _
  have hq0 : QB (w.alloc (.cells (flatA (List.replicate n an0)).toArray 51)) w.heap.size 51 (hTo ops 0) := by
    have : hTo ops 0 = List.replicate n an0 := by simp [hTo, hR, Hlen.out]
    rw [this]
    exact QB.new _ _ _
  have HB0 := Lib.hid hb0
  have HQ0 := Lib.hid hq0
  clear hb0 hq0
  go_enter Tryz.func36, Tryz.ntmps36
  go_wp2
  go_loopw [5, 17] (fun v i wr => ∃ (k : Nat) (p : Option Nat) (P : Option Addr) (F : Nat → Prop), k ≤ n ∧ i = .int .i64 k ∧ v = .pointer P ∧ qp p = .pointer P ∧ QR 4 wr (31 * k) p (· ∈ (hR (ops.take k)).1) F ∧ (∀ x, F x → w.heap.size + 1 ≤ x ∧ x < wr.heap.size) ∧ QB wr w.heap.size 51 (hTo ops k) ∧ Below w.heap.size w wr) (fun _ i _ => n - (intOf i).toNat)
  case atStart => exact ⟨0, none, none, fun _ => False, Nat.zero_le _, rfl, rfl, rfl, QR.none_iff.2 (by simp [hR]), fun _ h => h.elim, HQ0.out, HB0.out⟩
  case round =>
    obtain ⟨k, p, P, F, hk, rfl, rfl, hP, hqr, hF, hq, hnx⟩ := hrel
    have hsz := hnx.size
    have hqlt := hq.lt
    by_cases hlt : k < n
    · obtain ⟨b, off, rfl, hb, hc⟩ := H.out.at_ (by omega)
      have hkl : k < ops.length := by have := Hlen.out; omega
      have hc0 : wr.cell? ⟨b, off + k * 3, none⟩ = some (I ops[k].1) := (hnx.cell (by exact hb)).trans (hc k hlt).1
      have hc1 : wr.cell? ⟨b, off + k * 3 + 1, none⟩ = some (I ops[k].2.1) := (hnx.cell (by exact hb)).trans (hc k hlt).2.1
      have hc2 : wr.cell? ⟨b, off + k * 3 + 2, none⟩ = some (I ops[k].2.2) := (hnx.cell (by exact hb)).trans (hc k hlt).2.2
      have HQ := Lib.hid hq
      have HNX := Lib.hid hnx
      have HQL := Lib.hid hqlt
      have HF := Lib.hid hF
      have HTS := Lib.hid (hTo_succ ops k hkl)
      have HTL := Lib.hid (hTo_len ops k (by omega))
      have HKL := Lib.hid hkl
      have HRS : Hid ((hR (ops.take (k + 1))).1 = hL (hR (ops.take k)).1 ops[k]) := by show _ = _; rw [hR_succ ops k hkl]; rfl
      have hba : Below wr.heap.size wr (wr.alloc (.cells #[I ops[k].1, I ops[k].2.1, I ops[k].2.2] 69)) := (Below.refl _ _).alloc (Nat.le_refl _) _
      have HBA := Lib.hid hba
      have HDO := Lib.hid (do_any p (31 * k) (hR (ops.take k)).1 F ops[k].1 ops[k].2.1 ops[k].2.2 _ (hqr.keep fun x hx => hba.block x (hF x hx).2) (fun x hx => Nat.lt_of_lt_of_le (hF x hx).2 hba.size) (hR_up _).1 (by omega))
      rw [hP] at HDO
      have HS : Hid ((wr.alloc (.cells #[I ops[k].1, I ops[k].2.1, I ops[k].2.2] 69)).heap.size = wr.heap.size + 1) := by show _ = _; simp
      have ho : (ops[k].1, ops[k].2.1, ops[k].2.2) = ops[k] := rfl
      rw [ho] at HDO
      clear hc hq hnx hmk hqlt hF hqr hP hba ho
      generalize ops[k] = o at *
      generalize (hR (ops.take k)).1 = L at *
      obtain ⟨kd, ky, vl⟩ := o
      simp only at hc0 hc1 hc2 HDO HBA HS HTS
      go_wp2_with fail
      refine HDO.out.mono ?_
      rintro e w2 ⟨p2, F2, rfl, hr2, hl2, hk2⟩
      have hwb : w2.heap[w.heap.size]? = wr.heap[w.heap.size]? := (hk2.block _ (by have := HS.out; have := HQL.out; omega) (fun e => by have := HF.out _ e; omega)).trans (HBA.out.block _ HQL.out)
      have hq2 : QB w2 w.heap.size 51 (hTo ops k) := by have := HQ.out; unfold QB at this ⊢; rw [hwb]; exact this
      have hal : k < (hTo ops k).length := by rw [HTL.out]; exact HKL.out
      have hcc := flatA_at (hTo ops k) k hal
      have a0 := (hq2.cell _).trans hcc.1
      have a1 := (hq2.cell _).trans hcc.2.1
      have a2 := (hq2.cell _).trans hcc.2.2.1
      have a3 := (hq2.cell _).trans hcc.2.2.2
      have f0 := hq2.frozen (k * 4)
      have f1 := hq2.frozen (k * 4 + 1)
      have f2 := hq2.frozen (k * 4 + 2)
      have f3 := hq2.frozen (k * 4 + 3)
      have hset := hq2.set k (hA L (kd, ky, vl)) hal
      rw [HTS.out] at hset
      have HSET := Lib.hid hset
      have HB2 : Hid (Below w.heap.size w w2) := (HNX.out.trans (HBA.out.mono HNX.out.size)).trans (hk2.below (by have := HS.out; omega) (fun x hx => by have := HF.out x hx; omega))
      have HF2 : Hid (∀ x, F2 x → w.heap.size + 1 ≤ x ∧ x < w2.heap.size) := fun x hx => by
        have h1 := hl2 x hx
        refine ⟨?_, h1.1⟩
        rcases h1.2 with h2 | h2
        · exact (HF.out x h2).1
        · have := HS.out; have := HQL.out; omega
      have HR2 : Hid (QR 4 w2 (31 * (k + 1)) p2 (· ∈ (hR (ops.take (k + 1))).1) F2) := by
        show QR _ _ _ _ _ _
        rw [HRS.out]
        exact QR.mono hr2 (show 31 * k + 31 ≤ 31 * (k + 1) by omega) (fun _ e => e)
      obtain ⟨P2, hP2⟩ : ∃ P2, qp p2 = .pointer P2 := ⟨_, rfl⟩
      have HP2 := Lib.hid hP2
      rw [hP2]
      generalize hA L (kd, ky, vl) = an at *
      obtain ⟨ae, ak, av, ab⟩ := an
      simp only at HSET
      clear hq2 hcc hset hwb hr2 hl2 hk2 hP2
      go_wp2
      go_roundw
      case rel =>
        refine ⟨k + 1, p2, P2, F2, by omega, by go_num, rfl, HP2.out, ?_, ?_, HSET.out, ?_⟩
        · refine HR2.out.keep fun x hx => ?_
          have hne : x ≠ w.heap.size := by have := HF2.out x hx; omega
          rw [Below.heap_setCell _ ⟨w.heap.size, k * 4 + 3, none⟩ _ x hne, Below.heap_setCell _ ⟨w.heap.size, k * 4 + 2, none⟩ _ x hne, Below.heap_setCell _ ⟨w.heap.size, k * 4 + 1, none⟩ _ x hne, Below.heap_setCell _ ⟨w.heap.size, k * 4, none⟩ _ x hne]
        · intro x hx
          refine ⟨(HF2.out x hx).1, ?_⟩
          simp [World.setCell]
          exact (HF2.out x hx).2
        · exact (((HB2.out.setCell (by simp) _).setCell (by simp) _).setCell (by simp) _).setCell (by simp) _
      case measure => simp [intOf]; omega
    · have hkn : k = n := by omega
      subst hkn
      have htk : ops.take k = ops := List.take_of_length_le (by have := Hlen.out; omega)
      have hat : hTo ops k = (hR ops).2 := by unfold hTo; rw [htk, Hlen.out]; simp
      rw [htk] at hqr
      rw [hat] at hq
      have has := hq.as_ (c := k) (by rw [hR_len, Hlen.out]; exact Nat.le_refl _)
      rw [hR_len, Hlen.out] at has
      have HAS := Lib.hid has
      have HNX := Lib.hid hnx
      have hll := hR_le ops
      have HK := Lib.hid (keys_any p (31 * k) (hR ops).1 F wr hqr (fun x hx => (hF x hx).2) (hR_up ops).1 (by have := Hlen.out; omega))
      rw [hP] at HK
      clear has hnx hq hat htk hqlt hmk hqr hF hP hll
      go_wp2_with fail
      refine HK.out.mono ?_
      rintro e w2 ⟨v, rfl, hown, hb2⟩
      obtain ⟨A2, c2, rfl, his, -⟩ := hown.is_
      have HIS := Lib.hid his
      have HA2 := Lib.hid (HAS.out.below hb2)
      have HB2 := Lib.hid (HNX.out.trans (hb2.mono HNX.out.size))
      clear hown his hb2
      go_wp2
      go_ret3
      exact ⟨_, _, _, _, _, _, rfl, HIS.out, HA2.out, HB2.out⟩

end Go.Proofs.YtpnjnedfcdppaaaGreatDoor
