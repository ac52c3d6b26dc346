/-
  package hands: check: may they begin?
-/
import Derived.Test.YtfmdpmebllepeaaJInit
namespace Go.Proofs.Ytfmdpmebllepeaa
open Go.RowKit

/-- a deed that may not come -/
def dbad (d : Int × Int) : Bool := !(decide ((d.1 = 1 ∨ d.1 = 2 ∨ d.1 = 3) ∧ (0 ≤ d.2 ∧ d.2 ≤ 9)))
def kok (k : Int) : Bool := decide (0 ≤ k ∧ k ≤ 9)
set_option maxRecDepth 100000 in
theorem isKeyH_any (k : Int) (w : World) {b : Bool} (hb : kok k = b) : Calls Try.prog 30 #[I k] w fun e w' => e = .returned (.bool b) ∧ w' = w := by
  unfold kok at hb
  by_cases h1 : -1 < k
  · by_cases h2 : k < 10
    · obtain rfl : b = true := by rw [← hb]; simp; omega
      clear hb
      go_enter Try.func30, Try.ntmps30
      go_wp2
      go_ret
      exact ⟨by first | rfl | simp, rfl⟩
    · obtain rfl : b = false := by rw [← hb]; simp; omega
      clear hb
      go_enter Try.func30, Try.ntmps30
      go_wp2
      go_ret
      exact ⟨by first | rfl | simp, rfl⟩
  · obtain rfl : b = false := by rw [← hb]; simp; omega
    clear hb
    go_enter Try.func30, Try.ntmps30
    go_wp2
    go_ret
    exact ⟨by first | rfl | simp, rfl⟩
set_option maxRecDepth 100000 in
theorem isLong_any (A : Option Addr) (n c : Nat) (w : World) : Calls Try.prog 29 #[.slice A n c] w fun e w' => e = .returned (.bool (decide (4 < n))) ∧ w' = w := by
  go_enter Try.func29, Try.ntmps29
  go_wp2
  go_ret
  exact ⟨by simp; omega, rfl⟩
set_option maxRecDepth 100000 in
set_option maxHeartbeats 4000000 in
theorem isBad_any (d : Int × Int) (w : World) {b : Bool} (hb : dbad d = b) : Calls Try.prog 32 #[.agg #[I d.1, I d.2]] w fun e w' => e = .returned (.bool b) ∧ Below w.heap.size w w' := by
  obtain ⟨kd, K⟩ := d
  unfold dbad at hb
  simp only at hb ⊢
  have HB : Hid (Below w.heap.size w (w.alloc (.cells #[I kd, I K] 50))) := (Below.refl _ _).alloc (Nat.le_refl _) _
  by_cases h1 : kd = 1 ∨ kd = 2 ∨ kd = 3
  · have hbb : b = !kok K := by rw [← hb]; unfold kok; simp [h1]
    have HK := Lib.hid (isKeyH_any K (w.alloc (.cells #[I kd, I K] 50)) rfl)
    have HBB := Lib.hid hbb
    clear hb hbb
    rcases h1 with rfl | rfl | rfl
    all_goals
      (go_enter Try.func32, Try.ntmps32
       go_wp2_with fail
       refine HK.out.mono ?_
       rintro e w1 ⟨rfl, rfl⟩
       go_wp2
       go_ret
       exact ⟨by rw [HBB.out]; rfl, HB.out⟩)
  · obtain rfl : b = true := by rw [← hb]; simp [h1]
    have h11 : ¬ kd = 1 := fun e => h1 (.inl e)
    have h12 : ¬ kd = 2 := fun e => h1 (.inr (.inl e))
    have h13 : ¬ kd = 3 := fun e => h1 (.inr (.inr e))
    clear hb h1
    go_enter Try.func32, Try.ntmps32
    go_wp2
    go_ret
    exact ⟨rfl, HB.out⟩
/-- the first place where p holds, or -1 -/
def fix1 {α : Type} (p : α → Bool) (l : List α) : Int := match l.findIdx? p with
  | some i => i
  | none => -1
theorem fix1_any {α : Type} (p : α → Bool) (l : List α) : decide (0 ≤ fix1 p l) = l.any p := by
  unfold fix1
  cases h : l.findIdx? p with
  | some i =>
    have := List.findIdx?_eq_some_iff_getElem.mp h
    obtain ⟨hi, hp, _⟩ := this
    have : l.any p = true := List.any_eq_true.mpr ⟨_, List.getElem_mem hi, hp⟩
    rw [this]
    simp
  | none =>
    have h2 : l.any p = false := by
      rw [List.any_eq_false]
      intro x hx
      simp [List.findIdx?_eq_none_iff.mp h x hx]
    rw [h2]
    rfl
theorem fix1_hit {α : Type} {p : α → Bool} {l : List α} {k : Nat} (hk : k < l.length) (h : p l[k] = true) (hno : ∀ j (hj : j < l.length), j < k → p l[j] = false) : fix1 p l = k := by
  have : l.findIdx? p = some k := by
    rw [List.findIdx?_eq_some_iff_getElem]
    exact ⟨hk, h, fun j hj => by simp [hno j (by omega) hj]⟩
  simp [fix1, this]
theorem fix1_none {α : Type} {p : α → Bool} {l : List α} (hno : ∀ j (hj : j < l.length), p l[j] = false) : fix1 p l = -1 := by
  have : l.findIdx? p = none := by
    rw [List.findIdx?_eq_none_iff]
    intro x hx
    obtain ⟨j, hj, rfl⟩ := List.getElem_of_mem hx
    simp [hno j hj]
  simp [fix1, this]
set_option maxRecDepth 100000 in
set_option maxHeartbeats 4000000 in
theorem ixBad_any (A : Option Addr) (n c : Nat) (l : PL) (w : World) (h : PS w A n c l) (hn : n ≤ 9223372036854775807) :
    Calls Try.prog 71 #[.slice A n c, .func (.func 32) #[] #[]] w fun e w' => e = .returned (I (fix1 dbad l)) ∧ Below w.heap.size w w' := by
  have H := Lib.hid h
  have HL := Lib.hid h.len
  clear h
  go_enter Try.func71, Try.ntmps71
  go_wp2
  go_loopw [8] (fun i wr => ∃ k : Nat, k ≤ n ∧ i = .int .i64 k ∧ (∀ j (hj : j < l.length), j < k → dbad l[j] = false) ∧ Below w.heap.size w wr) (fun i _ => n - (intOf i).toNat)
  case atStart => exact ⟨0, Nat.zero_le _, rfl, fun j _ hj => absurd hj (by omega), Below.refl _ _⟩
  case round =>
    obtain ⟨k, hk, rfl, hno, hbl⟩ := hrel
    have HNO := Lib.hid hno
    have HBL := Lib.hid hbl
    by_cases hlt : k < n
    · obtain ⟨b, off, rfl, hb, hc⟩ := H.out.at_ (by omega)
      have hkl : k < l.length := by rw [HL.out]; exact hlt
      have hc0 : wr.cell? ⟨b, off + k * 2, none⟩ = some (I l[k].1) := (hbl.cell (by exact hb)).trans (hc k hlt).1
      have hc1 : wr.cell? ⟨b, off + k * 2 + 1, none⟩ = some (I l[k].2) := (hbl.cell (by exact hb)).trans (hc k hlt).2
      have HCALL := fun (b : Bool) (hb : dbad l[k] = b) => isBad_any l[k] wr (b := b) hb
      cases hd : dbad l[k] with
      | true =>
        have HC := Lib.hid (HCALL true hd)
        have HF : Hid (fix1 dbad l = k) := fix1_hit hkl hd hno
        clear hno hbl hc HCALL hd
        go_wp2_with fail
        refine HC.out.mono ?_
        rintro e w1 ⟨rfl, hb1⟩
        have HB1 := Lib.hid (HBL.out.trans (hb1.mono HBL.out.size))
        clear hb1
        go_wp2
        go_ret
        exact ⟨ret_int (by rw [HF.out]), HB1.out⟩
      | false =>
        have HC := Lib.hid (HCALL false hd)
        have HN : Hid (∀ j (hj : j < l.length), j < k + 1 → dbad l[j] = false) := fun j hj hjk => by
          by_cases e : j = k
          · subst e; exact hd
          · exact hno j hj (by omega)
        clear hno hbl hc HCALL hd
        go_wp2_with fail
        refine HC.out.mono ?_
        rintro e w1 ⟨rfl, hb1⟩
        have HB1 := Lib.hid (HBL.out.trans (hb1.mono HBL.out.size))
        clear hb1
        go_wp2
        go_roundw
        case rel => exact ⟨k + 1, by omega, by go_num, HN.out, HB1.out⟩
        case measure => simp [intOf]; omega
    · have HF : Hid (fix1 dbad l = -1) := fix1_none fun j hj => hno j hj (by rw [HL.out] at hj; omega)
      clear hno hbl
      go_wp2
      go_ret
      exact ⟨ret_int (by rw [HF.out]), HBL.out⟩
set_option maxRecDepth 100000 in
set_option maxHeartbeats 4000000 in
theorem conBad_any (A : Option Addr) (n c : Nat) (l : PL) (w : World) (h : PS w A n c l) (hn : n ≤ 9223372036854775807) :
    Calls Try.prog 31 #[.slice A n c, .func (.func 32) #[] #[]] w fun e w' => e = .returned (.bool (l.any dbad)) ∧ Below w.heap.size w w' := by
  have HC := Lib.hid (ixBad_any A n c l w h hn)
  have HF := Lib.hid (fix1_any dbad l)
  clear h
  obtain ⟨x, hx⟩ : ∃ x, fix1 dbad l = x := ⟨_, rfl⟩
  rw [hx] at HC HF
  clear hx
  go_enter Try.func31, Try.ntmps31
  go_wp2_with fail
  refine HC.out.mono ?_
  rintro e w1 ⟨rfl, hb1⟩
  have HB1 := Lib.hid hb1
  clear hb1
  go_wp2
  go_ret
  exact ⟨by rw [← HF.out]; first | rfl | simp, HB1.out⟩
def lng (s : Sl) : Bool := decide (4 < s.n)
set_option maxRecDepth 100000 in
set_option maxHeartbeats 4000000 in
theorem ixLong_any (A : Option Addr) (n c : Nat) (es : List Sl) (w : World) (h : RS w A n c es) (hn : n ≤ 9223372036854775807) :
    Calls Try.prog 70 #[.slice A n c, .func (.func 29) #[] #[]] w fun e w' => e = .returned (I (fix1 lng es)) ∧ w' = w := by
  have H := Lib.hid h
  have HL := Lib.hid h.len
  clear h
  go_enter Try.func70, Try.ntmps70
  go_wp2
  go_loopw [8] (fun i wr => ∃ k : Nat, k ≤ n ∧ i = .int .i64 k ∧ (∀ j (hj : j < es.length), j < k → lng es[j] = false) ∧ wr = w) (fun i _ => n - (intOf i).toNat)
  case atStart => exact ⟨0, Nat.zero_le _, rfl, fun j _ hj => absurd hj (by omega), rfl⟩
  case round =>
    obtain ⟨k, hk, rfl, hno, rfl⟩ := hrel
    have HNO := Lib.hid hno
    by_cases hlt : k < n
    · obtain ⟨b, off, rfl, hb, hc⟩ := H.out.at_ (by omega)
      have hkl : k < es.length := by rw [HL.out]; exact hlt
      have hc0 : wr.cell? ⟨b, off + k, none⟩ = some es[k].val := hc k hlt
      obtain ⟨sA, sn, sc, hsv⟩ : ∃ sA sn sc, es[k].val = .slice sA sn sc ∧ lng es[k] = decide (4 < sn) := ⟨_, _, _, rfl, rfl⟩
      rw [hsv.1] at hc0
      by_cases hd : 4 < sn
      · have HF : Hid (fix1 lng es = k) := fix1_hit hkl (by rw [hsv.2]; simpa using hd) hno
        have hcl := isLong_any sA sn sc wr
        rw [decide_eq_true hd] at hcl
        have HC := Lib.hid hcl
        clear hno hc hsv hcl hd
        go_wp2_with fail
        refine HC.out.mono ?_
        rintro e w1 ⟨rfl, rfl⟩
        go_wp2
        go_ret
        exact ⟨ret_int (by rw [HF.out]), rfl⟩
      · have HN : Hid (∀ j (hj : j < es.length), j < k + 1 → lng es[j] = false) := fun j hj hjk => by
          by_cases e : j = k
          · subst e; rw [hsv.2]; simpa using hd
          · exact hno j hj (by omega)
        have hcl := isLong_any sA sn sc wr
        rw [decide_eq_false hd] at hcl
        have HC := Lib.hid hcl
        clear hno hc hsv hcl hd
        go_wp2_with fail
        refine HC.out.mono ?_
        rintro e w1 ⟨rfl, rfl⟩
        go_wp2
        go_roundw
        case rel => exact ⟨k + 1, by omega, by go_num, HN.out, by first | rfl | trivial⟩
        case measure => simp [intOf]; omega
    · have HF : Hid (fix1 lng es = -1) := fix1_none fun j hj => hno j hj (by rw [HL.out] at hj; omega)
      clear hno
      go_wp2
      go_ret
      exact ⟨ret_int (by rw [HF.out]), rfl⟩
set_option maxRecDepth 100000 in
set_option maxHeartbeats 4000000 in
theorem conLong_any (A : Option Addr) (n c : Nat) (es : List Sl) (w : World) (h : RS w A n c es) (hn : n ≤ 9223372036854775807) :
    Calls Try.prog 28 #[.slice A n c, .func (.func 29) #[] #[]] w fun e w' => e = .returned (.bool (es.any lng)) ∧ w' = w := by
  have HC := Lib.hid (ixLong_any A n c es w h hn)
  have HF := Lib.hid (fix1_any lng es)
  clear h
  obtain ⟨x, hx⟩ : ∃ x, fix1 lng es = x := ⟨_, rfl⟩
  rw [hx] at HC HF
  clear hx
  go_enter Try.func28, Try.ntmps28
  go_wp2_with fail
  refine HC.out.mono ?_
  rintro e w1 ⟨rfl, rfl⟩
  go_wp2
  go_ret
  exact ⟨by rw [← HF.out]; first | rfl | simp, rfl⟩

instance (l : List Int) : Decidable (Ris l) := by unfold Ris; infer_instance
/-- may they begin? -/
def chkH (l : List Int) (es : List Sl) (on : Nat) : Int := if 4 < es.length ∨ es.any lng = true ∨ 500 < on then 2 else if ¬ Ris l then 3 else if es.any (fun s => s.L.any dbad) = true then 3 else 0
/-- rising, so far -/
def RisT (l : List Int) (k : Nat) : Prop := (∀ i (hi : i < l.length), i < k → 0 ≤ l[i] ∧ l[i] ≤ 9) ∧ ∀ i (hi : i + 1 < l.length), i + 1 < k → l[i] < l[i + 1]
theorem ris_of {l : List Int} (h : RisT l l.length) : Ris l := by
  refine ⟨List.pairwise_iff_getElem.mpr ?_, fun x hx => ?_⟩
  · intro i j hi hj hij
    have : ∀ d, ∀ (hd : i + d + 1 < l.length), l[i] < l[i + d + 1] := by
      intro d
      induction d with
      | zero => intro hd; exact h.2 i hd hd
      | succ d ih =>
        intro hd
        have h1 := ih (by omega)
        have h2 := h.2 (i + d + 1) (by omega) (by omega)
        exact Int.lt_trans h1 h2
    have := this (j - i - 1) (by omega)
    have e : i + (j - i - 1) + 1 = j := by omega
    simp only [e] at this
    exact this
  · obtain ⟨i, hi, rfl⟩ := List.getElem_of_mem hx
    exact h.1 i hi hi
theorem ris_at {l : List Int} (h : Ris l) {i : Nat} (hi : i < l.length) : (0 ≤ l[i] ∧ l[i] ≤ 9) ∧ ∀ (hp : i + 1 < l.length), l[i] < l[i + 1] := ⟨h.2 _ (List.getElem_mem hi), fun hp => List.pairwise_iff_getElem.mp h.1 i (i + 1) hi hp (by omega)⟩
set_option maxRecDepth 100000 in
set_option maxHeartbeats 8000000 in
theorem checkH_any (A PA OA : Option Addr) (n c nh pc on oc : Nat) (l : List Int) (es : List Sl) (w : World) (h : IS w A n c l) (hP : RS w PA nh pc es) (hn : n ≤ 9223372036854775807) (hnh : nh ≤ 9223372036854775807) (hon : on ≤ 9223372036854775807) (hes : ∀ s ∈ es, s.n ≤ 9223372036854775807) :
    Calls Try.prog 13 #[.slice A n c, .slice PA nh pc, .slice OA on oc] w fun e w' => e = .returned (I (chkH l es on)) ∧ Below w.heap.size w w' := by
  have H := Lib.hid h
  have HP := Lib.hid hP
  have HES := Lib.hid hes
  have HCL := Lib.hid (conLong_any PA nh pc es w hP hnh)
  have hlen := hP.len
  by_cases h4 : 4 < nh
  · have HE : Hid (chkH l es on = 2) := by show _ = _; unfold chkH; rw [if_pos (.inl (by rw [hlen]; exact h4))]
    clear h hP hes hlen
    go_enter Try.func13, Try.ntmps13
    go_wp2
    go_ret
    exact ⟨ret_int (by rw [HE.out]), Below.refl _ _⟩
  · cases hlg : es.any lng with
    | true =>
      have HE : Hid (chkH l es on = 2) := by show _ = _; unfold chkH; rw [if_pos (.inr (.inl hlg))]
      rw [hlg] at HCL
      clear h hP hes hlen hlg
      go_enter Try.func13, Try.ntmps13
      go_wp2_with fail
      refine HCL.out.mono ?_
      rintro e w1 ⟨rfl, rfl⟩
      go_wp2
      go_ret
      exact ⟨ret_int (by rw [HE.out]), Below.refl _ _⟩
    | false =>
      rw [hlg] at HCL
      by_cases h5 : 500 < on
      · have HE : Hid (chkH l es on = 2) := by show _ = _; unfold chkH; rw [if_pos (.inr (.inr h5))]
        clear h hP hes hlen hlg
        go_enter Try.func13, Try.ntmps13
        go_wp2_with fail
        refine HCL.out.mono ?_
        rintro e w1 ⟨rfl, rfl⟩
        go_wp2
        go_ret
        exact ⟨ret_int (by rw [HE.out]), Below.refl _ _⟩
      · have HE : Hid (chkH l es on = if ¬ Ris l then 3 else if es.any (fun s => s.L.any dbad) = true then 3 else 0) := by show _ = _; unfold chkH; rw [if_neg (by rw [hlen, hlg]; simp; omega)]
        have HL := Lib.hid h.len
        have HPL := Lib.hid hlen
        clear h hP hes hlen hlg
        go_enter Try.func13, Try.ntmps13
        go_wp2_with fail
        refine HCL.out.mono ?_
        rintro e w1 ⟨rfl, hw1⟩
        have hw2 := hw1.symm
        subst hw2
        go_wp2
        go_loopw [25] (fun iv wr => ∃ k : Nat, k ≤ n ∧ iv = .int .i64 k ∧ RisT l k ∧ wr = w) (fun iv _ => n - (intOf iv).toNat)
        case atStart => exact ⟨0, Nat.zero_le _, rfl, ⟨fun i _ hi => absurd hi (by omega), fun i _ hi => absurd hi (by omega)⟩, rfl⟩
        case round =>
          obtain ⟨k, hk, rfl, hr, rfl⟩ := hrel
          have HR := Lib.hid hr
          clear hr
          by_cases hlt : k < n
          · obtain ⟨b, off, rfl, hb, hc⟩ := H.out.at_ (by omega)
            have hkl : k < l.length := by rw [HL.out]; exact hlt
            have hck : wr.cell? ⟨b, off + k, none⟩ = some (I l[k]) := hc k hlt
            cases hkk : kok l[k] with
            | false =>
              have HEE : Hid (chkH l es on = 3) := by
                show _ = _
                rw [HE.out, if_pos]
                intro hr
                have := (ris_at hr hkl).1
                unfold kok at hkk
                simp at hkk
                omega
              have HK := Lib.hid (isKeyH_any l[k] wr hkk)
              obtain ⟨x, hx⟩ : ∃ x, l[k] = x := ⟨_, rfl⟩
              rw [hx] at hck HK
              clear hc hkk hx
              go_wp2_with fail
              refine HK.out.mono ?_
              rintro e w1 ⟨rfl, rfl⟩
              go_wp2
              go_ret
              exact ⟨ret_int (by rw [HEE.out]), Below.refl _ _⟩
            | true =>
              have hk9 : 0 ≤ l[k] ∧ l[k] ≤ 9 := by unfold kok at hkk; simpa using hkk
              have HK := Lib.hid (isKeyH_any l[k] wr hkk)
              by_cases hk0 : 0 < k
              · have hkl1 : k - 1 < l.length := by omega
                have hcp : wr.cell? ⟨b, off + (k - 1), none⟩ = some (I l[k - 1]) := hc (k - 1) (by omega)
                have hw1 : IntKind.i64.wrap ((k : Int) - 1) = ((k - 1 : Nat) : Int) := by rw [IntWalk.i64_in _ (by omega)]; omega
                have hk1n : ((k - 1 : Nat) : Int) < (n : Int) := by omega
                have hk10 : 0 ≤ ((k - 1 : Nat) : Int) := by omega
                by_cases hup : l[k] ≤ l[k - 1]
                · have HEE : Hid (chkH l es on = 3) := by
                    show _ = _
                    rw [HE.out, if_pos]
                    intro hr
                    have := (ris_at hr hkl1).2 (by omega)
                    have e : k - 1 + 1 = k := by omega
                    simp only [e] at this
                    omega
                  obtain ⟨x, hx⟩ : ∃ x, l[k] = x := ⟨_, rfl⟩
                  obtain ⟨y, hy⟩ : ∃ y, l[k - 1] = y := ⟨_, rfl⟩
                  rw [hx] at hck HK hup
                  rw [hy] at hcp hup
                  clear hc hkk hx hk9 hy
                  generalize k - 1 = k1 at *
                  go_wp2_with fail
                  refine HK.out.mono ?_
                  rintro e w1 ⟨rfl, rfl⟩
                  go_wp2
                  go_ret
                  exact ⟨ret_int (by rw [HEE.out]), Below.refl _ _⟩
                · have HN : Hid (RisT l (k + 1)) := ⟨fun i hi hik => by
                    by_cases e : i = k
                    · subst e; exact hk9
                    · exact HR.out.1 i hi (by omega), fun i hi hik => by
                    by_cases e : i + 1 = k
                    · subst e
                      have : l[i + 1 - 1] = l[i] := by congr 1
                      rw [this] at hup
                      omega
                    · exact HR.out.2 i hi (by omega)⟩
                  obtain ⟨x, hx⟩ : ∃ x, l[k] = x := ⟨_, rfl⟩
                  obtain ⟨y, hy⟩ : ∃ y, l[k - 1] = y := ⟨_, rfl⟩
                  rw [hx] at hck HK hup
                  rw [hy] at hcp hup
                  clear hc hkk hx hk9 hy
                  generalize hkk1 : k - 1 = k1 at *
                  have HKK := Lib.hid hkk1
                  clear hkk1
                  go_wp2_with fail
                  refine HK.out.mono ?_
                  rintro e w1 ⟨rfl, rfl⟩
                  go_wp2
                  go_roundw
                  case rel => exact ⟨k + 1, by omega, by go_num, HN.out, by first | rfl | trivial⟩
                  case measure => simp [intOf]; omega
              · obtain rfl : k = 0 := by omega
                have HN : Hid (RisT l (0 + 1)) := ⟨fun i hi hik => by
                    obtain rfl : i = 0 := by omega
                    exact hk9, fun i hi hik => absurd hik (by omega)⟩
                obtain ⟨x, hx⟩ : ∃ x, l[0] = x := ⟨_, rfl⟩
                rw [hx] at hck HK
                have hck' : wr.cell? ⟨b, off, none⟩ = some (I x) := hck
                clear hc hkk hx hk9 hck
                go_wp2_with fail
                refine HK.out.mono ?_
                rintro e w1 ⟨rfl, rfl⟩
                go_wp2
                go_roundw
                case rel => exact ⟨1, by omega, by first | rfl | go_num, HN.out, by first | rfl | trivial⟩
                case measure => simp [intOf]; omega
          · have HRIS : Hid (Ris l) := ris_of (by have := HR.out; rw [show k = l.length by rw [HL.out]; omega] at this; exact this)
            have HE2 : Hid (chkH l es on = if es.any (fun s => s.L.any dbad) = true then 3 else 0) := by show _ = _; rw [HE.out, if_neg (fun h => h HRIS.out)]
            go_wp2
            obtain ⟨wo, hwo⟩ : ∃ wo, wo = wr := ⟨_, rfl⟩
            subst hwo
            go_loopw [49] (fun iv wr => ∃ k : Nat, k ≤ nh ∧ iv = .int .i64 k ∧ (∀ j (hj : j < es.length), j < k → es[j].L.any dbad = false) ∧ Below wo.heap.size wo wr) (fun iv _ => nh - (intOf iv).toNat)
            case atStart => exact ⟨0, Nat.zero_le _, rfl, fun j _ hj => absurd hj (by omega), Below.refl _ _⟩
            case round =>
              obtain ⟨k, hk, rfl, hno, hbl⟩ := hrel
              have HBL := Lib.hid hbl
              have HNO := Lib.hid hno
              clear hno
              by_cases hlt : k < nh
              · obtain ⟨b, off, rfl, hb, hc⟩ := HP.out.at_ (by omega)
                have hkl : k < es.length := by rw [HPL.out]; exact hlt
                have hck : wr.cell? ⟨b, off + k, none⟩ = some es[k].val := (hbl.cell (by exact hb)).trans (hc k hlt)
                have hps : PS wr es[k].A es[k].n es[k].c es[k].L := PS.below (HP.out.each _ (List.getElem_mem hkl)) hbl
                have HC := conBad_any _ _ _ _ wr hps (HES.out _ (List.getElem_mem hkl))
                obtain ⟨sA, sn, sc, hsv⟩ : ∃ sA sn sc, es[k].A = sA ∧ es[k].n = sn ∧ es[k].c = sc := ⟨_, _, _, rfl, rfl, rfl⟩
                have hcv : wr.cell? ⟨b, off + k, none⟩ = some (.slice sA sn sc) := by rw [hck]; show some (Value.slice es[k].A es[k].n es[k].c) = _; rw [hsv.1, hsv.2.1, hsv.2.2]
                rw [hsv.1, hsv.2.1, hsv.2.2] at HC
                cases hbad : es[k].L.any dbad with
                | true =>
                  rw [hbad] at HC
                  have HC := Lib.hid HC
                  have HEE : Hid (chkH l es on = 3) := by
                    show _ = _
                    rw [HE2.out, if_pos]
                    exact List.any_eq_true.mpr ⟨_, List.getElem_mem hkl, hbad⟩
                  clear hbl hc hck hps hsv hbad
                  go_wp2_with fail
                  refine HC.out.mono ?_
                  rintro e w1 ⟨rfl, hb1⟩
                  have HB1 := Lib.hid (HBL.out.trans (hb1.mono HBL.out.size))
                  clear hb1
                  go_wp2
                  go_ret
                  exact ⟨ret_int (by rw [HEE.out]), HB1.out⟩
                | false =>
                  rw [hbad] at HC
                  have HC := Lib.hid HC
                  have HN : Hid (∀ j (hj : j < es.length), j < k + 1 → es[j].L.any dbad = false) := fun j hj hjk => by
                    by_cases e : j = k
                    · subst e; exact hbad
                    · exact HNO.out j hj (by omega)
                  clear hbl hc hck hps hsv hbad
                  go_wp2_with fail
                  refine HC.out.mono ?_
                  rintro e w1 ⟨rfl, hb1⟩
                  have HB1 := Lib.hid (HBL.out.trans (hb1.mono HBL.out.size))
                  clear hb1
                  go_wp2
                  go_roundw
                  case rel => exact ⟨k + 1, by omega, by go_num, HN.out, HB1.out⟩
                  case measure => simp [intOf]; omega
              · have HEE : Hid (chkH l es on = 0) := by
                  show _ = _
                  rw [HE2.out, if_neg]
                  intro h
                  obtain ⟨s, hs, hb⟩ := List.any_eq_true.mp h
                  obtain ⟨j, hj, rfl⟩ := List.getElem_of_mem hs
                  rw [HNO.out j hj (by rw [HPL.out] at hj; omega)] at hb
                  cases hb
                clear hbl
                go_wp2
                go_ret
                exact ⟨ret_int (by rw [HEE.out]), HBL.out⟩

end Go.Proofs.Ytfmdpmebllepeaa
