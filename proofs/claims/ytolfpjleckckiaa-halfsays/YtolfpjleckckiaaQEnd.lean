/-
  package half: Ends.
-/
import Derived.Test.YtolfpjleckckiaaQDo2
namespace Go.Proofs.Ytolfpjleckckiaa
open Go.RowKit Go.Maps

/-- may all these keys come? -/
def qOK (l : List Int) : Prop := ∀ x ∈ l, 0 ≤ x ∧ x ≤ 65535
instance (l : List Int) : Decidable (qOK l) := by unfold qOK; infer_instance
def qErr (l : List Int) : Int := if 300 < l.length then 2 else if ¬ qOK l then 3 else if l = [] then 4 else 0
def RetE (l : List Int) (w : World) (e : Ending) (w' : World) : Prop :=
  (∃ lo hi, e = .returned (.tuple #[I lo, I hi, I (qErr l)]) ∧ (qErr l ≠ 0 → lo = 0 ∧ hi = 0) ∧ (qErr l = 0 → QEnds (· ∈ l) lo hi)) ∧ Below w.heap.size w w'
theorem qErr_zero {l : List Int} : qErr l = 0 ↔ l.length ≤ 300 ∧ qOK l ∧ l ≠ [] := by
  unfold qErr
  constructor
  · intro h
    split at h
    · cases h
    · split at h
      · cases h
      · split at h
        · cases h
        · rename_i h1 h2 h3
          exact ⟨by omega, Classical.not_not.1 h2, h3⟩
  · rintro ⟨h1, h2, h3⟩
    rw [if_neg (by omega), if_neg (fun h => h h2), if_neg h3]
theorem qtake_put {l : List Int} {k : Nat} (h : k < l.length) : QPut (· ∈ l.take k) l[k] = (· ∈ l.take (k + 1)) := ks_ext fun x => by
  show (x ∈ l.take k ∨ x = l[k]) ↔ x ∈ l.take (k + 1)
  rw [List.take_succ_eq_append_getElem h, List.mem_append, List.mem_singleton]

set_option maxRecDepth 100000 in
set_option maxHeartbeats 4000000 in
theorem Ends_any (A : Option Addr) (n c : Nat) (l : List Int) (w : World) (h : IS w A n c l) (hm : n ≤ 9223372036854775807) :
    Calls Try.prog 9 #[.slice A n c] w (RetE l w) := by
  have H := Lib.hid h
  have HL := Lib.hid h.len
  clear h
  by_cases hn : 300 < n
  · have hE : qErr l = 2 := by unfold qErr; rw [if_pos (by rw [HL.out]; exact hn)]
    have HE := Lib.hid hE
    clear hE
    go_enter Try.func9, Try.ntmps9
    go_wp2
    go_ret3
    exact ⟨⟨0, 0, by rw [HE.out]; rfl, fun _ => ⟨rfl, rfl⟩, fun h => by rw [HE.out] at h; cases h⟩, Below.refl _ _⟩
  · have hn3 : n ≤ 300 := by omega
    clear hm
    go_enter Try.func9, Try.ntmps9
    go_wp2
    go_loopw [5, 13] (fun v i wr => ∃ (k : Nat) (p : Option Nat) (P : Option Addr) (F : Nat → Prop), k ≤ n ∧ i = .int .i64 k ∧ v = .pointer P ∧ qp p = .pointer P ∧ QR 4 wr (31 * k) p (· ∈ l.take k) F ∧ (∀ x, F x → w.heap.size ≤ x ∧ x < wr.heap.size) ∧ qOK (l.take k) ∧ Below w.heap.size w wr) (fun _ i _ => n - (intOf i).toNat)
    case atStart => exact ⟨0, none, none, fun _ => False, Nat.zero_le _, rfl, rfl, rfl, QR.none_iff.2 (by simp), fun _ h => h.elim, by intro x hx; simp at hx, Below.refl _ _⟩
    case round =>
      obtain ⟨k, p, P, F, hk, rfl, rfl, hP, hqr, hF, hok, hnx⟩ := hrel
      have HNX := Lib.hid hnx
      have hsz := hnx.size
      by_cases hlt : k < n
      · obtain ⟨b, off, rfl, hb, hc⟩ := H.out.at_ (by omega)
        have hkl : k < l.length := by rw [HL.out]; exact hlt
        have hck : wr.cell? ⟨b, off + k, none⟩ = some (I l[k]) := (hnx.cell (by exact hb)).trans (hc k hlt)
        have HTP := Lib.hid (qtake_put hkl)
        have HTS : Hid (∀ x, x ∈ l.take (k + 1) → x ∈ l.take k ∨ x = l[k]) := fun x hx => by
          rw [List.take_succ_eq_append_getElem hkl, List.mem_append, List.mem_singleton] at hx
          exact hx
        have HML : Hid (l[k] ∈ l) := List.getElem_mem hkl
        have HOK := Lib.hid hok
        have HF := Lib.hid hF
        have HQR := Lib.hid hqr
        have HP := Lib.hid hP
        clear hc hnx hF hok hqr hP
        generalize l[k] = x at *
        by_cases hx : 0 ≤ x ∧ x ≤ 65535
        · have HI := Lib.hid (qisKey_yes x wr hx.1 hx.2)
          have HW := Lib.hid (with_any 4 (by omega) p (31 * k) (· ∈ l.take k) F x wr HQR.out (fun y hy => (HF.out y hy).2) hx.1 (by rw [qq4]; omega) (by show 31 * k + 31 ≤ 1000000; omega))
          have hbt : (qbt 4 : Int) = 16 := by rw [qbt4]; rfl
          rw [HP.out, hbt] at HW
          have HOK2 : Hid (qOK (l.take (k + 1))) := fun y hy => by
            rcases HTS.out y hy with e | e
            · exact HOK.out y e
            · rw [e]; exact hx
          clear hx hbt
          go_wp2_with fail
          refine HI.out.mono ?_
          rintro e w1 ⟨rfl, rfl⟩
          go_wp2_with fail
          refine HW.out.mono ?_
          rintro e w2 ⟨g2, F2, rfl, hr2, hl2, hk2⟩
          have HR2 : Hid (QR 4 w2 (31 * (k + 1)) (some g2) (· ∈ l.take (k + 1)) F2) := by
            show QR _ _ _ _ _ _
            rw [← HTP.out]
            exact QR.mono hr2 (show 31 * k + 31 ≤ 31 * (k + 1) by omega) (fun _ e => e)
          have HF2 : Hid (∀ y, F2 y → w.heap.size ≤ y ∧ y < w2.heap.size) := fun y hy => by
            have h1 := hl2 y hy
            refine ⟨?_, h1.1⟩
            rcases h1.2 with h2 | h2
            · exact (HF.out y h2).1
            · omega
          have HB2 := Lib.hid (HNX.out.trans (hk2.below hsz (fun y hy => (HF.out y hy).1)))
          clear hr2 hl2 hk2
          go_wp2
          go_roundw
          case rel => exact ⟨k + 1, some g2, _, F2, by omega, by go_num, rfl, rfl, HR2.out, HF2.out, HOK2.out, HB2.out⟩
          case measure => simp [intOf]; omega
        · have HI := Lib.hid (qisKey_no x wr hx)
          have hE : qErr l = 3 := by
            unfold qErr
            rw [if_neg (by rw [HL.out]; omega), if_pos (fun h => hx (h x HML.out))]
          have HE := Lib.hid hE
          clear hE hx
          go_wp2_with fail
          refine HI.out.mono ?_
          rintro e w1 ⟨rfl, rfl⟩
          go_wp2
          go_ret3
          exact ⟨⟨0, 0, by rw [HE.out]; rfl, fun _ => ⟨rfl, rfl⟩, fun h => by rw [HE.out] at h; cases h⟩, HNX.out⟩
      · have htk : l.take k = l := List.take_of_length_le (by rw [HL.out]; omega)
        rw [htk] at hqr hok
        cases p with
        | none =>
          have hl0 : l = [] := by
            cases l with
            | nil => rfl
            | cons a t => exact absurd (List.mem_cons.2 (.inl rfl)) (QR.none_iff.1 hqr a)
          have hE : qErr l = 4 := by
            unfold qErr
            rw [if_neg (by rw [HL.out]; omega), if_neg (fun h => h hok), if_pos hl0]
          have HE := Lib.hid hE
          cases hP
          clear hE hl0 hqr hok hnx hF htk
          go_wp2
          go_ret3
          exact ⟨⟨0, 0, by rw [HE.out]; rfl, fun _ => ⟨rfl, rfl⟩, fun h => by rw [HE.out] at h; cases h⟩, HNX.out⟩
        | some g =>
          obtain ⟨lo, hi, m, hq, hbb, he, _, _⟩ := hqr.head
          have hE : qErr l = 0 := qErr_zero.2 ⟨by rw [HL.out]; omega, hok, fun e => by have := he.1; rw [e] at this; simp at this⟩
          have HE := Lib.hid hE
          have HEN := Lib.hid he
          have c1 := hbb.c1
          have c2 := hbb.c2
          cases hP
          clear hE hbb he hqr hok hnx hF htk
          go_wp2
          go_quiet (fail)
          go_wp2
          go_ret3
          exact ⟨⟨lo, hi, by rw [HE.out]; rfl, fun h => absurd HE.out h, fun _ => HEN.out⟩, below_drewN HNX.out _⟩

end Go.Proofs.Ytolfpjleckckiaa
