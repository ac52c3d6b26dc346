/-
  package half: the keys that are there, as a list; keys.
-/
import Derived.Test.YtpnjnedfcdppaaaGreatDoorQOutA
import Derived.Test.YtpnjnedfcdppaaaGreatDoorQOps
import Derived.Test.YtpnjnedfcdppaaaGreatDoorGInts
namespace Go.Proofs.YtpnjnedfcdppaaaGreatDoor
open Go.RowKit Go.Maps

theorem qput_list {l : List Int} {k : Int} : QPut (· ∈ l) k = (· ∈ qins k l) := ks_ext fun x => by
  show (x ∈ l ∨ x = k) ↔ x ∈ qins k l
  rw [mem_qins]
  exact Or.comm
theorem qcut_list {l : List Int} {k : Int} : QCut (· ∈ l) k = (· ∈ qdel k l) := ks_ext fun x => by
  show (x ∈ l ∧ x ≠ k) ↔ x ∈ qdel k l
  rw [mem_qdel]
/-- the least one is the first one -/
theorem qends_first {l : List Int} {lo hi : Int} (hu : Up l) (he : QEnds (· ∈ l) lo hi) : ∃ h : 0 < l.length, l[0] = lo := by
  cases l with
  | nil => exact absurd he.1 (by simp)
  | cons a t =>
    refine ⟨by simp, ?_⟩
    show a = lo
    have h1 := (he.2.2 a (by simp)).1
    rw [Up, List.pairwise_cons] at hu
    rcases List.mem_cons.1 he.1 with e | e
    · exact e.symm
    · have := hu.1 lo e
      omega
theorem nx_at {l : List Int} {i : Nat} {y : Int} (hu : Up l) (hi : i < l.length) (h : NxP (· ∈ l) l[i] y) : ∃ h : i + 1 < l.length, l[i + 1] = y := by
  have := qnx_is hu h
  rw [qnx_at hu hi] at this
  obtain ⟨h1, h2⟩ := List.getElem?_eq_some_iff.1 this
  exact ⟨h1, h2⟩
theorem nx_end {l : List Int} {i : Nat} (hu : Up l) (hi : i < l.length) (h : ∀ z, z ∈ l → z ≤ l[i]) : i + 1 = l.length := by
  apply Classical.byContradiction
  intro hc
  have h1 : i + 1 < l.length := by omega
  have h2 := h l[i + 1] (List.getElem_mem h1)
  have h3 := (List.pairwise_iff_getElem.1 hu) i (i + 1) hi h1 (by omega)
  omega

theorem own_one (w : World) (k : Int) : OwnI (w.alloc (.cells #[I k] 3)) w.heap.size (.slice (some ⟨w.heap.size, 0, none⟩) 1 1) [k] := by
  refine ⟨rfl, .inr ⟨w.heap.size, 1, #[I k], rfl, Nat.le_refl _, heap_alloc_new w _, Nat.le_refl _, by decide, rfl, rfl⟩⟩
set_option maxRecDepth 100000 in
set_option maxHeartbeats 4000000 in
theorem keys_any (p : Option Nat) (T : Nat) (l : List Int) (F : Nat → Prop) (w : World) (h : QR 4 w T p (· ∈ l) F) (hF : ∀ x, F x → x < w.heap.size) (hu : Up l) (hl : l.length ≤ 1000) :
    Calls Tryz.prog 78 #[qp p] w (RetOwn l w.heap.size w) := by
  cases p with
  | none =>
    have hl0 : l = [] := by
      cases l with
      | nil => rfl
      | cons a t => exact absurd (List.mem_cons.2 (.inl rfl)) (QR.none_iff.1 h a)
    subst hl0
    clear h hF hu hl
    show Calls Tryz.prog 78 #[.pointer none] w _
    go_enter Tryz.func78, Tryz.ntmps78
    go_wp2
    go_ret
    exact ⟨_, rfl, World.ownsRow_nil _ _ _ _, Below.refl _ _⟩
  | some g =>
    obtain ⟨lo, hi, m, hq, hb, he, hbd, _⟩ := h.head
    have c1 := hb.c1
    have hlt := hb.lt
    obtain ⟨hl0, hlo⟩ := qends_first hu he
    have HU := Lib.hid hu
    have HB : Hid (∀ x ∈ l, 0 ≤ x ∧ x < qq 4) := fun x hx => hbd x hx
    have HN : Hid (∀ (k : Int) (W : World), Below w.heap.size w W → 0 ≤ k → k < qq 4 → Calls Tryz.prog 148 #[.pointer (some ⟨g, 0, none⟩), I k] W (NxR (· ∈ l) k W)) :=
      fun k W hW h0 h1 => next_any 4 (by omega) (some g) T (· ∈ l) F k W (h.keep fun x hx => hW.block x (hF x hx)) h0 h1
    have HL0 := Lib.hid hl0
    have HT1 : Hid (l.take 1 = [lo]) := by
      show _ = _
      rw [List.take_succ_eq_append_getElem hl0, hlo]
      rfl
    have HNX1 : Hid (∀ y, NxP (· ∈ l) lo y → ∃ h : 1 < l.length, l[1] = y) := fun y hy => nx_at hu hl0 (by rw [hlo]; exact hy)
    have HEN1 : Hid ((∀ z, z ∈ l → z ≤ lo) → l.length = 1) := fun hz => (nx_end hu hl0 (by rw [hlo]; exact hz)).symm
    have hlob := HB.out lo he.1
    clear h hF hb he hbd hu hl0 hlo
    obtain ⟨n, hn⟩ : ∃ n, l.length = n := ⟨_, rfl⟩
    have HLN := Lib.hid hn
    show Calls Tryz.prog 78 #[.pointer (some ⟨g, 0, none⟩)] w _
    have hal : (w.alloc (.cells #[I lo] 3)).cell? ⟨g, 1, none⟩ = some (I lo) := (World.cell?_alloc_old _ _ _ (Nat.ne_of_lt hlt)).trans c1
    go_enter Tryz.func78, Tryz.ntmps78
    go_wp2_with fail
    refine (HN.out lo (w.alloc (.cells #[I lo] 3)) ((Below.refl _ _).alloc (Nat.le_refl _) _) hlob.1 hlob.2).mono ?_
    intro e w1 hnx
    obtain ⟨e1, j1, hw1⟩ := hnx
    have HB1 : Hid (Below w.heap.size w w1) := by show Below _ _ _; rw [hw1]; exact below_drewN ((Below.refl _ _).alloc (Nat.le_refl _) _) j1
    have HO1 : Hid (OwnI w1 w.heap.size (.slice (some ⟨w.heap.size, 0, none⟩) 1 1) (l.take 1)) := by
      show OwnI _ _ _ _
      rw [HT1.out, hw1]
      exact own_below (own_one w lo) (below_drewN (Below.refl _ _) j1)
    have HS1 : Hid (∃ y b, e = .returned (.tuple #[I y, .bool b]) ∧ (b = true → ∃ h : 1 < l.length, l[1] = y) ∧ (b = false → l.length = 1)) := by
      show ∃ _, _
      rcases e1 with ⟨y, rfl, hy⟩ | ⟨rfl, hno⟩
      · exact ⟨y, true, rfl, fun _ => HNX1.out y hy, fun h => by cases h⟩
      · exact ⟨0, false, rfl, fun h => (by cases h), fun _ => HEN1.out hno⟩
    clear e1 hw1
    obtain ⟨y, b, rfl, hb1, hb2⟩ := HS1.out
    have HY1 := Lib.hid hb1
    have HY2 := Lib.hid hb2
    clear hb1 hb2 HS1
    go_wp2
    go_loopg [3, 4, 5] (n + 1) (fun mm v k is wr => ∃ (i : Nat) (y : Int) (b : Bool), 1 ≤ i ∧ i ≤ n ∧ n - i < mm ∧ k = I y ∧ is = .bool b ∧ OwnI wr w.heap.size v (l.take i) ∧ Below w.heap.size w wr ∧ (b = true → ∃ h : i < l.length, l[i] = y) ∧ (b = false → l.length = i))
    case atStart => exact ⟨1, y, b, Nat.le_refl _, by have := HL0.out; omega, by omega, rfl, rfl, HO1.out, HB1.out, HY1.out, HY2.out⟩
    case round =>
      obtain ⟨i, y, b, hi1, hin, him, rfl, rfl, hown, hbl, hy1, hy2⟩ := hrel
      have HOW := Lib.hid hown
      have HBL := Lib.hid hbl
      have hsz := hbl.size
      cases b with
      | false =>
        have HT : Hid (l.take i = l) := by show _ = _; exact List.take_of_length_le (by rw [hy2 rfl]; omega)
        clear hown hbl hy1 hy2
        go_wp2
        go_ret
        exact ⟨_, rfl, by have := HOW.out; rw [HT.out] at this; exact this, HBL.out⟩
      | true =>
        obtain ⟨hil, hyi⟩ := hy1 rfl
        have hyb := HB.out y (by rw [← hyi]; exact List.getElem_mem hil)
        have HIL := Lib.hid hil
        have HNXI : Hid (∀ z, NxP (· ∈ l) y z → ∃ h : i + 1 < l.length, l[i + 1] = z) := fun z hz => nx_at HU.out hil (by rw [hyi]; exact hz)
        have HENI : Hid ((∀ z, z ∈ l → z ≤ y) → l.length = i + 1) := fun hz => (nx_end HU.out hil (by rw [hyi]; exact hz)).symm
        have HTS : Hid (l.take (i + 1) = l.take i ++ [y]) := by show _ = _; rw [take_snoc hil, hyi]
        have htl : (l.take i).length ≤ 1000 := by rw [List.length_take]; omega
        clear hown hbl hy1 hy2 hyi hil
        go_wp2_with (first
          | (at_builtin
             refine wpList_app1 rfl (.tmp 29) (.tmp 31) 46 rfl 3 Tryz.underlying46 int_info w.heap.size u3 (l.take i) [y] (some ⟨wr.heap.size, 0, none⟩) 1 1 rfl rfl (own_below HOW.out ((Below.refl _ _).alloc (Nat.le_refl _) _)) (srcI_one wr y) (by omega) (by simp; omega) ?_
             intro v2 w2 hown2 hgrow2 hat2)
          | fail)
        have HB2 := Lib.hid ((HBL.out.alloc hsz _).grown hgrow2 (by simp; omega) (own_ge1 HOW.out))
        have HO2 : Hid (OwnI w2 w.heap.size v2 (l.take (i + 1))) := by show OwnI _ _ _ _; rw [HTS.out]; exact hown2
        clear hown2 hgrow2 hat2
        refine (HN.out y w2 HB2.out hyb.1 hyb.2).mono ?_
        intro e w3 hnx
        obtain ⟨e1, j1, hw1⟩ := hnx
        have HB3 : Hid (Below w.heap.size w w3) := by show Below _ _ _; rw [hw1]; exact below_drewN HB2.out j1
        have HO3 : Hid (OwnI w3 w.heap.size v2 (l.take (i + 1))) := by show OwnI _ _ _ _; rw [hw1]; exact own_below HO2.out (below_drewN (Below.refl _ _) j1)
        have HS3 : Hid (∃ y b, e = .returned (.tuple #[I y, .bool b]) ∧ (b = true → ∃ h : i + 1 < l.length, l[i + 1] = y) ∧ (b = false → l.length = i + 1)) := by
          show ∃ _, _
          rcases e1 with ⟨y', rfl, hy⟩ | ⟨rfl, hno⟩
          · exact ⟨y', true, rfl, fun _ => HNXI.out y' hy, fun h => by cases h⟩
          · exact ⟨0, false, rfl, fun h => (by cases h), fun _ => HENI.out hno⟩
        clear e1 hw1
        obtain ⟨y', b', rfl, hb1, hb2⟩ := HS3.out
        have HY1 := Lib.hid hb1
        have HY2 := Lib.hid hb2
        clear hb1 hb2 HS3
        go_wp2
        go_roundg (n - i)
        case measure => omega
        case rel => exact ⟨i + 1, y', b', by omega, by have := HIL.out; have := HLN.out; omega, by have := HIL.out; have := HLN.out; omega, rfl, rfl, HO3.out, HB3.out, HY1.out, HY2.out⟩

end Go.Proofs.YtpnjnedfcdppaaaGreatDoor
