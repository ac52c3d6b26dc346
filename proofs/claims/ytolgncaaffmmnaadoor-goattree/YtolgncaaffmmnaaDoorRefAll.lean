/-
  Joined texts: YtolgncaaffmmnaaDoorOLives, YtolgncaaffmmnaaDoorOKeys, YtolgncaaffmmnaaDoorRef.
-/
import Derived.Test.YtolgncaaffmmnaaDoorORun
import Derived.Test.YtolgncaaffmmnaaDoorSEqAll
import Derived.Test.YtolgncaaffmmnaaDoorMapKAll
import Derived.Test.YtolgncaaffmmnaaDoorRunCAll
import Derived.Deep.AppendLies
/-
  goatLives: keys that rise.
-/
namespace Go.Proofs.YtolgncaaffmmnaaDoor
open Go.RowKit

theorem oeqSpot_t (A A' : Option Addr) (n c c' : Nat) (l : PL) (w : World) (h : PS w A n c l) (h' : PS w A' n c' l) (hn : n ≤ 1000000) :
    Calls Tryd.prog 41 #[.slice A n c, .slice A' n c'] w fun e w' => e = .returned (.bool true) ∧ Below w.heap.size w w' := by
  refine (eqSpot_any A A' n n c c' l l w h h' hn hn).mono ?_
  rintro e w' ⟨rfl, hb⟩
  exact ⟨by simp, hb⟩
theorem ol_size : (goT (putsOf [1, 2, 3, 4, 5])).t.size = 5 := by decide +kernel
theorem ol_built : (goT (putsOf [1, 2, 3, 4, 5])).built = 4 := by decide +kernel
theorem ol_ev : (ev [1, 2, 3]).sp 0 = gth := by decide +kernel
theorem ol_rise : Rise [1, 2, 3] := ⟨by decide, by decide, by decide⟩
theorem ol_deep : dpst 4 = 3 := by decide +kernel

set_option maxRecDepth 100000 in
set_option maxHeartbeats 4000000 in
theorem goatLives_any (w : World) (hT : Tb w) : Calls Tryd.prog 20 #[] w fun e w' => e = .returned (.bool true) ∧ Below w.heap.size w w' := by
  have HT := Lib.hid hT
  clear hT
  go_enter Tryd.func20, Tryd.ntmps20
  go_wp2_with fail
  refine (putAll_any _ 5 5 [1, 2, 3, 4, 5] _ (is_new w 3 [1, 2, 3, 4, 5]) (by omega)).mono ?_
  rintro e w1 ⟨v1, rfl, ho1, hb1⟩
  obtain ⟨A1, c1, rfl, hos1⟩ := ho1.os
  have HB1 := Lib.hid (gbelow_box hb1)
  have HT1 := Lib.hid (HT.out.next (gbelow_box hb1))
  have HR := Lib.hid (ORun_any A1 5 c1 5 (putsOf [1, 2, 3, 4, 5]) w1 hos1 (by omega) ol_size)
  rw [ol_built] at HR
  clear ho1 hb1 hos1
  go_wp2_with fail
  refine HR.out.mono ?_
  rintro e w2 ⟨A2, c2, A3, n3, c3, rfl, hps2, has2, hb2⟩
  obtain rfl : n3 = 5 := by rw [← has2.len, runR_len]; rfl
  have HB2 := Lib.hid (below_next HB1.out hb2)
  have HT2 := Lib.hid (HT1.out.next hb2)
  have HEV := Lib.hid (Even_ok _ 3 3 [1, 2, 3] _ (is_new w2 3 [1, 2, 3]) ol_rise ((HT1.out.next hb2).next ((Below.refl _ _).alloc (Nat.le_refl _) _)))
  rw [ol_ev] at HEV
  clear hb2 hps2 has2 HR
  go_wp2_with fail
  refine HEV.out.mono ?_
  rintro e w3 ⟨A4, c4, rfl, hps4, hb3⟩
  have HB3 := Lib.hid (below_next HB2.out (gbelow_box hb3))
  have HP3 := Lib.hid hps4
  have HD := Lib.hid (ODeepest_ok 4 w3 (by omega))
  rw [ol_deep] at HD
  clear hps4 hb3 HEV
  go_wp2_with fail
  refine HD.out.mono ?_
  rintro e w3' ⟨rfl, hw3⟩
  subst hw3
  go_wp2_with fail
  refine (ok_any _ 3 3 [0, 0, 0] _ (is_new w3' 25 [0, 0, 0]) (by omega) (by simp)).mono ?_
  rintro e w5 ⟨rfl, rfl⟩
  obtain ⟨w5, hw5⟩ : ∃ W, w3'.alloc (Obj.cells (List.map I [0, 0, 0]).toArray 25) = W := ⟨_, rfl⟩
  have hbx : Below w3'.heap.size w3' w5 := by rw [← hw5]; exact (Below.refl _ _).alloc (Nat.le_refl _) _
  rw [hw5]
  have HB5 := Lib.hid (below_next HB3.out hbx)
  have HP5 := Lib.hid (HP3.out.below hbx)
  clear hbx hw5 HD
  go_wp2_with fail
  refine (gthree_any w5).mono ?_
  rintro e w6 ⟨rfl, hpb6, hb6⟩
  have HB6 := Lib.hid (below_next HB5.out hb6)
  have HE := Lib.hid (oeqSpot_t A4 _ 3 c4 3 gth w6 (HP5.out.below hb6) (hpb6.ps (Nat.le_refl _)) (by omega))
  clear hpb6 hb6
  go_wp2_with fail
  refine HE.out.mono ?_
  rintro e w7 ⟨rfl, hb7⟩
  have HB7 := Lib.hid (below_next HB6.out hb7)
  clear hb7
  go_wp2
  go_ret
  exact ⟨rfl, HB7.out⟩

end Go.Proofs.YtolgncaaffmmnaaDoor

/-
  hedgref.SpotKeys.
-/
namespace Go.Proofs.YtolgncaaffmmnaaDoor
open Go.RowKit

set_option maxRecDepth 100000 in
set_option maxHeartbeats 1000000 in
theorem SpotKeys_any (A : Option Addr) (n c : Nat) (l : PL) (w : World) (h : PS w A n c l) (hn : n ≤ 1000) :
    Calls Tryd.prog 24 #[.slice A n c] w (RetI (kys l) w) := by
  have H := Lib.hid h
  have HL := Lib.hid h.len
  clear h
  obtain ⟨i0, hi, hz0, hz1, hz2⟩ := info_parts int_info
  have HI := Lib.hid hi
  have HZ0 := Lib.hid hz0
  have HZ1 := Lib.hid hz1
  have HZ2 := Lib.hid hz2
  clear hi hz0 hz1 hz2
  go_enter Tryd.func24, Tryd.ntmps24
  go_wp2
  go_loopw [3, 8] (fun v i wr => ∃ k : Nat, k ≤ n ∧ i = .int .i64 k ∧ OwnI wr w.heap.size v (kys (l.take k)) ∧ Below w.heap.size w wr) (fun _ i _ => n - (intOf i).toNat)
  case atStart => exact ⟨0, Nat.zero_le _, rfl, World.ownsRow_nil _ _ _ _, Below.refl _ _⟩
  case round =>
    obtain ⟨k, hk, rfl, hown, hnx⟩ := hrel
    by_cases hlt : k < n
    · have hkl : k < l.length := by rw [HL.out]; exact hlt
      obtain ⟨b, off, rfl, hbw, hcs⟩ := H.out.at_ (by omega)
      obtain ⟨x, hx⟩ : ∃ x, l[k].1 = x := ⟨_, rfl⟩
      obtain ⟨y, hy⟩ : ∃ y, l[k].2 = y := ⟨_, rfl⟩
      have hc0 : wr.cell? ⟨b, off + k * 2, none⟩ = some (I x) := by rw [← hx]; exact (hnx.cell (by exact hbw)).trans (hcs k hlt).1
      have hc1 : wr.cell? ⟨b, off + k * 2 + 1, none⟩ = some (I y) := by rw [← hy]; exact (hnx.cell (by exact hbw)).trans (hcs k hlt).2
      have HK := Lib.hid (kys_take l k hkl)
      rw [hx] at HK
      obtain ⟨xs, hxs⟩ : ∃ xs, kys (l.take k) = xs := ⟨_, rfl⟩
      have hxl : xs.length ≤ 1000 := by rw [← hxs]; simp [kys]; omega
      rw [hxs] at hown HK
      have HOWN := Lib.hid hown
      have HNX := Lib.hid hnx
      have hz := hnx.size
      clear hcs hx hy hown hnx hxs
      go_wp2_with (first
        | (at_builtin
           refine wpList_append_own_at _ rfl (.tmp 12) (.tmp 15) 22 rfl w.heap.size 3 i0 _ 1 8 Tryd.underlying22 HI.out HZ0.out HZ1.out HZ2.out rfl (by omega) _ xs.length (xs.map I) rfl (own_below HOWN.out (((Below.refl _ _).alloc (Nat.le_refl _) _).alloc (by simp) _)) ⟨wr.heap.size + 1, 0, none⟩ 1 1 [I x] rfl rfl (by have := cell_one_new (wr.alloc (.cells #[I x, I y] 65)) (I x) 3; simpa using this) (one_I x) (by unfold maxLen; omega) (by omega) (by simp; omega) ?_
           intro v2 w2 hown2 hgrow2 _ hat2)
        | fail)
      go_roundw
      case rel =>
        refine ⟨k + 1, by omega, by go_num, ?_, ?_⟩
        · rw [HK.out]
          unfold OwnI
          simpa using hown2
        · exact Below.grown ((HNX.out.alloc hz _).alloc (by simp; omega) _) hgrow2 (by simp; omega) (own_ge1 HOWN.out)
      case measure => simp [intOf]; omega
    · rw [List.take_of_length_le (by rw [HL.out]; omega)] at hown
      obtain ⟨A', c', rfl, his, _⟩ := hown.is_
      have HIS := Lib.hid his
      have HNX := Lib.hid hnx
      clear his hnx hown
      go_wp2
      go_ret
      exact ⟨A', c', rfl, HIS.out, HNX.out⟩

end Go.Proofs.YtolgncaaffmmnaaDoor

/-
  Has, nth, Without.
-/
namespace Go.Proofs.YtolgncaaffmmnaaDoor
open Go.RowKit

def hasV (l : PL) (key : Int) : Int := ((l.find? fun p => p.1 == key).map (·.2)).getD 0
def hasI (l : PL) (key : Int) : Bool := (l.find? fun p => p.1 == key).isSome
def noneTo (l : PL) (key : Int) (k : Nat) : Prop := ∀ i, i < k → ((l[i]?.getD (key + 1, 0)).1 == key) = false
theorem noneTo_find (l : PL) (key : Int) : ∀ k (h : k < l.length), noneTo l key k → (l[k].1 == key) = true → l.find? (fun p => p.1 == key) = some l[k] := by
  induction l with
  | nil => intro k h; simp at h
  | cons p t ih =>
    intro k h hn hk
    cases k with
    | zero => simp only [List.getElem_cons_zero] at hk ⊢; simp [List.find?_cons, hk]
    | succ k =>
      have h0 := hn 0 (by omega)
      simp only [List.getElem?_cons_zero, Option.getD_some] at h0
      simp only [List.find?_cons, h0, List.getElem_cons_succ]
      exact ih k (by simpa using h) (fun i hi => by have := hn (i + 1) (by omega); simpa using this) (by simpa using hk)
theorem noneTo_all (l : PL) (key : Int) (h : noneTo l key l.length) : l.find? (fun p => p.1 == key) = none := by
  rw [List.find?_eq_none]
  intro x hx
  obtain ⟨i, hi, rfl⟩ := List.getElem_of_mem hx
  have := h i hi
  simpa [List.getElem?_eq_getElem hi] using this
theorem noneTo_succ {l : PL} {key : Int} {k : Nat} (hk : k < l.length) (h : noneTo l key k) (h1 : (l[k].1 == key) = false) : noneTo l key (k + 1) := fun i hi => by
  rcases Nat.lt_or_ge i k with h2 | h2
  · exact h i h2
  · obtain rfl : i = k := by omega
    simpa [List.getElem?_eq_getElem hk] using h1

set_option maxHeartbeats 1000000 in
theorem Has_any (A : Option Addr) (n c : Nat) (l : PL) (key : Int) (w : World) (h : PS w A n c l) (hn : n ≤ 1000000) :
    Calls Tryd.prog 53 #[.slice A n c, I key] w fun e w' => e = .returned (.tuple #[I (hasV l key), .bool (hasI l key)]) ∧ Below w.heap.size w w' := by
  have H := Lib.hid h
  have Hlen := Lib.hid h.len
  clear h
  go_enter Tryd.func53, Tryd.ntmps53
  go_wp2
  go_loopw [10] (fun i wr => ∃ k : Nat, k ≤ n ∧ i = .int .i64 k ∧ noneTo l key k ∧ Below w.heap.size w wr) (fun i _ => n - (intOf i).toNat)
  case atStart => exact ⟨0, Nat.zero_le _, rfl, fun i hi => absurd hi (by omega), Below.refl _ _⟩
  case round =>
    obtain ⟨k, hk, rfl, hno, hnx⟩ := hrel
    by_cases hlt : k < n
    · obtain ⟨b, off, rfl, hb, hc⟩ := H.out.at_ (by omega)
      have hkl : k < l.length := by have := Hlen.out; omega
      have hc0 : wr.cell? ⟨b, off + k * 2, none⟩ = some (I l[k].1) := (hnx.cell (by exact hb)).trans (hc k hlt).1
      have hc1 : wr.cell? ⟨b, off + k * 2 + 1, none⟩ = some (I l[k].2) := (hnx.cell (by exact hb)).trans (hc k hlt).2
      have hsz := hnx.size
      clear hc
      cases hkey : (l[k].1 == key) with
      | true =>
        have hf := noneTo_find l key k hkl hno hkey
        have HF : Hid (hasV l key = l[k].2 ∧ hasI l key = true) := by show _ ∧ _; simp [hasV, hasI, hf]
        clear hno hf
        go_wp2
        go_ret2
        refine ⟨?_, hnx.alloc hsz _⟩
        rw [HF.out.1, HF.out.2]
        rfl
      | false =>
        have HO := Lib.hid (noneTo_succ hkl hno hkey)
        clear hno
        go_wp2
        go_roundw
        case rel => exact ⟨k + 1, by omega, by go_num, HO.out, hnx.alloc hsz _⟩
        case measure => simp [intOf]; omega
    · have hf := noneTo_all l key (by rw [Hlen.out, show n = k by omega]; exact hno)
      have HF : Hid (hasV l key = 0 ∧ hasI l key = false) := by show _ ∧ _; simp [hasV, hasI, hf]
      clear hno hf
      go_wp2
      go_ret2
      refine ⟨?_, hnx⟩
      rw [HF.out.1, HF.out.2]
      rfl

def notAt (p : Int) (k : Nat) : Prop := ∀ i : Nat, i < k → (i : Int) ≠ p

set_option maxRecDepth 100000 in
set_option maxHeartbeats 1000000 in
theorem nth_any (A : Option Addr) (n c : Nat) (l : PL) (p : Int) (w : World) (h : PS w A n c l) (hn : n ≤ 1000000) :
    Calls Tryd.prog 56 #[.slice A n c, I p] w fun e w' => e = .returned (anV (pairA l p)) ∧ Below w.heap.size w w' := by
  have H := Lib.hid h
  have Hlen := Lib.hid h.len
  clear h
  have hb0 : Below w.heap.size w (w.alloc ansO) := (Below.refl _ _).alloc (Nat.le_refl _) _
  have HAB0 := Lib.hid (AB.new w)
  have HB0 := Lib.hid hb0
  clear hb0
  go_enter Tryd.func56, Tryd.ntmps56
  go_wp2
  go_loopw [9] (fun i wr => ∃ k : Nat, k ≤ n ∧ i = .int .i64 k ∧ notAt p k ∧ AB wr w.heap.size ∧ Below w.heap.size w wr) (fun i _ => n - (intOf i).toNat)
  case atStart => exact ⟨0, Nat.zero_le _, rfl, fun i hi => absurd hi (by omega), HAB0.out, HB0.out⟩
  case round =>
    obtain ⟨k, hk, rfl, hno, hab, hnx⟩ := hrel
    have hz : w.heap.size < wr.heap.size := by
      rcases Nat.lt_or_ge w.heap.size wr.heap.size with h1 | h1
      · exact h1
      · unfold AB at hab; rw [Array.getElem?_eq_none h1] at hab; cases hab
    have hab2 : ∀ o : Obj, AB (wr.alloc o) w.heap.size := fun o => hab.below (B := wr.heap.size) ((Below.refl _ _).alloc (Nat.le_refl _) _) hz
    by_cases hlt : k < n
    · obtain ⟨b, off, rfl, hb, hc⟩ := H.out.at_ (by omega)
      have hkl : k < l.length := by have := Hlen.out; omega
      have hc0 : wr.cell? ⟨b, off + k * 2, none⟩ = some (I l[k].1) := (hnx.cell (by exact hb)).trans (hc k hlt).1
      have hc1 : wr.cell? ⟨b, off + k * 2 + 1, none⟩ = some (I l[k].2) := (hnx.cell (by exact hb)).trans (hc k hlt).2
      have hsz := hnx.size
      clear hc
      by_cases hkp : (k : Int) = p
      · have HF : Hid (pairA l p = ⟨0, l[k].1, l[k].2, true⟩) := by rw [← hkp]; exact pairA_in l k hkl
        have hkp' : ((k : Int) == p) = true := by simpa using hkp
        obtain ⟨⟨a0, a1, a2, a3⟩, f0, f1, f2, f3⟩ := hab.facts
        have hR := ((AA.st4 (a := an0) hab 0 l[k].1 l[k].2 true).alloc (.cells #[I l[k].1, I l[k].2] 87)).facts
        have HR := Lib.hid hR
        have HNX := Lib.hid hnx
        clear hno hkp hab hab2 hnx hR
        go_wp2
        obtain ⟨r0, r1, r2, r3⟩ := HR.out
        refine bodyPost_ret (v := anV ⟨0, l[k].1, l[k].2, true⟩) (by simp [results, Tryd.results56, go_sem, r0, r1, r2, r3]) rfl ⟨by rw [HF.out], ?_⟩
        exact (below_st4 HNX.out (Nat.le_refl _) _ _ _ _).alloc (by simpa [World.setCell] using hsz) _
      · have HO : Hid (notAt p (k + 1)) := fun i hi => by
          rcases Nat.lt_or_ge i k with h2 | h2
          · exact hno i h2
          · obtain rfl : i = k := by omega
            exact hkp
        have hkp' : ((k : Int) == p) = false := by simpa using hkp
        have HAB := Lib.hid hab2
        clear hno hkp hab hab2
        go_wp2
        go_roundw
        case rel => exact ⟨k + 1, by omega, by go_num, HO.out, HAB.out _, hnx.alloc hsz _⟩
        case measure => simp [intOf]; omega
    · have HF : Hid (pairA l p = an0) := by
        show pairA l p = an0
        unfold pairA
        rw [if_neg]
        rintro ⟨h1, h2⟩
        refine hno p.toNat (by have := Hlen.out; omega) (by omega)
      obtain ⟨⟨a0, a1, a2, a3⟩, f0, f1, f2, f3⟩ := hab.facts
      have HNX := Lib.hid hnx
      clear hno hab hab2 hnx
      go_wp2
      exact bodyPost_ret (v := anV an0) (by simp [results, Tryd.results56, go_sem, a0, a1, a2, a3]) rfl ⟨by rw [HF.out], below_st4 HNX.out (Nat.le_refl _) _ _ _ _⟩

end Go.Proofs.YtolgncaaffmmnaaDoor
