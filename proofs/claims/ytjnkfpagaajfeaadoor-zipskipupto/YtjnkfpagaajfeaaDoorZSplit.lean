/-
  package zip: Split.
-/
import Derived.Test.YtjnkfpagaajfeaaDoorZZip
import Derived.Test.YtjnkfpagaajfeaaDoorSChk
import Derived.BigQuiet
import Derived.RegionTactic
import Derived.Deep.QuietTactic
namespace Go.Proofs.YtjnkfpagaajfeaaDoor
open Go.RowKit

/-- nothing, and an error -/
def RetBad (w : World) (e : Ending) (w' : World) : Prop := ∃ E : Int, E ≠ 0 ∧ e = .returned (.tuple #[.slice none 0 0, .slice none 0 0, I E]) ∧ Below w.heap.size w w'

set_option maxHeartbeats 1000000 in
theorem Split_form (A : Option Addr) (n c : Nat) (l : PL) (key : Int) (w : World) (h : PS w A n c l) (hn : n ≤ 9223372036854775807) (hE : chkS l ≠ 0) :
    Calls Tryd.prog 19 #[.slice A n c, I key] w (RetBad w) := by
  obtain ⟨E, hE2⟩ : ∃ E, chkS l = E := ⟨_, rfl⟩
  have HK := Lib.hid (CheckS_is A n c l w h hn E hE2)
  rw [hE2] at hE
  have hne : (E != 0) = true := by simpa using hE
  have HE := Lib.hid hE
  clear h hE2 hE
  go_enter Tryd.func19, Tryd.ntmps19
  go_wp2_with fail
  refine HK.out.mono ?_
  rintro e w1 ⟨rfl, hb⟩
  go_wp2
  go_ret3
  exact ⟨E, HE.out, rfl, hb⟩
set_option maxHeartbeats 1000000 in
theorem Split_unlike (A : Option Addr) (n c : Nat) (l : PL) (t : Tr) (key : Int) (w : World) (h : PS w A n c l) (hE : chkS l = 0) (hn : n ≤ 200) (ht : Hp t (zpl (kys l))) (hne : l ≠ t.sp 0) (hT : Tb w) :
    Calls Tryd.prog 19 #[.slice A n c, I key] w (RetBad w) := by
  have HK := Lib.hid (CheckS_is A n c l w h (by omega) 0 hE)
  have HZ : Hid (∀ w', Below w.heap.size w w' → Calls Tryd.prog 38 #[.slice A n c] w' fun e w'' => e = .returned (.bool false) ∧ Below w'.heap.size w' w'') := fun w' hb => isZipped_any A n c l t w' (h.below hb) (by omega) ht (hT.next hb) false (by simpa using hne)
  clear h hE ht hne hT
  go_enter Tryd.func19, Tryd.ntmps19
  go_wp2_with fail
  refine HK.out.mono ?_
  rintro e w1 ⟨rfl, hb⟩
  have HB := Lib.hid hb
  clear hb HK
  go_wp2_with fail
  refine (HZ.out _ HB.out).mono ?_
  rintro e w2 ⟨rfl, hb⟩
  have HB2 := Lib.hid (below_next HB.out hb)
  clear hb HZ
  go_wp2
  go_ret3
  exact ⟨3, by decide, rfl, HB2.out⟩
set_option maxHeartbeats 1000000 in
theorem Split_arg (A : Option Addr) (n c : Nat) (l : PL) (t : Tr) (key : Int) (w : World) (h : PS w A n c l) (hE : chkS l = 0) (hn : n ≤ 200) (ht : Hp t (zpl (kys l))) (hne : l = t.sp 0) (hk : key < 0 ∨ 1000000 < key) (hT : Tb w) :
    Calls Tryd.prog 19 #[.slice A n c, I key] w (RetBad w) := by
  have HK := Lib.hid (CheckS_is A n c l w h (by omega) 0 hE)
  have HZ : Hid (∀ w', Below w.heap.size w w' → Calls Tryd.prog 38 #[.slice A n c] w' fun e w'' => e = .returned (.bool true) ∧ Below w'.heap.size w' w'') := fun w' hb => isZipped_any A n c l t w' (h.below hb) (by omega) ht (hT.next hb) true (by simpa using hne)
  clear h hE ht hne hT
  go_enter Tryd.func19, Tryd.ntmps19
  go_wp2_with fail
  refine HK.out.mono ?_
  rintro e w1 ⟨rfl, hb⟩
  have HB := Lib.hid hb
  clear hb HK
  go_wp2_with fail
  refine (HZ.out _ HB.out).mono ?_
  rintro e w2 ⟨rfl, hb⟩
  have HB2 := Lib.hid (below_next HB.out hb)
  clear hb HZ
  by_cases hk0 : key < 0
  · clear hk
    go_wp2
    go_ret3
    exact ⟨1, by decide, rfl, HB2.out⟩
  · have hk1 : 1000000 < key := by omega
    clear hk
    go_wp2
    go_ret3
    exact ⟨1, by decide, rfl, HB2.out⟩

theorem zbig2 (w : World) (o o' : Obj) (k : Nat) (h : k ≤ w.heap.size + 1) : k < ((w.alloc o).alloc o').drew.heap.size := by
  have h1 : ((w.alloc o).alloc o').drew.heap.size = ((w.alloc o).alloc o').heap.size := rfl
  rw [h1]
  simp
  omega

/-- both parts -/
def RetSplit (l : PL) (n : Nat) (key : Int) (w : World) (e : Ending) (w' : World) : Prop :=
  ∃ (p : Nat) (ta tb : Tr) (A : Option Addr) (c : Nat) (A' : Option Addr) (c' : Nat), e = .returned (.tuple #[.slice A p c, .slice A' ((n - p : Nat)) c', I 0]) ∧ p ≤ n ∧ (∀ j, j < p → ky l j < key) ∧ (p < n → key ≤ ky l p) ∧
    Hp ta (zpl (kys (l.take p))) ∧ Hp tb (zpl (kys (l.drop p))) ∧ PS w' A p c (ta.sp 0) ∧ PS w' A' (n - p) c' (tb.sp 0) ∧ Below w.heap.size w w'

set_option maxRecDepth 100000 in
set_option maxHeartbeats 4000000 in
theorem Split_ok (A : Option Addr) (n c : Nat) (l : PL) (t : Tr) (key : Int) (w : World) (h : PS w A n c l) (hE : chkS l = 0) (hn : n ≤ 200) (ht : Hp t (zpl (kys l))) (hne : l = t.sp 0) (hk0 : 0 ≤ key) (hk1 : key ≤ 1000000) (hT : Tb w) :
    Calls Tryd.prog 19 #[.slice A n c, I key] w (RetSplit l n key w) := by
  have HK := Lib.hid (CheckS_is A n c l w h (by omega) 0 hE)
  have HZ : Hid (∀ w', Below w.heap.size w w' → Calls Tryd.prog 38 #[.slice A n c] w' fun e w'' => e = .returned (.bool true) ∧ Below w'.heap.size w' w'') := fun w' hb => isZipped_any A n c l t w' (h.below hb) (by omega) ht (hT.next hb) true (by simpa using hne)
  have H := Lib.hid h
  have HT := Lib.hid hT
  have HL := Lib.hid h.len
  have hcap := h.rd.1
  have d0 : decide (key < 0) = false := by simp; omega
  have d1 : decide (1000000 < key) = false := by simp; omega
  clear h hE ht hne hT
  go_enter Tryd.func19, Tryd.ntmps19
  go_wp2_with fail
  refine HK.out.mono ?_
  rintro e w1 ⟨rfl, hb⟩
  have HB := Lib.hid hb
  clear hb HK
  go_wp2_with fail
  refine (HZ.out _ HB.out).mono ?_
  rintro e w2 ⟨rfl, hb⟩
  have HB2 := Lib.hid (below_next HB.out hb)
  clear hb HZ HB
  go_wp2
  go_loop [8] (fun i => ∃ k : Nat, k ≤ n ∧ i = .int .i64 k ∧ ∀ j, j < k → ky l j < key) (fun i => n - (intOf i).toNat)
  case atStart => exact ⟨0, Nat.zero_le _, rfl, fun j hj => absurd hj (by omega)⟩
  case round =>
    obtain ⟨k, hk, rfl, hlow⟩ := hrel
    have HLOW := Lib.hid hlow
    clear hlow
    by_cases hgo : k < n ∧ ky l k < key
    · obtain ⟨hlt, hky⟩ := hgo
      obtain ⟨b, off, rfl, hb, hcs⟩ := (H.out.below HB2.out).dat (by omega)
      have hc0 : w2.cell? ⟨b, off + k * 2, none⟩ = some (I (ky l k)) := (hcs k hlt).1
      have HN : Hid (∀ j, j < k + 1 → ky l j < key) := fun j hj => by
        rcases Nat.lt_or_ge j k with h1 | h1
        · exact HLOW.out j h1
        · obtain rfl : j = k := by omega
          exact hky
      clear hcs
      go_wp2
      go_round
      case rel => exact ⟨k + 1, by omega, by go_num, HN.out⟩
      case measure => simp [intOf]; omega
    · have HHI : Hid (k < n → key ≤ ky l k) := fun h1 => by
        apply Classical.byContradiction
        intro h2
        exact hgo ⟨h1, by omega⟩
      obtain ⟨ta, hta⟩ := hp_has _ (zpl (kys (l.take k))) (Nat.le_refl _)
      obtain ⟨tb, htb⟩ := hp_has _ (zpl (kys (l.drop k))) (Nat.le_refl _)
      have HTA := Lib.hid hta
      have HTB := Lib.hid htb
      have hor : (k < n ∧ ∃ b off, A = some ⟨b, off, none⟩ ∧ b < w2.heap.size ∧ w2.cell? ⟨b, off + k * 2, none⟩ = some (I (ky l k)) ∧ decide (ky l k < key) = false) ∨ ¬ k < n := by
        by_cases hlt : k < n
        · left
          obtain ⟨b, off, rfl, hb, hcs⟩ := (H.out.below HB2.out).dat (by omega)
          refine ⟨hlt, b, off, rfl, hb, (hcs k hlt).1, ?_⟩
          have := HHI.out hlt
          simp
          omega
        · exact .inr hlt
      clear hgo hta htb
      have i0 : (0 : Int) ≤ (k : Int) := by omega
      have i1 : (k : Int) ≤ (c : Int) := by omega
      have i2 : (k : Int) ≤ (n : Int) := by omega
      have i3 : (n : Int) ≤ (c : Int) := by omega
      have i4 : k ≤ c := by omega
      have HA : Hid (∀ W b, Below w2.heap.size w2 W → W.heap[b]? = some (.cells #[.slice A k c] 23 (0, 0)) → Calls Tryd.prog 31 #[.slice (some ⟨b, 0, none⟩) 1 1] W (RetZ (ta.sp 0) k W)) := fun W b hW hbk =>
        zip1_any A k c b (l.take k) ta W _ hbk ((H.out.below (below_next HB2.out hW)).take k hk) (by omega) HTA.out (HT.out.next (below_next HB2.out hW))
      have HBC : Hid (∀ W b sp c', Below w2.heap.size w2 W → W.heap[b]? = some (.cells #[.slice sp ((n - k : Nat)) c'] 23 (0, 0)) → (k < n → ∀ b off, A = some ⟨b, off, none⟩ → sp = some ⟨b, off + k * 2, none⟩) → n - k ≤ c' → Calls Tryd.prog 31 #[.slice (some ⟨b, 0, none⟩) 1 1] W (RetZ (tb.sp 0) (n - k) W)) := fun W b sp c' hW hbk hsp hc' =>
        zip1_any sp (n - k) c' b (l.drop k) tb W _ hbk ((H.out.below (below_next HB2.out hW)).drop k hk sp hsp hc') (by omega) HTB.out (HT.out.next (below_next HB2.out hW))
      rcases hor with ⟨hlt, b, off, rfl, hb, hc0, hd⟩ | hge
      · have hck : ¬ c = k := by omega
        have HSP : Hid (k < n → ∀ b' off', (some ⟨b, off, none⟩ : Option Addr) = some ⟨b', off', none⟩ → (some ⟨b, off + k * 2, none⟩ : Option Addr) = some ⟨b', off' + k * 2, none⟩) := fun _ b' off' e => by cases e; rfl
        obtain ⟨oA, HOA⟩ : ∃ o, Hid (o = Obj.cells #[.slice (some ⟨b, off, none⟩) k c] 23) := ⟨_, Lib.hid rfl⟩
        obtain ⟨oB, HOB⟩ : ∃ o, Hid (o = Obj.cells #[.slice (some ⟨b, off + k * 2, none⟩) ((n - k : Nat)) ((c - k : Nat))] 23) := ⟨_, Lib.hid rfl⟩
        have HKB2 : Hid (((w2.alloc oA).alloc oB).drew.heap[w2.heap.size + 1]? = some oB) := by
          have := heap_alloc_new (w2.alloc oA) oB
          show _ = _
          simpa [World.drew] using this
        have HKB3 : Hid (((w2.alloc oB).alloc oA).drew.heap[w2.heap.size]? = some oB) := (Below.heap_alloc (w2.alloc oB) oA w2.heap.size (by simp)).trans (heap_alloc_new w2 oB)
        have HA1 : Hid (Calls Tryd.prog 31 #[.slice (some ⟨w2.heap.size, 0, none⟩) 1 1] (w2.alloc oA).drew (RetZ (ta.sp 0) k (w2.alloc oA).drew)) :=
          HA.out (w2.alloc oA).drew w2.heap.size ((Below.refl _ _).alloc (Nat.le_refl _) _).drew (by rw [HOA.out]; exact heap_alloc_new w2 _)
        have HA2 : Hid (Calls Tryd.prog 31 #[.slice (some ⟨w2.heap.size, 0, none⟩) 1 1] ((w2.alloc oA).alloc oB).drew (RetZ (ta.sp 0) k ((w2.alloc oA).alloc oB).drew)) :=
          HA.out _ w2.heap.size (((Below.refl _ _).alloc (Nat.le_refl _) _).alloc (by simp) _).drew ((Below.heap_alloc (w2.alloc oA) oB w2.heap.size (by simp)).trans (by rw [HOA.out]; exact heap_alloc_new w2 _))
        have HA3 : Hid (Calls Tryd.prog 31 #[.slice (some ⟨w2.heap.size + 1, 0, none⟩) 1 1] ((w2.alloc oB).alloc oA).drew (RetZ (ta.sp 0) k ((w2.alloc oB).alloc oA).drew)) :=
          HA.out _ (w2.heap.size + 1) (((Below.refl _ _).alloc (Nat.le_refl _) _).alloc (by simp) _).drew (by have := heap_alloc_new (w2.alloc oB) oA; rw [HOA.out] at this ⊢; simpa [World.drew] using this)
        have HBX : Hid (∀ (w3 : World) (b2 : Nat), Below w2.heap.size w2 w3 → w3.heap[b2]? = some oB → Calls Tryd.prog 31 #[.slice (some ⟨b2, 0, none⟩) 1 1] w3 (RetZ (tb.sp 0) ((n - k : Nat)) w3)) := fun w3 b2 hb3 hk3 => by
          have hx := HBC.out w3 b2 (some ⟨b, off + k * 2, none⟩) ((c - k : Nat)) hb3
          rw [show (n - k : Nat) = ((n - k : Nat)) by omega] at hx
          exact hx (by rw [hk3, HOB.out]) HSP.out (by omega)
        have HB1 : Hid (∀ w3 : World, Below w2.heap.size w2 w3 → Calls Tryd.prog 31 #[.slice (some ⟨w3.heap.size, 0, none⟩) 1 1] (w3.alloc oB) (RetZ (tb.sp 0) ((n - k : Nat)) (w3.alloc oB))) := fun w3 hb3 =>
          HBX.out _ w3.heap.size (hb3.alloc hb3.size _) (heap_alloc_new w3 _)
        clear HA HBC
        go_wp2
        go_region_with (first
          | (go_at_call 31
             rw [← HOA.out]
             with_reducible refine HA1.out.mono ?_
             rintro e w3 ⟨A3, c3, rfl, hps3, hb3⟩
             have HPS3 := Lib.hid hps3
             have HB3 : Hid (Below w2.heap.size w2 w3) := ((Below.refl _ _).alloc (Nat.le_refl _) _).drew.trans (hb3.mono (by simp [World.drew]))
             clear hps3 hb3)
          | (go_at_call 31
             rw [← HOB.out]
             with_reducible refine (HB1.out w3 HB3.out).mono ?_
             rintro e w4 ⟨A4, c4, rfl, hps4, hb4⟩
             have HPS4 := Lib.hid hps4
             have HPS34 : Hid (PS w4 A3 k c3 (ta.sp 0)) := HPS3.out.below (((Below.refl _ _).alloc (Nat.le_refl _) _).trans (hb4.mono (by simp)))
             have HB4 : Hid (Below w2.heap.size w2 w4) := (HB3.out.alloc HB3.out.size _).trans (hb4.mono (HB3.out.alloc HB3.out.size _).size)
             clear hps4 hb4)
          | (go_at_call 31
             rw [← HOA.out, ← HOB.out]
             with_reducible refine HA2.out.mono ?_
             rintro e w3 ⟨A3, c3, rfl, hps3, hb3⟩
             have HPS3 := Lib.hid hps3
             have HB3 : Hid (Below w2.heap.size w2 w3) := (((Below.refl _ _).alloc (Nat.le_refl _) _).alloc (by simp) _).drew.trans (hb3.mono (((Below.refl _ _).alloc (Nat.le_refl _) _).alloc (by simp) _).drew.size)
             have HK3 : Hid (w3.heap[w2.heap.size + 1]? = some oB) := (hb3.block _ (zbig2 _ _ _ _ (by omega))).trans HKB2.out
             clear hps3 hb3)
          | (go_at_call 31
             rw [← HOA.out, ← HOB.out]
             with_reducible refine HA3.out.mono ?_
             rintro e w3 ⟨A3, c3, rfl, hps3, hb3⟩
             have HPS3 := Lib.hid hps3
             have HB3 : Hid (Below w2.heap.size w2 w3) := (((Below.refl _ _).alloc (Nat.le_refl _) _).alloc (by simp) _).drew.trans (hb3.mono (((Below.refl _ _).alloc (Nat.le_refl _) _).alloc (by simp) _).drew.size)
             have HK3 : Hid (w3.heap[w2.heap.size]? = some oB) := (hb3.block _ (zbig2 _ _ _ _ (by omega))).trans HKB3.out
             clear hps3 hb3)
          | (go_at_call 31
             with_reducible refine (HBX.out w3 _ HB3.out HK3.out).mono ?_
             rintro e w4 ⟨A4, c4, rfl, hps4, hb4⟩
             have HPS4 := Lib.hid hps4
             have HPS34 : Hid (PS w4 A3 k c3 (ta.sp 0)) := HPS3.out.below hb4
             have HB4 : Hid (Below w2.heap.size w2 w4) := below_next HB3.out hb4
             clear hps4 hb4))
        all_goals go_wp2
        all_goals go_ret3
        all_goals
          refine ⟨k, ta, tb, A3, c3, A4, c4, ?_, hk, HLOW.out, HHI.out, HTA.out, HTB.out, HPS34.out, ?_, below_next HB2.out HB4.out⟩
          · first
              | rfl
              | (rw [show (n - k : Nat) = ((n - k : Nat)) by omega]; rfl)
          · rw [show (n - k : Nat) = ((n - k : Nat)) by omega]
            exact HPS4.out
      · cases A with
        | none =>
          have hn0 : n = 0 := by
            rcases Nat.eq_zero_or_pos n with h0 | h0
            · exact h0
            · obtain ⟨_, _, e, _⟩ := H.out.dat h0; cases e
          obtain rfl : k = 0 := by omega
          subst hn0
          obtain ⟨oA, HOA⟩ : ∃ o, Hid (o = Obj.cells #[.slice none 0 c] 23) := ⟨_, Lib.hid rfl⟩
          have HKB2 : Hid (((w2.alloc oA).alloc oA).drew.heap[w2.heap.size + 1]? = some oA) := by
            have := heap_alloc_new (w2.alloc oA) oA
            show _ = _
            simpa [World.drew] using this
          have HKB3 : Hid (((w2.alloc oA).alloc oA).drew.heap[w2.heap.size]? = some oA) := (Below.heap_alloc (w2.alloc oA) oA w2.heap.size (by simp)).trans (heap_alloc_new w2 oA)
          have HA1 : Hid (Calls Tryd.prog 31 #[.slice (some ⟨w2.heap.size, 0, none⟩) 1 1] (w2.alloc oA).drew (RetZ (ta.sp 0) 0 (w2.alloc oA).drew)) :=
            HA.out (w2.alloc oA).drew w2.heap.size ((Below.refl _ _).alloc (Nat.le_refl _) _).drew (by rw [HOA.out]; exact heap_alloc_new w2 _)
          have HA2 : Hid (Calls Tryd.prog 31 #[.slice (some ⟨w2.heap.size, 0, none⟩) 1 1] ((w2.alloc oA).alloc oA).drew (RetZ (ta.sp 0) 0 ((w2.alloc oA).alloc oA).drew)) :=
            HA.out _ w2.heap.size (((Below.refl _ _).alloc (Nat.le_refl _) _).alloc (by simp) _).drew ((Below.heap_alloc (w2.alloc oA) oA w2.heap.size (by simp)).trans (by rw [HOA.out]; exact heap_alloc_new w2 _))
          have HA3 : Hid (Calls Tryd.prog 31 #[.slice (some ⟨w2.heap.size + 1, 0, none⟩) 1 1] ((w2.alloc oA).alloc oA).drew (RetZ (ta.sp 0) 0 ((w2.alloc oA).alloc oA).drew)) :=
            HA.out _ (w2.heap.size + 1) (((Below.refl _ _).alloc (Nat.le_refl _) _).alloc (by simp) _).drew (by have := heap_alloc_new (w2.alloc oA) oA; rw [HOA.out] at this ⊢; simpa [World.drew] using this)
          have HBX : Hid (∀ (w3 : World) (b2 : Nat), Below w2.heap.size w2 w3 → w3.heap[b2]? = some oA → Calls Tryd.prog 31 #[.slice (some ⟨b2, 0, none⟩) 1 1] w3 (RetZ (tb.sp 0) 0 w3)) := fun w3 b2 hb3 hk3 => by
            have hx := HBC.out w3 b2 none c hb3
            rw [show (0 - 0 : Nat) = 0 by omega] at hx
            exact hx (by rw [hk3, HOA.out]) (fun h => absurd h hge) (by omega)
          have HB1 : Hid (∀ w3 : World, Below w2.heap.size w2 w3 → Calls Tryd.prog 31 #[.slice (some ⟨w3.heap.size, 0, none⟩) 1 1] (w3.alloc oA) (RetZ (tb.sp 0) 0 (w3.alloc oA))) := fun w3 hb3 =>
            HBX.out _ w3.heap.size (hb3.alloc hb3.size _) (heap_alloc_new w3 _)
          clear HA HBC
          go_wp2
          go_region_with (first
            | (go_at_call 31
               rw [← HOA.out]
               with_reducible refine HA1.out.mono ?_
               rintro e w3 ⟨A3, c3, rfl, hps3, hb3⟩
               have HPS3 := Lib.hid hps3
               have HB3 : Hid (Below w2.heap.size w2 w3) := ((Below.refl _ _).alloc (Nat.le_refl _) _).drew.trans (hb3.mono (by simp [World.drew]))
               clear hps3 hb3)
            | (go_at_call 31
               rw [← HOA.out]
               with_reducible refine (HB1.out w3 HB3.out).mono ?_
               rintro e w4 ⟨A4, c4, rfl, hps4, hb4⟩
               have HPS4 := Lib.hid hps4
               have HPS34 : Hid (PS w4 A3 0 c3 (ta.sp 0)) := HPS3.out.below (((Below.refl _ _).alloc (Nat.le_refl _) _).trans (hb4.mono (by simp)))
               have HB4 : Hid (Below w2.heap.size w2 w4) := (HB3.out.alloc HB3.out.size _).trans (hb4.mono (HB3.out.alloc HB3.out.size _).size)
               clear hps4 hb4)
            | (go_at_call 31
               rw [← HOA.out]
               with_reducible refine HA2.out.mono ?_
               rintro e w3 ⟨A3, c3, rfl, hps3, hb3⟩
               have HPS3 := Lib.hid hps3
               have HB3 : Hid (Below w2.heap.size w2 w3) := (((Below.refl _ _).alloc (Nat.le_refl _) _).alloc (by simp) _).drew.trans (hb3.mono (((Below.refl _ _).alloc (Nat.le_refl _) _).alloc (by simp) _).drew.size)
               have HK3 : Hid (w3.heap[w2.heap.size + 1]? = some oA) := (hb3.block _ (zbig2 _ _ _ _ (by omega))).trans HKB2.out
               clear hps3 hb3)
            | (go_at_call 31
               rw [← HOA.out]
               with_reducible refine HA3.out.mono ?_
               rintro e w3 ⟨A3, c3, rfl, hps3, hb3⟩
               have HPS3 := Lib.hid hps3
               have HB3 : Hid (Below w2.heap.size w2 w3) := (((Below.refl _ _).alloc (Nat.le_refl _) _).alloc (by simp) _).drew.trans (hb3.mono (((Below.refl _ _).alloc (Nat.le_refl _) _).alloc (by simp) _).drew.size)
               have HK3 : Hid (w3.heap[w2.heap.size]? = some oA) := (hb3.block _ (zbig2 _ _ _ _ (by omega))).trans HKB3.out
               clear hps3 hb3)
            | (go_at_call 31
               with_reducible refine (HBX.out w3 _ HB3.out HK3.out).mono ?_
               rintro e w4 ⟨A4, c4, rfl, hps4, hb4⟩
               have HPS4 := Lib.hid hps4
               have HPS34 : Hid (PS w4 A3 0 c3 (ta.sp 0)) := HPS3.out.below hb4
               have HB4 : Hid (Below w2.heap.size w2 w4) := below_next HB3.out hb4
               clear hps4 hb4))
          all_goals go_wp2
          all_goals go_ret3
          all_goals
            refine ⟨0, ta, tb, A3, c3, A4, c4, ?_, hk, HLOW.out, HHI.out, HTA.out, HTB.out, HPS34.out, ?_, below_next HB2.out HB4.out⟩
            · first
                | rfl
                | (rw [show (0 - 0 : Nat) = 0 by omega]; rfl)
            · rw [show (0 - 0 : Nat) = 0 by omega]
              exact HPS4.out
        | some ad =>
          by_cases hck : c = k
          · subst hck
            obtain ⟨oA, HOA⟩ : ∃ o, Hid (o = Obj.cells #[.slice (some ad) c c] 23) := ⟨_, Lib.hid rfl⟩
            obtain ⟨oB, HOB⟩ : ∃ o, Hid (o = Obj.cells #[.slice (some ad) 0 0] 23) := ⟨_, Lib.hid rfl⟩
            have HKB2 : Hid (((w2.alloc oA).alloc oB).drew.heap[w2.heap.size + 1]? = some oB) := by
              have := heap_alloc_new (w2.alloc oA) oB
              show _ = _
              simpa [World.drew] using this
            have HKB3 : Hid (((w2.alloc oB).alloc oA).drew.heap[w2.heap.size]? = some oB) := (Below.heap_alloc (w2.alloc oB) oA w2.heap.size (by simp)).trans (heap_alloc_new w2 oB)
            have HA1 : Hid (Calls Tryd.prog 31 #[.slice (some ⟨w2.heap.size, 0, none⟩) 1 1] (w2.alloc oA).drew (RetZ (ta.sp 0) c (w2.alloc oA).drew)) :=
              HA.out (w2.alloc oA).drew w2.heap.size ((Below.refl _ _).alloc (Nat.le_refl _) _).drew (by rw [HOA.out]; exact heap_alloc_new w2 _)
            have HA2 : Hid (Calls Tryd.prog 31 #[.slice (some ⟨w2.heap.size, 0, none⟩) 1 1] ((w2.alloc oA).alloc oB).drew (RetZ (ta.sp 0) c ((w2.alloc oA).alloc oB).drew)) :=
              HA.out _ w2.heap.size (((Below.refl _ _).alloc (Nat.le_refl _) _).alloc (by simp) _).drew ((Below.heap_alloc (w2.alloc oA) oB w2.heap.size (by simp)).trans (by rw [HOA.out]; exact heap_alloc_new w2 _))
            have HA3 : Hid (Calls Tryd.prog 31 #[.slice (some ⟨w2.heap.size + 1, 0, none⟩) 1 1] ((w2.alloc oB).alloc oA).drew (RetZ (ta.sp 0) c ((w2.alloc oB).alloc oA).drew)) :=
              HA.out _ (w2.heap.size + 1) (((Below.refl _ _).alloc (Nat.le_refl _) _).alloc (by simp) _).drew (by have := heap_alloc_new (w2.alloc oB) oA; rw [HOA.out] at this ⊢; simpa [World.drew] using this)
            have HBX : Hid (∀ (w3 : World) (b2 : Nat), Below w2.heap.size w2 w3 → w3.heap[b2]? = some oB → Calls Tryd.prog 31 #[.slice (some ⟨b2, 0, none⟩) 1 1] w3 (RetZ (tb.sp 0) 0 w3)) := fun w3 b2 hb3 hk3 => by
              have hx := HBC.out w3 b2 (some ad) 0 hb3
              rw [show (n - c : Nat) = 0 by omega] at hx
              exact hx (by rw [hk3, HOB.out]) (fun h => absurd h hge) (by omega)
            have HB1 : Hid (∀ w3 : World, Below w2.heap.size w2 w3 → Calls Tryd.prog 31 #[.slice (some ⟨w3.heap.size, 0, none⟩) 1 1] (w3.alloc oB) (RetZ (tb.sp 0) 0 (w3.alloc oB))) := fun w3 hb3 =>
              HBX.out _ w3.heap.size (hb3.alloc hb3.size _) (heap_alloc_new w3 _)
            clear HA HBC
            go_wp2
            go_region_with (first
              | (go_at_call 31
                 rw [← HOA.out]
                 with_reducible refine HA1.out.mono ?_
                 rintro e w3 ⟨A3, c3, rfl, hps3, hb3⟩
                 have HPS3 := Lib.hid hps3
                 have HB3 : Hid (Below w2.heap.size w2 w3) := ((Below.refl _ _).alloc (Nat.le_refl _) _).drew.trans (hb3.mono (by simp [World.drew]))
                 clear hps3 hb3)
              | (go_at_call 31
                 rw [← HOB.out]
                 with_reducible refine (HB1.out w3 HB3.out).mono ?_
                 rintro e w4 ⟨A4, c4, rfl, hps4, hb4⟩
                 have HPS4 := Lib.hid hps4
                 have HPS34 : Hid (PS w4 A3 c c3 (ta.sp 0)) := HPS3.out.below (((Below.refl _ _).alloc (Nat.le_refl _) _).trans (hb4.mono (by simp)))
                 have HB4 : Hid (Below w2.heap.size w2 w4) := (HB3.out.alloc HB3.out.size _).trans (hb4.mono (HB3.out.alloc HB3.out.size _).size)
                 clear hps4 hb4)
              | (go_at_call 31
                 rw [← HOA.out, ← HOB.out]
                 with_reducible refine HA2.out.mono ?_
                 rintro e w3 ⟨A3, c3, rfl, hps3, hb3⟩
                 have HPS3 := Lib.hid hps3
                 have HB3 : Hid (Below w2.heap.size w2 w3) := (((Below.refl _ _).alloc (Nat.le_refl _) _).alloc (by simp) _).drew.trans (hb3.mono (((Below.refl _ _).alloc (Nat.le_refl _) _).alloc (by simp) _).drew.size)
                 have HK3 : Hid (w3.heap[w2.heap.size + 1]? = some oB) := (hb3.block _ (zbig2 _ _ _ _ (by omega))).trans HKB2.out
                 clear hps3 hb3)
              | (go_at_call 31
                 rw [← HOA.out, ← HOB.out]
                 with_reducible refine HA3.out.mono ?_
                 rintro e w3 ⟨A3, c3, rfl, hps3, hb3⟩
                 have HPS3 := Lib.hid hps3
                 have HB3 : Hid (Below w2.heap.size w2 w3) := (((Below.refl _ _).alloc (Nat.le_refl _) _).alloc (by simp) _).drew.trans (hb3.mono (((Below.refl _ _).alloc (Nat.le_refl _) _).alloc (by simp) _).drew.size)
                 have HK3 : Hid (w3.heap[w2.heap.size]? = some oB) := (hb3.block _ (zbig2 _ _ _ _ (by omega))).trans HKB3.out
                 clear hps3 hb3)
              | (go_at_call 31
                 with_reducible refine (HBX.out w3 _ HB3.out HK3.out).mono ?_
                 rintro e w4 ⟨A4, c4, rfl, hps4, hb4⟩
                 have HPS4 := Lib.hid hps4
                 have HPS34 : Hid (PS w4 A3 c c3 (ta.sp 0)) := HPS3.out.below hb4
                 have HB4 : Hid (Below w2.heap.size w2 w4) := below_next HB3.out hb4
                 clear hps4 hb4))
            all_goals go_wp2
            all_goals go_ret3
            all_goals
              refine ⟨c, ta, tb, A3, c3, A4, c4, ?_, hk, HLOW.out, HHI.out, HTA.out, HTB.out, HPS34.out, ?_, below_next HB2.out HB4.out⟩
              · first
                  | rfl
                  | (rw [show (n - c : Nat) = 0 by omega]; rfl)
              · rw [show (n - c : Nat) = 0 by omega]
                exact HPS4.out
          · skip
            obtain ⟨oA, HOA⟩ : ∃ o, Hid (o = Obj.cells #[.slice (some ad) k c] 23) := ⟨_, Lib.hid rfl⟩
            obtain ⟨oB, HOB⟩ : ∃ o, Hid (o = Obj.cells #[.slice (some (ad.add (k * 2))) ((n - k : Nat)) ((c - k : Nat))] 23) := ⟨_, Lib.hid rfl⟩
            have HKB2 : Hid (((w2.alloc oA).alloc oB).drew.heap[w2.heap.size + 1]? = some oB) := by
              have := heap_alloc_new (w2.alloc oA) oB
              show _ = _
              simpa [World.drew] using this
            have HKB3 : Hid (((w2.alloc oB).alloc oA).drew.heap[w2.heap.size]? = some oB) := (Below.heap_alloc (w2.alloc oB) oA w2.heap.size (by simp)).trans (heap_alloc_new w2 oB)
            have HA1 : Hid (Calls Tryd.prog 31 #[.slice (some ⟨w2.heap.size, 0, none⟩) 1 1] (w2.alloc oA).drew (RetZ (ta.sp 0) k (w2.alloc oA).drew)) :=
              HA.out (w2.alloc oA).drew w2.heap.size ((Below.refl _ _).alloc (Nat.le_refl _) _).drew (by rw [HOA.out]; exact heap_alloc_new w2 _)
            have HA2 : Hid (Calls Tryd.prog 31 #[.slice (some ⟨w2.heap.size, 0, none⟩) 1 1] ((w2.alloc oA).alloc oB).drew (RetZ (ta.sp 0) k ((w2.alloc oA).alloc oB).drew)) :=
              HA.out _ w2.heap.size (((Below.refl _ _).alloc (Nat.le_refl _) _).alloc (by simp) _).drew ((Below.heap_alloc (w2.alloc oA) oB w2.heap.size (by simp)).trans (by rw [HOA.out]; exact heap_alloc_new w2 _))
            have HA3 : Hid (Calls Tryd.prog 31 #[.slice (some ⟨w2.heap.size + 1, 0, none⟩) 1 1] ((w2.alloc oB).alloc oA).drew (RetZ (ta.sp 0) k ((w2.alloc oB).alloc oA).drew)) :=
              HA.out _ (w2.heap.size + 1) (((Below.refl _ _).alloc (Nat.le_refl _) _).alloc (by simp) _).drew (by have := heap_alloc_new (w2.alloc oB) oA; rw [HOA.out] at this ⊢; simpa [World.drew] using this)
            have HBX : Hid (∀ (w3 : World) (b2 : Nat), Below w2.heap.size w2 w3 → w3.heap[b2]? = some oB → Calls Tryd.prog 31 #[.slice (some ⟨b2, 0, none⟩) 1 1] w3 (RetZ (tb.sp 0) ((n - k : Nat)) w3)) := fun w3 b2 hb3 hk3 => by
              have hx := HBC.out w3 b2 (some (ad.add (k * 2))) ((c - k : Nat)) hb3
              rw [show (n - k : Nat) = ((n - k : Nat)) by omega] at hx
              exact hx (by rw [hk3, HOB.out]) (fun h => absurd h hge) (by omega)
            have HB1 : Hid (∀ w3 : World, Below w2.heap.size w2 w3 → Calls Tryd.prog 31 #[.slice (some ⟨w3.heap.size, 0, none⟩) 1 1] (w3.alloc oB) (RetZ (tb.sp 0) ((n - k : Nat)) (w3.alloc oB))) := fun w3 hb3 =>
              HBX.out _ w3.heap.size (hb3.alloc hb3.size _) (heap_alloc_new w3 _)
            clear HA HBC
            go_wp2
            go_region_with (first
              | (go_at_call 31
                 rw [← HOA.out]
                 with_reducible refine HA1.out.mono ?_
                 rintro e w3 ⟨A3, c3, rfl, hps3, hb3⟩
                 have HPS3 := Lib.hid hps3
                 have HB3 : Hid (Below w2.heap.size w2 w3) := ((Below.refl _ _).alloc (Nat.le_refl _) _).drew.trans (hb3.mono (by simp [World.drew]))
                 clear hps3 hb3)
              | (go_at_call 31
                 rw [← HOB.out]
                 with_reducible refine (HB1.out w3 HB3.out).mono ?_
                 rintro e w4 ⟨A4, c4, rfl, hps4, hb4⟩
                 have HPS4 := Lib.hid hps4
                 have HPS34 : Hid (PS w4 A3 k c3 (ta.sp 0)) := HPS3.out.below (((Below.refl _ _).alloc (Nat.le_refl _) _).trans (hb4.mono (by simp)))
                 have HB4 : Hid (Below w2.heap.size w2 w4) := (HB3.out.alloc HB3.out.size _).trans (hb4.mono (HB3.out.alloc HB3.out.size _).size)
                 clear hps4 hb4)
              | (go_at_call 31
                 rw [← HOA.out, ← HOB.out]
                 with_reducible refine HA2.out.mono ?_
                 rintro e w3 ⟨A3, c3, rfl, hps3, hb3⟩
                 have HPS3 := Lib.hid hps3
                 have HB3 : Hid (Below w2.heap.size w2 w3) := (((Below.refl _ _).alloc (Nat.le_refl _) _).alloc (by simp) _).drew.trans (hb3.mono (((Below.refl _ _).alloc (Nat.le_refl _) _).alloc (by simp) _).drew.size)
                 have HK3 : Hid (w3.heap[w2.heap.size + 1]? = some oB) := (hb3.block _ (zbig2 _ _ _ _ (by omega))).trans HKB2.out
                 clear hps3 hb3)
              | (go_at_call 31
                 rw [← HOA.out, ← HOB.out]
                 with_reducible refine HA3.out.mono ?_
                 rintro e w3 ⟨A3, c3, rfl, hps3, hb3⟩
                 have HPS3 := Lib.hid hps3
                 have HB3 : Hid (Below w2.heap.size w2 w3) := (((Below.refl _ _).alloc (Nat.le_refl _) _).alloc (by simp) _).drew.trans (hb3.mono (((Below.refl _ _).alloc (Nat.le_refl _) _).alloc (by simp) _).drew.size)
                 have HK3 : Hid (w3.heap[w2.heap.size]? = some oB) := (hb3.block _ (zbig2 _ _ _ _ (by omega))).trans HKB3.out
                 clear hps3 hb3)
              | (go_at_call 31
                 with_reducible refine (HBX.out w3 _ HB3.out HK3.out).mono ?_
                 rintro e w4 ⟨A4, c4, rfl, hps4, hb4⟩
                 have HPS4 := Lib.hid hps4
                 have HPS34 : Hid (PS w4 A3 k c3 (ta.sp 0)) := HPS3.out.below hb4
                 have HB4 : Hid (Below w2.heap.size w2 w4) := below_next HB3.out hb4
                 clear hps4 hb4))
            all_goals go_wp2
            all_goals go_ret3
            all_goals
              refine ⟨k, ta, tb, A3, c3, A4, c4, ?_, hk, HLOW.out, HHI.out, HTA.out, HTB.out, HPS34.out, ?_, below_next HB2.out HB4.out⟩
              · first
                  | rfl
                  | (rw [show (n - k : Nat) = ((n - k : Nat)) by omega]; rfl)
              · rw [show (n - k : Nat) = ((n - k : Nat)) by omega]
                exact HPS4.out
end Go.Proofs.YtjnkfpagaajfeaaDoor
