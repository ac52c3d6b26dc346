/-
  slices.Contains of numbers; the law SkipPath.
-/
import Derived.Test.YtoebnfogkmkomaaDoorKNested
namespace Go.Proofs.YtoebnfogkmkomaaDoor
open Go.RowKit

set_option maxHeartbeats 1000000 in
theorem index_hit (A : Option Addr) (n c : Nat) (l : List Int) (k : Int) (w : World) (h : IS w A n c l) (hn : n ≤ 1000) (hk : k ∈ l) :
    Calls Tryd.prog 43 #[.slice A n c, I k] w fun e w' => ∃ r : Nat, e = .returned (I r) ∧ r ≤ 1000 ∧ w' = w := by
  have H := Lib.hid h
  have HL := Lib.hid h.len
  have HK := Lib.hid hk
  clear h hk
  go_enter Tryd.func43, Tryd.ntmps43
  go_wp2
  go_loop [8] (fun i => ∃ j : Nat, j ≤ n ∧ i = .int .i64 j ∧ ∀ i, i < j → l[i]? ≠ some k) (fun i => n - (intOf i).toNat)
  case atStart => exact ⟨0, Nat.zero_le _, rfl, fun i hi => absurd hi (by omega)⟩
  case round =>
    obtain ⟨j, hj, rfl, hno⟩ := hrel
    by_cases hlt : j < n
    · obtain ⟨b, off, rfl, hb, hc0⟩ := H.out.cell_at hlt
      obtain ⟨y, hy⟩ : ∃ y, l[j]'(by rw [HL.out]; exact hlt) = y := ⟨_, rfl⟩
      rw [hy] at hc0
      by_cases he : k = y
      · subst he
        clear hno hy
        go_wp2
        go_ret
        exact ⟨j, rfl, by omega, rfl⟩
      · have HN : Hid (∀ i, i < j + 1 → l[i]? ≠ some k) := fun i hi => by
          rcases Nat.lt_or_ge i j with h1 | h1
          · exact hno i h1
          · obtain rfl : i = j := by omega
            rw [List.getElem?_eq_getElem (by rw [HL.out]; exact hlt), hy]
            intro e
            exact he (Option.some.inj e).symm
        have hbe : (k == y) = false := by simpa using he
        clear hno hy
        go_wp2
        go_round
        case rel => exact ⟨j + 1, by omega, by go_num, HN.out⟩
        case measure => simp [intOf]; omega
    · exfalso
      obtain ⟨i, hi, e⟩ := List.mem_iff_getElem.1 HK.out
      exact hno i (by have := HL.out; omega) (by rw [List.getElem?_eq_getElem hi, e])
set_option maxHeartbeats 1000000 in
theorem contains_hit (A : Option Addr) (n c : Nat) (l : List Int) (k : Int) (w : World) (h : IS w A n c l) (hn : n ≤ 1000) (hk : k ∈ l) :
    Calls Tryd.prog 28 #[.slice A n c, I k] w fun e w' => e = .returned (.bool true) ∧ w' = w := by
  have HC := Lib.hid (index_hit A n c l k w h hn hk)
  clear h hk
  go_enter Tryd.func28, Tryd.ntmps28
  go_wp2_with fail
  refine HC.out.mono ?_
  rintro e w1 ⟨r, rfl, hr, rfl⟩
  go_wp2
  go_ret
  exact ⟨by simp, rfl⟩

set_option maxRecDepth 100000 in
set_option maxHeartbeats 2000000 in
theorem PathL_bad (A : Option Addr) (n c : Nat) (key : Int) (w : World) (hT : Tb w) (E : Int) (hE0 : E ≠ 0) (HC : Hid (Calls Tryd.prog 10 #[.slice A n c, I key] w fun e w' => e = .returned (.tuple #[.slice none 0 0, I E]) ∧ Below w.heap.size w w')) :
    Calls Tryd.prog 8 #[.slice A n c, I key] w fun e w' => e = .returned (.bool true) ∧ Below w.heap.size w w' := by
  have HT := Lib.hid hT
  have hne := err_ne hE0
  clear hT
  go_enter Tryd.func8, Tryd.ntmps8
  go_wp2_with fail
  refine HC.out.mono ?_
  rintro e w1 ⟨rfl, hb1⟩
  have HB1 := Lib.hid hb1
  have HL := Lib.hid (skipLives_any w1 (HT.out.next hb1))
  clear hb1
  go_wp2_with fail
  refine HL.out.mono ?_
  rintro e w2 ⟨rfl, hb2, ht2⟩
  have HB2 := Lib.hid (kon HB1.out hb2)
  have HL2 := Lib.hid (skipLives_any w2 ht2)
  clear hb2 ht2
  go_wp2_with fail
  refine HL2.out.mono ?_
  rintro e w3 ⟨rfl, hb3, ht3⟩
  have HB3 := Lib.hid (kon HB2.out hb3)
  clear hb3 ht3
  go_wp2
  go_ret
  exact ⟨rfl, HB3.out⟩

theorem PS.cell_at {w : World} {A : Option Addr} {n c : Nat} {l : PL} (h : PS w A n c l) {k : Nat} (hk : k < n) : ∃ b off, A = some ⟨b, off, none⟩ ∧ b < w.heap.size ∧ (∀ i (hi : i < n), w.cell? ⟨b, off + i * 2, none⟩ = some (I (l[i]'(by rw [h.len]; exact hi)).1) ∧ w.cell? ⟨b, off + i * 2 + 1, none⟩ = some (I (l[i]'(by rw [h.len]; exact hi)).2)) := by
  obtain ⟨b, off, e, hb, hc⟩ := h.at_ (by omega)
  exact ⟨b, off, e, hb, fun i hi => ⟨(hc i hi).1, by rw [Nat.add_assoc]; exact (hc i hi).2⟩⟩
theorem Tb.alloc {w : World} (h : Tb w) (o : Obj) : Tb (w.alloc o) := h.next ((Below.refl _ _).alloc (Nat.le_refl _) _)

set_option maxRecDepth 100000 in
set_option maxHeartbeats 4000000 in
theorem PathL_good (A : Option Addr) (n c : Nat) (l : List Int) (key : Int) (w : World) (h : IS w A n c l) (hR : Rise l) (hk : kyB key = true) (hT : Tb w) :
    Calls Tryd.prog 8 #[.slice A n c, I key] w fun e w' => e = .returned (.bool true) ∧ Below w.heap.size w w' := by
  have hn : n ≤ 200 := by rw [← h.len]; exact hR.len
  have HC := Lib.hid (Path_ok A n c l key w h hR hk hT)
  have HT := Lib.hid hT
  have H := Lib.hid h
  have HLEN := Lib.hid h.len
  obtain ⟨p, hp⟩ : ∃ p, stops l key = p := ⟨_, rfl⟩
  have HPIN := Lib.hid (stops_pin hR key)
  have hpl := stops_len hR key
  have hblw := blwK_is hR key
  obtain ⟨a, ha⟩ : ∃ a, (stTo l key 12).2 = a := ⟨_, rfl⟩
  rw [hp] at HC hpl HPIN
  rw [ha] at HPIN hblw
  have HBLW := Lib.hid hblw
  have HBD := Lib.hid hR.bd
  obtain ⟨np, hnp⟩ : ∃ np, p.length = np := ⟨_, rfl⟩
  rw [hnp] at hpl
  have HNP := Lib.hid hnp
  clear h hT hp hblw ha hk hnp
  go_enter Tryd.func8, Tryd.ntmps8
  go_wp2_with fail
  refine HC.out.mono ?_
  rintro e w1 ⟨A1, c1, rfl, hps, hb1⟩
  rw [HNP.out] at hps ⊢
  have HB1 := Lib.hid hb1
  have HPS := Lib.hid hps
  have HL := Lib.hid (skipLives_any w1 (HT.out.next hb1))
  clear hb1 hps HC
  go_wp2_with fail
  refine HL.out.mono ?_
  rintro e w2 ⟨rfl, hb2, ht2⟩
  have HB2 := Lib.hid (kon HB1.out hb2)
  have HP2 := Lib.hid (HPS.out.below hb2)
  have HT2 := Lib.hid ht2
  clear hb2 HPS HL ht2
  go_wp2
  go_loopw [32] (fun i wr => ∃ k : Nat, k ≤ np ∧ i = .int .i64 k ∧ Below w2.heap.size w2 wr) (fun i _ => np - (intOf i).toNat)
  case atStart => exact ⟨0, Nat.zero_le _, rfl, Below.refl _ _⟩
  case round =>
    obtain ⟨i, hi, rfl, hnx⟩ := hrel
    by_cases hlt : i < np
    · obtain ⟨b, off, rfl, hbl, hcs⟩ := HP2.out.cell_at hlt
      have hil : i < p.length := by rw [HNP.out]; exact hlt
      obtain ⟨⟨sr, sk⟩, hs⟩ : ∃ s, p[i] = s := ⟨_, rfl⟩
      have hea := HPIN.out.each _ (List.getElem_mem hil)
      rw [hs] at hea
      simp only at hea
      obtain ⟨hh, hhh⟩ : ∃ hh, ht sk = hh := ⟨_, rfl⟩
      have hh1 : 1 ≤ hh := by rw [← hhh]; exact ht_pos sk
      have hh2 : hh ≤ 12 := by rw [← hhh]; exact ht_le sk
      rw [hhh] at hea
      obtain ⟨rfl, hmem, hlk, -, -⟩ := hea
      have hc0 : wr.cell? ⟨b, off + i * 2, none⟩ = some (I ((hh : Int) - 1)) := by
        have := (hnx.cell (by exact hbl)).trans (hcs i hlt).1
        rw [hs] at this
        exact this
      have hc1 : wr.cell? ⟨b, off + i * 2 + 1, none⟩ = some (I sk) := by
        have := (hnx.cell (by exact hbl)).trans (hcs i hlt).2
        rw [hs] at this
        exact this
      have HTA : Hid (∀ o, Tb (wr.alloc o)) := fun o => (HT2.out.next hnx).alloc o
      have HIA : Hid (∀ o, IS (wr.alloc o) A n c l) := fun o => ((H.out.below HB2.out).below hnx).alloc o
      have HHC : Hid (∀ o m, Calls Tryd.prog 11 #[I sk] ((wr.alloc o).drewN m) fun e w' => e = .returned (I hh) ∧ w' = (wr.alloc o).drewN m) := fun o m => by rw [← hhh]; exact Height_any sk _ (HTA.out o)
      have HCC : Hid (∀ o m, Calls Tryd.prog 28 #[.slice A n c, I sk] ((wr.alloc o).drewN m) fun e w' => e = .returned (.bool true) ∧ w' = (wr.alloc o).drewN m) := fun o m => contains_hit A n c l sk _ ⟨(HIA.out o).len, (HIA.out o).rd⟩ (by omega) hmem
      have HNX := Lib.hid hnx
      have hbx : b < wr.heap.size := Nat.lt_of_lt_of_le hbl hnx.size
      by_cases h0 : 0 < i
      · have hil1 : i - 1 < p.length := by omega
        obtain ⟨⟨pr, pk⟩, hpp⟩ : ∃ s, p[i - 1] = s := ⟨_, rfl⟩
        have hpw := List.pairwise_iff_getElem.1 HPIN.out.pw (i - 1) i hil1 hil (by omega)
        rw [hs, hpp] at hpw
        simp only at hpw
        obtain ⟨hpw1, hpw2⟩ := hpw
        have hd0 : wr.cell? ⟨b, off + (i - 1) * 2, none⟩ = some (I pr) := by
          have := (hnx.cell (by exact hbl)).trans (hcs (i - 1) (by omega)).1
          rw [hpp] at this
          exact this
        have hd1 : wr.cell? ⟨b, off + (i - 1) * 2 + 1, none⟩ = some (I pk) := by
          have := (hnx.cell (by exact hbl)).trans (hcs (i - 1) (by omega)).2
          rw [hpp] at this
          exact this
        have e1 : IntKind.i64.wrap ((i : Int) - 1) = (i : Int) - 1 := IntWalk.i64_in _ (by omega)
        have e2 : ((i : Int) - 1).toNat = i - 1 := by omega
        have e3 : 0 ≤ (i : Int) - 1 := by omega
        have e4 : (i : Int) - 1 < np := by omega
        have e5 : IntKind.i64.wrap ((hh : Int) - 1) = (hh : Int) - 1 := IntWalk.i64_in _ (by omega)
        have q1 : decide (sk ≤ pk) = false := by simpa using hpw1
        have q2 : decide (pr < (hh : Int) - 1) = false := by simpa using hpw2
        have q3 : decide (key ≤ sk) = false := by simpa using hlk
        clear hcs hs hhh hmem hpp hnx
        go_wp2
        go_quiet ((first | (go_at_call 11; exact Calls.quiet_of_same (HHC.out _ _)) | (go_at_call 28; exact Calls.quiet_of_same (HCC.out _ _))))
        go_wp2
        go_roundw
        case rel => exact ⟨i + 1, by omega, by go_num, below_drewN (HNX.out.alloc HNX.out.size _) _⟩
        case measure => simp [intOf]; omega
      · obtain rfl : i = 0 := by omega
        simp only [Nat.zero_mul, Nat.add_zero] at hc0 hc1
        have e5 : IntKind.i64.wrap ((hh : Int) - 1) = (hh : Int) - 1 := IntWalk.i64_in _ (by omega)
        have q3 : decide (key ≤ sk) = false := by simpa using hlk
        clear hcs hs hhh hmem hnx
        go_wp2
        go_quiet ((first | (go_at_call 11; exact Calls.quiet_of_same (HHC.out _ _)) | (go_at_call 28; exact Calls.quiet_of_same (HCC.out _ _))))
        go_wp2
        go_roundw
        case rel => exact ⟨1, by omega, by go_num, below_drewN (HNX.out.alloc HNX.out.size _) _⟩
        case measure => simp [intOf]; omega
    · have HBE := Lib.hid (kon HB2.out hnx)
      have HIE := Lib.hid (H.out.below HBE.out)
      have HPE := Lib.hid (HP2.out.below hnx)
      clear hnx
      go_wp2
      go_loop [9, 86] (fun z j => ∃ k : Nat, k ≤ n ∧ j = .int .i64 k ∧ z = .int .i64 (blwK (l.take k) key)) (fun _ j => n - (intOf j).toNat)
      case atStart => exact ⟨0, Nat.zero_le _, rfl, rfl⟩
      case round =>
        obtain ⟨j, hj, rfl, rfl⟩ := hrel
        by_cases hjn : j < n
        · have hjl : j < l.length := by rw [HLEN.out]; exact hjn
          obtain ⟨b', off', rfl, hbl', hc0⟩ := HIE.out.cell_at hjn
          obtain ⟨y, hy⟩ : ∃ y, l[j] = y := ⟨_, rfl⟩
          rw [hy] at hc0
          have hst := blwK_succ l key j hjl
          rw [hy] at hst
          obtain ⟨z, hz⟩ : ∃ z, blwK (l.take j) key = z := ⟨_, rfl⟩
          rw [hz] at hst ⊢
          by_cases hlk : y < key
          · rw [if_pos hlk] at hst
            have HST := Lib.hid hst
            clear hst hy hz
            go_wp2
            go_round
            case rel => exact ⟨j + 1, by omega, by go_num, by rw [HST.out]⟩
            case measure => simp [intOf]; omega
          · rw [if_neg hlk] at hst
            have HST := Lib.hid hst
            clear hst hy hz
            go_wp2
            go_round
            case rel => exact ⟨j + 1, by omega, by go_num, by rw [HST.out]⟩
            case measure => simp [intOf]; omega
        · rw [List.take_of_length_le (by rw [HLEN.out]; omega), HBLW.out]
          rcases HPIN.out.last with ⟨h0, h1⟩ | ⟨q, r, h0⟩
          · obtain rfl : np = 0 := by rw [← HNP.out, h0]; rfl
            subst h1
            go_wp2
            go_ret
            exact ⟨rfl, HBE.out⟩
          · have ha := HPIN.out.each (r, a) (by rw [h0]; simp)
            have ha0 := (HBD.out a ha.2.1).1
            have hps := HPE.out
            rw [← HNP.out] at hps
            obtain ⟨hnp0, b', off', rfl, hbl', hcl⟩ := hps.last h0
            rw [HNP.out] at hnp0 hcl
            have ham : (a == -1) = false := by simp; omega
            clear h0 ha hps
            go_wp2
            go_ret
            exact ⟨by simp, HBE.out⟩

theorem PathL_any (A : Option Addr) (n c : Nat) (l : List Int) (key : Int) (w : World) (h : IS w A n c l) (hn : n ≤ 9223372036854775807) (hT : Tb w) :
    Calls Tryd.prog 8 #[.slice A n c, I key] w fun e w' => e = .returned (.bool true) ∧ Below w.heap.size w w' := by
  by_cases h0 : chkK l = 0
  · cases hk : kyB key with
    | true => exact PathL_good A n c l key w h (chkK_zero.1 h0) hk hT
    | false => exact PathL_bad A n c key w hT 1 (by decide) (Path_arg A n c l key w h (chkK_zero.1 h0) hk)
  · exact PathL_bad A n c key w hT _ h0 (Path_bad A n c l key w h hn _ rfl h0)
end Go.Proofs.YtoebnfogkmkomaaDoor
