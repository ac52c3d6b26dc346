/-
  The walk of the law BestLeast.
-/
import Derived.Test.YtconegligedniaaBNum
import Derived.Test.YtconegligedniaaSSort
namespace Go.Proofs.Ytconegligedniaa
open Go.RowKit

theorem trees_rng : ∀ (f a b d : Nat), a ≤ b → b - a ≤ f → ∀ L ∈ trees f a b d, ∃ t : Tr, L = t.sp d ∧ Rng t a b := by
  intro f
  induction f with
  | zero =>
    intro a b d h1 h2 L hL
    have e : a = b := by omega
    subst e
    simp [trees] at hL
    subst hL
    exact ⟨.nil, rfl, rfl⟩
  | succ f ih =>
    intro a b d h1 h2 L hL
    by_cases hab : a = b
    · subst hab
      simp [trees] at hL
      subst hL
      exact ⟨.nil, rfl, rfl⟩
    · rw [trees_eq f a b d hab] at hL
      unfold treesTo at hL
      obtain ⟨k, hk, hL⟩ := List.mem_flatMap.1 hL
      have hkb : a ≤ k ∧ k < b := by
        rw [List.mem_range'_1] at hk
        omega
      obtain ⟨La, ha, hL⟩ := List.mem_flatMap.1 hL
      obtain ⟨Lb, hb, rfl⟩ := List.mem_map.1 hL
      obtain ⟨ta, rfl, ra⟩ := ih a k (d + 1) hkb.1 (by omega) La ha
      obtain ⟨tb, rfl, rb⟩ := ih (k + 1) b (d + 1) (by omega) (by omega) Lb hb
      refine ⟨.node ta k tb, ?_, by omega, ?_, ?_⟩
      · rw [Tr.sp]
        rfl
      · rw [Int.toNat_natCast]; exact ra
      · rw [Int.toNat_natCast]; exact rb

set_option maxRecDepth 100000 in
set_option maxHeartbeats 2000000 in
theorem bleast_bad (A A' : Option Addr) (n c n' c' : Nat) (w : World) (hits gaps : List Int) (h : IS w A n c hits) (hn : n ≤ 9223372036854775807) (h' : IS w A' n' c' gaps) (hn' : n' ≤ 9223372036854775807) (hbad : chkB hits gaps ≠ 0) :
    Calls Try.prog 4 #[.slice A n c, .slice A' n' c'] w (YesB w) := by
  obtain ⟨E, hE⟩ : ∃ E, chkB hits gaps = E := ⟨_, rfl⟩
  rw [hE] at hbad
  have HR := Lib.hid (TreeB_bad A A' n c n' c' hits gaps w h h' hn hn' E hE hbad)
  have hb1 : (E != 0) = true := by simpa using hbad
  clear h h' hE hbad
  go_enter Try.func4, Try.ntmps4
  go_wp2_with fail
  refine HR.out.mono ?_
  rintro e w1 ⟨rfl, rfl⟩
  go_wp2_with fail
  refine (bestLives_any w).mono ?_
  rintro e w3 ⟨rfl, hb3⟩
  have HB3 := Lib.hid hb3
  clear hb3
  go_wp2_with fail
  refine (bestLives_any w3).mono ?_
  rintro e w4 ⟨rfl, hb4⟩
  have HB4 := Lib.hid (below_next HB3.out hb4)
  clear hb4
  go_wp2
  go_ret
  exact ⟨rfl, HB4.out⟩

set_option maxRecDepth 100000 in
set_option maxHeartbeats 4000000 in
theorem bleast_ok (A A' : Option Addr) (n c c' : Nat) (w : World) (hits gaps : List Int) (h : IS w A n c hits) (h' : IS w A' (n + 1) c' gaps) (hI : InB hits gaps n) :
    Calls Try.prog 4 #[.slice A n c, .slice A' (n + 1) c'] w (YesB w) := by
  have hn := hI.n20
  have HT := Lib.hid (TreeB_ok A A' n c c' hits gaps w h h' hI)
  have H := Lib.hid h
  have H' := Lib.hid h'
  have HC : Hid (∀ (W : World) (A1 : Option Addr) (c1 : Nat) (t : Tr), PS W A1 n c1 (t.sp 0) → IS W A n c hits → IS W A' (n + 1) c' gaps → Rng t 0 n → Calls Try.prog 8 #[.slice A1 n c1, .slice A n c, .slice A' (n + 1) c'] W (RetC (t.ask hits gaps 0 0) 0 W)) := fun W A1 c1 t h1 h2 h3 h4 =>
    Cost_ok A1 A A' c1 n c c' t hits gaps W h1 h2 h3 hI h4
  have hR := bt_rng (wij hits gaps) 20 0 n (by omega) (by omega)
  have hask := bt_ask hits gaps 20 0 n (by omega) (by omega)
  have HO := lc_opt (hits := hits) (gaps := gaps) n (fun x hx => (hI.hh x hx).1) (fun x hx => (hI.hg x hx).1)
  have HMIN : Hid (∀ t : Tr, Rng t 0 n → lc (wij hits gaps) 0 n ≤ t.ask hits gaps 0 0) := fun t ht => ask_least HO ht (Nat.le_refl _)
  obtain ⟨x, hx⟩ : ∃ x, lc (wij hits gaps) 0 n = x := ⟨_, rfl⟩
  obtain ⟨bt0, hbt0⟩ : ∃ bt0, bt (wij hits gaps) 20 0 n = bt0 := ⟨_, rfl⟩
  rw [hx, hbt0] at HT
  rw [hx] at HMIN hask
  rw [hbt0] at hask hR
  have HR := Lib.hid hR
  have HASK := Lib.hid hask
  clear h h' hI hR hask HO hx hbt0
  have h00 : ((0 : Int) != 0) = false := rfl
  have hxx : (x != x) = false := by simp
  go_enter Try.func4, Try.ntmps4
  go_wp2_with fail
  refine HT.out.mono ?_
  rintro e w1 ⟨A1, c1, rfl, hps, hb1⟩
  have HB1 := Lib.hid hb1
  have HP1 := Lib.hid hps
  clear hb1 hps
  go_wp2_with fail
  refine (bestLives_any w1).mono ?_
  rintro e w2 ⟨rfl, hb2⟩
  have HB2 := Lib.hid (below_next HB1.out hb2)
  have HP2 := Lib.hid (HP1.out.below hb2)
  clear hb2 HP1
  have HC1 := HC.out w2 A1 c1 bt0 HP2.out (H.out.below HB2.out) (H'.out.below HB2.out) HR.out
  rw [HASK.out] at HC1
  have HC1 := Lib.hid HC1
  go_wp2_with fail
  refine HC1.out.mono ?_
  rintro e w3 ⟨rfl, hb3⟩
  have HB3 := Lib.hid (below_next HB2.out hb3)
  clear hb3
  by_cases h6 : 6 < n
  · go_wp2
    go_ret
    exact ⟨rfl, HB3.out⟩
  · go_wp2_with fail
    refine (All_ok n w3 (by omega)).mono ?_
    rintro e w4 ⟨A4, m, c4, es, rfl, hrs, hp, hb4⟩
    have hcat := trees_cat n (by omega)
    have hm : m = cat n := by rw [← hrs.len, ← hcat, ← hp.length_eq, List.length_map]
    have hm429 : m ≤ 429 := by
      rw [hm]
      have : ∀ n, n < 8 → cat n ≤ 429 := by decide
      exact this n (by omega)
    have HEACH : Hid (∀ i (hi : i < es.length), ∃ t : Tr, es[i].L = t.sp 0 ∧ Rng t 0 n ∧ es[i].n = n) := fun i hi => by
      have hmem : es[i].L ∈ trees 8 0 n 0 := hp.mem_iff.1 (List.mem_map_of_mem (List.getElem_mem hi))
      obtain ⟨t, e1, r⟩ := trees_rng 8 0 n 0 (Nat.zero_le _) (by omega) _ hmem
      refine ⟨t, e1, r, ?_⟩
      have h1 := (hrs.each _ (List.getElem_mem hi)).len
      rw [e1, sp_length] at h1
      have := rng_size r
      omega
    have HRS := Lib.hid hrs
    have HB4 := Lib.hid (below_next HB3.out hb4)
    have HLEN := Lib.hid hrs.len
    clear hrs hp hb4 hcat hm
    go_wp2
    go_loopw [60] (fun iv wr => ∃ i : Nat, i ≤ m ∧ iv = .int .i64 i ∧ Below w4.heap.size w4 wr) (fun iv _ => m - (intOf iv).toNat)
    case atStart => exact ⟨0, Nat.zero_le _, rfl, Below.refl _ _⟩
    case round =>
      obtain ⟨i, hi, rfl, hnx⟩ := hrel
      by_cases hlt : i < m
      · obtain ⟨b, off, rfl, hbl, hcs⟩ := (HRS.out.below hnx).at_ (by omega)
        have hil : i < es.length := by rw [HLEN.out]; exact hlt
        have hci : wr.cell? ⟨b, off + i, none⟩ = some es[i].val := hcs i hlt
        obtain ⟨t, ht, hr, hsn⟩ := HEACH.out i hil
        have hok : PS wr es[i].A es[i].n es[i].c es[i].L := (HRS.out.below hnx).each _ (List.getElem_mem hil)
        rw [ht, hsn] at hok
        have hval : es[i].val = .slice es[i].A n es[i].c := by show Value.slice _ _ _ = _; rw [hsn]
        rw [hval] at hci
        have hbw := below_next HB4.out hnx
        have HC2 := Lib.hid (HC.out wr _ _ t hok (H.out.below hbw) (H'.out.below hbw) hr)
        have hmin := HMIN.out t hr
        have HBW := Lib.hid hnx
        generalize es[i].A = Ae at *
        generalize es[i].c = ce at *
        generalize t.ask hits gaps 0 0 = y at *
        have hny : ¬ (y < x) := by omega
        clear hcs hok hval ht hr hsn hnx hbw
        go_wp2_with fail
        refine HC2.out.mono ?_
        rintro e w5 ⟨rfl, hb5⟩
        have HB5 := Lib.hid (below_next HBW.out hb5)
        clear hb5
        go_wp2
        go_roundw
        case rel => exact ⟨i + 1, by omega, by go_num, HB5.out⟩
        case measure => simp [intOf]; omega
      · have HBE := Lib.hid (below_next HB4.out hnx)
        clear hnx
        go_wp2
        go_ret
        exact ⟨rfl, HBE.out⟩

theorem bleastA_any (A : Option Addr) (n c : Nat) (hits : List Int) (A' : Option Addr) (n' c' : Nat) (gaps : List Int) (w : World) (h : IS w A n c hits) (hn : n ≤ 9223372036854775807) (h' : IS w A' n' c' gaps) (hn' : n' ≤ 9223372036854775807) :
    Calls Try.prog 4 #[.slice A n c, .slice A' n' c'] w (YesB w) := by
  by_cases hc : chkB hits gaps = 0
  · have hI := chkB_ok hc
    have e1 := h.len
    have e2 := h'.len
    have e3 := hI.g
    rw [e1] at hI e3
    obtain rfl : n' = n + 1 := by omega
    exact bleast_ok A A' n c c' w hits gaps h h' hI
  · exact bleast_bad A A' n c n' c' w hits gaps h hn h' hn' hc

end Go.Proofs.Ytconegligedniaa
