/-
  Joined texts: YtolgncaaffmmnaaDoorGRefK, YtolgncaaffmmnaaDoorOEvenL.
-/
import Derived.Test.YtolgncaaffmmnaaDoorGSortAll
import Derived.Test.YtolgncaaffmmnaaDoorLeaf
import Derived.Test.YtolgncaaffmmnaaDoorSPure
import Derived.Test.YtolgncaaffmmnaaDoorSLeaf
import Derived.Test.YtolgncaaffmmnaaDoorOLivesAll
import Derived.Test.YtolgncaaffmmnaaDoorOKeysAll
/-
  package hedgref on keys: UnlikeKeys, SortedKeys, HeldOften, SameInts, SameSpots.
-/
namespace Go.Proofs.YtolgncaaffmmnaaDoor
open Go.RowKit

set_option maxHeartbeats 1000000 in
theorem sameInts_t (A A' : Option Addr) (n c c' : Nat) (l : List Int) (w : World) (h : IS w A n c l) (h' : IS w A' n c' l) (hn : n ≤ 1000) :
    Calls Tryd.prog 23 #[.slice A n c, .slice A' n c'] w fun e w' => e = .returned (.bool true) ∧ Below w.heap.size w w' := by
  have H := Lib.hid h
  have H' := Lib.hid h'
  have HL := Lib.hid h.len
  clear h h'
  go_enter Tryd.func23, Tryd.ntmps23
  go_wp2
  go_loopg [13] n (fun m i wr => ∃ k : Nat, k ≤ n ∧ n - k ≤ m ∧ i = .int .i64 k ∧ Below w.heap.size w wr)
  case atStart => exact ⟨0, Nat.zero_le _, by omega, rfl, Below.refl _ _⟩
  case round =>
    obtain ⟨k, hk, hkm, rfl, hnx⟩ := hrel
    have HNX := Lib.hid hnx
    clear hnx
    by_cases hlt : k < n
    · obtain ⟨b, off, rfl, hb, hc⟩ := H.out.at_ (by omega)
      obtain ⟨b', off', rfl, hb', hc'⟩ := H'.out.at_ (by omega)
      have hkl : k < l.length := by rw [HL.out]; exact hlt
      have h0 : wr.cell? ⟨b, off + k, none⟩ = some (I l[k]) := (HNX.out.cell (by exact hb)).trans (hc k hlt)
      have h1 : wr.cell? ⟨b', off' + k, none⟩ = some (I l[k]) := (HNX.out.cell (by exact hb')).trans (hc' k hlt)
      clear hc hc'
      generalize l[k] = x at *
      go_wp2
      go_quiet (fail)
      go_wp2
      go_roundg (gk - 1)
      case measure => omega
      case rel => exact ⟨k + 1, by omega, by omega, by go_num, below_drewN HNX.out _⟩
    · go_wp2
      go_ret
      exact ⟨rfl, HNX.out⟩

set_option maxHeartbeats 1000000 in
theorem sameSpots_t (A A' : Option Addr) (n c c' : Nat) (l : PL) (w : World) (h : PS w A n c l) (h' : PS w A' n c' l) (hn : n ≤ 1000) :
    Calls Tryd.prog 12 #[.slice A n c, .slice A' n c'] w fun e w' => e = .returned (.bool true) ∧ Below w.heap.size w w' := by
  have H := Lib.hid h
  have H' := Lib.hid h'
  clear h h'
  go_enter Tryd.func12, Tryd.ntmps12
  go_wp2
  go_loopg [13] n (fun m i wr => ∃ k : Nat, k ≤ n ∧ n - k ≤ m ∧ i = .int .i64 k ∧ Below w.heap.size w wr)
  case atStart => exact ⟨0, Nat.zero_le _, by omega, rfl, Below.refl _ _⟩
  case round =>
    obtain ⟨k, hk, hkm, rfl, hnx⟩ := hrel
    have HNX := Lib.hid hnx
    clear hnx
    by_cases hlt : k < n
    · obtain ⟨b, off, rfl, hb, hc⟩ := H.out.dat (by omega)
      obtain ⟨b', off', rfl, hb', hc'⟩ := H'.out.dat (by omega)
      have h0 : wr.cell? ⟨b, off + k * 2, none⟩ = some (I (ky l k)) := (HNX.out.cell (by exact hb)).trans (hc k hlt).1
      have h1 : wr.cell? ⟨b, off + k * 2 + 1, none⟩ = some (I (dp l k)) := (HNX.out.cell (by exact hb)).trans (hc k hlt).2
      have h2 : wr.cell? ⟨b', off' + k * 2, none⟩ = some (I (ky l k)) := (HNX.out.cell (by exact hb')).trans (hc' k hlt).1
      have h3 : wr.cell? ⟨b', off' + k * 2 + 1, none⟩ = some (I (dp l k)) := (HNX.out.cell (by exact hb')).trans (hc' k hlt).2
      clear hc hc'
      generalize ky l k = x at *
      generalize dp l k = y at *
      go_wp2
      go_quiet (fail)
      go_wp2
      go_roundg (gk - 1)
      case measure => omega
      case rel => exact ⟨k + 1, by omega, by omega, by go_num, below_drewN HNX.out _⟩
    · go_wp2
      go_ret
      exact ⟨rfl, HNX.out⟩

/-- does one stand twice? -/
def tw (l : List Int) : Bool := !decide l.Nodup
theorem tw_snoc (l : List Int) (x : Int) : tw (l ++ [x]) = (tw l || decide (x ∈ l)) := by
  unfold tw
  by_cases h : l.Nodup
  · by_cases hx : x ∈ l
    · have : ¬ (l ++ [x]).Nodup := fun hn => by rw [List.nodup_append] at hn; exact hn.2.2 x hx x (by simp) rfl
      simp [h, hx, this]
    · simp [h, hx, nodup_snoc h hx]
  · have : ¬ (l ++ [x]).Nodup := fun hn => h (List.nodup_append.1 hn).1
    simp [h, this]
theorem mem_snoc (l : List Int) (x y : Int) : decide (x ∈ l ++ [y]) = (decide (x ∈ l) || (y == x)) := by
  by_cases h : x ∈ l
  · simp [h]
  · by_cases h2 : y = x
    · simp [h2]
    · have : ¬ x = y := fun e => h2 e.symm
      simp [h, h2, this]

/-- the next one of all -/
def nxS (last next k : Int) : Int := if last < k ∧ (next < 0 ∨ k < next) then k else next
def nx (last : Int) (l : List Int) : Int := l.foldl (nxS last) (-1)
theorem nx_snoc (last : Int) (l : List Int) (x : Int) : nx last (l ++ [x]) = nxS last (nx last l) x := by simp [nx]
theorem nx_spec (last : Int) (l : List Int) (hl : ∀ x ∈ l, 0 ≤ x) : ∀ k, k ≤ l.length →
    (nx last (l.take k) = -1 ∧ ∀ x ∈ l.take k, ¬ last < x) ∨ (nx last (l.take k) ∈ l.take k ∧ last < nx last (l.take k) ∧ ∀ x ∈ l.take k, last < x → nx last (l.take k) ≤ x)
  | 0, _ => .inl ⟨by simp [nx], by simp⟩
  | k + 1, hk => by
    have hkl : k < l.length := by omega
    have h0 := hl l[k] (List.getElem_mem hkl)
    have hsub : ∀ x ∈ l.take k, 0 ≤ x := fun x hx => hl x (List.mem_of_mem_take hx)
    rw [take_snoc hkl, nx_snoc]
    unfold nxS
    rcases nx_spec last l hl k (by omega) with ⟨e, hno⟩ | ⟨hm, hlt, hle⟩
    · rw [e]
      by_cases hx : last < l[k]
      · rw [if_pos ⟨hx, .inl (by omega)⟩]
        refine .inr ⟨List.mem_append.2 (.inr (List.mem_singleton.2 rfl)), hx, fun y hy hly => ?_⟩
        rcases List.mem_append.1 hy with h | h
        · exact absurd hly (hno y h)
        · simp only [List.mem_singleton] at h
          omega
      · rw [if_neg (fun h => hx h.1)]
        refine .inl ⟨rfl, fun y hy => ?_⟩
        rcases List.mem_append.1 hy with h | h
        · exact hno y h
        · simp only [List.mem_singleton] at h
          rw [h]; exact hx
    · have hpos := hsub _ hm
      by_cases hx : last < l[k] ∧ l[k] < nx last (l.take k)
      · rw [if_pos ⟨hx.1, .inr hx.2⟩]
        refine .inr ⟨List.mem_append.2 (.inr (List.mem_singleton.2 rfl)), hx.1, fun y hy hly => ?_⟩
        rcases List.mem_append.1 hy with h | h
        · have := hle y h hly
          omega
        · simp only [List.mem_singleton] at h
          omega
      · rw [if_neg (fun h => hx ⟨h.1, by rcases h.2 with h2 | h2 <;> omega⟩)]
        refine .inr ⟨List.mem_append.2 (.inl hm), hlt, fun y hy hly => ?_⟩
        rcases List.mem_append.1 hy with h | h
        · exact hle y h hly
        · simp only [List.mem_singleton] at h
          subst h
          rcases Int.lt_or_le l[k] (nx last (l.take k)) with h3 | h3
          · exact absurd ⟨hly, h3⟩ hx
          · exact h3
def prevOf (s : List Int) (j : Nat) : Int := if j = 0 then -1 else s[j - 1]?.getD 0
theorem nx_next {l s : List Int} (hl : ∀ x ∈ l, 0 ≤ x) (hu : Up s) (hm : ∀ x, x ∈ s ↔ x ∈ l) (j : Nat) (hj : j < s.length) : nx (prevOf s j) l = s[j] := by
  have hin : s[j] ∈ l := (hm _).1 (List.getElem_mem hj)
  have hp := List.pairwise_iff_getElem.1 hu
  have hlt : prevOf s j < s[j] := by
    unfold prevOf
    split
    · have := hl _ hin
      omega
    · rw [List.getElem?_eq_getElem (by omega)]
      exact hp (j - 1) j (by omega) hj (by omega)
  have hs := nx_spec (prevOf s j) l hl l.length (Nat.le_refl _)
  rw [List.take_length] at hs
  rcases hs with ⟨_, hno⟩ | ⟨h1, h2, h3⟩
  · exact absurd hlt (hno _ hin)
  · have hle := h3 _ hin hlt
    obtain ⟨i, hi, ei⟩ := List.getElem_of_mem ((hm _).2 h1)
    rw [← ei] at h2 hle ⊢
    rcases Nat.lt_trichotomy i j with h | h | h
    · exfalso
      unfold prevOf at h2
      rw [if_neg (by omega), List.getElem?_eq_getElem (by omega)] at h2
      simp only [Option.getD_some] at h2
      rcases Nat.lt_or_ge i (j - 1) with h4 | h4
      · have := hp i (j - 1) hi (by omega) h4
        omega
      · have : i = j - 1 := by omega
        subst this
        omega
    · subst h
      rfl
    · have := hp j i hj hi h
      omega

end Go.Proofs.YtolgncaaffmmnaaDoor

/-
  GoatEven: an even tree is as low as it can be.
-/
namespace Go.Proofs.YtolgncaaffmmnaaDoor
open Go.RowKit

/-- how low it can be: as many levels as are counted -/
theorem ev_levels {l : List Int} {n : Nat} (hl : l.length = n) (hn : n ≤ 200) : (ev l).tall ≤ 8 ∧ (∀ k, k < (ev l).tall → 2 ^ k < n + 1) ∧ n + 1 ≤ 2 ^ (ev l).tall := by
  obtain ⟨h1, h2⟩ := ev_low l
  rw [hl] at h1 h2
  refine ⟨?_, fun k hk => ?_, h1⟩
  · exact ev_tall 8 l (by rw [hl]; have : (2 : Nat) ^ 8 = 256 := by decide
                          omega)
  · have h0 : 0 < n := by
      rcases Nat.eq_zero_or_pos n with h | h
      · have : l = [] := List.eq_nil_of_length_eq_zero (by omega)
        subst this
        simp [ev_nil, Tr.tall] at hk
      · exact h
    have h3 := h2 h0
    have h4 : 2 ^ k ≤ 2 ^ ((ev l).tall - 1) := Nat.pow_le_pow_right (by decide) (by omega)
    omega

set_option maxRecDepth 100000 in
set_option maxHeartbeats 4000000 in
theorem OEvenL_bad (A : Option Addr) (n c : Nat) (l : List Int) (w : World) (h : IS w A n c l) (hn : n ≤ 9223372036854775807) (E : Int) (hE : chkK l = E) (hE0 : E ≠ 0) (hT : Tb w) :
    Calls Tryd.prog 6 #[.slice A n c] w fun e w' => e = .returned (.bool true) ∧ Below w.heap.size w w' := by
  have HR := Lib.hid (Even_bad A n c l w h hn E hE hE0)
  have hne := oerr_ne hE0
  have HT := Lib.hid hT
  clear hT h hE hE0
  go_enter Tryd.func6, Tryd.ntmps6
  go_wp2_with fail
  refine HR.out.mono ?_
  rintro e w1 ⟨rfl, hb1⟩
  have HB1 := Lib.hid hb1
  have HT1 := Lib.hid (HT.out.next hb1)
  clear hb1 HR
  go_wp2_with fail
  refine (goatLives_any w1 HT1.out).mono ?_
  rintro e w2 ⟨rfl, hb2⟩
  have HB2 := Lib.hid (below_next HB1.out hb2)
  have HT2 := Lib.hid (HT1.out.next hb2)
  clear hb2
  go_wp2_with fail
  refine (goatLives_any w2 HT2.out).mono ?_
  rintro e w3 ⟨rfl, hb3⟩
  have HB3 := Lib.hid (below_next HB2.out hb3)
  clear hb3
  go_wp2
  go_ret
  exact ⟨rfl, HB3.out⟩

set_option maxRecDepth 100000 in
set_option maxHeartbeats 4000000 in
theorem OEvenL_ok (A : Option Addr) (n c : Nat) (l : List Int) (w : World) (h : IS w A n c l) (hR : Rise l) (hT : Tb w) :
    Calls Tryd.prog 6 #[.slice A n c] w fun e w' => e = .returned (.bool true) ∧ Below w.heap.size w w' := by
  have hn : n ≤ 200 := by rw [← h.len]; exact hR.len
  have HE := Lib.hid (Even_ok A n c l w h hR hT)
  have hup : Up (ev l).ks := by rw [ev_ks _ l (Nat.le_refl _)]; exact hR.pw
  have hsz : (ev l).size = n := by rw [ev_size, h.len]
  have HIT := Lib.hid (istree_of hup (by omega))
  have HK : Hid (kys ((ev l).sp 0) = l) := by show _ = _; rw [okys_sp, ev_ks _ l (Nat.le_refl _)]
  obtain ⟨t1, t2, t3⟩ := ev_levels h.len hn
  have HLV := Lib.hid t2
  have H := Lib.hid h
  have HL := Lib.hid h.len
  have HT := Lib.hid hT
  obtain ⟨tl, htl⟩ : ∃ tl, (ev l).tall = tl := ⟨_, rfl⟩
  rw [htl] at t1 t3 HLV
  have HSUM := Lib.hid (fun A1 c1 w' (hp : PS w' A1 n c1 ((ev l).sp 0)) => Sum2_ok A1 n c1 (ev l) w' hp HIT.out)
  rw [htl] at HSUM
  obtain ⟨S, hS⟩ : ∃ S, dsum ((ev l).sp 0) = S := ⟨_, rfl⟩
  rw [hS] at HSUM
  have HT3 := Lib.hid t3
  clear h hT hR hup hsz t2 htl hS t3
  go_enter Tryd.func6, Tryd.ntmps6
  go_wp2_with fail
  refine HE.out.mono ?_
  rintro e w1 ⟨A1, c1, rfl, hps, hb1⟩
  have HP1 := Lib.hid hps
  have HB1 := Lib.hid hb1
  have HT1 := Lib.hid (HT.out.next hb1)
  have H1 := Lib.hid (H.out.below hb1)
  clear hps hb1 HE H
  go_wp2_with fail
  refine (goatLives_any w1 HT1.out).mono ?_
  rintro e w2 ⟨rfl, hb2⟩
  have HB2 := Lib.hid (below_next HB1.out hb2)
  have HP2 := Lib.hid (HP1.out.below hb2)
  have H2 := Lib.hid (H1.out.below hb2)
  clear hb2 HP1 H1
  go_wp2_with fail
  refine (HSUM.out A1 c1 w2 HP2.out).mono ?_
  rintro e w3 ⟨rfl, hb3⟩
  have HB3 := Lib.hid (below_next HB2.out hb3)
  have HP3 := Lib.hid (HP2.out.below hb3)
  have H3 := Lib.hid (H2.out.below hb3)
  clear hb3 HP2 H2 HSUM
  go_wp2
  go_loopg [8] tl (fun m x wr => wr = w3 ∧ ∃ k : Nat, k ≤ tl ∧ tl - k ≤ m ∧ x = .int .i64 ((k : Int) - 1))
  case atStart => exact ⟨rfl, 0, Nat.zero_le _, by omega, rfl⟩
  case round =>
    obtain ⟨rfl, k, hk, hkm, rfl⟩ := hrel
    have hk8 : k ≤ 8 := by omega
    have hcases : k = 0 ∨ k = 1 ∨ k = 2 ∨ k = 3 ∨ k = 4 ∨ k = 5 ∨ k = 6 ∨ k = 7 ∨ k = 8 := by omega
    by_cases hlt : k < tl
    · have hp := HLV.out k hlt
      clear HT3 HLV
      rcases hcases with rfl | rfl | rfl | rfl | rfl | rfl | rfl | rfl | rfl
      all_goals simp only [Nat.reducePow] at hp
      all_goals go_wp2
      all_goals go_roundg (gk - 1)
      all_goals first
        | omega
        | exact ⟨rfl, _, hlt, by omega, by go_num⟩
    · obtain rfl : k = tl := by omega
      have hp := HT3.out
      have HSK := Lib.hid (SpotKeys_any A1 n c1 _ wr HP3.out (by omega))
      rw [HK.out] at HSK
      clear HT3 HLV
      rcases hcases with rfl | rfl | rfl | rfl | rfl | rfl | rfl | rfl | rfl
      all_goals simp only [Nat.reducePow] at hp
      all_goals go_wp2_with fail
      all_goals
        refine HSK.out.mono ?_
        rintro e w5 ⟨A5, c5, rfl, hi5, hb5⟩
        rw [HL.out] at hi5 ⊢
        have HB5 := Lib.hid (below_next HB3.out hb5)
        have HSI := Lib.hid (sameInts_t A5 A n c5 c l w5 hi5 (H3.out.below hb5) (by omega))
        clear hi5 hb5 HSK
        go_wp2_with fail
        refine HSI.out.mono ?_
        rintro e w6 ⟨rfl, hb6⟩
        have HB6 := Lib.hid (below_next HB5.out hb6)
        clear hb6
        go_wp2
        go_ret
        exact ⟨rfl, HB6.out⟩
theorem OEvenL_any (A : Option Addr) (n c : Nat) (l : List Int) (w : World) (h : IS w A n c l) (hn : n ≤ 9223372036854775807) (hT : Tb w) :
    Calls Tryd.prog 6 #[.slice A n c] w fun e w' => e = .returned (.bool true) ∧ Below w.heap.size w w' := by
  by_cases hc : chkK l = 0
  · exact OEvenL_ok A n c l w h (chkK_zero.1 hc) hT
  · exact OEvenL_bad A n c l w h hn _ rfl hc hT

end Go.Proofs.YtolgncaaffmmnaaDoor
