/-
  Joined texts: YtpnjnedfcdppaaaGreatDoorKPath1, YtpnjnedfcdppaaaGreatDoorKWalk, YtpnjnedfcdppaaaGreatDoorKPathF, YtpnjnedfcdppaaaGreatDoorKRowsOf, YtpnjnedfcdppaaaGreatDoorKRows, YtpnjnedfcdppaaaGreatDoorGHeap.
-/
import Derived.Test.YtpnjnedfcdppaaaGreatDoorKPath0All
import Derived.Test.YtpnjnedfcdppaaaGreatDoorSParAll
import Derived.Test.YtpnjnedfcdppaaaGreatDoorStepsAll
/-
  skip.Path$1.
-/
namespace Go.Proofs.YtpnjnedfcdppaaaGreatDoor
open Go.RowKit

theorem stop_info : (Tryz.prog.info? 173).map (fun i => (i.zero, i.size, i.bytes)) = some (some (.agg #[I 0, I 0]), 2, 16) := by kernel_rfl
/-- the block q is a variable with a row of stops, which lies behind it -/
def Sv (w : World) (q : Nat) (p : PL) : Prop := ∃ A c, w.heap[q]? = some (.cells #[.slice A p.length c] 170 (0, 0)) ∧ w.ownsRow (q + 1) 173 2 (.slice A p.length c) p.length (flat p)

theorem two_new (w : World) (r k : Int) (t : Nat) : ∀ j u, [I r, I k][j]? = some u → (w.alloc (.cells #[I r, I k] t)).cell? ((⟨w.heap.size, 0, none⟩ : Addr).add j) = some u := by
  intro j u hu
  rw [addn, Nat.zero_add]
  have := heap_alloc_new w (.cells #[I r, I k] t)
  rw [cell_of_row _ _ _ _ _ _ this]
  simpa using hu
theorem two_one (r k : Int) : ∀ u ∈ [I r, I k], u.oneCell' = true := by
  intro u hu
  simp at hu
  rcases hu with rfl | rfl <;> rfl
theorem var_after {w w' : World} {q t : Nat} {v u : Value} {base e s n : Nat} {xs : List Value} {o : Obj} (h : w.heap[q]? = some (.cells #[v] t (0, 0))) (ho : w.ownsRow base e s u n xs) (hb : q < base) (hg : (w.alloc o).grownBy w' u.ownBlock) :
    w'.heap[q]? = some (.cells #[v] t (0, 0)) := by
  have hlt : q < w.heap.size := by
    rcases Nat.lt_or_ge q w.heap.size with hlt | hge
    · exact hlt
    · rw [Array.getElem?_eq_none hge] at h; cases h
  rw [hg.block q (by simp; omega) ?_, Below.heap_alloc _ _ _ hlt]
  · exact h
  · intro e2
    have := own_ge1 ho q e2.symm
    omega

set_option maxRecDepth 100000 in
set_option maxHeartbeats 1000000 in
theorem path1_any (r k : Int) (q : Nat) (p : PL) (w : World) (h : Sv w q p) (hp : p.length ≤ 10000) :
    Calls Tryz.prog 209 #[I r, I k, .pointer (some ⟨q, 0, none⟩)] w fun e w' => e = .returned (.tuple #[]) ∧ Below q w w' ∧ Sv w' q (p ++ [(r, k)]) := by
  obtain ⟨A, c, hq, hown⟩ := h
  obtain ⟨n, hn⟩ : ∃ n, p.length = n := ⟨_, rfl⟩
  rw [hn] at hq hown hp
  have HN := Lib.hid hn
  clear hn
  have hlt : q < w.heap.size := by
    rcases Nat.lt_or_ge q w.heap.size with hlt | hge
    · exact hlt
    · rw [Array.getElem?_eq_none hge] at hq; cases hq
  have hcell : w.cell? ⟨q, 0, none⟩ = some (.slice A n c) := by simp [World.cell?, hq]
  have HQ := Lib.hid hq
  have HOWN := Lib.hid hown
  obtain ⟨i0, hi, hz0, hz1, hz2⟩ := info_parts stop_info
  have HI := Lib.hid hi
  have HZ0 := Lib.hid hz0
  have HZ1 := Lib.hid hz1
  have HZ2 := Lib.hid hz2
  clear hi hz0 hz1 hz2 hq hown
  go_enter Tryz.func209, Tryz.ntmps209
  go_wp2_with (first
    | (at_builtin
       refine wpList_append_lies _ rfl (.tmp 5) (.tmp 9) 170 rfl (q + 1) 173 i0 _ 2 16 Tryz.underlying170 HI.out HZ0.out HZ1.out HZ2.out rfl (by omega) (.slice A n c) n (flat p) rfl (own_below HOWN.out ((Below.refl _ _).alloc (Nat.le_refl _) _)) ⟨w.heap.size, 0, none⟩ 1 1 [I r, I k] rfl rfl (two_new w r k _) (two_one r k) (by omega) (by unfold maxLen; omega) (by omega) (by simp; omega) (w.heap.size + 1) (by simp) ?_
       intro g2 cap2 w2 hown2 hgrow2 hat2 hlt2
       have hq2 := var_after HQ.out HOWN.out (by omega) hgrow2
       have hcell2 : w2.cell? ⟨q, 0, none⟩ = some (.slice A n c) := by simp [World.cell?, hq2]
       have hfz2 : w2.frozen? ⟨q, 0, none⟩ = false := by simp [World.frozen?, hq2]
       have HQ2 := Lib.hid hq2
       clear hq2)
    | fail)
  go_end0
  refine ⟨rfl, ?_, ?_⟩
  · refine Below.setCell (Below.grown ((Below.refl _ _).alloc (by omega) _) hgrow2 (by simp; omega) ?_) (by exact Nat.le_refl _) _
    intro k' hk'
    have := own_ge1 HOWN.out k' hk'
    omega
  · refine ⟨some ⟨g2, 0, none⟩, cap2, ?_, ?_⟩
    · have := cells_set' (cs := [.slice A n c]) HQ2.out 0 (.slice (some ⟨g2, 0, none⟩) (n + 1) cap2)
      simpa [HN.out] using this
    · have := own_set hown2 (p := ⟨q, 0, none⟩) (by show q < q + 1; omega) (.slice (some ⟨g2, 0, none⟩) (n + 1) cap2)
      rw [flat_append]
      simpa [HN.out, flat] using this
end Go.Proofs.YtpnjnedfcdppaaaGreatDoor

/-
  (*tower).walk, told to skip.Path$1; skip.Path.
-/
namespace Go.Proofs.YtpnjnedfcdppaaaGreatDoor
open Go.RowKit

set_option maxRecDepth 100000 in
set_option maxHeartbeats 2000000 in
theorem walk_any (g : Nat) (ts : List T3) (l : List Int) (key : Int) (w0 w : World) (hv : Tv w0 g ts (rowL l)) (hR : Rise l) (hb : Below w0.heap.size w0 w) (hs : Sv w w0.heap.size []) :
    Calls Tryz.prog 208 #[.pointer (some ⟨g, 0, none⟩), I key, .func (.func 209) #[] #[.pointer (some ⟨w0.heap.size, 0, none⟩)]] w
      fun e w' => e = .returned (.tuple #[]) ∧ Below w0.heap.size w0 w' ∧ Sv w' w0.heap.size (stops l key) := by
  have H := Lib.hid hv
  have HR := Lib.hid hR
  have HB := Lib.hid hb
  have HS := Lib.hid hs
  clear hv hR hb hs
  go_enter Tryz.func208, Tryz.ntmps208
  go_wp2
  go_loopw [6, 7] (fun a r wr => ∃ m : Nat, m ≤ 12 ∧ r = .int .i64 (11 - (m : Int)) ∧ a = .int .i64 (stTo l key m).2 ∧ Below w0.heap.size w0 wr ∧ Sv wr w0.heap.size (stTo l key m).1) (fun _ r _ => (intOf r + 1).toNat)
  case atStart => exact ⟨0, by omega, rfl, rfl, HB.out, HS.out⟩
  case round =>
    obtain ⟨m, hm, rfl, rfl, hbl, hsv⟩ := hrel
    by_cases hlt : m < 12
    · obtain ⟨r, hr⟩ : ∃ r : Nat, 11 - m = r := ⟨_, rfl⟩
      have hri : (11 : Int) - (m : Int) = (r : Int) := by omega
      have hr12 : r < 12 := by omega
      have hcell : wr.cell? ⟨g, r, none⟩ = some (slV (tAt ts r)) := (hbl.cell (by exact H.out.lt)).trans (H.out.cell r hr12)
      have his := H.out.is_ r hr12
      obtain ⟨⟨A', n', c'⟩, hx⟩ : ∃ x, tAt ts r = x := ⟨_, rfl⟩
      rw [hx] at hcell his
      simp only at his
      have hcell' : wr.cell? ⟨g, r, none⟩ = some (.slice A' n' c') := hcell
      clear hcell
      obtain ⟨L, hL⟩ : ∃ L, rowL l r = L := ⟨_, rfl⟩
      rw [hL] at his
      have hpw : L.Pairwise (· < ·) := by rw [← hL]; exact rowL_pw HR.out.pw r
      have hn' : n' ≤ 200 := by rw [← his.len, ← hL]; have := rowL_len l r; have := HR.out.len; omega
      obtain ⟨a, ha⟩ : ∃ a, (stTo l key m).2 = a := ⟨_, rfl⟩
      obtain ⟨p, hp⟩ : ∃ p, (stTo l key m).1 = p := ⟨_, rfl⟩
      have hpl : p.length ≤ 2400 := by
        rw [← hp]
        have h1 := stTo_len l key m
        have h2 := HR.out.len
        have h3 : m * l.length ≤ 12 * 200 := Nat.mul_le_mul hm h2
        omega
      have hst : stTo l key (m + 1) = (p ++ (pas L a key).map (fun k => ((r : Int), k)), lastD (pas L a key) a) := by
        show (_, _) = _
        rw [hr, ha, hp, hL, hri]
      have HST := Lib.hid hst
      have HIS := Lib.hid his
      have HPW := Lib.hid hpw
      have HSV := Lib.hid hsv
      have HBL := Lib.hid hbl
      rw [ha]
      rw [hp] at HSV
      rw [hri]
      have HRI := Lib.hid hri
      have HL := Lib.hid his.len
      clear hst his hpw hsv hbl ha hp hL hx hr hri
      go_wp2
      go_loopw [6, 20] (fun z j wr => ∃ k : Nat, k ≤ n' ∧ j = .int .i64 k ∧ z = .int .i64 (lastD (pas (L.take k) a key) a) ∧ Below w0.heap.size w0 wr ∧ Sv wr w0.heap.size (p ++ (pas (L.take k) a key).map (fun x => ((r : Int), x)))) (fun _ j _ => n' - (intOf j).toNat)
      case atStart => exact ⟨0, Nat.zero_le _, rfl, rfl, HBL.out, by simpa [pas] using HSV.out⟩
      case round =>
        obtain ⟨k, hk, rfl, rfl, hbl2, hsv2⟩ := hrel
        have HB2 := Lib.hid hbl2
        have HS2 := Lib.hid hsv2
        clear hsv2
        obtain ⟨z, hz⟩ : ∃ z, lastD (pas (L.take k) a key) a = z := ⟨_, rfl⟩
        rw [hz]
        by_cases hkn : k < n'
        · have hkl : k < L.length := by rw [HL.out]; exact hkn
          obtain ⟨b, off, rfl, hbw, hcs⟩ := HIS.out.at_ (by omega)
          obtain ⟨x, hx⟩ : ∃ x, L[k] = x := ⟨_, rfl⟩
          have hc0 : wr.cell? ⟨b, off + k, none⟩ = some (I x) := by rw [← hx]; exact (hbl2.cell (by exact hbw)).trans (hcs k hkn)
          have hgt := pas_gt HPW.out hkl a key
          rw [hx, hz] at hgt
          have hsn := pas_snoc L k hkl a key
          rw [hx] at hsn
          clear hcs hbl2
          by_cases hge : key ≤ x
          · have hfin : stTo l key (m + 1) = (p ++ (pas (L.take k) a key).map (fun x => ((r : Int), x)), z) := by
              have h1 := pas_stop HPW.out hkl (a := a) (key := key) (by rw [hx]; exact hge)
              rw [HST.out, ← h1, hz]
            have HF := Lib.hid hfin
            clear hx hgt hsn hfin hz
            go_wp2
            go_roundw
            case rel => exact ⟨m + 1, by omega, by have := HRI.out; congr 1; omega, by rw [HF.out], HB2.out, by rw [HF.out]; exact HS2.out⟩
            case measure => first | (simp [intOf]; done) | (simp [intOf]; omega)
          · by_cases hat : z < x
            · have hcond : a < x ∧ x < key := ⟨hgt.1 hat, by omega⟩
              rw [if_pos hcond] at hsn
              have hlen : (p ++ (pas (L.take k) a key).map (fun x => ((r : Int), x))).length ≤ 10000 := by
                rw [List.length_append, List.length_map]
                have := pas_len (L.take k) a key
                rw [List.length_take] at this
                omega
              have HCALL := Lib.hid (path1_any r x w0.heap.size _ wr HS2.out hlen)
              have HSN := Lib.hid hsn
              clear hx hgt hsn hz hlen hcond
              go_wp2_with fail
              refine HCALL.out.mono ?_
              rintro e w1 ⟨rfl, hb1, hs1⟩
              have HB3 := Lib.hid (HB2.out.trans hb1)
              have HS3 : Hid (Sv w1 w0.heap.size (p ++ (pas (L.take (k + 1)) a key).map (fun x => ((r : Int), x)))) := by
                show Sv w1 w0.heap.size (p ++ (pas (L.take (k + 1)) a key).map (fun x => ((r : Int), x)))
                rw [HSN.out, List.map_append, ← List.append_assoc]
                exact hs1
              clear hb1 hs1
              go_wp2
              go_roundw
              case rel => exact ⟨k + 1, by omega, by go_num, by rw [HSN.out, lastD_snoc], HB3.out, HS3.out⟩
              case measure => first | (simp [intOf]; done) | (simp [intOf]; omega)
            · have hcond : ¬ (a < x ∧ x < key) := fun h => hat (hgt.2 h.1)
              rw [if_neg hcond] at hsn
              have HSN := Lib.hid hsn
              have HZ := Lib.hid hz
              clear hx hgt hsn hz hcond
              go_wp2
              go_roundw
              case rel => exact ⟨k + 1, by omega, by go_num, by rw [HSN.out, HZ.out], HB2.out, by rw [HSN.out]; exact HS2.out⟩
              case measure => first | (simp [intOf]; done) | (simp [intOf]; omega)
        · have hfin : stTo l key (m + 1) = (p ++ (pas (L.take k) a key).map (fun x => ((r : Int), x)), z) := by
            rw [← hz, List.take_of_length_le (by rw [HL.out]; omega)]
            exact HST.out
          have HF := Lib.hid hfin
          clear hfin hz hbl2
          go_wp2
          go_roundw
          case rel => exact ⟨m + 1, by omega, by have := HRI.out; congr 1; omega, by rw [HF.out], HB2.out, by rw [HF.out]; exact HS2.out⟩
          case measure => first | (simp [intOf]; done) | (simp [intOf]; omega)
    · obtain rfl : m = 12 := by omega
      have HSV := Lib.hid hsv
      have HBL := Lib.hid hbl
      clear hsv hbl
      go_wp2
      go_end0
      exact ⟨rfl, HBL.out, HSV.out⟩
end Go.Proofs.YtpnjnedfcdppaaaGreatDoor

/-
  skip.Path.
-/
namespace Go.Proofs.YtpnjnedfcdppaaaGreatDoor
open Go.RowKit

theorem own_ps {w : World} {base t n c : Nat} {A : Option Addr} {p : PL} (h : w.ownsRow base t 2 (.slice A n c) p.length (flat p)) : PS w A p.length c p := by
  rcases h.2 with ⟨e, h0⟩ | ⟨g, cap, cur, e, hb, hg, hnc, _, hsz, htk⟩
  · have hp : p = [] := List.eq_nil_of_length_eq_zero h0
    subst hp
    exact ⟨rfl, Rd.none_⟩
  · injection e with e1 e2 e3
    subst e1 e2 e3
    have hlt : g < w.heap.size := by
      rcases Nat.lt_or_ge g w.heap.size with hlt | hge
      · exact hlt
      · rw [Array.getElem?_eq_none hge] at hg; cases hg
    refine ⟨rfl, hnc, fun _ => ⟨g, 0, rfl, hlt, fun i hi j hj => ?_⟩⟩
    rw [cell_of_row _ _ _ _ _ _ hg]
    obtain ⟨h0, h1⟩ := flat_at p i hi
    have hcur : cur.toList[0 + (i * 2 + j)]? = (flat p)[i * 2 + j]? := by
      rw [← htk, List.getElem?_take, if_pos (by omega), Nat.zero_add]
    have : cur[0 + (i * 2 + j)]? = (flat p)[i * 2 + j]? := by simpa using hcur
    rw [this]
    rcases (show j = 0 ∨ j = 1 by omega) with rfl | rfl
    · simpa [pf, List.getElem?_eq_getElem hi] using h0
    · simpa [pf, List.getElem?_eq_getElem hi] using h1

set_option maxHeartbeats 1000000 in
theorem Path_bad (A : Option Addr) (n c : Nat) (l : List Int) (key : Int) (w : World) (h : IS w A n c l) (hn : n ≤ 9223372036854775807) (E : Int) (hE : chkK l = E) (hE0 : E ≠ 0) :
    Calls Tryz.prog 160 #[.slice A n c, I key] w fun e w' => e = .returned (.tuple #[.slice none 0 0, I E]) ∧ Below w.heap.size w w' := by
  have HC := Lib.hid (checkS_any A n c l w h hn)
  have hne := err_ne hE0
  rw [hE] at HC
  clear h hE
  go_enter Tryz.func160, Tryz.ntmps160
  go_wp2_with fail
  refine HC.out.mono ?_
  rintro e w1 ⟨rfl, hb1⟩
  have HB1 := Lib.hid hb1
  clear hb1
  go_wp2
  go_ret2
  exact ⟨rfl, HB1.out⟩
set_option maxHeartbeats 1000000 in
theorem Path_arg (A : Option Addr) (n c : Nat) (l : List Int) (key : Int) (w : World) (h : IS w A n c l) (hR : Rise l) (hk : kyB key = false) :
    Calls Tryz.prog 160 #[.slice A n c, I key] w fun e w' => e = .returned (.tuple #[.slice none 0 0, I 1]) ∧ Below w.heap.size w w' := by
  have hn : n ≤ 200 := by rw [← h.len]; exact hR.len
  have HC := Lib.hid (checkS_any A n c l w h (by omega))
  rw [chkK_zero.2 hR] at HC
  have HK := Lib.hid hk
  clear h hR hk
  go_enter Tryz.func160, Tryz.ntmps160
  go_wp2_with fail
  refine HC.out.mono ?_
  rintro e w1 ⟨rfl, hb1⟩
  have HB1 := Lib.hid hb1
  clear hb1
  go_wp2_with (go_at_call 199; refine (isKeyS_is _ _ _ HK.out).mono ?_; rintro e w' ⟨rfl, rfl⟩)
  go_ret2
  exact ⟨rfl, HB1.out⟩
/-- stops in new memory, and no error -/
def RetStops (p : PL) (w : World) (e : Ending) (w' : World) : Prop := ∃ A c, e = .returned (.tuple #[.slice A p.length c, I 0]) ∧ PS w' A p.length c p ∧ Below w.heap.size w w'
set_option maxRecDepth 100000 in
set_option maxHeartbeats 2000000 in
theorem Path_ok (A : Option Addr) (n c : Nat) (l : List Int) (key : Int) (w : World) (h : IS w A n c l) (hR : Rise l) (hk : kyB key = true) (hT : Tb w) :
    Calls Tryz.prog 160 #[.slice A n c, I key] w (RetStops (stops l key) w) := by
  have hn : n ≤ 200 := by rw [← h.len]; exact hR.len
  have HC := Lib.hid (checkS_any A n c l w h (by omega))
  rw [chkK_zero.2 hR] at HC
  have HK := Lib.hid hk
  have H := Lib.hid h
  have HT := Lib.hid hT
  have HR := Lib.hid hR
  clear h hR hk hT
  go_enter Tryz.func160, Tryz.ntmps160
  go_wp2_with fail
  refine HC.out.mono ?_
  rintro e w1 ⟨rfl, hb1⟩
  have HB1 := Lib.hid hb1
  have HTO := Lib.hid (towerOf_any A n c l w1 (H.out.below hb1) (by omega) (HT.out.next hb1))
  clear hb1
  go_wp2_with (first | (go_at_call 199; refine (isKeyS_is _ _ _ HK.out).mono ?_; rintro e w' ⟨rfl, rfl⟩) | fail)
  refine HTO.out.mono ?_
  rintro e w2 ⟨vs, rfl, htw, hb2⟩
  obtain ⟨ts, hts, rfl⟩ := htw.slices
  obtain ⟨a0, a1, a2, a3, a4, a5, a6, a7, a8, a9, a10, a11, rfl⟩ := set12 ts hts
  have HTW := Lib.hid htw
  have HB2 := Lib.hid (HB1.out.trans (hb2.mono HB1.out.size))
  clear htw hb2 HTO
  simp only [List.map_cons, List.map_nil]
  go_wp2_with fail
  have htv : Tv (w2.alloc (.cells #[slV a0, slV a1, slV a2, slV a3, slV a4, slV a5, slV a6, slV a7, slV a8, slV a9, slV a10, slV a11] 192)) w2.heap.size [a0, a1, a2, a3, a4, a5, a6, a7, a8, a9, a10, a11] (rowL l) := tw_tv HTW.out ((Below.refl _ _).alloc (Nat.le_refl _) _) (heap_alloc_new _ _)
  have hb3 : Below w.heap.size w (w2.alloc (.cells #[slV a0, slV a1, slV a2, slV a3, slV a4, slV a5, slV a6, slV a7, slV a8, slV a9, slV a10, slV a11] 192)) := HB2.out.alloc HB2.out.size _
  have hsz : (w2.alloc (.cells #[slV a0, slV a1, slV a2, slV a3, slV a4, slV a5, slV a6, slV a7, slV a8, slV a9, slV a10, slV a11] 192)).heap.size = w2.heap.size + 1 := by simp
  generalize hw3 : w2.alloc _ = w3 at htv hb3 hsz ⊢
  generalize hg2 : w2.heap.size = g2 at htv hsz ⊢
  have hcall := walk_any g2 _ l key w3 (w3.alloc (.cells #[.slice none 0 0] 170)) htv HR.out ((Below.refl _ _).alloc (Nat.le_refl _) _) ⟨none, 0, heap_alloc_new _ _, World.ownsRow_nil _ _ _ _⟩
  have hbs : w.heap.size ≤ w3.heap.size := hb3.size
  rw [hsz] at hcall
  have HCALL := Lib.hid hcall
  have HB3 := Lib.hid hb3
  have HSZ := Lib.hid hsz
  clear htv hcall hw3 hg2 HTW hb3 hsz
  refine HCALL.out.mono ?_
  rintro e w4 ⟨rfl, hb4, A', c', hq, hown⟩
  have hcell4 : w4.cell? ⟨g2 + 1, 0, none⟩ = some (.slice A' (stops l key).length c') := by simp [World.cell?, hq]
  have HPS := Lib.hid (own_ps hown)
  have HB4 := Lib.hid (HB3.out.trans (hb4.mono (by have := HSZ.out; omega)))
  clear hb4 hq hown HCALL
  go_wp2
  go_ret2
  exact ⟨A', c', rfl, HPS.out, HB4.out⟩
end Go.Proofs.YtpnjnedfcdppaaaGreatDoor

/-
  (*tower).high, slices.Clone of rows.
-/
namespace Go.Proofs.YtpnjnedfcdppaaaGreatDoor
open Go.RowKit

set_option maxRecDepth 100000 in
set_option maxHeartbeats 1000000 in
theorem high_any (g : Nat) (ts : List T3) (l : List Int) (w : World) (h : Tv w g ts (rowL l)) (hl : l.length ≤ 1000) :
    Calls Tryz.prog 129 #[.pointer (some ⟨g, 0, none⟩)] w fun e w' => e = .returned (I (hiR l)) ∧ Below w.heap.size w w' := by
  have H := Lib.hid h
  clear h
  go_enter Tryz.func129, Tryz.ntmps129
  go_wp2
  go_loopw [3] (fun i wr => ∃ k : Nat, k ≤ 12 ∧ i = .int .i64 k ∧ (∀ i, i < k → rowL l i ≠ []) ∧ Below w.heap.size w wr) (fun i _ => 12 - (intOf i).toNat)
  case atStart => exact ⟨0, by omega, rfl, fun i hi => absurd hi (by omega), Below.refl _ _⟩
  case round =>
    obtain ⟨k, hk, rfl, hall, hnx⟩ := hrel
    by_cases hlt : k < 12
    · have hcell : wr.cell? ⟨g, k, none⟩ = some (slV (tAt ts k)) := (hnx.cell (by exact H.out.lt)).trans (H.out.cell k hlt)
      have hlen := (H.out.is_ k hlt).len
      obtain ⟨x, hx⟩ : ∃ x, tAt ts k = x := ⟨_, rfl⟩
      obtain ⟨A', m, c'⟩ := x
      rw [hx] at hcell hlen
      have hm : m ≤ 1000 := by have := rowL_len l k; simp only at hlen; omega
      by_cases h0 : 0 < m
      · have HA : Hid (∀ i, i < k + 1 → rowL l i ≠ []) := fun i hi => by
          rcases Nat.lt_or_ge i k with h1 | h1
          · exact hall i h1
          · obtain rfl : i = k := by omega
            intro e
            rw [e] at hlen
            simp at hlen
            omega
        clear hall hlen hx
        have hd : decide (0 < m) = true := by simpa using h0
        go_wp2
        go_roundw
        case rel => exact ⟨k + 1, by omega, by go_num, HA.out, by first | exact hnx | exact below_drewN hnx _⟩
        case measure => simp [intOf]; omega
      · have HF : Hid ((k : Int) = (hiR l : Int)) := by
          show (k : Int) = _
          rw [hiR_is hk hall (.inr (List.eq_nil_of_length_eq_zero (by simp only at hlen; omega)))]
        clear hall hlen hx
        obtain rfl : m = 0 := by omega
        go_wp2
        go_ret
        exact ⟨ret_int HF.out, by first | exact hnx | exact below_drewN hnx _⟩
    · have HF : Hid ((k : Int) = (hiR l : Int)) := by
        show (k : Int) = _
        rw [hiR_is hk hall (.inl (by omega))]
      clear hall
      go_wp2
      go_ret
      exact ⟨ret_int HF.out, by first | exact hnx | exact below_drewN hnx _⟩

theorem row_info : (Tryz.prog.info? 46).map (fun i => (i.zero, i.size, i.bytes)) = some (some (.slice none 0 0), 1, 24) := by kernel_rfl
theorem one_slV (ts : List T3) : ∀ u ∈ ts.map slV, u.oneCell' = true := by
  intro u hu
  obtain ⟨t, _, rfl⟩ := List.mem_map.1 hu
  rfl
set_option maxRecDepth 100000 in
set_option maxHeartbeats 1000000 in
theorem cloneR_any (g h : Nat) (ts : List T3) (L : Nat → List Int) (w : World) (hv : Tv w g ts L) (hh : h ≤ 12) :
    Calls Tryz.prog 128 #[.slice (some ⟨g, 0, none⟩) h 12] w fun e w' => ∃ v, e = .returned v ∧ w'.ownsRow w.heap.size 46 1 v h ((ts.take h).map slV) ∧ Below w.heap.size w w' := by
  have H := Lib.hid hv
  have hln : ((ts.take h).map slV).length = h * 1 := by simp [hv.len]; omega
  have HC : Hid (∀ j u, ((ts.take h).map slV)[j]? = some u → w.cell? ⟨g, j, none⟩ = some u) := fun j u hu => by
    rw [List.getElem?_map, List.getElem?_take] at hu
    by_cases hj : j < h
    · rw [if_pos hj] at hu
      rw [hv.cell j (by omega)]
      unfold tAt
      rw [List.getElem?_eq_getElem (by have := hv.len; omega)] at hu ⊢
      simpa using hu
    · rw [if_neg hj] at hu; cases hu
  have HLN := Lib.hid hln
  clear hv hln
  obtain ⟨i0, hi, hz0, hz1, hz2⟩ := info_parts row_info
  have HI := Lib.hid hi
  have HZ0 := Lib.hid hz0
  have HZ1 := Lib.hid hz1
  have HZ2 := Lib.hid hz2
  have hgl := H.out.lt
  clear hi hz0 hz1 hz2
  have heq := fun w => Lib.run_eql_slice_nil (P := Tryz.prog) w 38 46 (some ⟨g, 0, none⟩) h 12 0 0 Tryz.underlying38
  go_enter Tryz.func128, Tryz.ntmps128
  go_wp2_with (first
    | (at_builtin
       refine wpList_append_own_at _ rfl (.tmp 5) (.tmp 6) 38 rfl w.heap.size 46 i0 _ 1 24 Tryz.underlying38 HI.out HZ0.out HZ1.out HZ2.out rfl (by omega) (.slice (some ⟨w.heap.size, 0, none⟩) 0 0) 0 [] rfl (World.ownsRow_made w _ 0 (Nat.le_refl _) (by unfold maxLen; omega) (by simp)) ⟨g, 0, none⟩ h 12 ((ts.take h).map slV) rfl HLN.out (fun j u hu => ?_) (one_slV _) (by unfold maxLen; omega) (by omega) (by simp) ?_
       · rw [addn, Nat.zero_add]; exact (Below.cell ((Below.refl _ _).alloc (Nat.le_refl _) _) (by exact hgl)).trans (HC.out j u hu)
       intro v2 w2 hown2 hgrow2 _ hat2)
    | fail)
  go_ret
  exact ⟨v2, rfl, by simpa using hown2, Below.grown ((Below.refl _ _).alloc (Nat.le_refl _) _) hgrow2 (by simp) (by simp [Value.ownBlock])⟩
end Go.Proofs.YtpnjnedfcdppaaaGreatDoor

/-
  skip.rowsOf, skip.Rows.
-/
namespace Go.Proofs.YtpnjnedfcdppaaaGreatDoor
open Go.RowKit

theorem own_ri {w w' : World} {g h base : Nat} {ts : List T3} {l : List Int} {v : Value} (hv : Tv w g ts (rowL l)) (hb : Below w.heap.size w w') (hh : hiR l = h) (ho : w'.ownsRow base 46 1 v h ((ts.take h).map slV)) : ∃ A m c, v = .slice A m c ∧ RI w' A m c (rowsL l) := by
  have h12 : h ≤ 12 := by rw [← hh]; exact hiR_le l
  have hl := hv.len
  rcases ho.2 with ⟨rfl, h0⟩ | ⟨g2, cap, cur, rfl, _, hg, hnc, _, hsz, htk⟩
  · refine ⟨none, 0, 0, rfl, ?_⟩
    have : rowsL l = [] := List.eq_nil_of_length_eq_zero (by rw [rowsL_len]; omega)
    rw [this]
    exact RI.none_
  · refine ⟨_, h, cap, rfl, by rw [rowsL_len]; exact hh, hnc, fun _ => ⟨g2, 0, rfl, ?_, fun i hi => ?_⟩⟩
    · rcases Nat.lt_or_ge g2 w'.heap.size with hlt | hge
      · exact hlt
      · rw [Array.getElem?_eq_none hge] at hg; cases hg
    · refine ⟨(tAt ts i).1, (tAt ts i).2.1, (tAt ts i).2.2, ?_, ?_⟩
      · rw [cell_of_row _ _ _ _ _ _ hg]
        have : ((ts.take h).map slV)[i]? = some (slV (tAt ts i)) := by
          simp [List.getElem?_take, hi, tAt, List.getElem?_eq_getElem (show i < ts.length by omega)]
        rw [← htk, List.getElem?_take, if_pos (by omega)] at this
        simpa using this
      · rw [rowsL_at l i (by omega)]
        exact (hv.is_ i (by omega)).below hb

theorem tower_len : Tryz.prog.arrayLen 192 = 12 := by kernel_rfl
theorem tower_under : Tryz.prog.underlying 192 = some (.array (Tryz.prog.arrayLen 192) (Tryz.prog.elem 192)) := by kernel_rfl
theorem tower_elem : Tryz.prog.elem 192 = 46 := by kernel_rfl
/-- t[:h] -/
theorem run_head (g h : Nat) (hh : h ≤ 12) (w : World) : (Instr.sliceAt 192 (.pointer (some ⟨g, 0, none⟩)) none (some (I h)) none).run Tryz.prog w = .ok (.slice (some ⟨g, 0, none⟩) h 12) w := by
  obtain ⟨i0, hi, hz0, hz1, hz2⟩ := info_parts row_info
  rw [run_sliceAt_array_h w 192 ⟨g, 0, none⟩ tower_under .i64 (h : Int) (by omega) (by rw [tower_len]; omega), tower_len, tower_elem]
  simp [sizeOf, typeInfo, hi, slicedAt, Addr.add]

set_option maxRecDepth 100000 in
set_option maxHeartbeats 2000000 in
theorem rowsOf_any (A : Option Addr) (n c : Nat) (l : List Int) (w : World) (h : IS w A n c l) (hn : n ≤ 1000) (hT : Tb w) :
    Calls Tryz.prog 59 #[.slice A n c] w (RetRows (rowsL l) w) := by
  have HC := Lib.hid (towerOf_any A n c l w h hn hT)
  have hll : l.length ≤ 1000 := by rw [h.len]; exact hn
  clear h hT
  go_enter Tryz.func59, Tryz.ntmps59
  go_wp2_with fail
  refine HC.out.mono ?_
  rintro e w1 ⟨vs, rfl, htw, hb1⟩
  obtain ⟨ts, hts, rfl⟩ := htw.slices
  obtain ⟨a0, a1, a2, a3, a4, a5, a6, a7, a8, a9, a10, a11, rfl⟩ := set12 ts hts
  have HTW := Lib.hid htw
  have HB1 := Lib.hid hb1
  clear htw hb1 HC
  simp only [List.map_cons, List.map_nil]
  go_wp2_with fail
  have htv : Tv (w1.alloc (.cells #[slV a0, slV a1, slV a2, slV a3, slV a4, slV a5, slV a6, slV a7, slV a8, slV a9, slV a10, slV a11] 192)) w1.heap.size [a0, a1, a2, a3, a4, a5, a6, a7, a8, a9, a10, a11] (rowL l) := tw_tv HTW.out ((Below.refl _ _).alloc (Nat.le_refl _) _) (heap_alloc_new _ _)
  have hb2 : Below w.heap.size w (w1.alloc (.cells #[slV a0, slV a1, slV a2, slV a3, slV a4, slV a5, slV a6, slV a7, slV a8, slV a9, slV a10, slV a11] 192)) := HB1.out.alloc HB1.out.size _
  generalize hg2 : w1.heap.size = g2 at htv ⊢
  generalize hw2 : w1.alloc _ = w2 at htv hb2 ⊢
  have HTV := Lib.hid htv
  have HB2 := Lib.hid hb2
  have HHI := Lib.hid (high_any g2 _ l w2 htv hll)
  clear htv hb2 HTW hg2 hw2
  refine HHI.out.mono ?_
  rintro e w3 ⟨rfl, hb3⟩
  obtain ⟨h, hh⟩ : ∃ h, hiR l = h := ⟨_, rfl⟩
  have h12 : h ≤ 12 := by rw [← hh]; exact hiR_le l
  rw [hh]
  have HH := Lib.hid hh
  have HTV3 := Lib.hid (HTV.out.below hb3)
  have HB3 := Lib.hid (HB2.out.trans (hb3.mono HB2.out.size))
  clear hb3 hh HHI
  have hsl := run_head g2 h h12
  go_wp2_with fail
  refine (cloneR_any g2 h _ _ w3 HTV3.out h12).mono ?_
  rintro e w4 ⟨v, rfl, hown, hb4⟩
  have HRI := Lib.hid (own_ri HTV3.out hb4 HH.out hown)
  have HB4 := Lib.hid (HB3.out.trans (hb4.mono HB3.out.size))
  clear hown hb4
  go_wp2
  go_ret
  obtain ⟨A', m, c', rfl, hri⟩ := HRI.out
  exact ⟨A', m, c', rfl, hri, HB4.out⟩

set_option maxHeartbeats 1000000 in
theorem Rows_bad (A : Option Addr) (n c : Nat) (l : List Int) (w : World) (h : IS w A n c l) (hn : n ≤ 9223372036854775807) (E : Int) (hE : chkK l = E) (hE0 : E ≠ 0) :
    Calls Tryz.prog 66 #[.slice A n c] w fun e w' => e = .returned (.tuple #[.slice none 0 0, I E]) ∧ Below w.heap.size w w' := by
  have HC := Lib.hid (checkS_any A n c l w h hn)
  have hne := err_ne hE0
  rw [hE] at HC
  clear h hE
  go_enter Tryz.func66, Tryz.ntmps66
  go_wp2_with fail
  refine HC.out.mono ?_
  rintro e w1 ⟨rfl, hb1⟩
  have HB1 := Lib.hid hb1
  clear hb1
  go_wp2
  go_ret2
  exact ⟨rfl, HB1.out⟩
/-- rows in new memory, and no error -/
def RetRows2 (L : List (List Int)) (w : World) (e : Ending) (w' : World) : Prop := ∃ A m c, e = .returned (.tuple #[.slice A m c, I 0]) ∧ RI w' A m c L ∧ Below w.heap.size w w'
set_option maxHeartbeats 1000000 in
theorem Rows_ok (A : Option Addr) (n c : Nat) (l : List Int) (w : World) (h : IS w A n c l) (hR : Rise l) (hT : Tb w) :
    Calls Tryz.prog 66 #[.slice A n c] w (RetRows2 (rowsL l) w) := by
  have hn : n ≤ 200 := by rw [← h.len]; exact hR.len
  have HC := Lib.hid (checkS_any A n c l w h (by omega))
  rw [chkK_zero.2 hR] at HC
  have H := Lib.hid h
  have HT := Lib.hid hT
  clear h hT hR
  go_enter Tryz.func66, Tryz.ntmps66
  go_wp2_with fail
  refine HC.out.mono ?_
  rintro e w1 ⟨rfl, hb1⟩
  have HB1 := Lib.hid hb1
  have HO := Lib.hid (rowsOf_any A n c l w1 (H.out.below hb1) (by omega) (HT.out.next hb1))
  clear hb1
  go_wp2_with fail
  refine HO.out.mono ?_
  rintro e w2 ⟨A', m, c', rfl, hri, hb2⟩
  have HRI := Lib.hid hri
  have HB2 := Lib.hid (HB1.out.trans (hb2.mono HB1.out.size))
  clear hri hb2
  go_wp2
  go_ret2
  exact ⟨A', m, c', rfl, HRI.out, HB2.out⟩
end Go.Proofs.YtpnjnedfcdppaaaGreatDoor

/-
  A TREE OF NODES IN MEMORY, each in a block of its own; a place in it (a cell that holds a node or nil), and what is around it.
-/
namespace Go.Proofs.YtpnjnedfcdppaaaGreatDoor
open Go.RowKit

inductive PT
  | nil
  | node (g : Nat) (l : PT) (k : Int) (r : PT)
def PT.tr : PT → Tr
  | .nil => .nil
  | .node _ l k r => .node l.tr k r.tr
def PT.bs : PT → List Nat
  | .nil => []
  | .node g l _ r => g :: (l.bs ++ r.bs)
def PT.q : PT → Option Addr
  | .nil => none
  | .node g _ _ _ => some ⟨g, 0, none⟩
abbrev PT.v (t : PT) : Value := .pointer t.q
/-- a node's block -/
def NB (w : World) (g : Nat) (k : Int) (x y : Value) : Prop := w.heap[g]? = some (.cells #[I k, x, y] 111 (0, 0))
theorem NB.facts {w : World} {g : Nat} {k : Int} {x y : Value} (h : NB w g k x y) :
    (w.cell? ⟨g, 0, none⟩ = some (I k) ∧ w.cell? ⟨g, 1, none⟩ = some x ∧ w.cell? ⟨g, 2, none⟩ = some y) ∧ (w.frozen? ⟨g, 0, none⟩ = false ∧ w.frozen? ⟨g, 1, none⟩ = false ∧ w.frozen? ⟨g, 2, none⟩ = false) := by
  unfold NB at h
  refine ⟨⟨?_, ?_, ?_⟩, ?_, ?_, ?_⟩ <;> simp [World.cell?, World.frozen?, h]
theorem NB.keep {w w' : World} {g : Nat} {k : Int} {x y : Value} (h : NB w g k x y) (e : w'.heap[g]? = w.heap[g]?) : NB w' g k x y := e.trans h
theorem NB.lt {w : World} {g : Nat} {k : Int} {x y : Value} (h : NB w g k x y) : g < w.heap.size := (Array.getElem?_eq_some_iff.1 h).1
theorem NB.set0 {w : World} {g : Nat} {k : Int} {x y : Value} (h : NB w g k x y) (k' : Int) : NB (w.setCell ⟨g, 0, none⟩ (I k')) g k' x y := by
  unfold NB at h ⊢
  rw [heap_setCell_same w g 0 _ _ _ h]
  rfl
theorem NB.set1 {w : World} {g : Nat} {k : Int} {x y : Value} (h : NB w g k x y) (x' : Value) : NB (w.setCell ⟨g, 1, none⟩ x') g k x' y := by
  unfold NB at h ⊢
  rw [heap_setCell_same w g 1 _ _ _ h]
  rfl
theorem NB.set2 {w : World} {g : Nat} {k : Int} {x y : Value} (h : NB w g k x y) (y' : Value) : NB (w.setCell ⟨g, 2, none⟩ y') g k x y' := by
  unfold NB at h ⊢
  rw [heap_setCell_same w g 2 _ _ _ h]
  rfl
def PT.Lay (w : World) : PT → Prop
  | .nil => True
  | .node g l k r => NB w g k l.v r.v ∧ l.Lay w ∧ r.Lay w
theorem PT.Lay.keep {w w' : World} : ∀ {t : PT}, t.Lay w → (∀ x ∈ t.bs, w'.heap[x]? = w.heap[x]?) → t.Lay w'
  | .nil, _, _ => trivial
  | .node g l k r, h, hx => ⟨h.1.keep (hx g (by simp [PT.bs])), PT.Lay.keep h.2.1 (fun x h' => hx x (by simp [PT.bs, h'])), PT.Lay.keep h.2.2 (fun x h' => hx x (by simp [PT.bs, h']))⟩
theorem PT.Lay.lt {w : World} : ∀ {t : PT}, t.Lay w → ∀ x ∈ t.bs, x < w.heap.size
  | .nil, _, x, hx => by simp [PT.bs] at hx
  | .node g l k r, h, x, hx => by
    simp only [PT.bs, List.mem_cons, List.mem_append] at hx
    rcases hx with rfl | hx | hx
    · exact h.1.lt
    · exact h.2.1.lt x hx
    · exact h.2.2.lt x hx

inductive PC
  | top
  | left (u : PC) (g : Nat) (k : Int) (r : PT)
  | right (u : PC) (g : Nat) (l : PT) (k : Int)
def PC.fill : PC → Tr → Tr
  | .top, t => t
  | .left u _ k r, t => u.fill (.node t k r.tr)
  | .right u _ l k, t => u.fill (.node l.tr k t)
def PC.bs (T : Nat) : PC → List Nat
  | .top => [T]
  | .left u g _ r => g :: (r.bs ++ u.bs T)
  | .right u g l _ => g :: (l.bs ++ u.bs T)
def PC.ad (T : Nat) : PC → Addr
  | .top => ⟨T, 0, none⟩
  | .left _ g _ _ => ⟨g, 1, none⟩
  | .right _ g _ _ => ⟨g, 2, none⟩
/-- the variable that holds the top -/
def TB (w : World) (T : Nat) (v : Value) : Prop := w.heap[T]? = some (.cells #[v] 109 (0, 0))
theorem TB.facts {w : World} {T : Nat} {v : Value} (h : TB w T v) : w.cell? ⟨T, 0, none⟩ = some v ∧ w.frozen? ⟨T, 0, none⟩ = false := by
  unfold TB at h
  constructor <;> simp [World.cell?, World.frozen?, h]
theorem TB.set {w : World} {T : Nat} {v : Value} (h : TB w T v) (v' : Value) : TB (w.setCell ⟨T, 0, none⟩ v') T v' := by
  unfold TB at h ⊢
  rw [heap_setCell_same w T 0 _ _ _ h]
  rfl
def PC.Lay (w : World) (T : Nat) : PC → Value → Prop
  | .top, v => TB w T v
  | .left u g k r, v => NB w g k v r.v ∧ r.Lay w ∧ u.Lay w T (.pointer (some ⟨g, 0, none⟩))
  | .right u g l k, v => NB w g k l.v v ∧ l.Lay w ∧ u.Lay w T (.pointer (some ⟨g, 0, none⟩))
theorem PC.Lay.keep {w w' : World} {T : Nat} : ∀ {c : PC} {v : Value}, c.Lay w T v → (∀ x ∈ c.bs T, w'.heap[x]? = w.heap[x]?) → c.Lay w' T v
  | .top, _, h, hx => (hx T (by simp [PC.bs])).trans h
  | .left u g k r, v, h, hx => ⟨h.1.keep (hx g (by simp [PC.bs])), h.2.1.keep (fun x h' => hx x (by simp [PC.bs, h'])), PC.Lay.keep h.2.2 (fun x h' => hx x (by simp [PC.bs, h']))⟩
  | .right u g l k, v, h, hx => ⟨h.1.keep (hx g (by simp [PC.bs])), h.2.1.keep (fun x h' => hx x (by simp [PC.bs, h'])), PC.Lay.keep h.2.2 (fun x h' => hx x (by simp [PC.bs, h']))⟩
theorem PC.Lay.lt {w : World} {T : Nat} : ∀ {c : PC} {v : Value}, c.Lay w T v → ∀ x ∈ c.bs T, x < w.heap.size
  | .top, _, h, x, hx => by
    simp only [PC.bs, List.mem_singleton] at hx
    subst hx
    exact (Array.getElem?_eq_some_iff.1 h).1
  | .left u g k r, v, h, x, hx => by
    simp only [PC.bs, List.mem_cons, List.mem_append] at hx
    rcases hx with rfl | hx | hx
    · exact h.1.lt
    · exact h.2.1.lt x hx
    · exact PC.Lay.lt h.2.2 x hx
  | .right u g l k, v, h, x, hx => by
    simp only [PC.bs, List.mem_cons, List.mem_append] at hx
    rcases hx with rfl | hx | hx
    · exact h.1.lt
    · exact h.2.1.lt x hx
    · exact PC.Lay.lt h.2.2 x hx
/-- the place's own cell -/
theorem PC.Lay.cell {w : World} {T : Nat} {c : PC} {v : Value} (h : c.Lay w T v) : w.cell? (c.ad T) = some v ∧ w.frozen? (c.ad T) = false := by
  cases c with
  | top => exact h.facts
  | left u g k r => exact ⟨h.1.facts.1.2.1, h.1.facts.2.2.1⟩
  | right u g l k => exact ⟨h.1.facts.1.2.2, h.1.facts.2.2.2⟩
theorem PC.ad_none (T : Nat) (c : PC) : ∃ b o, c.ad T = ⟨b, o, none⟩ ∧ b ∈ c.bs T := by
  cases c with
  | top => exact ⟨_, _, rfl, by simp [PC.bs]⟩
  | left u g k r => exact ⟨_, _, rfl, by simp [PC.bs]⟩
  | right u g l k => exact ⟨_, _, rfl, by simp [PC.bs]⟩

/-- the place c of the tree in variable T has t; all of it lies from block B on, each node apart -/
structure Rep (B : Nat) (w : World) (T : Nat) (c : PC) (t : PT) : Prop where
  ctx : c.Lay w T t.v
  lay : t.Lay w
  nd : (t.bs ++ c.bs T).Nodup
  ge : ∀ x ∈ t.bs ++ c.bs T, B ≤ x

theorem perm_l (g : Nat) (l r C : List Nat) : (l ++ (g :: (r ++ C))).Perm ((g :: (l ++ r)) ++ C) := by
  have : (g :: (l ++ r)) ++ C = g :: (l ++ (r ++ C)) := by simp
  rw [this]
  exact List.perm_middle
theorem perm_r (g : Nat) (l r C : List Nat) : (r ++ (g :: (l ++ C))).Perm ((g :: (l ++ r)) ++ C) := by
  have : (g :: (l ++ r)) ++ C = g :: (l ++ (r ++ C)) := by simp
  rw [this]
  exact List.perm_middle.trans (List.Perm.cons _ (List.perm_append_comm_assoc _ _ _))
theorem Rep.left {B : Nat} {w : World} {T : Nat} {c : PC} {g : Nat} {l r : PT} {k : Int} (h : Rep B w T c (.node g l k r)) : Rep B w T (.left c g k r) l :=
  ⟨⟨h.lay.1, h.lay.2.2, h.ctx⟩, h.lay.2.1, ((perm_l g l.bs r.bs (c.bs T)).nodup_iff).2 h.nd, fun x hx => h.ge x ((perm_l g l.bs r.bs (c.bs T)).mem_iff.1 hx)⟩
theorem Rep.right {B : Nat} {w : World} {T : Nat} {c : PC} {g : Nat} {l r : PT} {k : Int} (h : Rep B w T c (.node g l k r)) : Rep B w T (.right c g l k) r :=
  ⟨⟨h.lay.1, h.lay.2.1, h.ctx⟩, h.lay.2.2, ((perm_r g l.bs r.bs (c.bs T)).nodup_iff).2 h.nd, fun x hx => h.ge x ((perm_r g l.bs r.bs (c.bs T)).mem_iff.1 hx)⟩
theorem Rep.up_left {B : Nat} {w : World} {T : Nat} {c : PC} {g : Nat} {l r : PT} {k : Int} (h : Rep B w T (.left c g k r) l) : Rep B w T c (.node g l k r) :=
  ⟨h.ctx.2.2, ⟨h.ctx.1, h.lay, h.ctx.2.1⟩, ((perm_l g l.bs r.bs (c.bs T)).nodup_iff).1 h.nd, fun x hx => h.ge x ((perm_l g l.bs r.bs (c.bs T)).mem_iff.2 hx)⟩
theorem Rep.up_right {B : Nat} {w : World} {T : Nat} {c : PC} {g : Nat} {l r : PT} {k : Int} (h : Rep B w T (.right c g l k) r) : Rep B w T c (.node g l k r) :=
  ⟨h.ctx.2.2, ⟨h.ctx.1, h.ctx.2.1, h.lay⟩, ((perm_r g l.bs r.bs (c.bs T)).nodup_iff).1 h.nd, fun x hx => h.ge x ((perm_r g l.bs r.bs (c.bs T)).mem_iff.2 hx)⟩
theorem Rep.up {B : Nat} {w : World} {T : Nat} {c : PC} : ∀ {t : PT}, Rep B w T c t → ∃ s : PT, Rep B w T .top s ∧ s.tr = c.fill t.tr := by
  induction c with
  | top => exact fun {t} h => ⟨t, h, rfl⟩
  | left u g k r ih => exact fun {t} h => ih h.up_left
  | right u g l k ih => exact fun {t} h => ih h.up_right
theorem Rep.lt {B : Nat} {w : World} {T : Nat} {c : PC} {t : PT} (h : Rep B w T c t) : ∀ x ∈ t.bs ++ c.bs T, x < w.heap.size := fun x hx => by
  rcases List.mem_append.1 hx with hx | hx
  · exact h.lay.lt x hx
  · exact h.ctx.lt x hx
theorem Rep.keep {B : Nat} {w w' : World} {T : Nat} {c : PC} {t : PT} (h : Rep B w T c t) (hx : ∀ x ∈ t.bs ++ c.bs T, w'.heap[x]? = w.heap[x]?) : Rep B w' T c t :=
  ⟨h.ctx.keep fun x h' => hx x (List.mem_append.2 (.inr h')), h.lay.keep fun x h' => hx x (List.mem_append.2 (.inl h')), h.nd, h.ge⟩
theorem Rep.below {B : Nat} {w w' : World} {T : Nat} {c : PC} {t : PT} (h : Rep B w T c t) (hb : Below w.heap.size w w') : Rep B w' T c t :=
  h.keep fun x hx => hb.block x (h.lt x hx)
theorem Rep.alloc {B : Nat} {w : World} {T : Nat} {c : PC} {t : PT} (h : Rep B w T c t) (o : Obj) : Rep B (w.alloc o) T c t := h.below ((Below.refl _ _).alloc (Nat.le_refl _) _)
theorem Rep.far {B : Nat} {w : World} {T : Nat} {c : PC} {t : PT} (h : Rep B w T c t) {p : Addr} (hp : p.block ∉ t.bs ++ c.bs T) (u : Value) : Rep B (w.setCell p u) T c t :=
  h.keep fun x hx => Below.heap_setCell w p u x (fun e => hp (by rw [← e]; exact hx))
/-- the place gets another tree, that lies in no node around it -/
theorem Rep.put {B : Nat} {w : World} {T : Nat} {c : PC} {v : Value} {t : PT} (hc : c.Lay w T v) (ht : t.Lay w) (hn : (t.bs ++ c.bs T).Nodup) (hg : ∀ x ∈ t.bs ++ c.bs T, B ≤ x) : Rep B (w.setCell (c.ad T) t.v) T c t := by
  have hd := (List.nodup_append.1 hn).2.2
  have hk : ∀ x, x ≠ (c.ad T).block → (w.setCell (c.ad T) t.v).heap[x]? = w.heap[x]? := fun x hx => Below.heap_setCell w _ _ x hx
  refine ⟨?_, ht.keep fun x hx => hk x (fun e => ?_), hn, hg⟩
  · cases c with
    | top => exact hc.set _
    | left u g k r =>
      have hnd := (List.nodup_append.1 hn).2.1
      simp only [PC.bs, List.nodup_cons, List.mem_append, not_or] at hnd
      exact ⟨hc.1.set1 _, hc.2.1.keep fun x hx => hk x (fun e => hnd.1.1 (by have e' : x = g := e; rw [← e']; exact hx)), hc.2.2.keep fun x hx => hk x (fun e => hnd.1.2 (by have e' : x = g := e; rw [← e']; exact hx))⟩
    | right u g l k =>
      have hnd := (List.nodup_append.1 hn).2.1
      simp only [PC.bs, List.nodup_cons, List.mem_append, not_or] at hnd
      exact ⟨hc.1.set2 _, hc.2.1.keep fun x hx => hk x (fun e => hnd.1.1 (by have e' : x = g := e; rw [← e']; exact hx)), hc.2.2.keep fun x hx => hk x (fun e => hnd.1.2 (by have e' : x = g := e; rw [← e']; exact hx))⟩
  · obtain ⟨b, o, eb, hb⟩ := c.ad_none T
    rw [eb] at e
    exact hd x hx b hb e
theorem Rep.key {B : Nat} {w : World} {T : Nat} {c : PC} {g : Nat} {l r : PT} {k : Int} (h : Rep B w T c (.node g l k r)) (k' : Int) : Rep B (w.setCell ⟨g, 0, none⟩ (I k')) T c (.node g l k' r) := by
  have hnd := h.nd
  simp only [PT.bs, List.cons_append, List.nodup_cons, List.mem_append, not_or] at hnd
  have hk : ∀ x, x ≠ g → (w.setCell ⟨g, 0, none⟩ (I k')).heap[x]? = w.heap[x]? := fun x hx => Below.heap_setCell w _ _ x hx
  refine ⟨h.ctx.keep fun x hx => hk x (fun e => hnd.1.2 (by rw [← e]; exact hx)), ⟨h.lay.1.set0 k', h.lay.2.1.keep fun x hx => hk x (fun e => hnd.1.1.1 (by rw [← e]; exact hx)), h.lay.2.2.keep fun x hx => hk x (fun e => hnd.1.1.2 (by rw [← e]; exact hx))⟩, h.nd, h.ge⟩
theorem Rep.blk {B : Nat} {w : World} {T : Nat} {c : PC} {t : PT} (h : Rep B w T c t) : B ≤ (c.ad T).block := by
  obtain ⟨b, o, eb, hb⟩ := c.ad_none T
  rw [eb]
  exact h.ge b (List.mem_append.2 (.inr hb))

end Go.Proofs.YtpnjnedfcdppaaaGreatDoor
