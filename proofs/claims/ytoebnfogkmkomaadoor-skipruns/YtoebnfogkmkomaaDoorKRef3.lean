/-
  hedgref.RowsOf.
-/
import Derived.Test.YtoebnfogkmkomaaDoorKRef1
import Derived.Test.YtoebnfogkmkomaaDoorKKeys
namespace Go.Proofs.YtoebnfogkmkomaaDoor
open Go.RowKit

/-- r rows laid out by the call: their slices, each of the call's own -/
structure Ro (w : World) (B : Nat) (v : Value) (ts : List T3) (l : List Int) : Prop where
  own : w.ownsRow B 22 1 v ts.length (ts.map slV)
  rows : ∀ i, i < ts.length → OwnI w B (slV (tAt ts i)) (rowL l i)
theorem Ro.start (w : World) (B : Nat) (l : List Int) : Ro w B (.slice none 0 0) [] l := ⟨World.ownsRow_nil _ _ _ _, fun i h => absurd h (by simp)⟩
theorem Ro.below {w w' : World} {B : Nat} {v : Value} {ts : List T3} {l : List Int} (h : Ro w B v ts l) (hb : Below w.heap.size w w') : Ro w' B v ts l := ⟨own_below h.own hb, fun i hi => own_below (h.rows i hi) hb⟩
/-- two rows whose cells are of different types lie apart -/
theorem own_apart {w : World} {B B' e e' s s' n n' : Nat} {v u : Value} {xs ys : List Value} (h : w.ownsRow B e s v n xs) (h' : w.ownsRow B' e' s' u n' ys) (hne : e ≠ e') : v.ownBlock = none ∨ v.ownBlock ≠ u.ownBlock := by
  rcases h.2 with ⟨rfl, _⟩ | ⟨g, cap, cur, rfl, _, hg, _⟩
  · exact .inl rfl
  · rcases h'.2 with ⟨rfl, _⟩ | ⟨g', cap', cur', rfl, _, hg', _⟩
    · right; simp [Value.ownBlock]
    · right
      intro e2
      simp [Value.ownBlock] at e2
      subst e2
      rw [hg] at hg'
      injection hg' with hg'
      injection hg' with _ ht
      exact hne ht
theorem Ro.append {w w' : World} {B : Nat} {v v' : Value} {ts : List T3} {l : List Int} {t : T3} (h : Ro w B v ts l) (ht : OwnI w B (slV t) (rowL l ts.length)) (hown : w'.ownsRow B 22 1 v' (ts ++ [t]).length ((ts ++ [t]).map slV)) (hg : w.grownBy w' v.ownBlock) : Ro w' B v' (ts ++ [t]) l := by
  refine ⟨hown, fun i hi => ?_⟩
  rw [List.length_append, List.length_singleton] at hi
  rcases Nat.lt_or_ge i ts.length with h1 | h1
  · have e : tAt (ts ++ [t]) i = tAt ts i := by unfold tAt; rw [List.getElem?_append_left h1]
    rw [e]
    exact World.ownsRow.kept (h.rows i h1) hg (own_apart (h.rows i h1) h.own (by decide))
  · obtain rfl : i = ts.length := by omega
    have e : tAt (ts ++ [t]) ts.length = t := by unfold tAt; simp
    rw [e]
    exact World.ownsRow.kept ht hg (own_apart ht h.own (by decide))
theorem Ro.ri {w : World} {B : Nat} {v : Value} {ts : List T3} {l : List Int} (h : Ro w B v ts l) (hh : hiR l = ts.length) : ∃ A m c, v = .slice A m c ∧ RI w A m c (rowsL l) := by
  rcases h.own.2 with ⟨rfl, h0⟩ | ⟨g2, cap, cur, rfl, _, hg, hnc, _, hsz, htk⟩
  · refine ⟨none, 0, 0, rfl, ?_⟩
    have : rowsL l = [] := List.eq_nil_of_length_eq_zero (by rw [rowsL_len]; omega)
    rw [this]
    exact RI.none_
  · refine ⟨_, ts.length, cap, rfl, by rw [rowsL_len]; exact hh, hnc, fun _ => ⟨g2, 0, rfl, ?_, fun i hi => ?_⟩⟩
    · rcases Nat.lt_or_ge g2 w.heap.size with hlt | hge
      · exact hlt
      · rw [Array.getElem?_eq_none hge] at hg; cases hg
    · refine ⟨(tAt ts i).1, (tAt ts i).2.1, (tAt ts i).2.2, ?_, ?_⟩
      · rw [cell_of_row _ _ _ _ _ _ hg]
        have : (ts.map slV)[i]? = some (slV (tAt ts i)) := by
          simp [tAt, List.getElem?_eq_getElem hi]
        rw [← htk, List.getElem?_take, if_pos (by omega)] at this
        simpa using this
      · rw [rowsL_at l i (by omega), Option.getD_some]
        obtain ⟨A', c', e, his, _⟩ := (h.rows i hi).is_
        injection e with e1 e2 e3
        rw [e1, e2, e3]
        exact his
theorem kon3 {w w1 w2 : World} (h : Below w.heap.size w w1) (hb : Below w1.heap.size w1 w2) : Below w.heap.size w w2 := h.trans (hb.mono h.size)
theorem rowL_take (l : List Int) (k r : Nat) (h : k < l.length) : rowL (l.take (k + 1)) r = if r < ht l[k] then rowL (l.take k) r ++ [l[k]] else rowL (l.take k) r := by
  rw [List.take_succ_eq_append_getElem h, rowL_append]

set_option maxRecDepth 100000 in
set_option maxHeartbeats 2000000 in
theorem RowsOf_any (A : Option Addr) (n c : Nat) (l : List Int) (w : World) (h : IS w A n c l) (hn : n ≤ 1000) :
    Calls Tryd.prog 15 #[.slice A n c] w (RetRows (rowsL l) w) := by
  have H := Lib.hid h
  have HL := Lib.hid h.len
  clear h
  obtain ⟨i0, hi, hz0, hz1, hz2⟩ := info_parts int_info
  have HI := Lib.hid hi
  have HZ0 := Lib.hid hz0
  have HZ1 := Lib.hid hz1
  have HZ2 := Lib.hid hz2
  clear hi hz0 hz1 hz2
  obtain ⟨i1, hi, hz0, hz1, hz2⟩ := info_parts row_info
  have RI_ := Lib.hid hi
  have RZ0 := Lib.hid hz0
  have RZ1 := Lib.hid hz1
  have RZ2 := Lib.hid hz2
  clear hi hz0 hz1 hz2
  go_enter Tryd.func15, Tryd.ntmps15
  go_wp2
  go_loopw [3, 4] (fun v i wr => ∃ ts : List T3, ts.length ≤ hiR l ∧ i = .int .i64 ts.length ∧ Ro wr w.heap.size v ts l ∧ Below w.heap.size w wr) (fun _ i _ => 13 - (intOf i).toNat)
  case atStart => exact ⟨[], Nat.zero_le _, rfl, Ro.start _ _ _, Below.refl _ _⟩
  case round =>
    obtain ⟨ts, hts, rfl, hro, hnx⟩ := hrel
    have hts12 : ts.length ≤ 12 := Nat.le_trans hts (hiR_le l)
    obtain ⟨r, hr⟩ : ∃ r, ts.length = r := ⟨_, rfl⟩
    rw [hr] at hts hts12 ⊢
    have HR := Lib.hid hr
    have HRO := Lib.hid hro
    have HNX := Lib.hid hnx
    have HTS := Lib.hid hts
    have HIS := Lib.hid (H.out.below hnx)
    have hz := hnx.size
    clear hro hnx hr hts
    obtain ⟨wo, rfl⟩ : ∃ wo, wo = wr := ⟨wr, rfl⟩
    go_wp2
    go_loopw [5, 12] (fun u j wi => ∃ k : Nat, k ≤ n ∧ j = .int .i64 k ∧ OwnI wi wo.heap.size u (rowL (l.take k) r) ∧ Below wo.heap.size wo wi) (fun _ j _ => n - (intOf j).toNat)
    case atStart => exact ⟨0, Nat.zero_le _, rfl, World.ownsRow_nil wo wo.heap.size 3 1, Below.refl _ _⟩
    case round =>
      obtain ⟨k, hk, rfl, hown, hni⟩ := hrel
      by_cases hlt : k < n
      · have hkl : k < l.length := by rw [HL.out]; exact hlt
        obtain ⟨b, off, rfl, hbw, hc⟩ := HIS.out.cell_at hlt
        obtain ⟨x, hx⟩ : ∃ x, l[k] = x := ⟨_, rfl⟩
        rw [hx] at hc
        have hc0 : wr.cell? ⟨b, off + k, none⟩ = some (I x) := (hni.cell (by exact hbw)).trans hc
        have HK := Lib.hid (rowL_take l k r hkl)
        rw [hx] at HK
        obtain ⟨m, hm⟩ : ∃ m, ht x = m := ⟨_, rfl⟩
        have hm12 : m ≤ 12 := by rw [← hm]; exact ht_le x
        have HH := Lib.hid (show Calls Tryd.prog 12 #[I x] wr fun e w' => e = .returned (I m) ∧ w' = wr by rw [← hm]; exact HeightOf_any x wr)
        rw [hm] at HK
        obtain ⟨xs, hxs⟩ : ∃ xs, rowL (l.take k) r = xs := ⟨_, rfl⟩
        have hxl : xs.length ≤ 1000 := by rw [← hxs]; have := rowL_len (l.take k) r; rw [List.length_take] at this; omega
        rw [hxs] at hown HK
        have HOWN := Lib.hid hown
        have HNI := Lib.hid hni
        have hzi := hni.size
        clear hc hx hm hown hni hxs
        by_cases hrm : r < m
        · rw [if_pos hrm] at HK
          go_wp2_with fail
          refine HH.out.mono ?_
          rintro e w' ⟨rfl, rfl⟩
          go_wp2_with (first
            | (at_builtin
               refine wpList_append_own_at _ rfl (.tmp 20) (.tmp 22) 22 rfl wo.heap.size 3 i0 _ 1 8 Tryd.underlying22 HI.out HZ0.out HZ1.out HZ2.out rfl (by omega) _ xs.length (xs.map I) rfl (own_below HOWN.out ((Below.refl _ _).alloc (Nat.le_refl _) _)) ⟨_, 0, none⟩ 1 1 [I x] rfl rfl (cell_one_new _ _ _) (one_I x) (by unfold maxLen; omega) (by omega) (by simp; omega) ?_
               intro v2 w2 hown2 hgrow2 _ hat2)
            | fail)
          go_roundw
          case rel =>
            refine ⟨k + 1, by omega, by go_num, ?_, ?_⟩
            · rw [HK.out]
              unfold OwnI
              simpa using hown2
            · exact Below.grown (HNI.out.alloc hzi _) hgrow2 (by simp; omega) (own_ge1 HOWN.out)
          case measure => simp [intOf]; omega
        · rw [if_neg hrm] at HK
          go_wp2_with fail
          refine HH.out.mono ?_
          rintro e w' ⟨rfl, rfl⟩
          go_wp2
          go_roundw
          case rel => exact ⟨k + 1, by omega, by go_num, by rw [HK.out]; exact HOWN.out, HNI.out⟩
          case measure => simp [intOf]; omega
      · rw [List.take_of_length_le (by rw [HL.out]; omega)] at hown
        obtain ⟨A', c', rfl, his, _⟩ := hown.is_
        have HRO2 := Lib.hid (HRO.out.below hni)
        have HB2 := Lib.hid (kon3 HNX.out hni)
        have HROW := Lib.hid (own_mono1 hown hz)
        obtain ⟨nr, hnr⟩ : ∃ nr, (rowL l r).length = nr := ⟨_, rfl⟩
        have hnrl : nr ≤ 1000 := by rw [← hnr]; have := rowL_len l r; have := HL.out; omega
        have HNR := Lib.hid hnr
        rw [hnr] at HROW ⊢
        have hzi := hni.size
        clear his hni hown hnr
        by_cases h0 : nr = 0
        · subst h0
          have HHI : Hid (hiR l = ts.length) := by
            show hiR l = ts.length
            rw [HR.out]
            rcases Nat.lt_or_ge r (hiR l) with h1 | h1
            · exact absurd (List.eq_nil_of_length_eq_zero HNR.out) (hiR_some l r h1)
            · have := HTS.out; omega
          go_wp2
          go_ret
          obtain ⟨A2, m2, c2, rfl, hri⟩ := HRO2.out.ri HHI.out
          exact ⟨A2, m2, c2, rfl, hri, HB2.out⟩
        · have HNE : Hid (rowL l r ≠ []) := by intro e; rw [e] at HNR; exact h0 HNR.out.symm
          have h0' : ((nr : Int) == 0) = false := by simp; omega
          go_wp2_with (first
            | (at_builtin
               refine wpList_append_own_at _ rfl (.tmp 29) (.tmp 31) 23 rfl w.heap.size 22 i1 _ 1 24 Tryd.underlying23 RI_.out RZ0.out RZ1.out RZ2.out rfl (by omega) _ ts.length (ts.map slV) rfl (own_below HRO2.out.own ((Below.refl _ _).alloc (Nat.le_refl _) _)) ⟨_, 0, none⟩ 1 1 [slV (A', nr, c')] rfl rfl (cell_one_new _ _ _) (one_slV [(A', nr, c')]) (by have := HR.out; unfold maxLen; omega) (by have := HR.out; omega) (by simp; omega) ?_
               intro v2 w2 hown2 hgrow2 _ hat2)
            | fail)
          go_roundw
          case rel =>
            refine ⟨ts ++ [(A', nr, c')], ?_, ?_, ?_, ?_⟩
            · rw [List.length_append, List.length_singleton, HR.out]
              rcases Nat.lt_or_ge r (hiR l) with h1 | h1
              · exact h1
              · exact absurd (hiR_none l r h1) HNE.out
            · rw [List.length_append, List.length_singleton, HR.out]
              go_num
            · refine Ro.append (HRO2.out.below ((Below.refl _ _).alloc (Nat.le_refl _) _)) (t := (A', nr, c')) ?_ (by simpa using hown2) hgrow2
              rw [HR.out]
              unfold OwnI
              rw [HNR.out]
              exact own_below HROW.out ((Below.refl _ _).alloc (Nat.le_refl _) _)
            · exact Below.grown (HB2.out.alloc HB2.out.size _) hgrow2 (by simp; omega) (own_ge1 HRO2.out.own)
          case measure => simp [intOf]; omega
end Go.Proofs.YtoebnfogkmkomaaDoor
