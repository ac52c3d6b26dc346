/-
  Joined texts: YtjnkfpagaajfeaaDoorKPathF, YtjnkfpagaajfeaaDoorEqT.
-/
import Derived.Test.YtjnkfpagaajfeaaDoorKWalk
import Derived.Test.YtjnkfpagaajfeaaDoorEqAns
import Derived.Test.YtjnkfpagaajfeaaDoorKLiftAll
/-
  skip.Path.
-/
namespace Go.Proofs.YtjnkfpagaajfeaaDoor
open Go.RowKit

theorem own_ps {w : World} {base t n c : Nat} {A : Option Addr} {p : PL} (h : w.ownsRow base t 2 (.slice A n c) p.length (flat p)) : PS w A p.length c p := by
  rcases h.2 with ⟨e, h0⟩ | ⟨g, cap, cur, e, hb, hg, hnc, _, hsz, htk⟩
  · have hp : p = [] := List.eq_nil_of_length_eq_zero h0
    subst hp
    exact ⟨rfl, Rd.none_⟩
  · injection e with e1 e2 e3
    subst e1 e2 e3
    have hlt : g < w.heap.size := by
      rcases Nat.lt_or_ge g w.heap.size with hlt | hge
      · exact hlt
      · rw [Array.getElem?_eq_none hge] at hg; cases hg
    refine ⟨rfl, hnc, fun _ => ⟨g, 0, rfl, hlt, fun i hi j hj => ?_⟩⟩
    rw [cell_of_row _ _ _ _ _ _ hg]
    obtain ⟨h0, h1⟩ := flat_at p i hi
    have hcur : cur.toList[0 + (i * 2 + j)]? = (flat p)[i * 2 + j]? := by
      rw [← htk, List.getElem?_take, if_pos (by omega), Nat.zero_add]
    have : cur[0 + (i * 2 + j)]? = (flat p)[i * 2 + j]? := by simpa using hcur
    rw [this]
    rcases (show j = 0 ∨ j = 1 by omega) with rfl | rfl
    · simpa [pf, List.getElem?_eq_getElem hi] using h0
    · simpa [pf, List.getElem?_eq_getElem hi] using h1

set_option maxHeartbeats 1000000 in
theorem Path_bad (A : Option Addr) (n c : Nat) (l : List Int) (key : Int) (w : World) (h : IS w A n c l) (hn : n ≤ 9223372036854775807) (E : Int) (hE : chkK l = E) (hE0 : E ≠ 0) :
    Calls Tryd.prog 22 #[.slice A n c, I key] w fun e w' => e = .returned (.tuple #[.slice none 0 0, I E]) ∧ Below w.heap.size w w' := by
  have HC := Lib.hid (checkS_any A n c l w h hn)
  have hne := err_ne hE0
  rw [hE] at HC
  clear h hE
  go_enter Tryd.func22, Tryd.ntmps22
  go_wp2_with fail
  refine HC.out.mono ?_
  rintro e w1 ⟨rfl, hb1⟩
  have HB1 := Lib.hid hb1
  clear hb1
  go_wp2
  go_ret2
  exact ⟨rfl, HB1.out⟩
set_option maxHeartbeats 1000000 in
theorem Path_arg (A : Option Addr) (n c : Nat) (l : List Int) (key : Int) (w : World) (h : IS w A n c l) (hR : Rise l) (hk : kyB key = false) :
    Calls Tryd.prog 22 #[.slice A n c, I key] w fun e w' => e = .returned (.tuple #[.slice none 0 0, I 1]) ∧ Below w.heap.size w w' := by
  have hn : n ≤ 200 := by rw [← h.len]; exact hR.len
  have HC := Lib.hid (checkS_any A n c l w h (by omega))
  rw [chkK_zero.2 hR] at HC
  have HK := Lib.hid hk
  clear h hR hk
  go_enter Tryd.func22, Tryd.ntmps22
  go_wp2_with fail
  refine HC.out.mono ?_
  rintro e w1 ⟨rfl, hb1⟩
  have HB1 := Lib.hid hb1
  clear hb1
  go_wp2_with (go_at_call 42; refine (isKeyS_is _ _ _ HK.out).mono ?_; rintro e w' ⟨rfl, rfl⟩)
  go_ret2
  exact ⟨rfl, HB1.out⟩
/-- stops in new memory, and no error -/
def RetStops (p : PL) (w : World) (e : Ending) (w' : World) : Prop := ∃ A c, e = .returned (.tuple #[.slice A p.length c, I 0]) ∧ PS w' A p.length c p ∧ Below w.heap.size w w'
set_option maxRecDepth 100000 in
set_option maxHeartbeats 2000000 in
theorem Path_ok (A : Option Addr) (n c : Nat) (l : List Int) (key : Int) (w : World) (h : IS w A n c l) (hR : Rise l) (hk : kyB key = true) (hT : Tb w) :
    Calls Tryd.prog 22 #[.slice A n c, I key] w (RetStops (stops l key) w) := by
  have hn : n ≤ 200 := by rw [← h.len]; exact hR.len
  have HC := Lib.hid (checkS_any A n c l w h (by omega))
  rw [chkK_zero.2 hR] at HC
  have HK := Lib.hid hk
  have H := Lib.hid h
  have HT := Lib.hid hT
  have HR := Lib.hid hR
  clear h hR hk hT
  go_enter Tryd.func22, Tryd.ntmps22
  go_wp2_with fail
  refine HC.out.mono ?_
  rintro e w1 ⟨rfl, hb1⟩
  have HB1 := Lib.hid hb1
  have HTO := Lib.hid (towerOf_any A n c l w1 (H.out.below hb1) (by omega) (HT.out.next hb1))
  clear hb1
  go_wp2_with (first | (go_at_call 42; refine (isKeyS_is _ _ _ HK.out).mono ?_; rintro e w' ⟨rfl, rfl⟩) | fail)
  refine HTO.out.mono ?_
  rintro e w2 ⟨vs, rfl, htw, hb2⟩
  obtain ⟨ts, hts, rfl⟩ := htw.slices
  obtain ⟨a0, a1, a2, a3, a4, a5, a6, a7, a8, a9, a10, a11, rfl⟩ := set12 ts hts
  have HTW := Lib.hid htw
  have HB2 := Lib.hid (HB1.out.trans (hb2.mono HB1.out.size))
  clear htw hb2 HTO
  simp only [List.map_cons, List.map_nil]
  go_wp2_with fail
  have htv : Tv (w2.alloc (.cells #[slV a0, slV a1, slV a2, slV a3, slV a4, slV a5, slV a6, slV a7, slV a8, slV a9, slV a10, slV a11] 87)) w2.heap.size [a0, a1, a2, a3, a4, a5, a6, a7, a8, a9, a10, a11] (rowL l) := tw_tv HTW.out ((Below.refl _ _).alloc (Nat.le_refl _) _) (heap_alloc_new _ _)
  have hb3 : Below w.heap.size w (w2.alloc (.cells #[slV a0, slV a1, slV a2, slV a3, slV a4, slV a5, slV a6, slV a7, slV a8, slV a9, slV a10, slV a11] 87)) := HB2.out.alloc HB2.out.size _
  have hsz : (w2.alloc (.cells #[slV a0, slV a1, slV a2, slV a3, slV a4, slV a5, slV a6, slV a7, slV a8, slV a9, slV a10, slV a11] 87)).heap.size = w2.heap.size + 1 := by simp
  generalize hw3 : w2.alloc _ = w3 at htv hb3 hsz ⊢
  generalize hg2 : w2.heap.size = g2 at htv hsz ⊢
  have hcall := walk_any g2 _ l key w3 (w3.alloc (.cells #[.slice none 0 0] 54)) htv HR.out ((Below.refl _ _).alloc (Nat.le_refl _) _) ⟨none, 0, heap_alloc_new _ _, World.ownsRow_nil _ _ _ _⟩
  have hbs : w.heap.size ≤ w3.heap.size := hb3.size
  rw [hsz] at hcall
  have HCALL := Lib.hid hcall
  have HB3 := Lib.hid hb3
  have HSZ := Lib.hid hsz
  clear htv hcall hw3 hg2 HTW hb3 hsz
  refine HCALL.out.mono ?_
  rintro e w4 ⟨rfl, hb4, A', c', hq, hown⟩
  have hcell4 : w4.cell? ⟨g2 + 1, 0, none⟩ = some (.slice A' (stops l key).length c') := by simp [World.cell?, hq]
  have HPS := Lib.hid (own_ps hown)
  have HB4 := Lib.hid (HB3.out.trans (hb4.mono (by have := HSZ.out; omega)))
  clear hb4 hq hown HCALL
  go_wp2
  go_ret2
  exact ⟨A', c', rfl, HPS.out, HB4.out⟩
end Go.Proofs.YtjnkfpagaajfeaaDoor

/-
  slices.Equal of lists that are the same.
-/
namespace Go.Proofs.YtjnkfpagaajfeaaDoor
open Go.RowKit

theorem eqAns_t (A A' : Option Addr) (n c c' : Nat) (l : List An) (w : World) (h : AS w A n c l) (h' : AS w A' n c' l) (hn : n ≤ 1000000) :
    Calls Tryd.prog 14 #[.slice A n c, .slice A' n c'] w fun e w' => e = .returned (.bool true) ∧ Below w.heap.size w w' := by
  refine (eqAns_any A A' n n c c' l l w h h' hn hn).mono ?_
  rintro e w' ⟨rfl, hb⟩
  exact ⟨by simp, hb⟩
theorem eqInt_t (A A' : Option Addr) (n c c' : Nat) (l : List Int) (w : World) (h : IS w A n c l) (h' : IS w A' n c' l) (hn : n ≤ 1000000) :
    Calls Tryd.prog 28 #[.slice A n c, .slice A' n c'] w fun e w' => e = .returned (.bool true) ∧ Below w.heap.size w w' := by
  refine (eqInt_any A A' n n c c' l l w h h' hn hn).mono ?_
  rintro e w' ⟨rfl, hb⟩
  exact ⟨by simp, hb⟩

end Go.Proofs.YtjnkfpagaajfeaaDoor
