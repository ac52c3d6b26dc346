/-
  package goat: a tree's build, come, leave.
-/
import Derived.Test.YtolgncaaffmmnaaDoorOWout
import Derived.Test.YtolgncaaffmmnaaDoorKPureAll
import Derived.Test.YtolgncaaffmmnaaDoorOStand
import Derived.Test.YtolgncaaffmmnaaDoorAnsAll
import Derived.Test.YtolgncaaffmmnaaDoorOMaps
import Derived.Test.YtolgncaaffmmnaaDoorGRefS
import Derived.Deep.RegionHeld3
namespace Go.Proofs.YtolgncaaffmmnaaDoor
open Go.RowKit

/-- the tree's own block -/
def TB (w : World) (T : Nat) (v : Value) (m b : Nat) : Prop := w.heap[T]? = some (.cells #[v, I m, I b] 70 (0, 0))
theorem TB.lt {w : World} {T : Nat} {v : Value} {m b : Nat} (h : TB w T v m b) : T < w.heap.size := (Array.getElem?_eq_some_iff.1 h).1
theorem TB.cells {w : World} {T : Nat} {v : Value} {m b : Nat} (h : TB w T v m b) : w.cell? ⟨T, 0, none⟩ = some v ∧ w.cell? ⟨T, 1, none⟩ = some (I m) ∧ w.cell? ⟨T, 2, none⟩ = some (I b) := by
  have h' : w.heap[T]? = _ := h
  refine ⟨?_, ?_, ?_⟩ <;> simp [World.cell?, h']
theorem TB.frozen {w : World} {T : Nat} {v : Value} {m b : Nat} (h : TB w T v m b) (i : Nat) : w.frozen? ⟨T, i, none⟩ = false := by
  have h' : w.heap[T]? = _ := h
  simp [World.frozen?, h']
theorem TB.below {w w' : World} {T B : Nat} {v : Value} {m b : Nat} (h : TB w T v m b) (hb : Below B w w') (hB : T < B) : TB w' T v m b := (hb.block T hB).trans h
theorem TB.set0 {w : World} {T : Nat} {v : Value} {m b : Nat} (h : TB w T v m b) (u : Value) : TB (w.setCell ⟨T, 0, none⟩ u) T u m b := by
  have := cells_set (cs := [v, I m, I b]) h 0 u
  simpa [TB] using this
theorem TB.set1 {w : World} {T : Nat} {v : Value} {m b : Nat} (h : TB w T v m b) (u : Nat) : TB (w.setCell ⟨T, 1, none⟩ (I u)) T v u b := by
  have := cells_set (cs := [v, I m, I b]) h 1 (I u)
  simpa [TB] using this
theorem TB.set2 {w : World} {T : Nat} {v : Value} {m b : Nat} (h : TB w T v m b) (u : Nat) : TB (w.setCell ⟨T, 2, none⟩ (I u)) T v m u := by
  have := cells_set (cs := [v, I m, I b]) h 2 (I u)
  simpa [TB] using this
/-- the tree in memory -/
def GT (w : World) (T : Nat) (s : GS) : Prop := ∃ v, TB w T v s.most s.built ∧ OwnR w (T + 1) 65 v (s.t.sp 0)
theorem ownR_far {w : World} {B t : Nat} {v : Value} {L : PL} (h : OwnR w B t v L) {p : Addr} (hp : p.block < B) (u : Value) : OwnR (w.setCell p u) B t v L := ownsRow_setCell_below h hp u
def RetG (T : Nat) (s : GS) (w : World) (e : Ending) (w' : World) : Prop := e = .returned (.tuple #[]) ∧ GT w' T s ∧ Below T w w'

set_option maxRecDepth 100000 in
set_option maxHeartbeats 2000000 in
theorem obuild_nil (T : Nat) (A : Option Addr) (c : Nat) (v : Value) (m b : Nat) (d : Int) (w : World) (h : TB w T v m b) (hb : b ≤ 1000000) :
    Calls Tryd.prog 50 #[.pointer (some ⟨T, 0, none⟩), .slice A 0 c, I d] w fun e w' => e = .returned (.tuple #[]) ∧ TB w' T v m b ∧ (∀ g, g ≠ T → w'.heap[g]? = w.heap[g]?) ∧ Below T w w' := by
  have HS := Lib.hid (ostand_nil A c d w)
  obtain ⟨h0, h1, h2⟩ := h.cells
  have hfz := h.frozen 2
  have HSET := Lib.hid (h.set2 b)
  have hlt := h.lt
  clear h h0 h1
  go_enter Tryd.func50, Tryd.ntmps50
  go_wp2_with fail
  refine HS.out.mono ?_
  rintro e w1 ⟨rfl, rfl⟩
  go_wp2
  go_end0
  refine ⟨rfl, HSET.out, fun g hg => Below.heap_setCell _ _ _ g hg, (Below.refl _ _).setCell (B := T) (p := ⟨T, 2, none⟩) (Nat.le_refl _) _⟩

set_option maxRecDepth 100000 in
set_option maxHeartbeats 2000000 in
theorem obuild_any (T g x n c cap : Nat) (v : Value) (m b : Nat) (pre mid post : PL) (d : Int) (w : World) (h : TB w T v m b) (hx : pre.length = x) (hn : mid.length = n) (hr : RB w g 65 cap (pre ++ mid ++ post)) (hTg : T < g) (hc : n ≤ c) (hxn : x + n ≤ 1000) (hd : 0 ≤ d) (hd2 : d + n ≤ 1000) (hb : b ≤ 1000000) :
    Calls Tryd.prog 50 #[.pointer (some ⟨T, 0, none⟩), .slice (some ⟨g, x * 2, none⟩) n c, I d] w fun e w' => e = .returned (.tuple #[]) ∧ TB w' T v m (b + n) ∧ RB w' g 65 cap (pre ++ (ev (kys mid)).sp d ++ post) ∧ Below T w w' := by
  have HS := Lib.hid (ostand_any cap n g x n c pre mid post d w (Nat.le_refl _) hx hn hr hc hxn hd hd2)
  have H := Lib.hid h
  clear h hr hx hn
  go_enter Tryd.func50, Tryd.ntmps50
  go_wp2_with fail
  refine HS.out.mono ?_
  rintro e w1 ⟨rfl, hr1, hb1⟩
  have h1 := H.out.below hb1 hTg
  obtain ⟨_, _, hc2⟩ := h1.cells
  have hfz := h1.frozen 2
  have hlt := h1.lt
  have HSET := Lib.hid (h1.set2 (b + n))
  have HR := Lib.hid (hr1.far (p := ⟨T, 2, none⟩) (by show T ≠ g; omega) (I ((b + n : Nat) : Int)))
  have HB : Hid (Below T w (w1.setCell ⟨T, 2, none⟩ (I ((b + n : Nat) : Int)))) := (hb1.mono (Nat.le_of_lt hTg)).setCell (B := T) (p := ⟨T, 2, none⟩) (Nat.le_refl _) _
  have hcast : ((b + n : Nat) : Int) = (b : Int) + (n : Int) := by omega
  rw [hcast] at HSET HR HB
  clear hb1 hr1 h1 hcast
  go_wp2
  go_end0
  exact ⟨rfl, HSET.out, HR.out, HB.out⟩

theorem odepth_all (A : Option Addr) (n c p : Nat) (l : PL) (w : World) (h : PS w A n c l) (hn : n ≤ 1000) (hp : p ≤ n) (hd : ∀ i, 0 ≤ dp l i ∧ dp l i ≤ 1000) :
    Calls Tryd.prog 48 #[.slice A n c, I p] w fun e w' => e = .returned (I (dAt l p)) ∧ Below w.heap.size w w' := by
  rcases Nat.eq_zero_or_pos n with h0 | h0
  · subst h0
    obtain rfl : p = 0 := by omega
    have hl : l = [] := List.eq_nil_of_length_eq_zero h.len
    subst hl
    refine (odepth_nil A c w).mono ?_
    rintro e w' ⟨rfl, rfl⟩
    exact ⟨rfl, Below.refl _ _⟩
  · exact odepth_any A n c p l w h hn h0 hp hd

theorem tree_dp2 {t : Tr} (hs : t.size ≤ 200) : ∀ i, 0 ≤ dp (t.sp 0) i ∧ dp (t.sp 0) i ≤ 1000 := by
  intro i
  rcases Nat.lt_or_ge i t.size with hi | hi
  · have a := sp_ge t 0 i hi
    have b := dp_sp_lt t 0 i hi
    omega
  · have : dp (t.sp 0) i = 0 := by simp [dp, List.getElem?_eq_none (by rw [sp_length]; exact hi : (t.sp 0).length ≤ i)]
    omega
theorem okys_sp (t : Tr) (d : Int) : kys (t.sp d) = t.ks := sp_ks t d
/-- where a new key comes -/
theorem ins_place {t : Tr} {x : Int} (hu : Up t.ks) (hx : x ∉ t.ks) : ∃ p, p ≤ t.size ∧ (∀ i, i < p → ky (t.sp 0) i < x) ∧ (p < t.size → ¬ ky (t.sp 0) p < x) ∧ dAt (t.sp 0) p = ((t.ins x).dpx x : Int) ∧ insP (t.sp 0) p x ((t.ins x).dpx x : Int) = (t.ins x).sp 0 ∧ ky ((t.ins x).sp 0) p = x := by
  obtain ⟨l1, l2, e1, e2, e3, e4, e5⟩ := ins_spots hu hx 0
  have hsz : l1.length + l2.length = t.size := by rw [← List.length_append, ← e1, sp_length]
  rw [Int.zero_add] at e2 e5
  refine ⟨l1.length, by omega, fun i hi => ?_, fun hp => ?_, ?_, ?_, ?_⟩
  · rw [e1, ky_left hi, ky_in hi]
    exact e3 _ (List.getElem_mem _)
  · have h2 : 0 < l2.length := by omega
    rw [e1, ky_right (Nat.le_refl _), Nat.sub_self, ky_in h2]
    have := e4 _ (List.getElem_mem h2)
    omega
  · rw [e1, dAt_app, ← e5]
  · rw [e2, e1]
    unfold insP
    rw [List.take_left, List.drop_left]
  · rw [e2]
    exact ky_mid l1 l2 _

set_option maxRecDepth 100000 in
set_option maxHeartbeats 8000000 in
theorem come_any (T : Nat) (s : GS) (x : Int) (w : World) (h : GT w T s) (hu : Up s.t.ks) (hx : x ∉ s.t.ks) (hsz : s.t.size + 1 ≤ 200) (hm : s.most ≤ 200) (hbl : s.built ≤ 900000) :
    Calls Tryd.prog 31 #[.pointer (some ⟨T, 0, none⟩), I x] w (RetG T (goP s x) w) := by
  obtain ⟨v, hv, ho⟩ := h
  obtain ⟨n, hn⟩ : ∃ n, s.t.size = n := ⟨_, rfl⟩
  obtain ⟨A, c, rfl, ho', hps⟩ := ownR_told ho (show (s.t.sp 0).length = n by rw [sp_length, hn])
  obtain ⟨p, hp, hlo, hhi, hdA, hins, hky⟩ := ins_place hu hx
  rw [hn] at hp hhi hsz
  have HPL := Lib.hid (oplace_any A n c p (s.t.sp 0) x w hps (by omega) hp hlo hhi)
  have HDP := Lib.hid (odepth_all A n c p (s.t.sp 0) w hps (by omega) hp (tree_dp2 (by omega)))
  rw [hdA] at HDP
  have hu2 := up_ins (x := x) hu
  have hx2 : x ∈ (s.t.ins x).ks := mem_ins.2 (.inl rfl)
  have hn2 : (s.t.ins x).size = n + 1 := by rw [size_ins hx, hn]
  have hIT := istree_of hu2 (by rw [hn2]; omega)
  obtain ⟨mc, hclm⟩ := climb_all hu2 hx2 (p := p) (by rw [hn2]; omega) hky
  have HGO := Lib.hid (show goP s x = _ by unfold goP; rfl)
  rw [hn2] at HGO
  obtain ⟨dd, hdd⟩ : ∃ dd, (s.t.ins x).dpx x = dd := ⟨_, rfl⟩
  have hdb : dd ≤ 1000 := by
    have h1 := dpx_ins hx
    have h2 : s.t.tall ≤ s.t.size := by
      have : ∀ t : Tr, t.tall ≤ t.size := fun t => by
        induction t with
        | nil => exact Nat.le_refl _
        | node a k b iha ihb => simp only [Tr.tall, Tr.size]; omega
      exact this _
    omega
  rw [hdd] at HDP hins HGO
  obtain ⟨M, hM⟩ : ∃ M, max s.most (n + 1) = M := ⟨_, rfl⟩
  have hM2 : M ≤ 200 := by omega
  have hmx : (if (s.most : Int) < (n : Int) + 1 then (n : Int) + 1 else (s.most : Int)) = (M : Int) := by split <;> omega
  rw [hM] at HGO
  have HDE := Lib.hid (fun w' => odeepest_any M w' hM2)
  have HINS := Lib.hid hins
  have HO := Lib.hid ho'
  have HV := Lib.hid hv
  have hlt := hv.lt
  obtain ⟨cv0, cv1, cv2⟩ := hv.cells
  have HIT := Lib.hid hIT
  have HCLM := Lib.hid hclm
  have HN2 := Lib.hid hn2
  have HPS := Lib.hid hps
  clear ho ho' hps hv hlo hhi hdA hins hky hu2 hx2 hIT hclm hdd hM hn2 hu hx
  go_enter Tryd.func31, Tryd.ntmps31
  go_wp2_with fail
  refine HPL.out.mono ?_
  rintro e w0 ⟨rfl, hw0⟩
  subst hw0
  clear HPL
  go_wp2_with fail
  refine HDP.out.mono ?_
  rintro e w1 ⟨rfl, hb1⟩
  have hv1 := HV.out.below hb1 hlt
  obtain ⟨d0, d1, d2⟩ := hv1.cells
  have hlt1 := hv1.lt
  have HV1 := Lib.hid hv1
  have HO1 := Lib.hid (ownR_below HO.out hb1)
  have HB1 : Hid (Below T w0 w1) := hb1.mono (Nat.le_of_lt hlt)
  clear hb1 hv1 HDP cv0 cv1 cv2 HV
  have HI : Hid (Calls Tryd.prog 49 #[.slice A n c, I p, .slice (some ⟨w1.heap.size, 0, none⟩) 1 1] (w1.alloc (.cells #[I x, I dd] 65)) (RetIns ((s.t.ins x).sp 0) (T + 1) (w1.alloc (.cells #[I x, I dd] 65)))) := by
    have := oins_any (T + 1) n w1.heap.size A c p (s.t.sp 0) x dd (w1.alloc (.cells #[I x, I dd] 65)) (ownR_below HO1.out ((Below.refl _ _).alloc (Nat.le_refl _) _)) HPS.out.len (by omega) hp (heap_alloc_new w1 _) (fun ad e => by
      have := ownR_lt HO1.out ad.block (by rw [e]; rfl)
      omega) (by simp; omega)
    rw [HINS.out] at this
    exact this
  have HBA : Hid (Below T w0 (w1.alloc (.cells #[I x, I dd] 65))) := HB1.out.alloc (by omega) _
  have HVA : Hid (TB (w1.alloc (.cells #[I x, I dd] 65)) T (.slice A n c) s.most s.built) := HV1.out.below ((Below.refl _ _).alloc (Nat.le_refl _) _) hlt1
  go_wp2_with fail
  refine HI.out.mono ?_
  rintro e w3 ⟨v3, rfl, ho3, hb3⟩
  obtain ⟨A3, c3, rfl, ho3', hps3⟩ := ownR_told ho3 (show ((s.t.ins x).sp 0).length = n + 1 by rw [sp_length]; exact HN2.out)
  have hv3 := HVA.out.below hb3 (Nat.lt_succ_self T)
  obtain ⟨f0, f1, f2⟩ := hv3.cells
  have hfz0 := hv3.frozen 0
  have HV4 := Lib.hid (hv3.set0 (.slice A3 (n + 1) c3))
  have HO4 := Lib.hid (ownR_far ho3' (p := ⟨T, 0, none⟩) (Nat.lt_succ_self T) (.slice A3 (n + 1) c3))
  have HB4 : Hid (Below T w0 (w3.setCell ⟨T, 0, none⟩ (.slice A3 (n + 1) c3))) := (HBA.out.trans (hb3.mono (Nat.le_succ T))).setCell (B := T) (p := ⟨T, 0, none⟩) (Nat.le_refl _) _
  clear ho3 ho3' hps3 hb3 hv3 HI HVA HBA HB1 HO1 HV1 HO HPS f1 f2 d0 d1 d2
  go_wp2
  clear f0 hfz0
  obtain ⟨w4, hw4⟩ : ∃ W, w3.setCell ⟨T, 0, none⟩ (.slice A3 (n + 1) c3) = W := ⟨_, rfl⟩
  rw [hw4] at HV4 HO4 HB4 ⊢
  clear hw4
  obtain ⟨g0, g1, g2⟩ := HV4.out.cells
  have gz1 := HV4.out.frozen 1
  have hlt4 := HV4.out.lt
  have HV5 : Hid (TB (w4.setCell ⟨T, 1, none⟩ (I M)).drew T (.slice A3 (n + 1) c3) M s.built) := TB.set1 HV4.out M
  have HO5 : Hid (OwnR (w4.setCell ⟨T, 1, none⟩ (I M)).drew (T + 1) 65 (.slice A3 (n + 1) c3) ((s.t.ins x).sp 0)) := ownR_below (ownR_far HO4.out (p := ⟨T, 1, none⟩) (Nat.lt_succ_self T) _) (Below.refl _ _).drew
  have HB5 : Hid (Below T w0 (w4.setCell ⟨T, 1, none⟩ (I M)).drew) := (HB4.out.setCell (B := T) (p := ⟨T, 1, none⟩) (Nat.le_refl _) _).drew
  go_region
  obtain ⟨w5, hw5⟩ : ∃ W, (w4.setCell ⟨T, 1, none⟩ (I M)).drew = W := ⟨_, rfl⟩
  rw [hw5] at HV5 HO5 HB5 ⊢
  clear hw5 HV4 HO4 HB4 g0 g1 g2 gz1 hlt4
  rcases OwnR.rb HO5.out with ⟨e0, _⟩ | ⟨g, cap, e0, hg, hcm, hrb⟩
  · cases e0
  rw [sp_length, HN2.out] at e0
  cases e0
  obtain ⟨g0, g1, g2⟩ := HV5.out.cells
  have hlt5 := HV5.out.lt
  have hrps := hrb.ps
  rw [sp_length, HN2.out] at hrps
  have HRPS := Lib.hid hrps
  have HRB := Lib.hid hrb
  have hcap := hrps.rd.1
  clear hrps hrb HINS
  obtain ⟨D, hD⟩ : ∃ D, dpst M = D := ⟨_, rfl⟩
  rw [hD] at HGO HDE
  clear hD hmx
  by_cases hcmp : D < dd
  · rw [if_pos hcmp] at HGO
    cases hr : (s.t.ins x).reb x with
    | none =>
      rw [hr] at HGO HCLM
      have HLOP := Lib.hid (olop_any g (n + 1) c3 p mc ((s.t.ins x).sp 0) none w5 HRPS.out HIT.out (by omega) HCLM.out)
      have hcmp' : (D : Int) < (dd : Int) := by omega
      clear hcmp hr HCLM
      go_wp2_with fail
      refine (HDE.out w5).mono ?_
      rintro e w6 ⟨rfl, hw6⟩
      subst hw6
      go_wp2_with fail
      refine HLOP.out.mono ?_
      rintro e w7 ⟨rfl, hb7⟩
      have HB7 : Hid (Below T w0 w7) := HB5.out.trans (hb7.mono (Nat.le_of_lt hlt5))
      have hv7 := HV5.out.below hb7 hlt5
      have HV7 := Lib.hid hv7
      have HO7 := Lib.hid (ownR_below HO5.out hb7)
      have HBU := Lib.hid (obuild_nil T none 0 (.slice (some ⟨g, 0, none⟩) (n + 1) c3) M s.built 0 w7 hv7 (by omega))
      clear hb7 hv7 HLOP HDE g0 g1 g2
      unfold lopV
      go_wp2_with fail
      refine HBU.out.mono ?_
      rintro e w8 ⟨rfl, hv8, hh8, hb8⟩
      have HB8 := Lib.hid (HB7.out.trans hb8)
      have HG8 : Hid (GT w8 T (goP s x)) := by
        show GT _ _ _
        rw [HGO.out]
        refine ⟨_, hv8, HO7.out.1, ?_⟩
        rcases HO7.out.2 with h | ⟨g', cap', cur', k1, k2, k3, k4⟩
        · exact .inl h
        · exact .inr ⟨g', cap', cur', k1, k2, (hh8 g' (by omega)).trans k3, k4⟩
      clear hv8 hh8 hb8
      go_wp2
      go_end0
      exact ⟨rfl, HG8.out, HB8.out⟩
    | some q =>
      rw [hr] at HGO HCLM
      obtain ⟨u, e, p1, q1, z1, z2, z3, z4, z5, z6⟩ := HCLM.out
      have hlop := olop_any g (n + 1) c3 p mc ((s.t.ins x).sp 0) _ w5 HRPS.out HIT.out (by omega) z6
      unfold lopV at hlop
      simp only [Nat.add_sub_cancel_left] at hlop
      have hz : p1.length + (u.size + q1.length) = n + 1 := by
        have := sp_length (s.t.ins x) 0
        rw [z3, HN2.out] at this
        simp [sp_length] at this
        omega
      have he0 := z1.ge
      have he1 := ctx_le z1
      obtain ⟨y, hy⟩ : ∃ y, p1.length = y := ⟨_, rfl⟩
      obtain ⟨z, hzz⟩ : ∃ z, u.size = z := ⟨_, rfl⟩
      have HBU := Lib.hid (fun w' (hv' : TB w' T (.slice (some ⟨g, 0, none⟩) (n + 1) c3) M s.built) (hr' : RB w' g 65 c3 (p1 ++ u.sp e ++ q1)) => obuild_any T g y z (c3 - y) c3 (.slice (some ⟨g, 0, none⟩) (n + 1) c3) M s.built p1 (u.sp e) q1 e w' hv' hy (by rw [sp_length, hzz]) hr' (by omega) (by omega) (by omega) he0 (by omega) (by omega))
      rw [okys_sp, ← z4] at HBU
      rw [← z3] at HBU
      rw [hy, hzz] at hlop
      have HLOP := Lib.hid hlop
      have hcmp' : (D : Int) < (dd : Int) := by omega
      have HZ5 := Lib.hid (z5.trans hzz)
      have HLN : Hid ((q.1.sp 0).length = n + 1) := by
        show _ = _
        rw [z4]
        simp [sp_length, ev_size, ks_length]
        omega
      clear hcmp hr HCLM z1 z2 z3 z4 z5 z6 hlop hy hzz hz he0 he1
      go_wp2_with fail
      refine (HDE.out w5).mono ?_
      rintro e' w6 ⟨rfl, hw6⟩
      subst hw6
      go_wp2_with fail
      refine HLOP.out.mono ?_
      rintro e' w7 ⟨rfl, hb7⟩
      have HB7 : Hid (Below T w0 w7) := HB5.out.trans (hb7.mono (Nat.le_of_lt hlt5))
      have HBU7 := Lib.hid (HBU.out w7 (HV5.out.below hb7 hlt5) (HRB.out.below hb7 HRB.out.lt))
      clear hb7 HLOP HDE HBU g0 g1 g2
      go_wp2_with fail
      refine HBU7.out.mono ?_
      rintro e' w8 ⟨rfl, hv8, hr8, hb8⟩
      have HB8 := Lib.hid (HB7.out.trans hb8)
      have HG8 : Hid (GT w8 T (goP s x)) := by
        show GT _ _ _
        rw [HGO.out]
        refine ⟨_, by show TB w8 T _ M (s.built + q.2); rw [HZ5.out]; exact hv8, ?_⟩
        have := hr8.own (base := T + 1) hg hcm
        rw [HLN.out] at this
        exact this
      clear hv8 hr8 hb8
      go_wp2
      go_end0
      exact ⟨rfl, HG8.out, HB8.out⟩
  · rw [if_neg hcmp] at HGO
    have hcmp' : ¬ (D : Int) < (dd : Int) := by omega
    clear hcmp
    have HG8 : Hid (GT w5 T (goP s x)) := by
      show GT _ _ _
      rw [HGO.out]
      exact ⟨_, HV5.out, HO5.out⟩
    go_wp2_with fail
    refine (HDE.out w5).mono ?_
    rintro e w6 ⟨rfl, hw6⟩
    subst hw6
    go_wp2
    go_end0
    exact ⟨rfl, HG8.out, HB5.out⟩

end Go.Proofs.YtolgncaaffmmnaaDoor
