/-
  Joined texts: YtpnjnedfcdppaaaGreatDoorOTree, YtpnjnedfcdppaaaGreatDoorOTree2, YtpnjnedfcdppaaaGreatDoorORun.
-/
import Derived.Test.YtpnjnedfcdppaaaGreatDoorOWoutAll
import Derived.Test.YtpnjnedfcdppaaaGreatDoorOStand
import Derived.Test.YtpnjnedfcdppaaaGreatDoorSChkAll
import Derived.Test.YtpnjnedfcdppaaaGreatDoorRanksAll
import Derived.Test.YtpnjnedfcdppaaaGreatDoorGRefUAll
import Derived.Deep.RegionHeld3
/-
  package goat: a tree's build, come, leave.
-/
namespace Go.Proofs.YtpnjnedfcdppaaaGreatDoor
open Go.RowKit

def OTB (w : World) (T : Nat) (v : Value) (m b : Nat) : Prop := w.heap[T]? = some (.cells #[v, I m, I b] 118 (0, 0))
theorem OTB.lt {w : World} {T : Nat} {v : Value} {m b : Nat} (h : OTB w T v m b) : T < w.heap.size := (Array.getElem?_eq_some_iff.1 h).1
theorem OTB.cells {w : World} {T : Nat} {v : Value} {m b : Nat} (h : OTB w T v m b) : w.cell? ⟨T, 0, none⟩ = some v ∧ w.cell? ⟨T, 1, none⟩ = some (I m) ∧ w.cell? ⟨T, 2, none⟩ = some (I b) := by
  have h' : w.heap[T]? = _ := h
  refine ⟨?_, ?_, ?_⟩ <;> simp [World.cell?, h']
theorem OTB.frozen {w : World} {T : Nat} {v : Value} {m b : Nat} (h : OTB w T v m b) (i : Nat) : w.frozen? ⟨T, i, none⟩ = false := by
  have h' : w.heap[T]? = _ := h
  simp [World.frozen?, h']
theorem OTB.below {w w' : World} {T B : Nat} {v : Value} {m b : Nat} (h : OTB w T v m b) (hb : Below B w w') (hB : T < B) : OTB w' T v m b := (hb.block T hB).trans h
theorem OTB.set0 {w : World} {T : Nat} {v : Value} {m b : Nat} (h : OTB w T v m b) (u : Value) : OTB (w.setCell ⟨T, 0, none⟩ u) T u m b := by
  have := cells_set (cs := [v, I m, I b]) h 0 u
  simpa [OTB] using this
theorem OTB.set1 {w : World} {T : Nat} {v : Value} {m b : Nat} (h : OTB w T v m b) (u : Nat) : OTB (w.setCell ⟨T, 1, none⟩ (I u)) T v u b := by
  have := cells_set (cs := [v, I m, I b]) h 1 (I u)
  simpa [OTB] using this
theorem OTB.set2 {w : World} {T : Nat} {v : Value} {m b : Nat} (h : OTB w T v m b) (u : Nat) : OTB (w.setCell ⟨T, 2, none⟩ (I u)) T v m u := by
  have := cells_set (cs := [v, I m, I b]) h 2 (I u)
  simpa [OTB] using this
def GT (w : World) (T : Nat) (s : GS) : Prop := ∃ v, OTB w T v s.most s.built ∧ OwnR w (T + 1) 82 v (s.t.sp 0)
theorem ownR_far {w : World} {B t : Nat} {v : Value} {L : PL} (h : OwnR w B t v L) {p : Addr} (hp : p.block < B) (u : Value) : OwnR (w.setCell p u) B t v L := ownsRow_setCell_below h hp u
def ORetG (T : Nat) (s : GS) (w : World) (e : Ending) (w' : World) : Prop := e = .returned (.tuple #[]) ∧ GT w' T s ∧ Below T w w'

set_option maxRecDepth 100000 in
set_option maxHeartbeats 2000000 in
theorem obuild_nil (T : Nat) (A : Option Addr) (c : Nat) (v : Value) (m b : Nat) (d : Int) (w : World) (h : OTB w T v m b) (hb : b ≤ 1000000) :
    Calls Tryz.prog 137 #[.pointer (some ⟨T, 0, none⟩), .slice A 0 c, I d] w fun e w' => e = .returned (.tuple #[]) ∧ OTB w' T v m b ∧ (∀ g, g ≠ T → w'.heap[g]? = w.heap[g]?) ∧ Below T w w' := by
  have HS := Lib.hid (ostand_nil A c d w)
  obtain ⟨h0, h1, h2⟩ := h.cells
  have hfz := h.frozen 2
  have HSET := Lib.hid (h.set2 b)
  have hlt := h.lt
  clear h h0 h1
  go_enter Tryz.func137, Tryz.ntmps137
  go_wp2_with fail
  refine HS.out.mono ?_
  rintro e w1 ⟨rfl, rfl⟩
  go_wp2
  go_end0
  refine ⟨rfl, HSET.out, fun g hg => Below.heap_setCell _ _ _ g hg, (Below.refl _ _).setCell (B := T) (p := ⟨T, 2, none⟩) (Nat.le_refl _) _⟩

set_option maxRecDepth 100000 in
set_option maxHeartbeats 2000000 in
theorem obuild_any (T g x n c cap : Nat) (v : Value) (m b : Nat) (pre mid post : PL) (d : Int) (w : World) (h : OTB w T v m b) (hx : pre.length = x) (hn : mid.length = n) (hr : RB w g 82 cap (pre ++ mid ++ post)) (hTg : T < g) (hc : n ≤ c) (hxn : x + n ≤ 1000) (hd : 0 ≤ d) (hd2 : d + n ≤ 1000) (hb : b ≤ 1000000) :
    Calls Tryz.prog 137 #[.pointer (some ⟨T, 0, none⟩), .slice (some ⟨g, x * 2, none⟩) n c, I d] w fun e w' => e = .returned (.tuple #[]) ∧ OTB w' T v m (b + n) ∧ RB w' g 82 cap (pre ++ (ev (kys mid)).sp d ++ post) ∧ Below T w w' := by
  have HS := Lib.hid (ostand_any cap n g x n c pre mid post d w (Nat.le_refl _) hx hn hr hc hxn hd hd2)
  have H := Lib.hid h
  clear h hr hx hn
  go_enter Tryz.func137, Tryz.ntmps137
  go_wp2_with fail
  refine HS.out.mono ?_
  rintro e w1 ⟨rfl, hr1, hb1⟩
  have h1 := H.out.below hb1 hTg
  obtain ⟨_, _, hc2⟩ := h1.cells
  have hfz := h1.frozen 2
  have hlt := h1.lt
  have HSET := Lib.hid (h1.set2 (b + n))
  have HR := Lib.hid (hr1.far (p := ⟨T, 2, none⟩) (by show T ≠ g; omega) (I ((b + n : Nat) : Int)))
  have HB : Hid (Below T w (w1.setCell ⟨T, 2, none⟩ (I ((b + n : Nat) : Int)))) := (hb1.mono (Nat.le_of_lt hTg)).setCell (B := T) (p := ⟨T, 2, none⟩) (Nat.le_refl _) _
  have hcast : ((b + n : Nat) : Int) = (b : Int) + (n : Int) := by omega
  rw [hcast] at HSET HR HB
  clear hb1 hr1 h1 hcast
  go_wp2
  go_end0
  exact ⟨rfl, HSET.out, HR.out, HB.out⟩

theorem odepth_all (A : Option Addr) (n c p : Nat) (l : PL) (w : World) (h : PS w A n c l) (hn : n ≤ 1000) (hp : p ≤ n) (hd : ∀ i, 0 ≤ dp l i ∧ dp l i ≤ 1000) :
    Calls Tryz.prog 134 #[.slice A n c, I p] w fun e w' => e = .returned (I (dAt l p)) ∧ Below w.heap.size w w' := by
  rcases Nat.eq_zero_or_pos n with h0 | h0
  · subst h0
    obtain rfl : p = 0 := by omega
    have hl : l = [] := List.eq_nil_of_length_eq_zero h.len
    subst hl
    refine (odepth_nil A c w).mono ?_
    rintro e w' ⟨rfl, rfl⟩
    exact ⟨rfl, Below.refl _ _⟩
  · exact odepth_any A n c p l w h hn h0 hp hd

theorem tree_dp2 {t : Tr} (hs : t.size ≤ 200) : ∀ i, 0 ≤ dp (t.sp 0) i ∧ dp (t.sp 0) i ≤ 1000 := by
  intro i
  rcases Nat.lt_or_ge i t.size with hi | hi
  · have a := sp_ge t 0 i hi
    have b := dp_sp_lt t 0 i hi
    omega
  · have : dp (t.sp 0) i = 0 := by simp [dp, List.getElem?_eq_none (by rw [sp_length]; exact hi : (t.sp 0).length ≤ i)]
    omega
theorem okys_sp (t : Tr) (d : Int) : kys (t.sp d) = t.ks := sp_ks t d
theorem ins_place {t : Tr} {x : Int} (hu : Up t.ks) (hx : x ∉ t.ks) : ∃ p, p ≤ t.size ∧ (∀ i, i < p → ky (t.sp 0) i < x) ∧ (p < t.size → ¬ ky (t.sp 0) p < x) ∧ dAt (t.sp 0) p = ((t.ins x).dpx x : Int) ∧ insP (t.sp 0) p x ((t.ins x).dpx x : Int) = (t.ins x).sp 0 ∧ ky ((t.ins x).sp 0) p = x := by
  obtain ⟨l1, l2, e1, e2, e3, e4, e5⟩ := ins_spots hu hx 0
  have hsz : l1.length + l2.length = t.size := by rw [← List.length_append, ← e1, sp_length]
  rw [Int.zero_add] at e2 e5
  refine ⟨l1.length, by omega, fun i hi => ?_, fun hp => ?_, ?_, ?_, ?_⟩
  · rw [e1, ky_left hi, ky_in hi]
    exact e3 _ (List.getElem_mem _)
  · have h2 : 0 < l2.length := by omega
    rw [e1, ky_right (Nat.le_refl _), Nat.sub_self, ky_in h2]
    have := e4 _ (List.getElem_mem h2)
    omega
  · rw [e1, dAt_app, ← e5]
  · rw [e2, e1]
    unfold insP
    rw [List.take_left, List.drop_left]
  · rw [e2]
    exact ky_mid l1 l2 _

set_option maxRecDepth 100000 in
set_option maxHeartbeats 8000000 in
theorem come_any (T : Nat) (s : GS) (x : Int) (w : World) (h : GT w T s) (hu : Up s.t.ks) (hx : x ∉ s.t.ks) (hsz : s.t.size + 1 ≤ 200) (hm : s.most ≤ 200) (hbl : s.built ≤ 900000) :
    Calls Tryz.prog 64 #[.pointer (some ⟨T, 0, none⟩), I x] w (ORetG T (goP s x) w) := by
  obtain ⟨v, hv, ho⟩ := h
  obtain ⟨n, hn⟩ : ∃ n, s.t.size = n := ⟨_, rfl⟩
  obtain ⟨A, c, rfl, ho', hps⟩ := ownR_told ho (show (s.t.sp 0).length = n by rw [sp_length, hn])
  obtain ⟨p, hp, hlo, hhi, hdA, hins, hky⟩ := ins_place hu hx
  rw [hn] at hp hhi hsz
  have HPL := Lib.hid (oplace_any A n c p (s.t.sp 0) x w hps (by omega) hp hlo hhi)
  have HDP := Lib.hid (odepth_all A n c p (s.t.sp 0) w hps (by omega) hp (tree_dp2 (by omega)))
  rw [hdA] at HDP
  have hu2 := up_ins (x := x) hu
  have hx2 : x ∈ (s.t.ins x).ks := mem_ins.2 (.inl rfl)
  have hn2 : (s.t.ins x).size = n + 1 := by rw [size_ins hx, hn]
  have hIT := istree_of hu2 (by rw [hn2]; omega)
  obtain ⟨mc, hclm⟩ := climb_all hu2 hx2 (p := p) (by rw [hn2]; omega) hky
  have HGO := Lib.hid (show goP s x = _ by unfold goP; rfl)
  rw [hn2] at HGO
  obtain ⟨dd, hdd⟩ : ∃ dd, (s.t.ins x).dpx x = dd := ⟨_, rfl⟩
  have hdb : dd ≤ 1000 := by
    have h1 := dpx_ins hx
    have h2 : s.t.tall ≤ s.t.size := by
      have : ∀ t : Tr, t.tall ≤ t.size := fun t => by
        induction t with
        | nil => exact Nat.le_refl _
        | node a k b iha ihb => simp only [Tr.tall, Tr.size]; omega
      exact this _
    omega
  rw [hdd] at HDP hins HGO
  obtain ⟨M, hM⟩ : ∃ M, max s.most (n + 1) = M := ⟨_, rfl⟩
  have hM2 : M ≤ 200 := by omega
  have hmx : (if (s.most : Int) < (n : Int) + 1 then (n : Int) + 1 else (s.most : Int)) = (M : Int) := by split <;> omega
  rw [hM] at HGO
  have HDE := Lib.hid (fun w' => odeepest_any M w' hM2)
  have HINS := Lib.hid hins
  have HO := Lib.hid ho'
  have HV := Lib.hid hv
  have hlt := hv.lt
  obtain ⟨cv0, cv1, cv2⟩ := hv.cells
  have HIT := Lib.hid hIT
  have HCLM := Lib.hid hclm
  have HN2 := Lib.hid hn2
  have HPS := Lib.hid hps
  clear ho ho' hps hv hlo hhi hdA hins hky hu2 hx2 hIT hclm hdd hM hn2 hu hx
  go_enter Tryz.func64, Tryz.ntmps64
  go_wp2_with fail
  refine HPL.out.mono ?_
  rintro e w0 ⟨rfl, hw0⟩
  subst hw0
  clear HPL
  go_wp2_with fail
  refine HDP.out.mono ?_
  rintro e w1 ⟨rfl, hb1⟩
  have hv1 := HV.out.below hb1 hlt
  obtain ⟨d0, d1, d2⟩ := hv1.cells
  have hlt1 := hv1.lt
  have HV1 := Lib.hid hv1
  have HO1 := Lib.hid (ownR_below HO.out hb1)
  have HB1 : Hid (Below T w0 w1) := hb1.mono (Nat.le_of_lt hlt)
  clear hb1 hv1 HDP cv0 cv1 cv2 HV
  have HI : Hid (Calls Tryz.prog 135 #[.slice A n c, I p, .slice (some ⟨w1.heap.size, 0, none⟩) 1 1] (w1.alloc (.cells #[I x, I dd] 82)) (RetIns ((s.t.ins x).sp 0) (T + 1) (w1.alloc (.cells #[I x, I dd] 82)))) := by
    have := oins_any (T + 1) n w1.heap.size A c p (s.t.sp 0) x dd (w1.alloc (.cells #[I x, I dd] 82)) (ownR_below HO1.out ((Below.refl _ _).alloc (Nat.le_refl _) _)) HPS.out.len (by omega) hp (heap_alloc_new w1 _) (fun ad e => by
      have := ownR_lt HO1.out ad.block (by rw [e]; rfl)
      omega) (by simp; omega)
    rw [HINS.out] at this
    exact this
  have HBA : Hid (Below T w0 (w1.alloc (.cells #[I x, I dd] 82))) := HB1.out.alloc (by omega) _
  have HVA : Hid (OTB (w1.alloc (.cells #[I x, I dd] 82)) T (.slice A n c) s.most s.built) := HV1.out.below ((Below.refl _ _).alloc (Nat.le_refl _) _) hlt1
  go_wp2_with fail
  refine HI.out.mono ?_
  rintro e w3 ⟨v3, rfl, ho3, hb3⟩
  obtain ⟨A3, c3, rfl, ho3', hps3⟩ := ownR_told ho3 (show ((s.t.ins x).sp 0).length = n + 1 by rw [sp_length]; exact HN2.out)
  have hv3 := HVA.out.below hb3 (Nat.lt_succ_self T)
  obtain ⟨f0, f1, f2⟩ := hv3.cells
  have hfz0 := hv3.frozen 0
  have HV4 := Lib.hid (hv3.set0 (.slice A3 (n + 1) c3))
  have HO4 := Lib.hid (ownR_far ho3' (p := ⟨T, 0, none⟩) (Nat.lt_succ_self T) (.slice A3 (n + 1) c3))
  have HB4 : Hid (Below T w0 (w3.setCell ⟨T, 0, none⟩ (.slice A3 (n + 1) c3))) := (HBA.out.trans (hb3.mono (Nat.le_succ T))).setCell (B := T) (p := ⟨T, 0, none⟩) (Nat.le_refl _) _
  clear ho3 ho3' hps3 hb3 hv3 HI HVA HBA HB1 HO1 HV1 HO HPS f1 f2 d0 d1 d2
  go_wp2
  clear f0 hfz0
  obtain ⟨w4, hw4⟩ : ∃ W, w3.setCell ⟨T, 0, none⟩ (.slice A3 (n + 1) c3) = W := ⟨_, rfl⟩
  rw [hw4] at HV4 HO4 HB4 ⊢
  clear hw4
  obtain ⟨g0, g1, g2⟩ := HV4.out.cells
  have gz1 := HV4.out.frozen 1
  have hlt4 := HV4.out.lt
  have HV5 : Hid (OTB (w4.setCell ⟨T, 1, none⟩ (I M)).drew T (.slice A3 (n + 1) c3) M s.built) := OTB.set1 HV4.out M
  have HO5 : Hid (OwnR (w4.setCell ⟨T, 1, none⟩ (I M)).drew (T + 1) 82 (.slice A3 (n + 1) c3) ((s.t.ins x).sp 0)) := ownR_below (ownR_far HO4.out (p := ⟨T, 1, none⟩) (Nat.lt_succ_self T) _) (Below.refl _ _).drew
  have HB5 : Hid (Below T w0 (w4.setCell ⟨T, 1, none⟩ (I M)).drew) := (HB4.out.setCell (B := T) (p := ⟨T, 1, none⟩) (Nat.le_refl _) _).drew
  go_region
  obtain ⟨w5, hw5⟩ : ∃ W, (w4.setCell ⟨T, 1, none⟩ (I M)).drew = W := ⟨_, rfl⟩
  rw [hw5] at HV5 HO5 HB5 ⊢
  clear hw5 HV4 HO4 HB4 g0 g1 g2 gz1 hlt4
  rcases OwnR.rb HO5.out with ⟨e0, _⟩ | ⟨g, cap, e0, hg, hcm, hrb⟩
  · cases e0
  rw [sp_length, HN2.out] at e0
  cases e0
  obtain ⟨g0, g1, g2⟩ := HV5.out.cells
  have hlt5 := HV5.out.lt
  have hrps := hrb.ps
  rw [sp_length, HN2.out] at hrps
  have HRPS := Lib.hid hrps
  have HRB := Lib.hid hrb
  have hcap := hrps.rd.1
  clear hrps hrb HINS
  obtain ⟨D, hD⟩ : ∃ D, dpst M = D := ⟨_, rfl⟩
  rw [hD] at HGO HDE
  clear hD hmx
  by_cases hcmp : D < dd
  · rw [if_pos hcmp] at HGO
    cases hr : (s.t.ins x).reb x with
    | none =>
      rw [hr] at HGO HCLM
      have HLOP := Lib.hid (olop_any g (n + 1) c3 p mc ((s.t.ins x).sp 0) none w5 HRPS.out HIT.out (by omega) HCLM.out)
      have hcmp' : (D : Int) < (dd : Int) := by omega
      clear hcmp hr HCLM
      go_wp2_with fail
      refine (HDE.out w5).mono ?_
      rintro e w6 ⟨rfl, hw6⟩
      subst hw6
      go_wp2_with fail
      refine HLOP.out.mono ?_
      rintro e w7 ⟨rfl, hb7⟩
      have HB7 : Hid (Below T w0 w7) := HB5.out.trans (hb7.mono (Nat.le_of_lt hlt5))
      have hv7 := HV5.out.below hb7 hlt5
      have HV7 := Lib.hid hv7
      have HO7 := Lib.hid (ownR_below HO5.out hb7)
      have HBU := Lib.hid (obuild_nil T none 0 (.slice (some ⟨g, 0, none⟩) (n + 1) c3) M s.built 0 w7 hv7 (by omega))
      clear hb7 hv7 HLOP HDE g0 g1 g2
      unfold lopV
      go_wp2_with fail
      refine HBU.out.mono ?_
      rintro e w8 ⟨rfl, hv8, hh8, hb8⟩
      have HB8 := Lib.hid (HB7.out.trans hb8)
      have HG8 : Hid (GT w8 T (goP s x)) := by
        show GT _ _ _
        rw [HGO.out]
        refine ⟨_, hv8, HO7.out.1, ?_⟩
        rcases HO7.out.2 with h | ⟨g', cap', cur', k1, k2, k3, k4⟩
        · exact .inl h
        · exact .inr ⟨g', cap', cur', k1, k2, (hh8 g' (by omega)).trans k3, k4⟩
      clear hv8 hh8 hb8
      go_wp2
      go_end0
      exact ⟨rfl, HG8.out, HB8.out⟩
    | some q =>
      rw [hr] at HGO HCLM
      obtain ⟨u, e, p1, q1, z1, z2, z3, z4, z5, z6⟩ := HCLM.out
      have hlop := olop_any g (n + 1) c3 p mc ((s.t.ins x).sp 0) _ w5 HRPS.out HIT.out (by omega) z6
      unfold lopV at hlop
      simp only [Nat.add_sub_cancel_left] at hlop
      have hz : p1.length + (u.size + q1.length) = n + 1 := by
        have := sp_length (s.t.ins x) 0
        rw [z3, HN2.out] at this
        simp [sp_length] at this
        omega
      have he0 := z1.ge
      have he1 := ctx_le z1
      obtain ⟨y, hy⟩ : ∃ y, p1.length = y := ⟨_, rfl⟩
      obtain ⟨z, hzz⟩ : ∃ z, u.size = z := ⟨_, rfl⟩
      have HBU := Lib.hid (fun w' (hv' : OTB w' T (.slice (some ⟨g, 0, none⟩) (n + 1) c3) M s.built) (hr' : RB w' g 82 c3 (p1 ++ u.sp e ++ q1)) => obuild_any T g y z (c3 - y) c3 (.slice (some ⟨g, 0, none⟩) (n + 1) c3) M s.built p1 (u.sp e) q1 e w' hv' hy (by rw [sp_length, hzz]) hr' (by omega) (by omega) (by omega) he0 (by omega) (by omega))
      rw [okys_sp, ← z4] at HBU
      rw [← z3] at HBU
      rw [hy, hzz] at hlop
      have HLOP := Lib.hid hlop
      have hcmp' : (D : Int) < (dd : Int) := by omega
      have HZ5 := Lib.hid (z5.trans hzz)
      have HLN : Hid ((q.1.sp 0).length = n + 1) := by
        show _ = _
        rw [z4]
        simp [sp_length, ev_size, ks_length]
        omega
      clear hcmp hr HCLM z1 z2 z3 z4 z5 z6 hlop hy hzz hz he0 he1
      go_wp2_with fail
      refine (HDE.out w5).mono ?_
      rintro e' w6 ⟨rfl, hw6⟩
      subst hw6
      go_wp2_with fail
      refine HLOP.out.mono ?_
      rintro e' w7 ⟨rfl, hb7⟩
      have HB7 : Hid (Below T w0 w7) := HB5.out.trans (hb7.mono (Nat.le_of_lt hlt5))
      have HBU7 := Lib.hid (HBU.out w7 (HV5.out.below hb7 hlt5) (HRB.out.below hb7 HRB.out.lt))
      clear hb7 HLOP HDE HBU g0 g1 g2
      go_wp2_with fail
      refine HBU7.out.mono ?_
      rintro e' w8 ⟨rfl, hv8, hr8, hb8⟩
      have HB8 := Lib.hid (HB7.out.trans hb8)
      have HG8 : Hid (GT w8 T (goP s x)) := by
        show GT _ _ _
        rw [HGO.out]
        refine ⟨_, by show OTB w8 T _ M (s.built + q.2); rw [HZ5.out]; exact hv8, ?_⟩
        have := hr8.own (base := T + 1) hg hcm
        rw [HLN.out] at this
        exact this
      clear hv8 hr8 hb8
      go_wp2
      go_end0
      exact ⟨rfl, HG8.out, HB8.out⟩
  · rw [if_neg hcmp] at HGO
    have hcmp' : ¬ (D : Int) < (dd : Int) := by omega
    clear hcmp
    have HG8 : Hid (GT w5 T (goP s x)) := by
      show GT _ _ _
      rw [HGO.out]
      exact ⟨_, HV5.out, HO5.out⟩
    go_wp2_with fail
    refine (HDE.out w5).mono ?_
    rintro e w6 ⟨rfl, hw6⟩
    subst hw6
    go_wp2
    go_end0
    exact ⟨rfl, HG8.out, HB5.out⟩

end Go.Proofs.YtpnjnedfcdppaaaGreatDoor

/-
  package goat: leave.
-/
namespace Go.Proofs.YtpnjnedfcdppaaaGreatDoor
open Go.RowKit

theorem key_place {t : Tr} {x : Int} (hu : Up t.ks) (hx : x ∈ t.ks) : ∃ p, p < t.size ∧ ky (t.sp 0) p = x ∧ (∀ i, i < p → ky (t.sp 0) i < x) := by
  obtain ⟨p, hp, e⟩ := List.getElem_of_mem hx
  have hp2 : p < t.size := by rw [← ks_length]; exact hp
  have hk : ky (t.sp 0) p = x := by rw [ks_ky t 0 p hp2]; exact e
  exact ⟨p, hp2, hk, fun i hi => by rw [← hk]; exact up_place hu hp2 i hi⟩

set_option maxRecDepth 100000 in
set_option maxHeartbeats 8000000 in
theorem leave_any (T : Nat) (s : GS) (x : Int) (w : World) (h : GT w T s) (hu : Up s.t.ks) (hx : x ∈ s.t.ks) (hsz : s.t.size ≤ 200) (hm : s.most ≤ 200) (hbl : s.built ≤ 900000) :
    Calls Tryz.prog 65 #[.pointer (some ⟨T, 0, none⟩), I x] w (ORetG T (goC s x) w) := by
  obtain ⟨v, hv, ho⟩ := h
  obtain ⟨p, hp, hky, hlo⟩ := key_place hu hx
  obtain ⟨n, hn⟩ : ∃ n, s.t.size = n + 1 := ⟨s.t.size - 1, by omega⟩
  have hn200 : n ≤ 200 := by omega
  have hdsz : (s.t.del x).size = n := by have := (del_all hu hx).1; omega
  rcases OwnR.rb ho with ⟨_, e0⟩ | ⟨g, cap, rfl, hg, hcm, hrb⟩
  · have := sp_length s.t 0
    rw [e0] at this
    simp at this
    omega
  have hps := hrb.ps
  rw [sp_length, hn] at hps hv
  have hv' : OTB w T (.slice (some ⟨g, 0, none⟩) (n + 1) cap) s.most s.built := hv
  have HPL : Hid (Calls Tryz.prog 133 #[.slice (some ⟨g, 0, none⟩) ((n + 1 : Nat)) cap, I x] w.drew fun e w' => e = .returned (I p) ∧ w' = w.drew) := oplace_any _ (n + 1) cap p (s.t.sp 0) x w.drew hps.drew (by omega) (by omega) hlo (fun _ => by omega)
  have HWO : Hid (Calls Tryz.prog 139 #[.slice (some ⟨g, 0, none⟩) ((n + 1 : Nat)) cap, I p] w.drew (RetW g cap n ((s.t.del x).sp 0) w.drew)) := owo_any (T + 1) n g cap p s.t x w.drew hrb hn hcm (by omega) hu hx hp hky hg
  have HGO := Lib.hid (show goC s x = _ by unfold goC; rfl)
  rw [hdsz] at HGO
  have HDL : Hid (((s.t.del x).sp 0).length = n) := by show _ = _; rw [sp_length, hdsz]
  have HKS : Hid (kys ((s.t.del x).sp 0) = (s.t.del x).ks) := okys_sp _ _
  have HV := Lib.hid hv'
  obtain ⟨c0, c1, c2⟩ := hv'.cells
  have hlt := hv'.lt
  have hnc : n + 1 ≤ cap := hps.rd.1
  have HBU := Lib.hid (fun w' (hv' : OTB w' T (.slice (some ⟨g, 0, none⟩) n cap) s.most s.built) (hr' : RB w' g 82 cap ([] ++ (s.t.del x).sp 0 ++ [])) => obuild_any T g 0 n cap cap (.slice (some ⟨g, 0, none⟩) n cap) s.most s.built [] ((s.t.del x).sp 0) [] 0 w' hv' rfl HDL.out hr' (by omega) (by omega) (by omega) (Int.le_refl _) (by omega) (by omega))
  simp only [HKS.out, List.nil_append, List.append_nil, Nat.zero_mul] at HBU
  have HEV : Hid (((ev (s.t.del x).ks).sp 0).length = n) := by show _ = _; rw [sp_length, ev_size, ks_length, hdsz]
  generalize s.t.del x = t' at *
  generalize s.most = mo at *
  generalize s.built = bu at *
  clear ho hrb hps hv hv' hu hx hky hlo hdsz hn hsz
  go_enter Tryz.func65, Tryz.ntmps65
  go_wp2
  go_region_with
    (first
      | (go_at_call 133
         refine HPL.out.mono ?_
         rintro e w1 ⟨rfl, hw1⟩
         subst hw1)
      | (go_at_call 139
         refine HWO.out.mono ?_
         rintro e w2 ⟨rfl, hr2, hb2⟩
         have hB2 : Below g w w2 := (Below.refl _ _).drew.trans hb2
         have hv2 := HV.out.below hB2 (by omega)
         obtain ⟨d0, d1, d2⟩ := hv2.cells
         have dz := hv2.frozen 0
         have HV3 := Lib.hid (hv2.set0 (.slice (some ⟨g, 0, none⟩) n cap))
         have HR3 := Lib.hid (hr2.far (p := ⟨T, 0, none⟩) (by show T ≠ g; omega) (.slice (some ⟨g, 0, none⟩) n cap))
         have HB3 : Hid (Below T w (w2.setCell ⟨T, 0, none⟩ (.slice (some ⟨g, 0, none⟩) n cap))) := (hB2.mono (by omega)).setCell (B := T) (p := ⟨T, 0, none⟩) (Nat.le_refl _) _
         clear hr2 hb2 hB2 hv2))
  all_goals
    obtain ⟨w3, hw3⟩ : ∃ W, w2.setCell ⟨T, 0, none⟩ (.slice (some ⟨g, 0, none⟩) n cap) = W := ⟨_, rfl⟩
    rw [hw3] at HV3 HR3 HB3 ⊢
    clear hw3 d0 d1 d2 dz HPL HWO
    obtain ⟨e0, e1, e2⟩ := HV3.out.cells
    have hlt3 := HV3.out.lt
    by_cases hcmp : 3 * n < 2 * mo
    · rw [if_pos hcmp] at HGO
      have hcmp' : 3 * (n : Int) < 2 * (mo : Int) := by omega
      clear hcmp
      go_wp2
      go_quiet (fail)
      go_wp2_with fail
      refine (HBU.out (w3.drewN _) HV3.out HR3.out).mono ?_
      rintro e w4 ⟨rfl, hv4, hr4, hb4⟩
      obtain ⟨f0, f1, f2⟩ := hv4.cells
      have fz := hv4.frozen 1
      have hlt4 := hv4.lt
      have HB5 : Hid (Below T w (w4.setCell ⟨T, 1, none⟩ (I n))) := ((below_drewN HB3.out _).trans hb4).setCell (B := T) (p := ⟨T, 1, none⟩) (Nat.le_refl _) _
      have HG5 : Hid (GT (w4.setCell ⟨T, 1, none⟩ (I n)) T (goC s x)) := by
        show GT _ _ _
        rw [HGO.out]
        refine ⟨_, hv4.set1 n, ?_⟩
        have := (hr4.far (p := ⟨T, 1, none⟩) (by show T ≠ g; omega) (I n)).own (base := T + 1) hg hcm
        rw [HEV.out] at this
        exact this
      clear hv4 hr4 hb4 e0 e1 e2
      go_wp2
      go_end0
      exact ⟨rfl, HG5.out, HB5.out⟩
    · rw [if_neg hcmp] at HGO
      have hcmp' : decide (3 * (n : Int) < 2 * (mo : Int)) = false := by simpa using (show ¬ 3 * (n : Int) < 2 * (mo : Int) by omega)
      clear hcmp
      have HG5 : Hid (∀ q, GT (w3.drewN q) T (goC s x)) := fun q => by
        rw [HGO.out]
        refine ⟨_, (show OTB w3 _ _ _ _ from HV3.out), ?_⟩
        have := HR3.out.own (base := T + 1) hg hcm
        rw [HDL.out] at this
        exact this
      go_wp2
      go_quiet (fail)
      go_wp2
      go_end0
      exact ⟨rfl, HG5.out _, below_drewN HB3.out _⟩

end Go.Proofs.YtpnjnedfcdppaaaGreatDoor

/-
  package goat: Run.
-/
namespace Go.Proofs.YtpnjnedfcdppaaaGreatDoor
open Go.RowKit

theorem results_tmp4 {fn : Func} {t u v x : Tmp} (h : fn.results = #[.tmp t, .tmp u, .tmp v, .tmp x]) (tmps : Array Value) (P : Program) (w : World) :
    (results fn tmps).run P w = .ok (.tuple #[tmps.getD t undef, tmps.getD u undef, tmps.getD v undef, tmps.getD x undef]) w := by
  simp [results, h]
theorem oerr_ne {E : Int} (h : E ≠ 0) : (E != 0) = true := by simpa using h
theorem cn_le (ops : List OP) : (goN ops).came + (goN ops).went ≤ ops.length := by
  have h : ∀ (ops : List OP) (s : GS) (c : Cn) (l : PL), (ops.foldl (fun s o => (goR s.1 o (doA s.2.2 o.1 o.2.1), cnR s.2.1 o (doA s.2.2 o.1 o.2.1), doL s.2.2 o.1 o.2.1 o.2.2)) (s, c, l)).2.1.came + (ops.foldl (fun s o => (goR s.1 o (doA s.2.2 o.1 o.2.1), cnR s.2.1 o (doA s.2.2 o.1 o.2.1), doL s.2.2 o.1 o.2.1 o.2.2)) (s, c, l)).2.1.went ≤ c.came + c.went + ops.length := by
    intro ops
    induction ops with
    | nil => intro s c l; exact Nat.le_refl _
    | cons o ops ih =>
      intro s c l
      have h1 := ih (goR s o (doA l o.1 o.2.1)) (cnR c o (doA l o.1 o.2.1)) (doL l o.1 o.2.1 o.2.2)
      have h2 : (cnR c o (doA l o.1 o.2.1)).came + (cnR c o (doA l o.1 o.2.1)).went ≤ c.came + c.went + 1 := by
        unfold cnR
        split
        · omega
        · split
          · show c.came + 1 + c.went ≤ _; omega
          · split
            · show c.came + (c.went + 1) ≤ _; omega
            · show c.came + c.went ≤ _; omega
      rw [List.length_cons]
      refine Nat.le_trans h1 ?_
      omega
  have := h ops ⟨.nil, 0, 0⟩ ⟨0, 0, 0, 0⟩ []
  show (goL ops).2.1.came + (goL ops).2.1.went ≤ _
  unfold goL
  simpa using this
structure GB (s : GS) : Prop where
  up : Up s.t.ks
  size : s.t.size ≤ 200
  most : s.most ≤ 200
  built : s.built ≤ 27000
theorem go_bounds (ops : List OP) (h : ops.length ≤ 300) : GB (goT ops) := by
  have hi := go_inv ops
  have h1 := hi.inv.size
  have h2 := hi.inv.most
  have h3 := hi.inv.cap
  refine ⟨hi.inv.up, by omega, by omega, ?_⟩
  have h4 := go_work ops
  have h5 := cn_le ops
  have h6 : dpst (goN ops).top ≤ 13 := by
    have := dpst_mono (show (goN ops).top ≤ 200 from h3)
    rw [dpst_200] at this
    exact this
  have h7 : ((goN ops).came + (goN ops).went) * (dpst (goN ops).top + 2) ≤ 300 * 15 := Nat.mul_le_mul (by omega) (by omega)
  omega
theorem same_room {t : Tr} {l : PL} (h : Same t l) (key val : Int) (he : (doA l 1 key).e = 0) (hb : (doA l 1 key).b = false) : key ∉ t.ks ∧ t.size + 1 ≤ 200 := by
  rcases h.ways 1 key val with ⟨_, e2⟩ | ⟨_, _, e3, _⟩ | ⟨_, _, _, e4, e5⟩ | ⟨_, e2, _⟩ | ⟨_, e2, _⟩ | ⟨e1, _⟩
  · exact absurd he e2
  · rw [hb] at e3; cases e3
  · refine ⟨e4, ?_⟩
    have h1 : (pk (doL l 1 key val)).length = t.size + 1 := by rw [e5, ks_length, size_ins e4]
    have h2 := ((chk_zero _).1 (chk_doL h.chk 1 key val)).1
    simp only [pk, List.length_map] at h1
    omega
  · omega
  · omega
  · exact absurd rfl e1

def RetO (L : PL) (n b : Nat) (a : List An) (er : Int) (w : World) (e : Ending) (w' : World) : Prop :=
  ∃ A c A' n' c', e = .returned (.tuple #[.slice A n c, I b, .slice A' n' c', I er]) ∧ PS w' A n c L ∧ AS w' A' n' c' a ∧ Below w.heap.size w w'

theorem GT.below {w w' : World} {T : Nat} {s : GS} (h : GT w T s) (hb : Below w.heap.size w w') : GT w' T s := by
  obtain ⟨v, h1, h2⟩ := h
  exact ⟨v, h1.below hb h1.lt, ownR_below h2 hb⟩
set_option maxRecDepth 100000 in
set_option maxHeartbeats 8000000 in
theorem ORun_any (A : Option Addr) (n c m : Nat) (ops : List OP) (w : World) (h : OS w A n c ops) (hn : n ≤ 300) (hm : (goT ops).t.size = m) :
    Calls Tryz.prog 23 #[.slice A n c] w (RetO ((goT ops).t.sp 0) m (goT ops).built (runR ops).2 0 w) := by
  have HR := Lib.hid (Run_any A n c ops w h hn)
  have H := Lib.hid h
  have HL := Lib.hid h.len
  have HM := Lib.hid hm
  clear h hm
  go_enter Tryz.func23, Tryz.ntmps23
  go_wp2_with fail
  refine HR.out.mono ?_
  rintro e w1 ⟨A1, n1, c1, A2, n2, c2, rfl, _, has, hb1⟩
  have H1 := Lib.hid (H.out.below hb1)
  have HA := Lib.hid has
  have HB1 := Lib.hid hb1
  have hn2 : n2 = n := by have := has.len; rw [runR_len, HL.out] at this; exact this.symm
  subst hn2
  clear has hb1 HR
  go_wp2
  go_loopg [24] n2 (fun m i wr => ∃ k : Nat, k ≤ n2 ∧ n2 - k ≤ m ∧ i = .int .i64 k ∧ Below w1.heap.size w1 wr ∧ GT wr w1.heap.size (goT (ops.take k)))
  case atStart =>
    refine ⟨0, Nat.zero_le _, by omega, rfl, (Below.refl _ _).alloc (Nat.le_refl _) _, .slice none 0 0, ?_, World.ownsRow_nil _ _ _ _⟩
    exact heap_alloc_new w1 _
  case round =>
    obtain ⟨k, hk, hkm, rfl, hnx, hG⟩ := hrel
    have HNX := Lib.hid hnx
    have HG := Lib.hid hG
    have hsz := hnx.size
    clear hnx hG
    by_cases hlt : k < n2
    · obtain ⟨b, off, rfl, hb, hc⟩ := H1.out.at_ (by omega)
      obtain ⟨ba, offa, rfl, hba, hca⟩ := HA.out.at_ (by omega)
      have hkl : k < ops.length := by rw [HL.out]; exact hlt
      have hc0 : wr.cell? ⟨b, off + k * 3, none⟩ = some (I ops[k].1) := (HNX.out.cell (by exact hb)).trans (hc k hlt).1
      have hc1 : wr.cell? ⟨b, off + k * 3 + 1, none⟩ = some (I ops[k].2.1) := (HNX.out.cell (by exact hb)).trans (hc k hlt).2.1
      have hc2 : wr.cell? ⟨b, off + k * 3 + 2, none⟩ = some (I ops[k].2.2) := (HNX.out.cell (by exact hb)).trans (hc k hlt).2.2
      have hans := runR_ans ops k hkl
      have hcak := hca k hlt
      rw [hans] at hcak
      have hst := (goL_succ ops k hkl).1
      have hgb := go_bounds (ops.take k) (by rw [List.length_take]; omega)
      have hji := (go_inv (ops.take k)).same
      have hroom := fun (key : Int) => same_room hji key
      have hways := hji.ways ops[k].1 ops[k].2.1 ops[k].2.2
      generalize hs : goT (ops.take k) = s at *
      have hroom2 : (doA (runR (ops.take k)).1 ops[k].1 ops[k].2.1).e = 0 → ops[k].1 = 1 → (doA (runR (ops.take k)).1 ops[k].1 ops[k].2.1).b = false → s.t.size + 1 ≤ 200 := fun e1 e2 e3 => by
        rw [e2] at e1 e3
        exact (hroom _ ops[k].2.2 e1 e3).2
      generalize doA (runR (ops.take k)).1 ops[k].1 ops[k].2.1 = a at hcak hways hst hroom2
      generalize ops[k] = o at hc0 hc1 hc2 hways hst hroom2
      obtain ⟨kind, key, val⟩ := o
      simp only at hc0 hc1 hc2 hways hroom2
      have ha0 : wr.cell? ⟨ba, offa + k * 4, none⟩ = some (I a.e) := (HNX.out.cell (by exact hba)).trans hcak.1
      have ha1 : wr.cell? ⟨ba, offa + k * 4 + 1, none⟩ = some (I a.k) := (HNX.out.cell (by exact hba)).trans hcak.2.1
      have ha2 : wr.cell? ⟨ba, offa + k * 4 + 2, none⟩ = some (I a.v) := (HNX.out.cell (by exact hba)).trans hcak.2.2.1
      have ha3 : wr.cell? ⟨ba, offa + k * 4 + 3, none⟩ = some (.bool a.b) := (HNX.out.cell (by exact hba)).trans hcak.2.2.2
      have HST := Lib.hid hst
      have HGB := Lib.hid hgb
      have hbw : b < wr.heap.size := by omega
      have hbaw : ba < wr.heap.size := by omega
      have HG2 := Lib.hid (HG.out.below (((Below.refl _ _).alloc (Nat.le_refl _) (opO kind key val)).alloc (by simp) (anO a)))
      have HN2 := Lib.hid ((HNX.out.alloc hsz (opO kind key val)).alloc (by simp; omega) (anO a))
      clear hc hca hcak hans hst hgb hji hroom hs
      obtain ⟨ae, ak, av, ab⟩ := a
      simp only at ha0 ha1 ha2 ha3 hways hroom2
      rcases hways with ⟨_, e2⟩ | ⟨rfl, rfl, rfl, e4, _⟩ | ⟨rfl, rfl, rfl, e4, _⟩ | ⟨rfl, rfl, rfl, e4, _⟩ | ⟨rfl, rfl, rfl, e4, _⟩ | ⟨e1, e2, _⟩
      · -- refused
        have hne := oerr_ne e2
        have HS := Lib.hid (show goT (ops.take (k + 1)) = s by rw [HST.out]; simp [goR, e2])
        clear e2 HST hroom2
        go_wp2
        go_roundg (gk - 1)
        case measure => omega
        case rel => exact ⟨k + 1, by omega, by omega, by go_num, HN2.out, by rw [HS.out]; exact HG2.out⟩
      · -- put: it was there
        have HS := Lib.hid (show goT (ops.take (k + 1)) = s by rw [HST.out]; simp [goR])
        clear e4 HST hroom2
        go_wp2
        go_roundg (gk - 1)
        case measure => omega
        case rel => exact ⟨k + 1, by omega, by omega, by go_num, HN2.out, by rw [HS.out]; exact HG2.out⟩
      · -- put: it comes
        have HS := Lib.hid (show goT (ops.take (k + 1)) = goP s key by rw [HST.out]; simp [goR])
        have HC := Lib.hid (come_any w1.heap.size s key _ HG2.out HGB.out.up e4 (hroom2 rfl rfl rfl) HGB.out.most (by have := HGB.out.built; omega))
        clear e4 HST hroom2
        go_wp2_with fail
        refine HC.out.mono ?_
        rintro e w2 ⟨rfl, hg2, hb2⟩
        have HG3 := Lib.hid hg2
        have HN3 := Lib.hid (HN2.out.trans hb2)
        clear hg2 hb2
        go_wp2
        go_roundg (gk - 1)
        case measure => omega
        case rel => exact ⟨k + 1, by omega, by omega, by go_num, HN3.out, by rw [HS.out]; exact HG3.out⟩
      · -- taken away
        have HS := Lib.hid (show goT (ops.take (k + 1)) = goC s key by rw [HST.out]; simp [goR])
        have HC := Lib.hid (leave_any w1.heap.size s key _ HG2.out HGB.out.up e4 HGB.out.size HGB.out.most (by have := HGB.out.built; omega))
        clear e4 HST hroom2
        go_wp2_with fail
        refine HC.out.mono ?_
        rintro e w2 ⟨rfl, hg2, hb2⟩
        have HG3 := Lib.hid hg2
        have HN3 := Lib.hid (HN2.out.trans hb2)
        clear hg2 hb2
        go_wp2
        go_roundg (gk - 1)
        case measure => omega
        case rel => exact ⟨k + 1, by omega, by omega, by go_num, HN3.out, by rw [HS.out]; exact HG3.out⟩
      · -- taken away: it was not there
        have HS := Lib.hid (show goT (ops.take (k + 1)) = s by rw [HST.out]; simp [goR])
        clear e4 HST hroom2
        go_wp2
        go_roundg (gk - 1)
        case measure => omega
        case rel => exact ⟨k + 1, by omega, by omega, by go_num, HN2.out, by rw [HS.out]; exact HG2.out⟩
      · by_cases hae : ae = 0
        · subst hae
          have HS := Lib.hid (show goT (ops.take (k + 1)) = s by rw [HST.out]; simp [goR, e1, e2])
          have h1 : (kind == 1) = false := by simpa using e1
          have h3 : (kind == 3) = false := by simpa using e2
          clear e1 e2 HST hroom2
          go_wp2
          go_roundg (gk - 1)
          case measure => omega
          case rel => exact ⟨k + 1, by omega, by omega, by go_num, HN2.out, by rw [HS.out]; exact HG2.out⟩
        · have hne := oerr_ne hae
          have HS := Lib.hid (show goT (ops.take (k + 1)) = s by rw [HST.out]; simp [goR, hae])
          clear e1 e2 HST hae hroom2
          go_wp2
          go_roundg (gk - 1)
          case measure => omega
          case rel => exact ⟨k + 1, by omega, by omega, by go_num, HN2.out, by rw [HS.out]; exact HG2.out⟩
    · have htk : ops.take k = ops := List.take_of_length_le (by rw [HL.out]; omega)
      rw [htk] at HG
      obtain ⟨v, hv, ho⟩ := HG.out
      obtain ⟨A3, c3, rfl, _, hps⟩ := ownR_told ho (show ((goT ops).t.sp 0).length = m by rw [sp_length]; exact HM.out)
      obtain ⟨d0, d1, d2⟩ := hv.cells
      have hvl := hv.lt
      have HPS := Lib.hid hps
      have HAS := Lib.hid (HA.out.below HNX.out)
      have HBX := Lib.hid (below_next HB1.out HNX.out)
      clear hv ho hps
      go_wp2
      go_quiet (fail)
      go_wp2
      (try simp only [Exit.inBlock, Exit.then])
      refine bodyPost_ret (results_tmp4 rfl _ _ _) rfl ?_
      exact ⟨A3, c3, A2, n2, c2, rfl, HPS.out.drewN _, ⟨HAS.out.len, HAS.out.rd⟩, below_drewN HBX.out _⟩

end Go.Proofs.YtpnjnedfcdppaaaGreatDoor
