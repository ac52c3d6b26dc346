/-
  hedgref.Orders.
-/
import Derived.Test.YtfmdpmebllepeaaJEq10
import Derived.Test.YtfmdpmebllepeaaJDel
import Derived.Test.YtfmdpmebllepeaaJEndP
import Derived.BigRegion
import Derived.Deep.DeepCutAuto
import Derived.Deep.CutBlock
import Derived.Deep.RegionHeld3
import Derived.Deep.MidRow
namespace Go.Proofs.Ytfmdpmebllepeaa
open Go.RowKit Go.Maps

theorem b10_set (a : Nat → Bool) {y : Nat} (hy : y < 10) (v : Bool) : (b10 a).set y v = b10 (upd a y v) := by
  rcases (show y = 0 ∨ y = 1 ∨ y = 2 ∨ y = 3 ∨ y = 4 ∨ y = 5 ∨ y = 6 ∨ y = 7 ∨ y = 8 ∨ y = 9 by omega) with rfl | rfl | rfl | rfl | rfl | rfl | rfl | rfl | rfl | rfl <;> rfl
theorem b10_get (a : Nat → Bool) {y : Nat} (hy : y < 10) : (b10 a)[y]?.getD false = a y := by
  rcases (show y = 0 ∨ y = 1 ∨ y = 2 ∨ y = 3 ∨ y = 4 ∨ y = 5 ∨ y = 6 ∨ y = 7 ∨ y = 8 ∨ y = 9 by omega) with rfl | rfl | rfl | rfl | rfl | rfl | rfl | rfl | rfl | rfl <;> rfl
theorem k10_set (a : Nat → Bool) {y : Nat} (hy : y < 10) (v : Bool) : (([.bool (a 0), .bool (a 1), .bool (a 2), .bool (a 3), .bool (a 4), .bool (a 5), .bool (a 6), .bool (a 7), .bool (a 8), .bool (a 9)] : List Value).set y (.bool v)).toArray = k10 (upd a y v) := by
  rcases (show y = 0 ∨ y = 1 ∨ y = 2 ∨ y = 3 ∨ y = 4 ∨ y = 5 ∨ y = 6 ∨ y = 7 ∨ y = 8 ∨ y = 9 by omega) with rfl | rfl | rfl | rfl | rfl | rfl | rfl | rfl | rfl | rfl <;> rfl
theorem KBk.same {w w' : World} {g : Nat} {b : Nat → Bool} (h : KBk w g b) (e : w'.heap[g]? = w.heap[g]?) : KBk w' g b := e.trans h
/-- what is done behind a deed that fits: Clone, Delete -/
theorem wNext {w w1 : World} {a b : Nat → Bool} (K0 : KBk w1 w.heap.size a) (K1 : KBk w1 (w.heap.size + 1) b) (HB1 : Below w.heap.size w w1) (hsz : w.heap.size + 1 < w1.heap.size) (o : Obj) (nx : Nat → Bool) :
    KBk ((w1.alloc o).alloc (.cells (k10 nx) 39)) (w1.heap.size + 1) nx ∧ KBk ((w1.alloc o).alloc (.cells (k10 nx) 39)) w.heap.size a ∧ KBk ((w1.alloc o).alloc (.cells (k10 nx) 39)) (w.heap.size + 1) b ∧ Below w.heap.size w ((w1.alloc o).alloc (.cells (k10 nx) 39)) ∧ w1.heap.size + 1 < ((w1.alloc o).alloc (.cells (k10 nx) 39)).heap.size := by
  have h0 := heap_alloc_new (w1.alloc o) (.cells (k10 nx) 39)
  rw [World.size_alloc] at h0
  refine ⟨h0, K0.same ((Below.heap_alloc _ _ _ (by rw [World.size_alloc]; omega)).trans (Below.heap_alloc _ _ _ (by omega))), K1.same ((Below.heap_alloc _ _ _ (by rw [World.size_alloc]; omega)).trans (Below.heap_alloc _ _ _ hsz)), (HB1.alloc HB1.size _).alloc (by have := HB1.size; rw [World.size_alloc]; omega) _, by rw [World.size_alloc, World.size_alloc]; omega⟩
theorem wNextD {w w1 : World} {a b : Nat → Bool} (K0 : KBk w1 w.heap.size a) (K1 : KBk w1 (w.heap.size + 1) b) (HB1 : Below w.heap.size w w1) (hsz : w.heap.size + 1 < w1.heap.size) (o : Obj) (nx : Nat → Bool) :
    KBk ((w1.alloc o).alloc (.cells (k10 nx) 39)).drew (w1.heap.size + 1) nx ∧ KBk ((w1.alloc o).alloc (.cells (k10 nx) 39)).drew w.heap.size a ∧ KBk ((w1.alloc o).alloc (.cells (k10 nx) 39)).drew (w.heap.size + 1) b ∧ Below w.heap.size w ((w1.alloc o).alloc (.cells (k10 nx) 39)).drew ∧ w1.heap.size + 1 < ((w1.alloc o).alloc (.cells (k10 nx) 39)).drew.heap.size :=
  let ⟨a1, a2, a3, a4, a5⟩ := wNext K0 K1 HB1 hsz o nx
  ⟨a1, a2, a3, a4.drew, a5⟩
/-- what is to be done is there -/
def Todo (nh : Nat) (es : List Sl) (L : List Dn) : Prop := ∀ x ∈ L, x.w < nh ∧ x.j < (prog0 es x.w).length ∧ Dee (dds (prog0 es) x.w x.j).1 (dds (prog0 es) x.w x.j).2
theorem dW1 (a : Nat → Bool) {y : Nat} (hy : y < 10) : dWas 1 (y : Int) (b10 a) = !(a y) := by unfold dWas; rw [if_pos rfl, Int.toNat_natCast, b10_get a hy]
theorem dW2 (a : Nat → Bool) {y : Nat} (hy : y < 10) {kd : Int} (hk : ¬ kd = 1) : dWas kd (y : Int) (b10 a) = a y := by unfold dWas; rw [if_neg hk, Int.toNat_natCast, b10_get a hy]
theorem dN1 (a : Nat → Bool) {y : Nat} (hy : y < 10) : dNext 1 (y : Int) (b10 a) = b10 (upd a y true) := by unfold dNext; rw [if_pos rfl, Int.toNat_natCast, b10_set a hy]
theorem dN2 (a : Nat → Bool) {y : Nat} (hy : y < 10) : dNext 2 (y : Int) (b10 a) = b10 (upd a y false) := by unfold dNext; rw [if_neg (by decide), if_pos rfl, Int.toNat_natCast, b10_set a hy]
theorem dN3 (a : Nat → Bool) (y : Nat) : dNext 3 (y : Int) (b10 a) = b10 a := by unfold dNext; rw [if_neg (by decide), if_neg (by decide)]
theorem todo_erase {nh : Nat} {es : List Sl} {L : List Dn} (h : Todo nh es L) (k : Nat) : Todo nh es (L.eraseIdx k) := fun x hx => h x (List.mem_of_mem_eraseIdx hx)
/-- one way of them -/
def ordF (D : Nat → Nat → Int × Int) (m : Nat) (has : List Bool) (L : List Dn) (left : List Bool) (k : Nat) : Bool := match L[k]? with
  | none => false
  | some x => !(L.any fun y => decide (y.e < x.b)) && (dWas (D x.w x.j).1 (D x.w x.j).2 has == x.is_ && ordB D m (dNext (D x.w x.j).1 (D x.w x.j).2 has) (L.eraseIdx k) left)
theorem ordB_succ (D : Nat → Nat → Int × Int) (m : Nat) (has : List Bool) (L : List Dn) (left : List Bool) : ordB D (m + 1) has L left = (List.range L.length).any (ordF D m has L left) := rfl
/-- ten keys as a list of cells -/
abbrev k10l (b : Nat → Bool) : List Value := [.bool (b 0), .bool (b 1), .bool (b 2), .bool (b 3), .bool (b 4), .bool (b 5), .bool (b 6), .bool (b 7), .bool (b 8), .bool (b 9)]
theorem KBk.rg {w : World} {g : Nat} {b : Nat → Bool} (h : KBk w g b) : w.rangeAt g 0 (k10l b) := by
  intro j v hv
  rw [Nat.zero_add, jcell h]
  have e : (k10 b)[j]? = (k10l b)[j]? := List.getElem?_toArray
  rw [e]
  exact hv
theorem range_next {f : Nat → Bool} {k : Nat} : (List.range (k + 1)).any f = ((List.range k).any f || f k) := by rw [List.range_succ, List.any_append]; simp
set_option maxRecDepth 100000 in
set_option maxHeartbeats 16000000 in
theorem orders_any (PA : Option Addr) (nh pc : Nat) (es : List Sl) : ∀ (m : Nat) (a b : Nat → Bool) (A : Option Addr) (n c : Nat) (L : List Dn) (w : World), n = m → m ≤ 16 → RS w PA nh pc es → DR w A n L → Todo nh es L →
    Calls Try.prog 10 #[.agg (k10 a), .slice PA nh pc, .slice A n c, .agg (k10 b)] w fun e w' => e = .returned (.bool (ordB (dds (prog0 es)) m (b10 a) L (b10 b))) ∧ Below w.heap.size w w' := by
  intro m
  induction m with
  | zero =>
    intro a b A n c L w hn0 _ _ _ _
    subst hn0
    have HE := Lib.hid (fun w => eq10_run a b w)
    have heq := HE.out
    go_enter Try.func10, Try.ntmps10
    go_wp2
    go_ret
    refine ⟨?_, ((Below.refl _ _).alloc (Nat.le_refl _) _).alloc (by simp) _⟩
    show Ending.returned (Value.bool (a 0 == b 0 && (a 1 == b 1 && (a 2 == b 2 && (a 3 == b 3 && (a 4 == b 4 && (a 5 == b 5 && (a 6 == b 6 && (a 7 == b 7 && (a 8 == b 8 && a 9 == b 9)))))))))) = Ending.returned (Value.bool (b10 a == b10 b))
    simp
  | succ m ih =>
    intro a b A n c L w hnm hm16 hP hD hT
    have HIH := Lib.hid ih
    have HP := Lib.hid hP
    have HD := Lib.hid hD
    have HT := Lib.hid hT
    have HL := Lib.hid hD.len
    have hn16 : n ≤ 16 := by omega
    have hn1 : ¬ (n = 0) := by omega
    have hn0 : ((n : Int) == 0) = false := by rw [beq_eq_false_iff_ne]; omega
    have HNM := Lib.hid hnm
    clear ih hP hD hT hnm
    go_enter Try.func10, Try.ntmps10
    go_wp2
    go_loopw [22] (fun iv wr => ∃ k : Nat, k ≤ n ∧ iv = .int .i64 k ∧ Hid ((List.range k).any (ordF (dds (prog0 es)) m (b10 a) L (b10 b)) = false) ∧ KBk wr w.heap.size a ∧ KBk wr (w.heap.size + 1) b ∧ Below w.heap.size w wr) (fun iv _ => n - (intOf iv).toNat)
    case atStart =>
      refine ⟨0, Nat.zero_le _, rfl, rfl, ?_, ?_, ((Below.refl _ _).alloc (Nat.le_refl _) _).alloc (by simp) _⟩
      · exact (Below.heap_alloc _ _ _ (by simp)).trans (heap_alloc_new w _)
      · have := heap_alloc_new (w.alloc (.cells (k10 a) 39)) (.cells (k10 b) 39)
        rw [World.size_alloc] at this
        exact this
    case round =>
      obtain ⟨k, hk, rfl, HNO, h0, h1, hbl⟩ := hrel
      have H0 := Lib.hid h0
      have H1 := Lib.hid h1
      have HBL := Lib.hid hbl
      by_cases hlt : k < n
      · obtain ⟨g, rfl, hg, hc⟩ := HD.out.at_ (by omega)
        have hkl : k < L.length := by rw [HL.out]; exact hlt
        obtain ⟨hw, hj, hde⟩ := HT.out _ (List.getElem_mem hkl)
        have hDk := hc k hkl
        obtain ⟨⟨dw, dj, db, de, di⟩, hd⟩ : ∃ d, L[k] = d := ⟨_, rfl⟩
        have hd' : L[k]? = some ⟨dw, dj, db, de, di⟩ := by rw [List.getElem?_eq_getElem hkl, hd]
        rw [hd] at hw hj hDk hde
        have hw : dw < nh := hw
        have hj : dj < (prog0 es dw).length := hj
        have hwl : dw < es.length := by rw [HP.out.len]; exact hw
        obtain ⟨pb, poff, rfl, hpb, hpc⟩ := HP.out.at_ (by omega)
        have hpk := hpc dw hw
        obtain ⟨s, hs⟩ : ∃ s, es[dw] = s := ⟨_, rfl⟩
        rw [hs] at hpk
        have hp0 : prog0 es dw = s.L := by unfold prog0; rw [List.getElem?_eq_getElem hwl, hs]; rfl
        have hsok : PS w s.A s.n s.c s.L := HP.out.each s (by rw [← hs]; exact List.getElem_mem hwl)
        obtain ⟨sA, sn, sc, sL⟩ := s
        have hsok : PS w sA sn sc sL := hsok
        have hp0 : prog0 es dw = sL := hp0
        rw [hp0] at hj
        have hjn : dj < sn := by rw [← hsok.len]; exact hj
        obtain ⟨sb, soff, rfl, hsb, hsc⟩ := hsok.at_ (by omega)
        have hdv : dds (prog0 es) dw dj = sL[dj] := by unfold dds; rw [hp0, List.getElem?_eq_getElem hj]; rfl
        obtain ⟨q1', q2'⟩ := hsc dj hjn
        obtain ⟨⟨kd, K⟩, hq⟩ : ∃ q, sL[dj] = q := ⟨_, rfl⟩
        rw [hq] at hdv
        have hde : Dee (dds (prog0 es) dw dj).1 (dds (prog0 es) dw dj).2 := hde
        rw [hdv] at hde
        have hq1 : w.cell? ⟨sb, soff + dj * 2, none⟩ = some (I kd) := by rw [q1']; exact congrArg (fun q : Int × Int => some (I q.1)) hq
        have hq2 : w.cell? ⟨sb, soff + (dj * 2 + 1), none⟩ = some (I K) := by rw [q2']; exact congrArg (fun q : Int × Int => some (I q.2)) hq
        obtain ⟨hK0, hk3⟩ := hde
        have hK0 : 0 ≤ K ∧ K ≤ 9 := hK0
        have hk3 : kd = 1 ∨ kd = 2 ∨ kd = 3 := hk3
        obtain ⟨y, rfl⟩ : ∃ y : Nat, K = y := ⟨K.toNat, by omega⟩
        have hy10 : y < 10 := by omega
        have hy0 : 0 ≤ (y : Int) := by omega
        have hy1 : (y : Int) < 10 := by omega
        have D0 : wr.cell? ⟨g, k * 5, none⟩ = some (I dw) := (HBL.out.cell (p := ⟨g, k * 5, none⟩) hg).trans (hDk 0 (by omega))
        have D1 : wr.cell? ⟨g, k * 5 + 1, none⟩ = some (I dj) := (HBL.out.cell (p := ⟨g, k * 5 + 1, none⟩) hg).trans (hDk 1 (by omega))
        have D2 : wr.cell? ⟨g, k * 5 + 2, none⟩ = some (I db) := (HBL.out.cell (p := ⟨g, k * 5 + 2, none⟩) hg).trans (hDk 2 (by omega))
        have D3 : wr.cell? ⟨g, k * 5 + 3, none⟩ = some (I de) := (HBL.out.cell (p := ⟨g, k * 5 + 3, none⟩) hg).trans (hDk 3 (by omega))
        have D4 : wr.cell? ⟨g, k * 5 + 4, none⟩ = some (.bool di) := (HBL.out.cell (p := ⟨g, k * 5 + 4, none⟩) hg).trans (hDk 4 (by omega))
        obtain ⟨wx, hwx⟩ : ∃ wx, wx = wr.alloc (.cells #[I dw, I dj, I db, I de, .bool di] 37) := ⟨_, rfl⟩
        have bx : Below w.heap.size w wx := by rw [hwx]; exact hbl.alloc hbl.size _
        have hC := conD_any (some ⟨g, 0, none⟩) n c L wr.heap.size db wx (HD.out.below bx) (by rw [hwx]; simp) (by rw [hwx]; simp) (by omega)
        obtain ⟨CC, hCC⟩ : ∃ CC, (L.any fun y => decide (y.e < db)) = CC := ⟨_, rfl⟩
        rw [hCC, hwx] at hC
        have HC := Lib.hid hC
        have HWX : Hid (wx = wr.alloc (.cells #[I dw, I dj, I db, I de, .bool di] 37)) := hwx
        have HBX := Lib.hid bx
        have HPK : Hid (w.cell? ⟨pb, poff + dw, none⟩ = some (.slice (some ⟨sb, soff, none⟩) sn sc)) := hpk
        have HQ1 := Lib.hid hq1
        have HQ2 := Lib.hid hq2
        have HF : Hid (ordF (dds (prog0 es)) m (b10 a) L (b10 b) k = (!CC && (dWas kd y (b10 a) == di && ordB (dds (prog0 es)) m (dNext kd y (b10 a)) (L.eraseIdx k) (b10 b)))) := by
          show _ = _
          unfold ordF
          rw [hd', hCC.symm]
          show (!_ && (dWas (dds (prog0 es) dw dj).1 (dds (prog0 es) dw dj).2 (b10 a) == di && ordB _ _ (dNext (dds (prog0 es) dw dj).1 (dds (prog0 es) dw dj).2 (b10 a)) _ _)) = _
          rw [hdv]
        clear hc h0 h1 hbl hDk hpc q1' q2' hsc hq1 hq2 hpk hwx hC bx hCC hd hd' hq hdv hs hp0 hsok hwl
        cases CC with
        | true =>
          go_wp2_with fail
          refine HC.out.mono ?_
          rintro e w1 ⟨rfl, hb1⟩
          rw [← HWX.out] at hb1
          have HB1 := Lib.hid (HBX.out.trans (hb1.mono HBX.out.size))
          have hsz : w.heap.size + 1 < wx.heap.size := by rw [HWX.out, World.size_alloc]; have := jblk H1.out; omega
          have e0 : wx.heap[w.heap.size]? = wr.heap[w.heap.size]? := by rw [HWX.out]; exact Below.heap_alloc _ _ _ (jblk H0.out)
          have e1 : wx.heap[w.heap.size + 1]? = wr.heap[w.heap.size + 1]? := by rw [HWX.out]; exact Below.heap_alloc _ _ _ (jblk H1.out)
          have K0 : Hid (KBk w1 w.heap.size a) := H0.out.same ((hb1.block _ (by omega)).trans e0)
          have K1 : Hid (KBk w1 (w.heap.size + 1) b) := H1.out.same ((hb1.block _ hsz).trans e1)
          clear hb1 e0 e1 hsz
          go_wp2
          go_roundw
          case rel => exact ⟨k + 1, by omega, by go_num, Lib.hid (by rw [range_next, HNO.out, HF.out]; rfl), K0.out, K1.out, HB1.out⟩
          case measure => simp [intOf]; omega
        | false =>
          go_wp2_with fail
          refine HC.out.mono ?_
          rintro e w1 ⟨rfl, hb1⟩
          rw [← HWX.out] at hb1
          have HB1 := Lib.hid (HBX.out.trans (hb1.mono HBX.out.size))
          have hsz : w.heap.size + 1 < wr.heap.size := jblk H1.out
          have hszx : wx.heap.size = wr.heap.size + 1 := by rw [HWX.out, World.size_alloc]
          have e0 : wx.heap[w.heap.size]? = wr.heap[w.heap.size]? := by rw [HWX.out]; exact Below.heap_alloc _ _ _ (jblk H0.out)
          have e1 : wx.heap[w.heap.size + 1]? = wr.heap[w.heap.size + 1]? := by rw [HWX.out]; exact Below.heap_alloc _ _ _ (jblk H1.out)
          have K0 : Hid (KBk w1 w.heap.size a) := H0.out.same ((hb1.block _ (by omega)).trans e0)
          have K1 : Hid (KBk w1 (w.heap.size + 1) b) := H1.out.same ((hb1.block _ (by omega)).trans e1)
          have hsz1 : w.heap.size + 1 < w1.heap.size ∧ wr.heap.size < w1.heap.size := by have := hb1.size; omega
          have HSZ := Lib.hid hsz1
          have cel : ∀ (o : Obj) (p : Addr), p.block < w1.heap.size → (w1.alloc o).cell? p = w1.cell? p := fun o p hp => World.cell?_of_block (Below.heap_alloc _ _ _ hp)
          have xc : ∀ i, w1.cell? ⟨wr.heap.size, i, none⟩ = wx.cell? ⟨wr.heap.size, i, none⟩ := fun i => hb1.cell (p := ⟨wr.heap.size, i, none⟩) (by show wr.heap.size < _; omega)
          have xv : ∀ i, wx.cell? ⟨wr.heap.size, i, none⟩ = (dcells ⟨dw, dj, db, de, di⟩)[i]? := fun i => by rw [HWX.out]; simp [dcells]
          have x0 : w1.cell? ⟨wr.heap.size, 0, none⟩ = some (I dw) := (xc 0).trans (xv 0)
          have x1 : w1.cell? ⟨wr.heap.size, 1, none⟩ = some (I dj) := (xc 1).trans (xv 1)
          have x4 : w1.cell? ⟨wr.heap.size, 4, none⟩ = some (.bool di) := (xc 4).trans (xv 4)
          have x0' : ∀ o, (w1.alloc o).cell? ⟨wr.heap.size, 0, none⟩ = some (I dw) := fun o => (cel o _ hsz1.2).trans x0
          have x1' : ∀ o, (w1.alloc o).cell? ⟨wr.heap.size, 1, none⟩ = some (I dj) := fun o => (cel o _ hsz1.2).trans x1
          have x4' : ∀ o, (w1.alloc o).cell? ⟨wr.heap.size, 4, none⟩ = some (.bool di) := fun o => (cel o _ hsz1.2).trans x4
          have x4'' : ∀ o o', ((w1.alloc o).alloc o').cell? ⟨wr.heap.size, 4, none⟩ = some (.bool di) := fun o o' => (World.cell?_of_block (Below.heap_alloc _ _ _ (by rw [World.size_alloc]; show wr.heap.size < _; omega))).trans (x4' o)
          have hlw : w.heap.size ≤ w1.heap.size := by omega
          have P0 : w1.cell? ⟨pb, poff + dw, none⟩ = some (.slice (some ⟨sb, soff, none⟩) sn sc) := (HB1.out.cell (p := ⟨pb, _, none⟩) hpb).trans HPK.out
          have Q0 : w1.cell? ⟨sb, soff + dj * 2, none⟩ = some (I kd) := (HB1.out.cell (p := ⟨sb, _, none⟩) hsb).trans HQ1.out
          have Q1 : w1.cell? ⟨sb, soff + (dj * 2 + 1), none⟩ = some (I y) := (HB1.out.cell (p := ⟨sb, _, none⟩) hsb).trans HQ2.out
          have Q1b : w1.cell? ⟨sb, soff + dj * 2 + 1, none⟩ = some (I y) := Q1
          have P0' : ∀ o, (w1.alloc o).cell? ⟨pb, poff + dw, none⟩ = some (.slice (some ⟨sb, soff, none⟩) sn sc) := fun o => (cel o ⟨pb, _, none⟩ (Nat.lt_of_lt_of_le hpb hlw)).trans P0
          have Q0' : ∀ o, (w1.alloc o).cell? ⟨sb, soff + dj * 2, none⟩ = some (I kd) := fun o => (cel o ⟨sb, _, none⟩ (Nat.lt_of_lt_of_le hsb hlw)).trans Q0
          have Q1' : ∀ o, (w1.alloc o).cell? ⟨sb, soff + (dj * 2 + 1), none⟩ = some (I y) := fun o => (cel o ⟨sb, _, none⟩ (Nat.lt_of_lt_of_le hsb hlw)).trans Q1
          have Q1c : ∀ o, (w1.alloc o).cell? ⟨sb, soff + dj * 2 + 1, none⟩ = some (I y) := Q1'
          have z0 : ∀ o, (w1.alloc o).cell? ⟨w.heap.size, 0, none⟩ = some (.bool (a 0)) := fun o => (cel o _ (by show w.heap.size < _; have := HSZ.out; omega)).trans (K0.out.cell (x := 0) (by omega))
          have z1 : ∀ o, (w1.alloc o).cell? ⟨w.heap.size, 1, none⟩ = some (.bool (a 1)) := fun o => (cel o _ (by show w.heap.size < _; have := HSZ.out; omega)).trans (K0.out.cell (x := 1) (by omega))
          have z2 : ∀ o, (w1.alloc o).cell? ⟨w.heap.size, 2, none⟩ = some (.bool (a 2)) := fun o => (cel o _ (by show w.heap.size < _; have := HSZ.out; omega)).trans (K0.out.cell (x := 2) (by omega))
          have z3 : ∀ o, (w1.alloc o).cell? ⟨w.heap.size, 3, none⟩ = some (.bool (a 3)) := fun o => (cel o _ (by show w.heap.size < _; have := HSZ.out; omega)).trans (K0.out.cell (x := 3) (by omega))
          have z4 : ∀ o, (w1.alloc o).cell? ⟨w.heap.size, 4, none⟩ = some (.bool (a 4)) := fun o => (cel o _ (by show w.heap.size < _; have := HSZ.out; omega)).trans (K0.out.cell (x := 4) (by omega))
          have z5 : ∀ o, (w1.alloc o).cell? ⟨w.heap.size, 5, none⟩ = some (.bool (a 5)) := fun o => (cel o _ (by show w.heap.size < _; have := HSZ.out; omega)).trans (K0.out.cell (x := 5) (by omega))
          have z6 : ∀ o, (w1.alloc o).cell? ⟨w.heap.size, 6, none⟩ = some (.bool (a 6)) := fun o => (cel o _ (by show w.heap.size < _; have := HSZ.out; omega)).trans (K0.out.cell (x := 6) (by omega))
          have z7 : ∀ o, (w1.alloc o).cell? ⟨w.heap.size, 7, none⟩ = some (.bool (a 7)) := fun o => (cel o _ (by show w.heap.size < _; have := HSZ.out; omega)).trans (K0.out.cell (x := 7) (by omega))
          have z8 : ∀ o, (w1.alloc o).cell? ⟨w.heap.size, 8, none⟩ = some (.bool (a 8)) := fun o => (cel o _ (by show w.heap.size < _; have := HSZ.out; omega)).trans (K0.out.cell (x := 8) (by omega))
          have z9 : ∀ o, (w1.alloc o).cell? ⟨w.heap.size, 9, none⟩ = some (.bool (a 9)) := fun o => (cel o _ (by show w.heap.size < _; have := HSZ.out; omega)).trans (K0.out.cell (x := 9) (by omega))
          have zy : ∀ o, (w1.alloc o).cell? ⟨w.heap.size, y, none⟩ = some (.bool (a y)) := fun o => (cel o _ (by show w.heap.size < _; omega)).trans (K0.out.cell hy10)
          clear hb1 e0 e1 hsz hszx cel xc xv hsz1 D0 D1 D2 D3 D4
          go_wp2_with fail
          go_region
          obtain ⟨v, hv⟩ : ∃ v, a y = v := ⟨_, rfl⟩
          rw [hv] at zy
          have HV := Lib.hid hv
          clear hv
          go_upto_block 2 with fail
          go_cut [12] (fun s12 wx => ∃ (WB : Bool) (nx : Nat → Bool), s12 = .bool WB ∧ Hid (ordF (dds (prog0 es)) m (b10 a) L (b10 b) k = (WB == di && ordB (dds (prog0 es)) m (b10 nx) (L.eraseIdx k) (b10 b))) ∧ Hid (KBk wx (w1.heap.size + 1) nx ∧ KBk wx w.heap.size a ∧ KBk wx (w.heap.size + 1) b ∧ Below w.heap.size w wx ∧ w1.heap.size + 1 < wx.heap.size) ∧ wx.cell? ⟨wr.heap.size, 4, none⟩ = some (.bool di))
          case first =>
            rcases hk3 with rfl | rfl | rfl
            · go_wp2_with fail
              go_meet
              case rel =>
                rw [k10_set a hy10]
                refine ⟨!v, upd a y true, rfl, Lib.hid ?_, Lib.hid (wNextD K0.out K1.out HB1.out HSZ.out.1 (.cells #[I 1, I y] 50) (upd a y true)), x4'' _ _⟩
                rw [HF.out, dW1 a hy10, HV.out, dN1 a hy10]
                rfl
            · go_wp2_with fail
              go_meet
              case rel =>
                rw [k10_set a hy10]
                refine ⟨v, upd a y false, rfl, Lib.hid ?_, Lib.hid (wNextD K0.out K1.out HB1.out HSZ.out.1 (.cells #[I 2, I y] 50) (upd a y false)), x4'' _ _⟩
                rw [HF.out, dW2 a hy10 (by decide), HV.out, dN2 a hy10]
                rfl
            · go_wp2_with fail
              go_meet
              case rel =>
                refine ⟨v, a, rfl, Lib.hid ?_, Lib.hid (wNextD K0.out K1.out HB1.out HSZ.out.1 (.cells #[I 3, I y] 50) a), x4'' _ _⟩
                rw [HF.out, dW2 a hy10 (by decide), HV.out, dN3 a y]
                rfl
          case rest =>
          obtain ⟨WB, nx, rfl, HFF0, HN, hx4⟩ := hcut
          obtain ⟨wn, rfl⟩ : ∃ x, x = wc := ⟨wc, rfl⟩
          obtain ⟨R, hR⟩ : ∃ R, ordB (dds (prog0 es)) m (b10 nx) (L.eraseIdx k) (b10 b) = R := ⟨_, rfl⟩
          rw [hR] at HFF0
          have HR := Lib.hid hR
          have N0 : Hid (KBk wn (w1.heap.size + 1) nx) := Lib.hid HN.out.1
          have N1 : Hid (KBk wn w.heap.size a) := Lib.hid HN.out.2.1
          have N2 : Hid (KBk wn (w.heap.size + 1) b) := Lib.hid HN.out.2.2.1
          have N3 : Hid (Below w.heap.size w wn) := Lib.hid HN.out.2.2.2.1
          have N4 : Hid (w1.heap.size + 1 < wn.heap.size) := Lib.hid HN.out.2.2.2.2
          have N5 : Hid (wr.heap.size < wn.heap.size) := Lib.hid (by have := N4.out; have := HSZ.out; omega)
          have N6 : Hid (w.heap.size + 1 < wn.heap.size) := Lib.hid (by have := N4.out; have := HSZ.out; omega)
          have X4 := Lib.hid hx4
          clear hR HN zy x0 x1 x4 x0' x1' x4' x4'' P0 Q0 Q1 Q1b P0' Q0' Q1' Q1c z0 z1 z2 z3 z4 z5 z6 z7 z8 z9
          cases hwd : (WB == di) with
          | false =>
            go_wp2_with fail
            go_quiet (fail)
            go_wp2
            go_roundw
            case rel => exact ⟨k + 1, by omega, by go_num, Lib.hid (by rw [range_next, HNO.out, HFF0.out, hwd]; rfl), N1.out, N2.out, below_drewN N3.out _⟩
            case measure => simp [intOf]; omega
          | true =>
            have HCL : Hid (∀ x, Below wn.heap.size wn x → Calls Try.prog 23 #[.slice (some ⟨g, 0, none⟩) n c] x fun e w' => ∃ g' c' bs, e = .returned (.slice (some ⟨g', 0, none⟩) n c') ∧ wn.heap.size ≤ g' ∧ OwnD w' bs (.slice (some ⟨g', 0, none⟩) n c') L ∧ Below wn.heap.size wn w') := fun x hx => (cloneD_any g n c L x ((HD.out.below N3.out).below hx) (by omega) (by omega)).mono fun e w' ⟨g', c', a1, a2, a3, a4⟩ => ⟨g', c', _, a1, Nat.le_trans hx.size a2, a3, hx.trans (a4.mono hx.size)⟩
            have hu10 := Try.underlying39
            have hi0 : (Try.prog.info? 39).map (·.size) = some (k10l nx).length := by kernel_rfl
            have hi1 : (Try.prog.info? 39).map (·.size) = some (k10l b).length := by kernel_rfl
            have hkw : IntKind.i64.wrap ((k : Int) + 1) = (k : Int) + 1 := IntWalk.i64_in _ (by omega)
            clear hx4
            go_wp2_with fail
            refine wp_region_held_drew (S := (fun w' => w'.rangeAt (w1.heap.size + 1) 0 (k10l nx) ∧ w'.rangeAt (w.heap.size + 1) 0 (k10l b) ∧ w'.cell? ⟨wr.heap.size, 4, none⟩ = some (.bool di))) (by kernel_rfl) ⟨N0.out.rg, N2.out.rg, X4.out⟩ (fun hHeld => ?_)
            simp only [List.size_toArray, List.length_cons, List.length_nil, Nat.reduceAdd, Array.replicate_succ, Array.replicate_zero, List.push_toArray, List.nil_append, List.cons_append]
            refine wpAnyH_take (i := 0) (oi := ({ dst := some 58, op := Op.move (Operand.tmp 12), type := 4, pos := "hands.go:302", after := #[], guard := none } : Oper)) (v := ?v0) rfl (by kernel_rfl) (by kernel_rfl) (by kernel_rfl) (fun _ _ _ h => h) (Or.inl ⟨by rfl, ?hy0⟩) hHeld ?rest0
            case hy0 =>
              intro w hSw
              try dsimp only at hSw
              first | (go_simp; done) | (go_simp; with_reducible rfl)
            try simp only [Act.put, List.setIfInBounds_toArray, List.set_cons_zero, List.set_cons_succ]
            refine wpAnyH_take (i := 1) (oi := ({ dst := some 59, op := Op.fieldAddr 37 (Operand.tmp 10) 4, type := 0, pos := "hands.go:302", after := #[], guard := none } : Oper)) (v := ?v1) rfl (by kernel_rfl) (by kernel_rfl) (by kernel_rfl) (fun _ _ _ h => h) (Or.inl ⟨by rfl, ?hy1⟩) hHeld ?rest1
            case hy1 =>
              intro w hSw
              try dsimp only at hSw
              first | (go_simp; done) | (go_simp; with_reducible rfl)
            try simp only [Act.put, List.setIfInBounds_toArray, List.set_cons_zero, List.set_cons_succ]
            refine wpAnyH_take (i := 2) (oi := ({ dst := some 60, op := Op.load 4 (Operand.tmp 59), type := 4, pos := "hands.go:302", after := #[{ on := 1, ground := Ground.data }], guard := none } : Oper)) (v := ?v2) rfl (by kernel_rfl) (by kernel_rfl) (by kernel_rfl) (fun _ _ _ h => h) (Or.inl ⟨by rfl, ?hy2⟩) hHeld ?rest2
            case hy2 =>
              intro w hSw
              try dsimp only at hSw
              first | (go_simp; done) | (go_simp; with_reducible rfl)
            try simp only [Act.put, List.setIfInBounds_toArray, List.set_cons_zero, List.set_cons_succ]
            refine wpAnyH_take (i := 3) (oi := ({ dst := some 61, op := Op.binOp BinOp.eql 4 (Operand.tmp 58) (Operand.tmp 60) 4, type := 4, pos := "hands.go:302", after := #[{ on := 0, ground := Ground.data }, { on := 2, ground := Ground.data }], guard := none } : Oper)) (v := ?v3) rfl (by kernel_rfl) (by kernel_rfl) (by kernel_rfl) (fun _ _ _ h => h) (Or.inl ⟨by rfl, ?hy3⟩) hHeld ?rest3
            case hy3 =>
              intro w hSw
              try dsimp only at hSw
              first | (go_simp; done) | (go_simp; with_reducible rfl)
            try simp only [Act.put, List.setIfInBounds_toArray, List.set_cons_zero, List.set_cons_succ]
            refine wpAnyH_take (i := 4) (oi := ({ dst := some 62, op := Op.move (Operand.tmp 61), type := 4, pos := "hands.go:302", after := #[{ on := 3, ground := Ground.data }], guard := none } : Oper)) (v := ?v4) rfl (by kernel_rfl) (by kernel_rfl) (by kernel_rfl) (fun _ _ _ h => h) (Or.inl ⟨by rfl, ?hy4⟩) hHeld ?rest4
            case hy4 =>
              intro w hSw
              try dsimp only at hSw
              first | (go_simp; done) | (go_simp; with_reducible rfl)
            try simp only [Act.put, List.setIfInBounds_toArray, List.set_cons_zero, List.set_cons_succ]
            refine wpAnyH_take (i := 5) (oi := ({ dst := some 63, op := Op.load 39 (Operand.tmp 13), type := 39, pos := "hands.go:302", after := #[{ on := 4, ground := Ground.guard }], guard := some (4, true) } : Oper)) (v := .agg #[.bool (nx 0), .bool (nx 1), .bool (nx 2), .bool (nx 3), .bool (nx 4), .bool (nx 5), .bool (nx 6), .bool (nx 7), .bool (nx 8), .bool (nx 9)]) rfl (by kernel_rfl) (by kernel_rfl) (by kernel_rfl) (fun _ _ _ h => h) (yieldsIf_load_mid (by rfl) _ _ rfl (w1.heap.size + 1) 0 rfl (k10l nx) _ (fun w' h => h.1) hu10 rfl hi0) hHeld ?rest5
            try simp only [Act.put, List.setIfInBounds_toArray, List.set_cons_zero, List.set_cons_succ]
            refine wpAnyH_take (i := 6) (oi := ({ dst := some 64, op := Op.move (Operand.tmp 1), type := 23, pos := "hands.go:302", after := #[{ on := 4, ground := Ground.guard }], guard := some (4, true) } : Oper)) (v := ?v6) rfl (by kernel_rfl) (by kernel_rfl) (by kernel_rfl) (fun _ _ _ h => h) (Or.inl ⟨by rfl, ?hy6⟩) hHeld ?rest6
            case hy6 =>
              intro w hSw
              try dsimp only at hSw
              first | (go_simp; done) | (go_simp; with_reducible rfl)
            try simp only [Act.put, List.setIfInBounds_toArray, List.set_cons_zero, List.set_cons_succ]
            refine wpAnyH_take (i := 7) (oi := ({ dst := some 65, op := Op.move (Operand.tmp 2), type := 24, pos := "hands.go:302", after := #[{ on := 4, ground := Ground.guard }], guard := some (4, true) } : Oper)) (v := ?v7) rfl (by kernel_rfl) (by kernel_rfl) (by kernel_rfl) (fun _ _ _ h => h) (Or.inl ⟨by rfl, ?hy7⟩) hHeld ?rest7
            case hy7 =>
              intro w hSw
              try dsimp only at hSw
              first | (go_simp; done) | (go_simp; with_reducible rfl)
            try simp only [Act.put, List.setIfInBounds_toArray, List.set_cons_zero, List.set_cons_succ]
            refine wpAnyH_take (i := 9) (oi := ({ dst := some 67, op := Op.move (Operand.tmp 9), type := 3, pos := "hands.go:302", after := #[{ on := 4, ground := Ground.guard }], guard := some (4, true) } : Oper)) (v := ?v9) rfl (by kernel_rfl) (by kernel_rfl) (by kernel_rfl) (fun _ _ _ h => h) (Or.inl ⟨by rfl, ?hy9⟩) hHeld ?rest9
            case hy9 =>
              intro w hSw
              try dsimp only at hSw
              first | (go_simp; done) | (go_simp; with_reducible rfl)
            try simp only [Act.put, List.setIfInBounds_toArray, List.set_cons_zero, List.set_cons_succ]
            refine wpAnyH_take (i := 10) (oi := ({ dst := some 68, op := Op.move (Operand.tmp 9), type := 3, pos := "hands.go:302", after := #[{ on := 4, ground := Ground.guard }], guard := some (4, true) } : Oper)) (v := ?v10) rfl (by kernel_rfl) (by kernel_rfl) (by kernel_rfl) (fun _ _ _ h => h) (Or.inl ⟨by rfl, ?hy10⟩) hHeld ?rest10
            case hy10 =>
              intro w hSw
              try dsimp only at hSw
              first | (go_simp; done) | (go_simp; with_reducible rfl)
            try simp only [Act.put, List.setIfInBounds_toArray, List.set_cons_zero, List.set_cons_succ]
            refine wpAnyH_take (i := 11) (oi := ({ dst := some 69, op := Op.binOp BinOp.add 3 (Operand.tmp 68) (Operand.const (Value.int IntKind.i64 1)) 3, type := 3, pos := "hands.go:302", after := #[{ on := 10, ground := Ground.data }, { on := 4, ground := Ground.guard }], guard := some (4, true) } : Oper)) (v := ?v11) rfl (by kernel_rfl) (by kernel_rfl) (by kernel_rfl) (fun _ _ _ h => h) (Or.inl ⟨by rfl, ?hy11⟩) hHeld ?rest11
            case hy11 =>
              intro w hSw
              try dsimp only at hSw
              first | (go_simp; done) | (go_simp; with_reducible rfl)
            try simp only [Act.put, List.setIfInBounds_toArray, List.set_cons_zero, List.set_cons_succ]
            refine wpAnyH_take (i := 13) (oi := ({ dst := some 71, op := Op.load 39 (Operand.tmp 7), type := 39, pos := "hands.go:302", after := #[{ on := 4, ground := Ground.guard }], guard := some (4, true) } : Oper)) (v := .agg #[.bool (b 0), .bool (b 1), .bool (b 2), .bool (b 3), .bool (b 4), .bool (b 5), .bool (b 6), .bool (b 7), .bool (b 8), .bool (b 9)]) rfl (by kernel_rfl) (by kernel_rfl) (by kernel_rfl) (fun _ _ _ h => h) (yieldsIf_load_mid (by rfl) _ _ rfl (w.heap.size + 1) 0 rfl (k10l b) _ (fun w' h => h.2.1) hu10 rfl hi1) hHeld ?rest13
            try simp only [Act.put, List.setIfInBounds_toArray, List.set_cons_zero, List.set_cons_succ]
            refine wpAnyH_ready (rs := [8]) (by kernel_rfl) (by simp) (AllReadyH.cons (o := ({ dst := some 66, op := Op.call { callee := Callee.value (Operand.func 23), args := #[Operand.tmp 65], argTypes := #[24] }, type := 24, pos := "hands.go:302", after := #[{ on := 7, ground := Ground.data }, { on := 4, ground := Ground.chain }, { on := 4, ground := Ground.guard }], guard := some (4, true) } : Oper)) rfl (fun K hK => ?_) AllReadyH.nil)
            rw [if_pos (by rfl)]
            go_simp
            refine (HCL.out _ (Below.refl _ _).drew).mono ?_
            rintro e wa ⟨g', c', bs, rfl, hg', hown, hba⟩
            have HOWN := Lib.hid hown
            have HG := Lib.hid hg'
            have HBA := Lib.hid hba
            have KA0 : Hid (KBk wa (w1.heap.size + 1) nx) := N0.out.same (hba.block _ N4.out)
            have KA2 : Hid (KBk wa (w.heap.size + 1) b) := N2.out.same (hba.block _ N6.out)
            have XA : Hid (wa.cell? ⟨wr.heap.size, 4, none⟩ = some (.bool di)) := (World.cell?_of_block (hba.block _ N5.out)).trans X4.out
            clear hown hg' hba
            try go_wp2_with fail
            refine hK.out _ _ (⟨KA0.out.rg, KA2.out.rg, XA.out⟩) (fun hHeld => ?_)
            clear hK K
            try simp only [Act.put, List.setIfInBounds_toArray, List.set_cons_zero, List.set_cons_succ]
            refine wpAnyH_ready (rs := [12]) (by kernel_rfl) (by simp) (AllReadyH.cons (o := ({ dst := some 70, op := Op.call { callee := Callee.value (Operand.func 22), args := #[Operand.tmp 66, Operand.tmp 67, Operand.tmp 69], argTypes := #[24, 3, 3] }, type := 24, pos := "hands.go:302", after := #[{ on := 8, ground := Ground.data }, { on := 9, ground := Ground.data }, { on := 11, ground := Ground.data }, { on := 8, ground := Ground.chain }, { on := 4, ground := Ground.guard }], guard := some (4, true) } : Oper)) rfl (fun K hK => ?_) AllReadyH.nil)
            rw [if_pos (by rfl)]
            go_simp
            refine ((show Calls Try.prog 22 #[.slice (some ⟨g', 0, none⟩) n c', .int .i64 k, .int .i64 ((k : Int) + 1)] wa _ from delD_any bs g' n c' k (k + 1) rfl L wa HOWN.out HL.out hlt (by omega))).mono ?_
            rintro e wb ⟨c2, rfl, hdr, hbb⟩
            have HDB := Lib.hid hdr
            have HBB : Hid (Below wn.heap.size wn wb) := HBA.out.trans (hbb _ HG.out)
            have KB0 : Hid (KBk wb (w1.heap.size + 1) nx) := N0.out.same (HBB.out.block _ N4.out)
            have KB2 : Hid (KBk wb (w.heap.size + 1) b) := N2.out.same (HBB.out.block _ N6.out)
            have XB : Hid (wb.cell? ⟨wr.heap.size, 4, none⟩ = some (.bool di)) := (World.cell?_of_block (HBB.out.block _ N5.out)).trans X4.out
            clear hdr hbb
            try go_wp2_with fail
            refine hK.out _ _ (⟨KB0.out.rg, KB2.out.rg, XB.out⟩) (fun hHeld => ?_)
            clear hK K
            try simp only [Act.put, List.setIfInBounds_toArray, List.set_cons_zero, List.set_cons_succ]
            refine wpAnyH_ready (rs := [14]) (by kernel_rfl) (by simp) (AllReadyH.cons (o := ({ dst := some 72, op := Op.call { callee := Callee.value (Operand.func 10), args := #[Operand.tmp 63, Operand.tmp 64, Operand.tmp 70, Operand.tmp 71], argTypes := #[39, 23, 24, 39] }, type := 4, pos := "hands.go:302", after := #[{ on := 5, ground := Ground.data }, { on := 6, ground := Ground.data }, { on := 12, ground := Ground.data }, { on := 13, ground := Ground.data }, { on := 12, ground := Ground.chain }, { on := 4, ground := Ground.guard }], guard := some (4, true) } : Oper)) rfl (fun K hK => ?_) AllReadyH.nil)
            rw [if_pos (by rfl)]
            go_simp
            refine (HIH.out nx b (some ⟨g', 0, none⟩) (n - 1) c2 (L.eraseIdx k) wb (by have := HNM.out; omega) (by omega) (HP.out.below (N3.out.trans (HBB.out.mono N3.out.size))) HDB.out (todo_erase HT.out k)).mono ?_
            rw [HR.out]
            rintro e wd ⟨rfl, hbc⟩
            have HBC : Hid (Below wn.heap.size wn wd) := HBB.out.trans (hbc.mono HBB.out.size)
            have KC0 : Hid (KBk wd (w1.heap.size + 1) nx) := N0.out.same (HBC.out.block _ N4.out)
            have KC2 : Hid (KBk wd (w.heap.size + 1) b) := N2.out.same (HBC.out.block _ N6.out)
            have XC : Hid (wd.cell? ⟨wr.heap.size, 4, none⟩ = some (.bool di)) := (World.cell?_of_block (HBC.out.block _ N5.out)).trans X4.out
            clear hbc
            try go_wp2_with fail
            refine hK.out _ _ (⟨KC0.out.rg, KC2.out.rg, XC.out⟩) (fun hHeld => ?_)
            clear hK K
            try simp only [Act.put, List.setIfInBounds_toArray, List.set_cons_zero, List.set_cons_succ]
            refine wpAnyH_take (i := 15) (oi := ({ dst := some 73, op := Op.pick (Operand.tmp 62) (Operand.tmp 72) (Operand.const (Value.bool false)), type := 4, pos := "hands.go:302", after := #[{ on := 4, ground := Ground.data }, { on := 14, ground := Ground.data }], guard := none } : Oper)) (v := ?v15) rfl (by kernel_rfl) (by kernel_rfl) (by kernel_rfl) (fun _ _ _ h => h) (Or.inl ⟨by rfl, ?hy15⟩) hHeld ?rest15
            case hy15 =>
              intro w hSw
              try dsimp only at hSw
              first | (go_simp; done) | (go_simp; with_reducible rfl)
            try simp only [Act.put, List.setIfInBounds_toArray, List.set_cons_zero, List.set_cons_succ]
            refine wpAnyH_done (by kernel_rfl) ?_ _
            all_goals
              cases R
              · go_wp2
                go_roundw
                case rel => exact ⟨k + 1, by omega, by go_num, Lib.hid (by rw [range_next, HNO.out, HFF0.out, hwd]; rfl), N1.out.same (HBC.out.block _ (by have := N6.out; omega)), N2.out.same (HBC.out.block _ N6.out), N3.out.trans (HBC.out.mono N3.out.size)⟩
                case measure => simp [intOf]; omega
              · have HEND : Hid (ordB (dds (prog0 es)) (m + 1) (b10 a) L (b10 b) = true) := by
                  show _ = _
                  rw [ordB_succ, List.any_eq_true]
                  exact ⟨k, List.mem_range.mpr hkl, by rw [HFF0.out, hwd]; rfl⟩
                go_wp2
                all_goals
                  go_ret
                  exact ⟨by rw [HEND.out]; rfl, N3.out.trans (HBC.out.mono N3.out.size)⟩
      · obtain rfl : n = k := by omega
        have HEND : Hid (ordB (dds (prog0 es)) (m + 1) (b10 a) L (b10 b) = false) := by show _ = _; rw [ordB_succ, HL.out]; exact HNO.out
        clear h0 h1 hbl
        go_wp2
        all_goals
          go_ret
          exact ⟨by rw [HEND.out]; rfl, HBL.out⟩

end Go.Proofs.Ytfmdpmebllepeaa
