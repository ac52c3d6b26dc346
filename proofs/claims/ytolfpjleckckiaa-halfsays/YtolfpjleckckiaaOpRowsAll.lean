/-
  Joined texts: YtolfpjleckckiaaEqT, YtolfpjleckckiaaQLives, YtolfpjleckckiaaOpRows.
-/
import Derived.Test.YtolfpjleckckiaaEqAns
import Derived.Test.YtolfpjleckckiaaEqAll
import Derived.Test.YtolfpjleckckiaaQRun
import Derived.Test.YtolfpjleckckiaaQEnd
import Derived.Test.YtolfpjleckckiaaRunAAll
import Derived.Test.YtolfpjleckckiaaInts
import Derived.Deep.AppendLies
/-
  slices.Equal of lists that are the same.
-/
namespace Go.Proofs.Ytolfpjleckckiaa
open Go.RowKit

theorem eqAns_t (A A' : Option Addr) (n c c' : Nat) (l : List An) (w : World) (h : AS w A n c l) (h' : AS w A' n c' l) (hn : n ≤ 1000000) :
    Calls Try.prog 13 #[.slice A n c, .slice A' n c'] w fun e w' => e = .returned (.bool true) ∧ Below w.heap.size w w' := by
  refine (eqAns_any A A' n n c c' l l w h h' hn hn).mono ?_
  rintro e w' ⟨rfl, hb⟩
  exact ⟨by simp, hb⟩
theorem eqInt_t (A A' : Option Addr) (n c c' : Nat) (l : List Int) (w : World) (h : IS w A n c l) (h' : IS w A' n c' l) (hn : n ≤ 1000000) :
    Calls Try.prog 20 #[.slice A n c, .slice A' n c'] w fun e w' => e = .returned (.bool true) ∧ Below w.heap.size w w' := by
  refine (eqInt_any A A' n n c c' l l w h h' hn hn).mono ?_
  rintro e w' ⟨rfl, hb⟩
  exact ⟨by simp, hb⟩

end Go.Proofs.Ytolfpjleckckiaa

/-
  hedgkeep.halfLives: three keys, far apart.
-/
namespace Go.Proofs.Ytolfpjleckckiaa
open Go.RowKit Go.Maps

theorem qon {w w1 w2 : World} (h : Below w.heap.size w w1) (hb : Below w1.heap.size w1 w2) : Below w.heap.size w w2 := h.trans (hb.mono h.size)
theorem qbox {w w' : World} {o : Obj} (hb : Below (w.alloc o).heap.size (w.alloc o) w') : Below w.heap.size w w' := qon ((Below.refl _ _).alloc (Nat.le_refl _) _) hb
abbrev hlOps : List OP := [(1, 65535, 0), (1, 300, 0), (1, 2, 0), (4, 300, 0), (3, 300, 0), (5, 65535, 0)]
abbrev hlAns : List An := [an0, an0, an0, ⟨0, 65535, 0, true⟩, ⟨0, 0, 0, true⟩, ⟨0, 2, 0, true⟩]
theorem hl_run : hR hlOps = ([2, 65535], hlAns) := by decide +kernel
abbrev hlOpsO : Obj := .cells #[I 1, I 65535, I 0, I 1, I 300, I 0, I 1, I 2, I 0, I 4, I 300, I 0, I 3, I 300, I 0, I 5, I 65535, I 0] 39
theorem hl_os (w : World) : OS (w.alloc hlOpsO) (some ⟨w.heap.size, 0, none⟩) 6 6 hlOps := by
  refine ⟨rfl, Nat.le_refl _, fun _ => ⟨w.heap.size, 0, rfl, by simp, fun i hi j hj => ?_⟩⟩
  have hh : (w.alloc hlOpsO).heap[w.heap.size]? = some hlOpsO := heap_alloc_new w _
  have h4 : i = 0 ∨ i = 1 ∨ i = 2 ∨ i = 3 ∨ i = 4 ∨ i = 5 := by omega
  have h3 : j = 0 ∨ j = 1 ∨ j = 2 := by omega
  rcases h4 with rfl | rfl | rfl | rfl | rfl | rfl <;> rcases h3 with rfl | rfl | rfl <;> (rw [cell_of_row _ _ _ _ _ _ hh]; rfl)
theorem hl_ends : qErr [9, 4, 7] = 0 ∧ QEnds (· ∈ ([9, 4, 7] : List Int)) 4 9 := by
  refine ⟨by decide, by simp, by simp, fun x hx => ?_⟩
  simp at hx
  omega

set_option maxRecDepth 100000 in
set_option maxHeartbeats 4000000 in
theorem halfLives_any (w : World) : Calls Try.prog 15 #[] w fun e w' => e = .returned (.bool true) ∧ Below w.heap.size w w' := by
  go_enter Try.func15, Try.ntmps15
  go_wp2_with fail
  refine (QRun_any _ 6 6 hlOps _ (hl_os w) (by omega)).mono ?_
  rw [hl_run]
  rintro e w1 ⟨A1, n1, c1, A2, n2, c2, rfl, his, has, hb1⟩
  obtain rfl : n1 = 2 := his.len.symm
  obtain rfl : n2 = 6 := has.len.symm
  have HB1 := Lib.hid (qbox hb1)
  have HI1 := Lib.hid his
  have HA1 := Lib.hid has
  clear his has hb1
  go_wp2_with fail
  refine (Ends_any _ 3 3 [9, 4, 7] _ (is_new w1 3 [9, 4, 7]) (by omega)).mono ?_
  rintro e w2 ⟨⟨lo, hi, rfl, _, he⟩, hb2⟩
  have he2 := he hl_ends.1
  obtain ⟨rfl, rfl⟩ := qends_one he2 hl_ends.2
  have hz : qErr [9, 4, 7] = 0 := hl_ends.1
  rw [hz]
  have hbx : Below w1.heap.size w1 w2 := qbox hb2
  have HB2 := Lib.hid (qon HB1.out hbx)
  have HI2 := Lib.hid (HI1.out.below hbx)
  have HA2 := Lib.hid (HA1.out.below hbx)
  clear he he2 hz hb2 hbx HI1 HA1
  go_wp2_with fail
  refine (ok_any _ 2 2 [0, 0] _ (is_new w2 25 [0, 0]) (by omega) (by simp)).mono ?_
  rintro e w3 ⟨rfl, rfl⟩
  obtain ⟨w3, hw3⟩ : ∃ W, w2.alloc (Obj.cells (List.map I [0, 0]).toArray 25) = W := ⟨_, rfl⟩
  have hbx : Below w2.heap.size w2 w3 := by rw [← hw3]; exact (Below.refl _ _).alloc (Nat.le_refl _) _
  rw [hw3]
  have HB3 := Lib.hid (qon HB2.out hbx)
  have HI3 := Lib.hid (HI2.out.below hbx)
  have HA3 := Lib.hid (HA2.out.below hbx)
  clear hbx hw3 HI2 HA2
  go_wp2_with fail
  refine (eqInt_t A1 _ 2 c1 2 [2, 65535] _ (HI3.out.alloc _) (is_new w3 3 [2, 65535]) (by omega)).mono ?_
  rintro e w4 ⟨rfl, hb4⟩
  have hbx : Below w3.heap.size w3 w4 := qbox hb4
  have HB4 := Lib.hid (qon HB3.out hbx)
  have hA4 := HA3.out.below hbx
  obtain ⟨b, off, rfl, hbb, hc⟩ := hA4.at_ (by omega)
  obtain ⟨x0, x1, x2, x3⟩ := hc 3 (by omega)
  obtain ⟨y0, y1, y2, y3⟩ := hc 5 (by omega)
  simp only [List.getElem_cons_succ, List.getElem_cons_zero] at x0 x1 x2 x3 y0 y1 y2 y3
  clear hb4 hbx HI3 HA3 hA4 hc
  go_wp2
  go_ret
  exact ⟨rfl, HB4.out⟩

end Go.Proofs.Ytolfpjleckckiaa

/-
  ROWS OF OPS of the call's own.
-/
namespace Go.Proofs.Ytolfpjleckckiaa
open Go.RowKit

def flatO : List OP → List Value
  | [] => []
  | o :: t => I o.1 :: I o.2.1 :: I o.2.2 :: flatO t
theorem flatO_length (l : List OP) : (flatO l).length = l.length * 3 := by induction l <;> simp [flatO, *]; omega
theorem flatO_append (l m : List OP) : flatO (l ++ m) = flatO l ++ flatO m := by induction l <;> simp [flatO, *]
theorem flatO_take (l : List OP) (k : Nat) : (flatO l).take (k * 3) = flatO (l.take k) := by
  induction l generalizing k with
  | nil => simp [flatO]
  | cons o t ih =>
    cases k with
    | zero => simp [flatO]
    | succ k => rw [show (k + 1) * 3 = k * 3 + 1 + 1 + 1 by omega]; simp [flatO, ih]
theorem flatO_at (l : List OP) (i j : Nat) (h : i < l.length) (hj : j < 3) : (flatO l)[i * 3 + j]? = some (of_ l i j) := by
  induction l generalizing i with
  | nil => simp at h
  | cons o t ih =>
    cases i with
    | zero => rcases (show j = 0 ∨ j = 1 ∨ j = 2 by omega) with rfl | rfl | rfl <;> simp [flatO, of_]
    | succ i =>
      rw [show (i + 1) * 3 + j = i * 3 + j + 1 + 1 + 1 by omega]
      simp only [flatO, List.getElem?_cons_succ]
      rw [ih i (by simpa using h)]
      simp [of_]
theorem flatO_one (l : List OP) : ∀ u ∈ flatO l, u.oneCell' = true := by
  induction l with
  | nil => intro u h; cases h
  | cons o t ih =>
    intro u h
    simp [flatO] at h
    rcases h with rfl | rfl | rfl | h
    · rfl
    · rfl
    · rfl
    · exact ih u h
/-- a row of ops of the call's own -/
def OwnO (w : World) (base : Nat) (v : Value) (L : List OP) : Prop := w.ownsRow base 39 3 v L.length (flatO L)
theorem OwnO.os {w : World} {base : Nat} {v : Value} {L : List OP} (h : OwnO w base v L) : ∃ A c, v = .slice A L.length c ∧ OS w A L.length c L := by
  rcases h.2 with ⟨rfl, h0⟩ | ⟨g, cap, cur, rfl, hb, hg, hnc, _, hsz, htk⟩
  · have hl : L = [] := List.eq_nil_of_length_eq_zero h0
    subst hl
    exact ⟨none, 0, rfl, ⟨rfl, Rd.none_⟩⟩
  · refine ⟨_, cap, rfl, ⟨rfl, hnc, fun _ => ⟨g, 0, rfl, ?_, fun i hi j hj => ?_⟩⟩⟩
    · rcases Nat.lt_or_ge g w.heap.size with hlt | hge
      · exact hlt
      · rw [Array.getElem?_eq_none hge] at hg; cases hg
    · rw [cell_of_row _ _ _ _ _ _ hg]
      have h1 := flatO_at L i j hi hj
      rw [← htk, List.getElem?_take, if_pos (by omega)] at h1
      simpa using h1
theorem OwnO.prefix_ {w : World} {base k : Nat} {A : Option Addr} {c : Nat} {L : List OP} (h : OwnO w base (.slice A L.length c) L) (hk : k < L.length) : OwnO w base (.slice A k c) (L.take k) := by
  rcases h.2 with ⟨_, h0⟩ | ⟨g, cap, cur, e, hb, hg, hnc, hm, hsz, htk⟩
  · omega
  · have hl : (L.take k).length = k := by rw [List.length_take]; omega
    injection e with e1 e2 e3
    subst e1 e3
    refine ⟨by rw [flatO_length], .inr ⟨g, c, cur, by rw [hl], hb, hg, by omega, hm, hsz, ?_⟩⟩
    rw [hl, ← flatO_take, ← htk, List.take_take, Nat.min_eq_left (by omega)]
theorem op_info : (Try.prog.info? 39).map (fun i => (i.zero, i.size, i.bytes)) = some (some (.agg #[I 0, I 0, I 0]), 3, 24) := by kernel_rfl
theorem OS.cells {w : World} {n c : Nat} {A : Option Addr} {l : List OP} (h : OS w A n c l) {ad : Addr} (e : A = some ad) : ∀ j u, (flatO l)[j]? = some u → w.cell? (ad.add j) = some u := by
  intro j u hu
  have hj : j < (flatO l).length := by
    rcases Nat.lt_or_ge j (flatO l).length with h1 | h1
    · exact h1
    · rw [List.getElem?_eq_none h1] at hu; cases hu
  rw [flatO_length, h.len] at hj
  obtain ⟨b, off, e2, hb, hc⟩ := h.rd.2 (by omega)
  rw [e] at e2
  injection e2 with e2
  subst e2
  have h1 := hc (j / 3) (by omega) (j % 3) (by omega)
  have h2 := flatO_at l (j / 3) (j % 3) (by rw [h.len]; omega) (by omega)
  rw [show j / 3 * 3 + j % 3 = j by omega] at h1 h2
  rw [addn, h1]
  rw [h2] at hu
  exact hu
theorem OS.drewN {w : World} {n c : Nat} {A : Option Addr} {l : List OP} (h : OS w A n c l) (k : Nat) : OS (w.drewN k) A n c l := ⟨h.len, h.rd⟩

theorem three_new (w : World) (a b c : Int) (t : Nat) : ∀ j u, [I a, I b, I c][j]? = some u → (w.alloc (.cells #[I a, I b, I c] t)).cell? ((⟨w.heap.size, 0, none⟩ : Addr).add j) = some u := by
  intro j u hu
  rw [addn, Nat.zero_add]
  have := heap_alloc_new w (.cells #[I a, I b, I c] t)
  rw [cell_of_row _ _ _ _ _ _ this]
  simpa using hu
theorem three_one (a b c : Int) : ∀ u ∈ [I a, I b, I c], u.oneCell' = true := by
  intro u hu
  simp at hu
  rcases hu with rfl | rfl | rfl <;> rfl
end Go.Proofs.Ytolfpjleckckiaa
