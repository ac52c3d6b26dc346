/-
  Joined texts: YtpnjnedfcdppaaaGreatDoorSlR, YtpnjnedfcdppaaaGreatDoorZConc.
-/
import Derived.Test.YtpnjnedfcdppaaaGreatDoorCopy
import Derived.Test.YtpnjnedfcdppaaaGreatDoorSOrdAll
import Derived.Lib.AppendZeros
import Derived.WalkSpells
/-
  SLICES OF SLICES OF PAIRS. Nothing of the program.
-/
namespace Go.Proofs.YtpnjnedfcdppaaaGreatDoor
open Go.RowKit

theorem grow_own (w : World) (e : TypeId) (n : Nat) (h0 : 0 < n) (hn : n ≤ 1000) :
    (w.drew.alloc (.cells (Builtin.zeroCells (Value.agg #[I 0, I 0]).cells n ++ Builtin.zeroCells (Value.agg #[I 0, I 0]).cells (grownCap w n 0 e - n)) e)).ownsRow w.heap.size e 2 (.slice (some ⟨w.heap.size, 0, none⟩) 0 (grownCap w n 0 e)) ([] : PL).length (flat []) := by
  have hge := grownCap_ge w n 0 e
  refine ⟨rfl, .inr ⟨w.heap.size, grownCap w n 0 e, _, rfl, Nat.le_refl _, heap_alloc_new w.drew _, Nat.zero_le _, grownCap_le_maxLen w n 0 e (by unfold maxLen; omega), ?_, rfl⟩⟩
  rw [Array.size_append, size_zeroCells, size_zeroCells]
  simp [Value.cells]
  omega

structure Sl where
  A : Option Addr
  n : Nat
  c : Nat
  L : PL
abbrev Sl.val (s : Sl) : Value := .slice s.A s.n s.c
abbrev sl0 : Sl := ⟨none, 0, 0, []⟩
def Sl.ok (w : World) (s : Sl) : Prop := PS w s.A s.n s.c s.L
structure RS (w : World) (A : Option Addr) (m c : Nat) (es : List Sl) : Prop where
  len : es.length = m
  rd : Rd w w.heap.size 1 A m c (fun i _ => (es[i]?.getD sl0).val)
  each : ∀ s ∈ es, s.ok w
theorem RS.below {w w' : World} {A : Option Addr} {m c : Nat} {es : List Sl} (h : RS w A m c es) (hb : Below w.heap.size w w') : RS w' A m c es := ⟨h.len, h.rd.below hb, fun s hs => PS.below (h.each s hs) hb⟩
theorem RS.at_ {w : World} {A : Option Addr} {m c : Nat} {es : List Sl} (h : RS w A m c es) (hm : 0 < m) :
    ∃ b off, A = some ⟨b, off, none⟩ ∧ b < w.heap.size ∧ ∀ i (hi : i < m), w.cell? ⟨b, off + i, none⟩ = some (es[i]'(by rw [h.len]; exact hi)).val := by
  obtain ⟨b, off, e, hb, hc⟩ := h.rd.2 hm
  refine ⟨b, off, e, hb, fun i hi => ?_⟩
  have hl : i < es.length := by rw [h.len]; exact hi
  have h0 := hc i hi 0 (by omega)
  simpa [List.getElem?_eq_getElem hl] using h0

def sumN (es : List Sl) : Nat := es.foldr (fun s n => s.n + n) 0
def catL (es : List Sl) : PL := es.flatMap Sl.L
theorem sumN_append (a b : List Sl) : sumN (a ++ b) = sumN a + sumN b := by
  induction a with
  | nil => simp [sumN]
  | cons s t ih => simp only [sumN, List.cons_append, List.foldr_cons] at *; omega
theorem sumN_step (es : List Sl) (k : Nat) (h : k < es.length) : sumN (es.take (k + 1)) = sumN (es.take k) + es[k].n := by
  rw [List.take_succ_eq_append_getElem h, sumN_append]
  simp [sumN]
theorem sumN_take (es : List Sl) (k : Nat) : sumN (es.take k) ≤ sumN es := by
  conv => rhs; rw [← List.take_append_drop k es]
  rw [sumN_append]
  omega
theorem catL_step (es : List Sl) (k : Nat) (h : k < es.length) : catL (es.take (k + 1)) = catL (es.take k) ++ es[k].L := by
  unfold catL
  rw [List.take_succ_eq_append_getElem h, List.flatMap_append]
  simp only [List.flatMap_cons, List.flatMap_nil, List.append_nil]
theorem catL_len (es : List Sl) (w : World) (h : ∀ s ∈ es, s.ok w) : (catL es).length = sumN es := by
  induction es with
  | nil => rfl
  | cons s t ih =>
    have := (h s (by simp)).len
    have e : catL (s :: t) = s.L ++ catL t := rfl
    have e2 : sumN (s :: t) = s.n + sumN t := rfl
    rw [e, e2, List.length_append, ih (fun x hx => h x (by simp [hx])), this]

end Go.Proofs.YtpnjnedfcdppaaaGreatDoor

/-
  slices.Grow at nil, slices.Concat, of lists of spots.
-/
namespace Go.Proofs.YtpnjnedfcdppaaaGreatDoor
open Go.RowKit


set_option maxRecDepth 100000 in
set_option maxHeartbeats 1000000 in
theorem GrowZ_pos (n : Nat) (w : World) (h0 : 0 < n) (hn : n ≤ 1000) :
    Calls Tryz.prog 192 #[.slice none 0 0, I n] w fun e w' => ∃ v, e = .returned v ∧ OwnR w' w.heap.size 82 v [] ∧ Below w.heap.size w w' := by
  obtain ⟨i0, hi, hz0, hz1, hz2⟩ := info_parts gspot_info
  have hrun := fun ty => Lib.run_append_nil_zeros (P := Tryz.prog) w 41 3 ty 82 i0 _ .i64 .i64 Tryz.underlying41 Tryz.underlying3 hi hz0 n h0 (by omega) (by omega) (by rw [hz2]; omega)
  have HRUN := Lib.hid hrun
  have HOWN := Lib.hid (grow_own w 82 n h0 hn)
  have hge := grownCap_ge w n 0 82
  have HB : Hid (∀ o, Below w.heap.size w (w.drew.alloc o)) := fun o => ((Below.refl _ _).drew).alloc (Nat.le_refl _) _
  clear hi hz0 hz1 hz2 hrun
  go_enter Tryz.func192, Tryz.ntmps192
  go_wp2_with (at_builtin; refine Lib.wpList_append_run _ rfl (.tmp 20) (.tmp 21) _ _ rfl _ _ rfl rfl _ _ (HRUN.out _) ?_)
  generalize grownCap w n 0 82 = cap at *
  go_wp2
  go_ret
  exact ⟨_, rfl, HOWN.out, HB.out _⟩

set_option maxRecDepth 100000 in
set_option maxHeartbeats 1000000 in
theorem GrowZ_any (n : Nat) (w : World) (hn : n ≤ 1000) :
    Calls Tryz.prog 192 #[.slice none 0 0, I n] w fun e w' => ∃ v, e = .returned v ∧ OwnR w' w.heap.size 82 v [] ∧ Below w.heap.size w w' := by
  rcases Nat.eq_zero_or_pos n with h0 | h0
  · subst h0
    go_enter Tryz.func192, Tryz.ntmps192
    go_wp2
    go_ret
    exact ⟨_, rfl, World.ownsRow_nil _ _ _ _, Below.refl _ _⟩
  · exact GrowZ_pos n w h0 hn

set_option maxRecDepth 100000 in
set_option maxHeartbeats 2000000 in
theorem ConcatZ_any (A : Option Addr) (m c : Nat) (es : List Sl) (w : World) (h : RS w A m c es) (hm : m ≤ 1000) (h1 : sumN es ≤ 1000) :
    Calls Tryz.prog 131 #[.slice A m c] w fun e w' => ∃ v, e = .returned v ∧ OwnR w' w.heap.size 82 v (catL es) ∧ Below w.heap.size w w' := by
  have H := Lib.hid h
  have Hlen := Lib.hid h.len
  clear h
  go_enter Tryz.func131, Tryz.ntmps131
  go_wp2
  go_loop [3, 11] (fun t i => ∃ k : Nat, k ≤ m ∧ i = .int .i64 k ∧ t = .int .i64 (sumN (es.take k))) (fun _ i => m - (intOf i).toNat)
  case atStart => exact ⟨0, Nat.zero_le _, rfl, rfl⟩
  case round =>
    obtain ⟨k, hk, rfl, rfl⟩ := hrel
    by_cases hlt : k < m
    · obtain ⟨b, off, rfl, hb, hcs⟩ := H.out.at_ (by omega)
      have hkl : k < es.length := by rw [Hlen.out]; exact hlt
      have hc0 : w.cell? ⟨b, off + k, none⟩ = some es[k].val := hcs k hlt
      have hst := sumN_step es k hkl
      have hle := sumN_take es (k + 1)
      have HST := Lib.hid hst
      generalize es[k] = s at *
      have hb1 : sumN (es.take k) + s.n ≤ 1000 := by omega
      clear hst hle hcs
      generalize sumN (es.take k) = x at *
      go_wp2
      go_round
      case rel => exact ⟨k + 1, by omega, by go_num, by rw [HST.out]; go_num⟩
      case measure => simp [intOf]; omega
    · obtain rfl : k = m := by omega
      have ht : es.take k = es := List.take_of_length_le (by rw [Hlen.out]; exact Nat.le_refl _)
      rw [ht]
      clear ht
      obtain ⟨T, hT⟩ : ∃ T, sumN es = T := ⟨_, rfl⟩
      have HG := Lib.hid (GrowZ_any (sumN es) w h1)
      rw [hT] at HG h1 ⊢
      have HT := Lib.hid hT
      clear hT hlt
      go_wp2_with fail
      refine HG.out.mono ?_
      rintro e w1 ⟨v1, rfl, hown1, hb1⟩
      have HO1 := Lib.hid hown1
      have HB1 := Lib.hid hb1
      clear hown1 hb1
      go_wp2
      go_loopw [6, 27] (fun v i wr => ∃ j : Nat, j ≤ k ∧ i = .int .i64 j ∧ OwnR wr w.heap.size 82 v (catL (es.take j)) ∧ Below w.heap.size w wr) (fun _ i _ => k - (intOf i).toNat)
      case atStart => exact ⟨0, Nat.zero_le _, rfl, HO1.out, HB1.out⟩
      case round =>
        obtain ⟨j, hj, rfl, hown, hnx⟩ := hrel
        by_cases hlt : j < k
        · obtain ⟨b, off, rfl, hb, hcs⟩ := (H.out.below hnx).at_ (by omega)
          have hjl : j < es.length := by rw [Hlen.out]; exact hlt
          have hc0 : wr.cell? ⟨b, off + j, none⟩ = some es[j].val := hcs j hlt
          have hok : es[j].ok wr := (H.out.below hnx).each _ (List.getElem_mem hjl)
          have hst := catL_step es j hjl
          have hsum := sumN_step es j hjl
          have hle := sumN_take es (j + 1)
          have hcl := catL_len (es.take j) wr (fun s hs => (H.out.below hnx).each s (List.mem_of_mem_take hs))
          rw [HT.out] at hle
          have HST := Lib.hid hst
          have HOK := Lib.hid hok
          have HO := Lib.hid hown
          have HNX := Lib.hid hnx
          have hsz := hnx.size
          have hbd : (catL (es.take j)).length + es[j].n ≤ 1000 := by rw [hcl]; omega
          generalize es[j] = s at *
          clear hst hok hown hnx hcs hsum hle hcl
          go_wp2_with (at_builtin; refine wpList_app2 rfl (.tmp 31) (.tmp 32) 41 rfl 82 Tryz.underlying41 gspot_info w.heap.size u6 (catL (es.take j)) s.L s.A s.n s.c rfl rfl HO.out (PS.src HOK.out) (by omega) hsz ?_; intro v2 w2 hown2 hgrow2 _)
          have hb2 : Below w.heap.size w w2 := HNX.out.grown hgrow2 hsz (OwnR.ge HO.out)
          have HB2 := Lib.hid hb2
          have HO2 : Hid (OwnR w2 w.heap.size 82 v2 (catL (es.take (j + 1)))) := by
            show OwnR _ _ _ _ _
            rw [HST.out]
            exact hown2
          clear hown2 hgrow2 hb2
          go_roundw
          case rel => exact ⟨j + 1, by omega, by go_num, HO2.out, HB2.out⟩
          case measure => simp [intOf]; omega
        · have ht : es.take j = es := List.take_of_length_le (by rw [Hlen.out]; omega)
          rw [ht] at hown
          have HO := Lib.hid hown
          have HNX := Lib.hid hnx
          clear hown hnx ht
          go_wp2
          go_ret
          exact ⟨u6, rfl, HO.out, HNX.out⟩

end Go.Proofs.YtpnjnedfcdppaaaGreatDoor
