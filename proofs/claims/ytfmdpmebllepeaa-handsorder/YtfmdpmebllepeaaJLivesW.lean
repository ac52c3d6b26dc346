/-
  hedgkeep.handsLives; hedgref.SameInts of lists that are the same.
-/
import Derived.Test.YtfmdpmebllepeaaJRunH
import Derived.Test.YtfmdpmebllepeaaMLivesAll
namespace Go.Proofs.Ytfmdpmebllepeaa
open Go.RowKit

set_option maxRecDepth 100000 in
set_option maxHeartbeats 4000000 in
theorem jsame_t (A A' : Option Addr) (n c n' c' : Nat) (l : List Int) (w : World) (h : IS w A n c l) (h' : IS w A' n' c' l) (hn : n ≤ 1000000) :
    Calls Try.prog 17 #[.slice A n c, .slice A' n' c'] w fun e w' => e = .returned (.bool true) ∧ ∃ m, w' = w.drewN m := by
  obtain rfl : n' = n := by rw [← h.len, ← h'.len]
  have H := Lib.hid h
  have H' := Lib.hid h'
  have HL := Lib.hid h.len
  clear h h'
  go_enter Try.func17, Try.ntmps17
  go_wp2
  go_loopw [13] (fun iv wr => ∃ k x : Nat, k ≤ n' ∧ iv = .int .i64 k ∧ wr = w.drewN x) (fun iv _ => n' - (intOf iv).toNat)
  case atStart => exact ⟨0, 0, Nat.zero_le _, rfl, rfl⟩
  case round =>
    obtain ⟨k, x, hk, rfl, rfl⟩ := hrel
    by_cases hlt : k < n'
    · obtain ⟨b, off, rfl, hb, hc⟩ := H.out.at_ (by omega)
      obtain ⟨b', off', rfl, hb', hc'⟩ := H'.out.at_ (by omega)
      have hkl : k < l.length := by rw [HL.out]; exact hlt
      have c1 : w.cell? ⟨b, off + k, none⟩ = some (I l[k]) := hc k hlt
      have c2 : w.cell? ⟨b', off' + k, none⟩ = some (I l[k]) := hc' k hlt
      obtain ⟨y, hy⟩ : ∃ y, l[k] = y := ⟨_, rfl⟩
      rw [hy] at c1 c2
      clear hc hc' hy
      go_wp2
      go_quiet (fail)
      go_wp2
      go_roundw
      case rel => exact ⟨k + 1, _, by omega, by go_num, by first | rfl | (simp only [World.drewN_drewN]; rfl)⟩
      case measure => simp [intOf]; omega
    · obtain rfl : n' = k := by omega
      go_wp2
      go_ret
      exact ⟨rfl, _, rfl⟩
theorem isI_new (w : World) (L : List Int) : IS (w.alloc (.cells (L.map I).toArray 3)) (some ⟨w.heap.size, 0, none⟩) L.length L.length L := (IB.new w 3 L).is_ (Nat.le_refl _)
theorem psD_new (w : World) (a b : Int) : PS (w.alloc (.cells #[I a, I b] 50)) (some ⟨w.heap.size, 0, none⟩) 1 1 [(a, b)] := by
  refine ⟨rfl, Nat.le_refl _, fun _ => ⟨w.heap.size, 0, rfl, by simp, fun i hi j hj => ?_⟩⟩
  obtain rfl : i = 0 := by omega
  rcases (show j = 0 ∨ j = 1 by omega) with rfl | rfl <;> simp [pf]
theorem rsD_new (w : World) (s0 s1 : Sl) (h0 : s0.ok w) (h1 : s1.ok w) : RS (w.alloc (.cells #[s0.val, s1.val] 35)) (some ⟨w.heap.size, 0, none⟩) 2 2 [s0, s1] := by
  refine ⟨rfl, ⟨Nat.le_refl _, fun _ => ⟨w.heap.size, 0, rfl, by simp, fun i hi j hj => ?_⟩⟩, fun s hs => ?_⟩
  · obtain rfl : j = 0 := by omega
    rcases (show i = 0 ∨ i = 1 by omega) with rfl | rfl <;> simp
  · rcases List.mem_cons.mp hs with rfl | hs
    · exact PS.alloc h0 _
    · obtain rfl := List.mem_singleton.mp hs
      exact PS.alloc h1 _
theorem rsD_one (w : World) (s0 : Sl) (h0 : s0.ok w) : RS (w.alloc (.cells #[s0.val] 35)) (some ⟨w.heap.size, 0, none⟩) 1 1 [s0] := by
  refine ⟨rfl, ⟨Nat.le_refl _, fun _ => ⟨w.heap.size, 0, rfl, by simp, fun i hi j hj => ?_⟩⟩, fun s hs => ?_⟩
  · obtain rfl : j = 0 := by omega
    obtain rfl : i = 0 := by omega
    simp
  · obtain rfl := List.mem_singleton.mp hs
    exact PS.alloc h0 _
theorem chk_two {l : List Int} {s0 s1 : Sl} {on : Nat} (hl : Ris l) (h0 : s0.n ≤ 4) (h1 : s1.n ≤ 4) (hd0 : s0.L.any dbad = false) (hd1 : s1.L.any dbad = false) (ho : on ≤ 500) : chkH l [s0, s1] on = 0 := by
  have e0 : lng s0 = false := by unfold lng; simp; omega
  have e1 : lng s1 = false := by unfold lng; simp; omega
  unfold chkH
  rw [if_neg (by simp [e0, e1]; omega), if_neg (by simp [hl]), if_neg (by simp only [List.any_cons, List.any_nil, hd0, hd1]; simp)]
/-- two hands with a deed each -/
def P2 (d0 d1 : Int × Int) (v : Nat) : PL := if v = 0 then [d0] else if v = 1 then [d1] else []
theorem prog_two (s0 s1 : Sl) {d0 d1 : Int × Int} (h0 : s0.L = [d0]) (h1 : s1.L = [d1]) : prog0 [s0, s1] = P2 d0 d1 := by
  funext v
  unfold prog0 P2
  match v with
  | 0 => exact h0
  | 1 => exact h1
  | v + 2 => rfl
def wLv : Wd := ((Wd.begin_ [3]).runs (alg 1) (dds (P2 (1, 5) (3, 5))) (fun v => (P2 (1, 5) (3, 5) v).length) [0, 0, 0, 0, 0]).rounds (alg 1) (dds (P2 (1, 5) (3, 5))) (fun v => (P2 (1, 5) (3, 5) v).length) 2 5
theorem wLv_told : wLv.ix 0 = 1 ∧ wLv.ix 1 = 1 ∧ wLv.tol 0 0 = some (0, 4, true) ∧ wLv.tol 1 0 = some (5, 9, true) ∧ wLv.s.nx 0 = 1 ∧ wLv.s.nx 1 = 3 ∧ wLv.s.nx 3 = 2 ∧ wLv.s.tl = 2 ∧ wLv.s.key 1 = 3 ∧ wLv.s.key 3 = 5 ∧ wLv.s.mrk 1 = false ∧ wLv.s.mrk 3 = false := by
  decide
theorem wLv_end : Wend 1 2 (P2 (1, 5) (3, 5)) [3] [0, 0, 0, 0, 0] = wLv := by
  unfold Wend
  have e : ordN 2 [0, 0, 0, 0, 0] = [0, 0, 0, 0, 0] := by decide
  rw [e]
  exact rounds_stop (by omega) (fun v hv => by
    have h := wLv_told
    have h0 : (((Wd.begin_ [3]).runs (alg 1) (dds (P2 (1, 5) (3, 5))) (fun v => (P2 (1, 5) (3, 5) v).length) [0, 0, 0, 0, 0]).rounds (alg 1) (dds (P2 (1, 5) (3, 5))) (fun v => (P2 (1, 5) (3, 5) v).length) 2 5).ix v = 1 := by
      rcases (show v = 0 ∨ v = 1 by omega) with rfl | rfl
      · exact h.1
      · exact h.2.1
    rw [h0]
    rcases (show v = 0 ∨ v = 1 by omega) with rfl | rfl <;> decide)
theorem wLv_tdl : Tdl wLv 2 (fun v => (P2 (1, 5) (3, 5) v).length) = [⟨0, 0, 0, 4, true⟩, ⟨1, 0, 5, 9, true⟩] := by
  have e : Tdl wLv 2 (fun v => (P2 (1, 5) (3, 5) v).length) = [tolD wLv 0 0, tolD wLv 1 0] := rfl
  obtain ⟨_, _, t2, t3, _⟩ := wLv_told
  rw [e]
  unfold tolD
  rw [t2, t3]
  rfl
theorem pn_two {nx : Nat → Nat} {tl a b m : Nat} (h1 : nx a = b) (h2 : nx b = tl) (ha : a ≠ tl) (hb : b ≠ tl) (h : Pn nx tl a m) : m = 2 := by
  cases h with
  | last => exact absurd rfl ha
  | step _ h =>
    rw [h1] at h
    cases h with
    | last => exact absurd rfl hb
    | step _ h =>
      rw [h2] at h
      cases h with
      | last => rfl
      | step h _ => exact absurd rfl h
theorem pn_one {nx : Nat → Nat} {tl a m : Nat} (h1 : nx a = tl) (ha : a ≠ tl) (h : Pn nx tl a m) : m = 1 := by
  cases h with
  | last => exact absurd rfl ha
  | step _ h =>
    rw [h1] at h
    cases h with
    | last => rfl
    | step h _ => exact absurd rfl h
set_option maxRecDepth 100000 in
set_option maxHeartbeats 8000000 in
theorem lives_any (w : World) : Calls Try.prog 9 #[] w fun e w' => e = .returned (.bool true) ∧ Below w.heap.size w w' := by
  obtain ⟨w1, hw1⟩ : ∃ w1, w1 = w.alloc (.cells #[I 3] 3) := ⟨_, rfl⟩
  obtain ⟨w2, hw2⟩ : ∃ w2, w2 = w1.alloc (.cells #[I 1, I 5] 50) := ⟨_, rfl⟩
  obtain ⟨w3, hw3⟩ : ∃ w3, w3 = w2.alloc (.cells #[I 3, I 5] 50) := ⟨_, rfl⟩
  have z1 : w1.heap.size = w.heap.size + 1 := by rw [hw1]; simp
  have z2 : w2.heap.size = w.heap.size + 1 + 1 := by rw [hw2]; simp [z1]
  have z3 : w3.heap.size = w.heap.size + 1 + 1 + 1 := by rw [hw3]; simp [z2]
  have i1 : IS w1 (some ⟨w.heap.size, 0, none⟩) 1 1 [3] := by rw [hw1]; exact isI_new w [3]
  have p1 : PS w2 (some ⟨w.heap.size + 1, 0, none⟩) 1 1 [(1, 5)] := by rw [hw2, ← z1]; exact psD_new w1 1 5
  have p2 : PS w3 (some ⟨w.heap.size + 1 + 1, 0, none⟩) 1 1 [(3, 5)] := by rw [hw3, ← z2]; exact psD_new w2 3 5
  have b12 : Below w1.heap.size w1 w2 := by rw [hw2]; exact (Below.refl _ _).alloc (Nat.le_refl _) _
  have b23 : Below w2.heap.size w2 w3 := by rw [hw3]; exact (Below.refl _ _).alloc (Nat.le_refl _) _
  have r1 := rsD_new w3 ⟨some ⟨w.heap.size + 1, 0, none⟩, 1, 1, [(1, 5)]⟩ ⟨some ⟨w.heap.size + 1 + 1, 0, none⟩, 1, 1, [(3, 5)]⟩ (PS.below p1 b23) p2
  obtain ⟨w4, hw4⟩ : ∃ w4, w4 = w3.alloc (.cells #[.slice (some ⟨w.heap.size + 1, 0, none⟩) 1 1, .slice (some ⟨w.heap.size + 1 + 1, 0, none⟩) 1 1] 35) := ⟨_, rfl⟩
  have z4 : w4.heap.size = w.heap.size + 1 + 1 + 1 + 1 := by rw [hw4]; simp [z3]
  have b34 : Below w3.heap.size w3 w4 := by rw [hw4]; exact (Below.refl _ _).alloc (Nat.le_refl _) _
  have r4 : RS w4 (some ⟨w.heap.size + 1 + 1 + 1, 0, none⟩) 2 2 [⟨some ⟨w.heap.size + 1, 0, none⟩, 1, 1, [(1, 5)]⟩, ⟨some ⟨w.heap.size + 1 + 1, 0, none⟩, 1, 1, [(3, 5)]⟩] := by rw [hw4, ← z3]; exact r1
  obtain ⟨w5, hw5⟩ : ∃ w5, w5 = w4.alloc (.cells #[I 0, I 0, I 0, I 0, I 0] 3) := ⟨_, rfl⟩
  have i5 : IS w5 (some ⟨w.heap.size + 1 + 1 + 1 + 1, 0, none⟩) 5 5 [0, 0, 0, 0, 0] := by rw [hw5, ← z4]; exact isI_new w4 [0, 0, 0, 0, 0]
  have b45 : Below w4.heap.size w4 w5 := by rw [hw5]; exact (Below.refl _ _).alloc (Nat.le_refl _) _
  have b05 : Below w.heap.size w w5 := by
    have b01 : Below w.heap.size w w1 := by rw [hw1]; exact (Below.refl _ _).alloc (Nat.le_refl _) _
    exact (((b01.trans (b12.mono (by omega))).trans (b23.mono (by omega))).trans (b34.mono (by omega))).trans (b45.mono (by omega))
  have hR := Run_ok (some ⟨w.heap.size, 0, none⟩) (some ⟨w.heap.size + 1 + 1 + 1, 0, none⟩) (some ⟨w.heap.size + 1 + 1 + 1 + 1, 0, none⟩) 1 1 2 2 5 5 [3] [0, 0, 0, 0, 0] _ w5 (al := 1) (.inl rfl) (((((i1.below b12)).below b23).below b34).below b45) (r4.below b45) i5 (by omega) (by omega) (by omega) (by intro s hs; simp at hs; rcases hs with rfl | rfl <;> (show 1 ≤ _; omega)) (chk_two (by decide) (by show 1 ≤ 4; omega) (by show 1 ≤ 4; omega) rfl rfl (by omega))
  unfold RetRun at hR
  rw [prog_two _ _ rfl rfl, wLv_end, wLv_tdl] at hR
  obtain ⟨t0, t1, t2, t3, n0, n1, n3, ntl, k1, k3, m1, m3⟩ := wLv_told
  have hR2 : Calls Try.prog 5 #[I 1, .slice (some ⟨w.heap.size, 0, none⟩) 1 1, .slice (some ⟨w.heap.size + 1 + 1 + 1, 0, none⟩) 2 2, .slice (some ⟨w.heap.size + 1 + 1 + 1 + 1, 0, none⟩) 5 5] w5 fun e w' =>
      ∃ dv lv, e = .returned (.tuple #[.agg #[dv, lv], I 0]) ∧ OwnD w' w5.heap.size dv [⟨0, 0, 0, 4, true⟩, ⟨1, 0, 5, 9, true⟩] ∧ OwnI w' w5.heap.size lv [3, 5] ∧ Below w5.heap.size w5 w' := hR.mono fun e w' hr => by
    obtain ⟨dv, lv, m, a, b, c, d, f⟩ := hr
    refine ⟨dv, lv, a, c, ?_, f⟩
    rw [n0, ntl] at b
    obtain rfl := pn_two n1 n3 (by omega) (by omega) b
    rw [n0] at d
    have : lft wLv.s 2 1 = [3, 5] := by
      rw [lft_cons_f m1, n1, lft_cons_f m3, k1, k3]
      rfl
    rw [this] at d
    exact d
  rw [hw5, hw4, hw3, hw2, hw1] at hR2
  have HR := Lib.hid hR2
  have HW5 := Lib.hid hw5
  have HB := Lib.hid b05
  have HW : Hid (w5 = ((((w.alloc (.cells #[I 3] 3)).alloc (.cells #[I 1, I 5] 50)).alloc (.cells #[I 3, I 5] 50)).alloc (.cells #[.slice (some ⟨w.heap.size + 1, 0, none⟩) 1 1, .slice (some ⟨w.heap.size + 1 + 1, 0, none⟩) 1 1] 35)).alloc (.cells #[I 0, I 0, I 0, I 0, I 0] 3)) := by show _ = _; rw [hw5, hw4, hw3, hw2, hw1]
  have heq : ∀ w : World, (binOp .eql 37 (.agg #[I 0, I 0, I 0, I 4, .bool true]) (.agg #[I 0, I 0, I 0, I 4, .bool true])).run Try.prog w = .ok (.bool true) w := fun _ => by kernel_rfl
  clear hw1 hw2 hw3 hw4 hw5 z1 z2 z3 z4 i1 p1 p2 b12 b23 r1 b34 r4 i5 b45 b05 hR hR2 t0 t1 t2 t3 n0 n1 n3 ntl k1 k3 m1 m3
  go_enter Try.func9, Try.ntmps9
  go_wp2_with fail
  refine HR.out.mono ?_
  rintro e w6 ⟨dv, lv, rfl, hd, hl, hb⟩
  rw [← HW.out] at hb
  have HB6 : Hid (Below w.heap.size w w6) := HB.out.trans (hb.mono HB.out.size)
  have HD := Lib.hid hd
  have HL := Lib.hid hl
  clear hb hd hl
  obtain ⟨dA, dc, rfl, hdA⟩ := HD.out.is_
  obtain ⟨g, rfl⟩ : ∃ g, dA = some ⟨g, 0, none⟩ := by
    rcases hdA with h | h
    · cases h
    · exact h
  obtain ⟨lA, lc, rfl, hil, -⟩ := HL.out.is_
  have HIL := Lib.hid hil
  obtain ⟨cs, hcs, hct⟩ : ∃ cs : Array Value, w6.heap[g]? = some (.cells cs 37 (0, 0)) ∧ cs.toList.take 10 = flatD [⟨0, 0, 0, 4, true⟩, ⟨1, 0, 5, 9, true⟩] := by
    rcases HD.out.2 with ⟨h0, _⟩ | ⟨g', cap, cur, h0, h2, h3, h4, h5, h6, h7⟩
    · cases h0
    · cases h0
      exact ⟨cur, h3, h7⟩
  have cc : ∀ i, i < 10 → w6.cell? ⟨g, i, none⟩ = (flatD [⟨0, 0, 0, 4, true⟩, ⟨1, 0, 5, 9, true⟩])[i]? := fun i hi => by
    rw [jcell hcs, ← hct, List.getElem?_take, if_pos hi]
    simp
  have hgl := jblk hcs
  have cc2 : ∀ i, i < 10 → ∀ o : Obj, (w6.alloc o).cell? ⟨g, i, none⟩ = (flatD [⟨0, 0, 0, 4, true⟩, ⟨1, 0, 5, 9, true⟩])[i]? := fun i hi o => by
    rw [World.cell?_of_block (w := w6) (Below.heap_alloc _ _ _ hgl)]
    exact cc i hi
  have d0 : ∀ o : Obj, (w6.alloc o).cell? ⟨g, 0, none⟩ = some (I 0) := cc2 0 (by omega)
  have d1 : ∀ o : Obj, (w6.alloc o).cell? ⟨g, 1, none⟩ = some (I 0) := cc2 1 (by omega)
  have d2 : ∀ o : Obj, (w6.alloc o).cell? ⟨g, 2, none⟩ = some (I 0) := cc2 2 (by omega)
  have d3 : ∀ o : Obj, (w6.alloc o).cell? ⟨g, 3, none⟩ = some (I 4) := cc2 3 (by omega)
  have d4 : ∀ o : Obj, (w6.alloc o).cell? ⟨g, 4, none⟩ = some (.bool true) := cc2 4 (by omega)
  have d9 : ∀ o : Obj, (w6.alloc o).cell? ⟨g, 9, none⟩ = some (.bool true) := cc2 9 (by omega)
  clear cc cc2 hcs hct hdA hil
  have HSI : Hid (∀ o o' : Obj, o' = .cells #[I 3, I 5] 3 → Calls Try.prog 17 #[.slice lA 2 lc, .slice (some ⟨w6.heap.size + 1, 0, none⟩) 2 2] ((w6.alloc o).alloc o') fun e w' => e = .returned (.bool true) ∧ ∃ m, w' = ((w6.alloc o).alloc o').drewN m) := fun o o' e => by
    subst e
    have hi2 := isI_new (w6.alloc o) [3, 5]
    rw [World.size_alloc] at hi2
    exact jsame_t _ _ _ _ _ _ _ _ (HIL.out.below (((Below.refl _ _).alloc (Nat.le_refl _) _).alloc (by simp) _)) hi2 (by decide)
  go_wp2_with fail
  refine (HSI.out _ _ rfl).mono ?_
  rintro e w7 ⟨rfl, m, rfl⟩
  go_wp2
  go_ret
  exact ⟨rfl, below_drewN ((HB6.out.alloc HB6.out.size _).alloc (by have := HB6.out.size; simp; omega) _) _⟩

end Go.Proofs.Ytfmdpmebllepeaa
