/-
  hedgkeep.HandsAlone.
-/
import Derived.Test.YtdjdjaegihhmiaaJKey
import Derived.Test.YtdjdjaegihhmiaaMLivesAll
namespace Go.Proofs.Ytdjdjaegihhmiaa
open Go.RowKit Go.Maps

theorem alone_end {al : Nat} (hal : al = 1 ∨ al = 2 ∨ al = 3 ∨ al = 4) {l : List Int} (hl : Ris l) {kd K : Int} (hk : kd = 1 ∨ kd = 2 ∨ kd = 3) (hK : K ≤ 9) {P : Nat → PL} (hP : P 0 = [(kd, K)]) :
    ∃ n : Nat, n < 3 * l.length + 8 ∧ Tdl (Wend al 1 P l []) 1 (fun v => (P v).length) = [⟨0, 0, 0, n, decide (K ∈ l) == !decide (kd = 1)⟩] := by
  have hd : dds P 0 0 = (kd, K) := by unfold dds; rw [hP]; rfl
  have hlen : (fun v => (P v).length) 0 = 1 := by show (P 0).length = 1; rw [hP]; rfl
  have e0 : Wend al 1 P l [] = (Wd.begin_ l).rounds (alg al) (dds P) (fun v => (P v).length) 1 875 := rfl
  have hT : ∀ W : Wd, Tdl W 1 (fun v => (P v).length) = [tolD W 0 0] := fun W => by
    unfold Tdl
    simp only [List.range_one, List.flatMap_cons, List.flatMap_nil, hP, List.length_singleton, List.map_cons, List.map_nil, List.append_nil]
  obtain ⟨n, h1, h2, h3⟩ : ∃ n, n < 3 * l.length + 8 ∧ ((Wd.begin_ l).rounds (alg al) (dds P) (fun v => (P v).length) 1 875).ix 0 = 1 ∧ ((Wd.begin_ l).rounds (alg al) (dds P) (fun v => (P v).length) 1 875).tol 0 0 = some (0, n, decide (K ∈ l) == !decide (kd = 1)) := by
    rcases hal with rfl | rfl | rfl | rfl
    · exact alone_any (.inr (.inl rfl)) hd hlen hk hK hl
    · exact alone_any (.inr (.inr rfl)) hd hlen hk hK hl
    · exact alone_any (.inl rfl) hd hlen hk hK hl
    · exact alone_naive hd hlen hk hK hl (by omega)
  refine ⟨n, h1, ?_⟩
  rw [hT, e0]
  unfold tolD
  rw [h3]
  rfl
/-- what Run tells of one deed -/
def RunOne (l : List Int) (kd K : Int) (w : World) (e : Ending) (w' : World) : Prop :=
  ∃ (dA lA : Option Addr) (dn dc ln lc : Nat) (E : Int), e = .returned (.tuple #[.agg #[.slice dA dn dc, .slice lA ln lc], I E]) ∧ Below w.heap.size w w' ∧ (E = 0 → 0 ≤ K ∧ K ≤ 9 ∧ ∃ (g n : Nat), dA = some ⟨g, 0, none⟩ ∧ dn = 1 ∧ n < 3 * l.length + 8 ∧ g < w'.heap.size ∧ w'.cell? ⟨g, 3, none⟩ = some (I n) ∧ w'.cell? ⟨g, 4, none⟩ = some (.bool (decide (K ∈ l) == !decide (kd = 1))) ∧ l.length ≤ 10)
theorem run_one (A PA : Option Addr) (n c pc : Nat) (l : List Int) (w : World) (algo : Int) (hw : (Lit.int .i64 algo).wf = true) (h : IS w A n c l) (hn : n ≤ 9223372036854775807) (s : Sl) (kd K : Int) (hs : s.L = [(kd, K)]) (hP : RS w PA 1 pc [s]) (hsn : s.n = 1) :
    Calls Try.prog 9 #[I algo, .slice A n c, .slice PA 1 pc, .slice none 0 0] w (RunOne l kd K w) := by
  have hes : ∀ x ∈ [s], x.n ≤ 9223372036854775807 := by
    intro x hx
    obtain rfl := List.mem_singleton.mp hx
    omega
  by_cases ha : 1 ≤ algo ∧ algo ≤ 4
  · obtain ⟨al, rfl⟩ : ∃ al : Nat, algo = al := ⟨algo.toNat, by omega⟩
    have hal : al = 1 ∨ al = 2 ∨ al = 3 ∨ al = 4 := by omega
    by_cases hE : chkH l [s] 0 = 0
    · refine (Run_ok A PA none n c 1 pc 0 0 l [] [s] w hal h hP ⟨rfl, Rd.none_⟩ hn (by omega) (by omega) hes hE).mono fun e w' hr => ?_
      obtain ⟨hdk, -, -⟩ := dok_of PA 1 pc l [s] w hP hE
      have hp0 : prog0 [s] 0 = [(kd, K)] := hs
      have hdee := hdk.dees 0 0 (by show 0 < (prog0 [s] 0).length; rw [hp0]; exact Nat.one_pos)
      have hd : dds (prog0 [s]) 0 0 = (kd, K) := by unfold dds; rw [hp0]; rfl
      rw [hd] at hdee
      obtain ⟨hk, hK0, hK⟩ : (kd = 1 ∨ kd = 2 ∨ kd = 3) ∧ 0 ≤ K ∧ K ≤ 9 := ⟨hdee.2, hdee.1⟩
      obtain ⟨m, hm, hT⟩ := alone_end hal hdk.ris hk hK hp0
      obtain ⟨dv, lv, m', rfl, -, hD, hL, hb⟩ := hr
      rw [hT] at hD
      obtain ⟨lA, lc, rfl, -, -⟩ := hL.is_
      obtain ⟨dA, dc, rfl, hdA⟩ := hD.is_
      refine ⟨dA, lA, _, dc, _, lc, 0, rfl, hb, fun _ => ⟨hK0, hK, ?_⟩⟩
      obtain ⟨g, rfl⟩ : ∃ g, dA = some ⟨g, 0, none⟩ := by
        rcases hdA with h | h
        · cases h
        · exact h
      obtain ⟨cs, hcs, hct⟩ : ∃ cs : Array Value, w'.heap[g]? = some (.cells cs 37 (0, 0)) ∧ cs.toList.take 5 = flatD [⟨0, 0, 0, m, decide (K ∈ l) == !decide (kd = 1)⟩] := by
        rcases hD.2 with ⟨h0, _⟩ | ⟨g', cap, cur, h0, h2, h3, h4, h5, h6, h7⟩
        · cases h0
        · cases h0
          exact ⟨cur, h3, h7⟩
      have cc : ∀ i, i < 5 → w'.cell? ⟨g, i, none⟩ = (flatD [⟨0, 0, 0, m, decide (K ∈ l) == !decide (kd = 1)⟩])[i]? := fun i hi => by
        rw [jcell hcs, ← hct, List.getElem?_take, if_pos hi]
        simp
      exact ⟨g, m, rfl, rfl, hm, jblk hcs, cc 3 (by omega), cc 4 (by omega), ris_len hdk.ris⟩
    · exact (Run_err A PA none n c 1 pc 0 0 l [s] w hal h hP hn (by omega) (by omega) hes rfl hE).mono fun e w' ⟨he, hb⟩ => ⟨none, none, 0, 0, 0, 0, _, he, hb, fun h0 => absurd h0 hE⟩
  · exact (Run_arg A PA none n c 1 pc 0 0 w algo (keyOf_int_mk Try.underlying3 hw) ha).mono fun e w' ⟨he, hb⟩ => ⟨none, none, 0, 0, 0, 0, _, he, hb, fun h0 => absurd h0 (by decide)⟩
set_option maxRecDepth 100000 in
theorem k10_index (b : Nat → Bool) {i : Nat} (hi : i < 10) (w : World) : (Instr.index 39 (.agg (k10 b)) (.int .i64 i)).run Try.prog w = .ok (.bool (b i)) w := by
  rcases (show i = 0 ∨ i = 1 ∨ i = 2 ∨ i = 3 ∨ i = 4 ∨ i = 5 ∨ i = 6 ∨ i = 7 ∨ i = 8 ∨ i = 9 by omega) with rfl | rfl | rfl | rfl | rfl | rfl | rfl | rfl | rfl | rfl <;> kernel_rfl
set_option maxRecDepth 100000 in
set_option maxHeartbeats 8000000 in
theorem alone_law (algo : Int) (A : Option Addr) (n c : Nat) (l : List Int) (kd K : Int) (w : World) (hw : (Lit.int .i64 algo).wf = true) (h : IS w A n c l) (hn : n ≤ 9223372036854775807) :
    Calls Try.prog 7 #[I algo, .slice A n c, .agg #[I kd, I K]] w fun e w' => e = .returned (.bool true) ∧ Below w.heap.size w w' := by
  obtain ⟨w1, hw1⟩ : ∃ w1, w1 = w.alloc (.cells #[I kd, I K] 42) := ⟨_, rfl⟩
  obtain ⟨w2, hw2⟩ : ∃ w2, w2 = w1.alloc (.cells #[I kd, I K] 42) := ⟨_, rfl⟩
  have z1 : w1.heap.size = w.heap.size + 1 := by rw [hw1]; simp
  have z2 : w2.heap.size = w.heap.size + 1 + 1 := by rw [hw2]; simp [z1]
  have b01 : Below w.heap.size w w1 := by rw [hw1]; exact (Below.refl _ _).alloc (Nat.le_refl _) _
  have b12 : Below w1.heap.size w1 w2 := by rw [hw2]; exact (Below.refl _ _).alloc (Nat.le_refl _) _
  have p2 : PS w2 (some ⟨w.heap.size + 1, 0, none⟩) 1 1 [(kd, K)] := by rw [hw2, ← z1]; exact psD_new w1 kd K
  have r1 := rsD_one w2 ⟨some ⟨w.heap.size + 1, 0, none⟩, 1, 1, [(kd, K)]⟩ p2
  obtain ⟨w3, hw3⟩ : ∃ w3, w3 = w2.alloc (.cells #[.slice (some ⟨w.heap.size + 1, 0, none⟩) 1 1] 35) := ⟨_, rfl⟩
  have b23 : Below w2.heap.size w2 w3 := by rw [hw3]; exact (Below.refl _ _).alloc (Nat.le_refl _) _
  have r3 : RS w3 (some ⟨w.heap.size + 1 + 1, 0, none⟩) 1 1 [⟨some ⟨w.heap.size + 1, 0, none⟩, 1, 1, [(kd, K)]⟩] := by rw [hw3, ← z2]; exact r1
  have b03 : Below w.heap.size w w3 := (b01.trans (b12.mono (by omega))).trans (b23.mono (by omega))
  have x0 : w3.cell? ⟨w.heap.size, 0, none⟩ = some (I kd) := by
    rw [b23.cell (p := ⟨w.heap.size, 0, none⟩) (by show w.heap.size < _; omega), b12.cell (p := ⟨w.heap.size, 0, none⟩) (by show w.heap.size < _; omega), hw1]
    simp
  have x1 : w3.cell? ⟨w.heap.size, 1, none⟩ = some (I K) := by
    rw [b23.cell (p := ⟨w.heap.size, 1, none⟩) (by show w.heap.size < _; omega), b12.cell (p := ⟨w.heap.size, 1, none⟩) (by show w.heap.size < _; omega), hw1]
    simp
  have z3 : w3.heap.size = w.heap.size + 1 + 1 + 1 := by rw [hw3]; simp [z2]
  have hR := run_one A (some ⟨w.heap.size + 1 + 1, 0, none⟩) n c 1 l w3 algo hw (((h.below b01).below (b12.mono (Nat.le_refl _))).below b23) hn _ kd K rfl r3 rfl
  have HW : Hid (w3 = ((w.alloc (.cells #[I kd, I K] 42)).alloc (.cells #[I kd, I K] 42)).alloc (.cells #[.slice (some ⟨w.heap.size + 1, 0, none⟩) 1 1] 35)) := by show _ = _; rw [hw3, hw2, hw1]
  have H := Lib.hid h
  have HX0 := Lib.hid x0
  have HX1 := Lib.hid x1
  have HB := Lib.hid b03
  have HZ := Lib.hid z3
  have hR2 := hR
  unfold RunOne at hR2
  rw [hw3, hw2, hw1] at hR
  have HR := Lib.hid hR
  clear hw1 hw2 hw3 z1 z2 b01 b12 p2 r1 b23 r3 b03 hR hR2 h x0 x1 z3
  go_enter Try.func7, Try.ntmps7
  go_wp2_with fail
  refine HR.out.mono ?_
  rintro e w6 ⟨dA, lA, dn, dc, ln, lc, E, rfl, hb, hE⟩
  rw [← HW.out] at hb
  have HB6 : Hid (Below w.heap.size w w6) := HB.out.trans (hb.mono HB.out.size)
  have y0 : w6.cell? ⟨w.heap.size, 0, none⟩ = some (I kd) := (hb.cell (p := ⟨w.heap.size, 0, none⟩) (by show w.heap.size < _; have := HZ.out; omega)).trans HX0.out
  have y1 : w6.cell? ⟨w.heap.size, 1, none⟩ = some (I K) := (hb.cell (p := ⟨w.heap.size, 1, none⟩) (by show w.heap.size < _; have := HZ.out; omega)).trans HX1.out
  have HY0 := Lib.hid y0
  have HY1 := Lib.hid y1
  have hs6 : w.heap.size + 1 ≤ w6.heap.size := by have := hb.size; have := HZ.out; omega
  have HS6 := Lib.hid hs6
  clear hb y0 y1 hs6
  have HLV := Lib.hid (lives_any (w6.alloc (.cells #[.slice dA dn dc, .slice lA ln lc] 26)))
  go_wp2_with fail
  refine HLV.out.mono ?_
  rintro e w7 ⟨rfl, hb7⟩
  have hz : (w6.alloc (.cells #[.slice dA dn dc, .slice lA ln lc] 26)).heap.size = w6.heap.size + 1 := by simp
  rw [hz] at hb7
  have hlow : ∀ p : Addr, p.block < w6.heap.size → w7.cell? p = w6.cell? p := fun p hp => (hb7.cell (by omega)).trans (World.cell?_of_block (Below.heap_alloc _ _ _ hp))
  have HLow := Lib.hid hlow
  have t0 : w7.cell? ⟨w6.heap.size, 0, none⟩ = some (.slice dA dn dc) := by
    rw [hb7.cell (p := ⟨w6.heap.size, 0, none⟩) (by show w6.heap.size < _; omega)]; simp
  have HT0 := Lib.hid t0
  have HB7 : Hid (Below w.heap.size w w7) := (HB6.out.alloc HB6.out.size _).trans (hb7.mono (by have := HB6.out.size; omega))
  have hs7 : w6.heap.size + 1 ≤ w7.heap.size := by have := hb7.size; omega
  have HS7 := Lib.hid hs7
  clear hb7 hlow hz t0 hs7
  by_cases hE0 : E = 0
  · subst hE0
    obtain ⟨hK0, hK9, g, m, rfl, rfl, hm, hg, d3, d4, hlen⟩ := hE rfl
    clear hE
    obtain ⟨k, rfl⟩ : ∃ k : Nat, K = k := ⟨K.toNat, by omega⟩
    have hk10 : k < 10 := by omega
    have HKX := Lib.hid (fun w => k10_index (ks l) hk10 w)
    have HKS : Hid (∀ x : World, Below w7.heap.size w7 x → Calls Try.prog 15 #[.slice A n c] x fun e w' => e = .returned (.agg (k10 (ks l))) ∧ Below w7.heap.size w7 w') := fun x hx => (keySet_any A n c l x ((H.out.below HB7.out).below hx) hn).mono fun e w' ⟨he, hb⟩ => ⟨he, hx.trans (hb.mono hx.size)⟩
    have hn10 : n ≤ 10 := by rw [← H.out.len]; exact hlen
    have hln : l.length = n := H.out.len
    rw [hln] at hm
    have ht7 := HT0.out
    have u0 : w7.cell? ⟨w.heap.size, 0, none⟩ = some (I kd) := (HLow.out _ (by show w.heap.size < _; have := HS6.out; omega)).trans HY0.out
    have u1 : w7.cell? ⟨w.heap.size, 1, none⟩ = some (I (k : Int)) := (HLow.out _ (by show w.heap.size < _; have := HS6.out; omega)).trans HY1.out
    have v3 : w7.cell? ⟨g, 3, none⟩ = some (I m) := (HLow.out _ hg).trans d3
    have v4 := (HLow.out ⟨g, 4, none⟩ hg).trans d4
    have HV3 := Lib.hid v3
    have HV4 := Lib.hid v4
    have HG := Lib.hid hg
    have HM := Lib.hid hm
    have HU0 := Lib.hid u0
    clear d3 d4 v3 v4 hg hm
    have hx := HKX.out
    go_wp2_with fail
    go_region_with (
      go_at_call 15
      refine (HKS.out _ (by first | exact Below.refl _ _ | exact (Below.refl _ _).drew | exact below_drewN (Below.refl _ _) _ | exact below_drewN (below_drewN (Below.refl _ _) _) _)).mono ?_
      rintro e w8 ⟨rfl, hb8⟩
      have HB8 : Hid (Below w.heap.size w w8) := HB7.out.trans (hb8.mono HB7.out.size)
      have a1 : w8.cell? ⟨w.heap.size, 1, none⟩ = some (I (k : Int)) := (hb8.cell (p := ⟨w.heap.size, 1, none⟩) (by show w.heap.size < _; have := HS6.out; have := HS7.out; omega)).trans u1
      have A0 : Hid (w8.cell? ⟨w.heap.size, 0, none⟩ = some (I kd)) := (hb8.cell (p := ⟨w.heap.size, 0, none⟩) (by show w.heap.size < _; have := HS6.out; have := HS7.out; omega)).trans HU0.out
      have A2 : Hid (w8.cell? ⟨w6.heap.size, 0, none⟩ = some (.slice (some ⟨g, 0, none⟩) 1 dc)) := (hb8.cell (p := ⟨w6.heap.size, 0, none⟩) (by show w6.heap.size < _; have := HS7.out; omega)).trans HT0.out
      have A3 : Hid (w8.cell? ⟨g, 3, none⟩ = some (I m)) := (hb8.cell (p := ⟨g, 3, none⟩) (by show g < _; have := HG.out; have := HS7.out; omega)).trans HV3.out
      have A4 : Hid (w8.cell? ⟨g, 4, none⟩ = some (.bool (decide ((k : Int) ∈ l) == !decide (kd = 1)))) := (hb8.cell (p := ⟨g, 4, none⟩) (by show g < _; have := HG.out; have := HS7.out; omega)).trans HV4.out
      clear hb8)
    all_goals
      have e0 := A0.out
      have e2 := A2.out
      have e3 := A3.out
      have e4 := A4.out
      have m0 : (0 : Int) ≤ m := by omega
      have m1 : (m : Int) < 3 * n + 8 := by have := HM.out; omega
      have i1 : IntKind.i64.wrap (3 * (n : Int)) = 3 * (n : Int) := IntWalk.i64_in _ (by omega)
      have i2 : IntKind.i64.wrap (3 * (n : Int) + 8) = 3 * (n : Int) + 8 := IntWalk.i64_in _ (by omega)
      go_wp2
      go_quiet (fail)
      go_wp2
      go_ret
      refine ⟨?_, below_drewN HB8.out _⟩
      show Ending.returned (Value.bool ((decide ((k : Int) ∈ l) == !decide (kd = 1)) == (decide ((k : Int) ∈ l) == (kd != 1)))) = _
      have eb : (kd != 1) = !decide (kd = 1) := by by_cases h : kd = 1 <;> simp [h]
      rw [eb]
      simp
  · clear hE
    have HLV2 := Lib.hid (lives_any w7)
    go_wp2_with fail
    refine HLV2.out.mono ?_
    rintro e w8 ⟨rfl, hb8⟩
    have HB8 : Hid (Below w.heap.size w w8) := HB7.out.trans (hb8.mono HB7.out.size)
    clear hb8
    go_wp2
    go_ret
    exact ⟨rfl, HB8.out⟩

end Go.Proofs.Ytdjdjaegihhmiaa
